/-
  A net among the arguments, opened, and how long it may be.
-/
import Derived.Test.YtidbbkpgmcheiaaOpenN
namespace Go.Proofs.Ytidbbkpgmcheiaa
open Go.ChangeShapes Go.WideShapes Go.ChangeAt Go.RowKit Go.Joins Go.Deep
open Nm

theorem bytes38 : Try.prog.bytesOf 44 = 24 := by kernel_rfl
theorem open_edges2 {H : Type} {enc : TypeId × Value → H} {W : World} {fuel : Nat} {v : Value} {x : DataW H × List MemPlace} (h : DataW.trod enc Try.prog W 0 (fun _ => true) true fuel 22 [v] = some x) :
    ∃ es : List E, SlE W v es ∧ es.length ≤ 9223372036854775807 ∧ ((x.1 = .nil ∧ es = []) ∨ ∃ elems spare, x.1 = .slice elems spare ∧ elems.length = es.length) := by
  rcases open_slice Try.underlying22 h with ⟨hc, hxx⟩ | ⟨a, len, cap, m, n, D, Pl, hc, _, hl, hm, hmm, hxx, hx⟩
  · simp at hc
    subst hc
    exact ⟨[], .no _ _ rfl rfl, by simp, .inl ⟨by rw [hxx], rfl⟩⟩
  · simp at hc
    subst hc
    have hlm : len ≤ m := by rw [hmm]; simp; omega
    have each : ∀ i, i < len → ∃ e : E, W.cell? (a.add (i * 3)) = some (.int .i64 e.1) ∧ W.cell? (a.add (i * 3 + 1)) = some (.int .i64 e.2.1) ∧ W.cell? (a.add (i * 3 + 2)) = some (.int .i64 e.2.2) := by
      intro i hi
      obtain ⟨cs', h1, h2⟩ := hx i (by omega)
      rw [cells44] at h1
      obtain ⟨e, rfl⟩ := edge_of h2
      obtain ⟨_, hlen, hcell⟩ := World.cells?_some h1
      have e0 := hcell 0 (by simp)
      have e1 := hcell 1 (by simp)
      have e2 := hcell 2 (by simp)
      rw [add_add] at e0 e1 e2
      exact ⟨e, by simpa using e0, by simpa using e1, by simpa using e2⟩
    obtain ⟨f, hf⟩ := choose_lt each
    refine ⟨(List.range len).map f, ?_, by simp; unfold maxLen at hm; omega, .inr ⟨_, _, by rw [hxx], by simp⟩⟩
    by_cases h0 : len = 0
    · subst h0
      exact .no _ _ rfl (by simp)
    · obtain ⟨b, off, spot⟩ := a
      have k0 := (hf 0 (by omega)).1
      have hspot : spot = none := by simpa [Addr.add] using World.cell?_spot k0
      subst hspot
      have hadd : ∀ j, (⟨b, off, none⟩ : Addr).add j = ⟨b, off + j, none⟩ := fun j => by unfold Addr.add; split <;> simp_all
      refine .row b off cap (by simp) (fun i hi => ?_)
      simp at hi
      obtain ⟨q0, q1, q2⟩ := hf i hi
      rw [hadd] at q0 q1 q2
      have ea : at3 ((List.range len).map f) i = f i := by unfold at3; simp [List.getD_eq_getElem?_getD, hi]
      rw [ea]
      exact ⟨q0, q1, q2⟩
theorem open_net2 {H : Type} {enc : TypeId × Value → H} {W : World} {b0 : Nat} {r : Reach} {v : Value} {d : DataW H} {p : List MemPlace} (hv : Value.okWide Try.prog W r b0 24 v) (h : DataW.Trod enc Try.prog W 0 (fun _ => true) true 24 v d p) :
    ∃ (n : Int) (u : Value) (es : List E), v = .agg #[.int .i64 n, u] ∧ SlE W u es ∧ es.length ≤ 9223372036854775807 ∧ ∃ y0 y1, d = .agg [y0, y1] ∧ ((y1 = .nil ∧ es = []) ∨ ∃ elems spare, y1 = .slice elems spare ∧ elems.length = es.length) := by
  obtain ⟨c0, c1, y0, y1, n, rfl, hd, -, h0, h1⟩ := open_agg2 Try.underlying24 (by kernel_rfl) cells24 hv h
  obtain ⟨n0, e0, _, _⟩ := DataW.trod_int Try.underlying3 h0
  simp at e0
  subst e0
  obtain ⟨es, h2, h3, h4⟩ := open_edges2 h1
  exact ⟨n0, c1, es, rfl, h2, h3, _, _, hd, h4⟩
theorem net_len {H : Type} {ts : List TypeId} {ds : List (DataW H)} (hsz : (DataW.weightsEach Try.prog ts ds).all (· ≤ reachBytes) = true) {j : Nat} {d y0 y1 : DataW H} {es : List E} (ht : ts[j]? = some 24) (hd : ds[j]? = some d) (he : d = .agg [y0, y1])
    (h : (y1 = .nil ∧ es = []) ∨ ∃ elems spare, y1 = .slice elems spare ∧ elems.length = es.length) : es.length ≤ 5864062014634 := by
  rcases h with ⟨_, rfl⟩ | ⟨el, sp, rfl, hl⟩
  · simp
  · subst he
    have := List.all_eq_true.1 hsz _ (DataW.weights_mem_each ht hd ((el.length + sp.length) * Try.prog.bytesOf 44) (by simp [DataW.weights, DataW.weightsEach, Try.underlying24, Try.underlying22]))
    rw [bytes38] at this
    have h2 := of_decide_eq_true this
    unfold reachBytes at h2
    omega
end Go.Proofs.Ytidbbkpgmcheiaa
