/-
  A net among the arguments, opened, and how long it may be. How long a net may be where what is read is of bounded bulk.
-/
import Derived.Test.YtdgihpegdcoilaaOpenN
import Derived.Test.YtdgihpegdcoilaaRows
namespace Go.Proofs.Ytdgihpegdcoilaa
open Go.ChangeShapes Go.WideShapes Go.ChangeAt Go.RowKit Go.Joins Go.Deep
open Nm

theorem bytes50 : Try.prog.bytesOf 50 = 24 := by kernel_rfl
theorem open_edges2 {H : Type} {enc : TypeId × Value → H} {W : World} {fuel : Nat} {v : Value} {x : DataW H × List MemPlace} (h : DataW.trod enc Try.prog W 0 (fun _ => true) true fuel 33 [v] = some x) :
    ∃ es : List E, SlE W v es ∧ es.length ≤ 9223372036854775807 ∧ ((x.1 = .nil ∧ es = []) ∨ ∃ elems spare, x.1 = .slice elems spare ∧ elems.length = es.length) := by
  rcases open_slice Try.underlying33 h with ⟨hc, hxx⟩ | ⟨a, len, cap, m, n, D, Pl, hc, _, hl, hm, hmm, hxx, hx⟩
  · simp at hc
    subst hc
    exact ⟨[], .no _ _ rfl rfl, by simp, .inl ⟨by rw [hxx], rfl⟩⟩
  · simp at hc
    subst hc
    have hlm : len ≤ m := by rw [hmm]; simp; omega
    have each : ∀ i, i < len → ∃ e : E, W.cell? (a.add (i * 3)) = some (.int .i64 e.1) ∧ W.cell? (a.add (i * 3 + 1)) = some (.int .i64 e.2.1) ∧ W.cell? (a.add (i * 3 + 2)) = some (.int .i64 e.2.2) := by
      intro i hi
      obtain ⟨cs', h1, h2⟩ := hx i (by omega)
      rw [cells50] at h1
      obtain ⟨e, rfl⟩ := edge_of h2
      obtain ⟨_, hlen, hcell⟩ := World.cells?_some h1
      have e0 := hcell 0 (by simp)
      have e1 := hcell 1 (by simp)
      have e2 := hcell 2 (by simp)
      rw [add_add] at e0 e1 e2
      exact ⟨e, by simpa using e0, by simpa using e1, by simpa using e2⟩
    obtain ⟨f, hf⟩ := choose_lt each
    refine ⟨(List.range len).map f, ?_, by simp; unfold maxLen at hm; omega, .inr ⟨_, _, by rw [hxx], by simp⟩⟩
    by_cases h0 : len = 0
    · subst h0
      exact .no _ _ rfl (by simp)
    · obtain ⟨b, off, spot⟩ := a
      have k0 := (hf 0 (by omega)).1
      have hspot : spot = none := by simpa [Addr.add] using World.cell?_spot k0
      subst hspot
      have hadd : ∀ j, (⟨b, off, none⟩ : Addr).add j = ⟨b, off + j, none⟩ := fun j => by unfold Addr.add; split <;> simp_all
      refine .row b off cap (by simp) (fun i hi => ?_)
      simp at hi
      obtain ⟨q0, q1, q2⟩ := hf i hi
      rw [hadd] at q0 q1 q2
      have ea : at3 ((List.range len).map f) i = f i := by unfold at3; simp [List.getD_eq_getElem?_getD, hi]
      rw [ea]
      exact ⟨q0, q1, q2⟩
set_option maxRecDepth 100000 in
theorem open_net2 {H : Type} {enc : TypeId × Value → H} {W : World} {b0 : Nat} {r : Reach} {v : Value} {d : DataW H} {p : List MemPlace} (hv : Value.okWide Try.prog W r b0 35 v) (h : DataW.Trod enc Try.prog W 0 (fun _ => true) true 35 v d p) :
    ∃ (n : Int) (u : Value) (es : List E), v = .agg #[.int .i64 n, u] ∧ SlE W u es ∧ es.length ≤ 9223372036854775807 ∧ ∃ y0 y1, d = .agg [y0, y1] ∧ ((y1 = .nil ∧ es = []) ∨ ∃ elems spare, y1 = .slice elems spare ∧ elems.length = es.length) := by
  obtain ⟨c0, c1, y0, y1, n, rfl, hd, -, h0, h1⟩ := open_agg2 Try.underlying35 (by kernel_rfl) cells35 hv h
  obtain ⟨n0, e0, _, _⟩ := DataW.trod_int Try.underlying3 h0
  simp at e0
  subst e0
  obtain ⟨es, h2, h3, h4⟩ := open_edges2 h1
  exact ⟨n0, c1, es, rfl, h2, h3, _, _, hd, h4⟩
set_option maxRecDepth 100000 in
theorem net_len {H : Type} {ts : List TypeId} {ds : List (DataW H)} (hsz : (DataW.weightsEach Try.prog ts ds).all (· ≤ reachBytes) = true) {j : Nat} {d y0 y1 : DataW H} {es : List E} (ht : ts[j]? = some 35) (hd : ds[j]? = some d) (he : d = .agg [y0, y1])
    (h : (y1 = .nil ∧ es = []) ∨ ∃ elems spare, y1 = .slice elems spare ∧ elems.length = es.length) : es.length ≤ 5864062014634 := by
  rcases h with ⟨_, rfl⟩ | ⟨el, sp, rfl, hl⟩
  · simp
  · subst he
    have := List.all_eq_true.1 hsz _ (DataW.weights_mem_each ht hd ((el.length + sp.length) * Try.prog.bytesOf 50) (by simp [DataW.weights, DataW.weightsEach, Try.underlying35, Try.underlying33]))
    rw [bytes50] at this
    have h2 := of_decide_eq_true this
    unfold reachBytes at h2
    omega
end Go.Proofs.Ytdgihpegdcoilaa
namespace Go.Proofs.Ytdgihpegdcoilaa
open Go.ChangeShapes Go.WideShapes Go.ChangeAt Go.RowKit Go.Joins Go.Deep
open Nm

theorem bulk_pos {H : Type} (d : DataW H) : 1 ≤ Rows.uptoBulk d := by
  cases d with
  | lit x => cases x <;> simp [Rows.uptoBulk]
  | nil => simp [Rows.uptoBulk]
  | ptr d => simp [Rows.uptoBulk]
  | slice a b => simp [Rows.uptoBulk]
  | agg a => simp [Rows.uptoBulk]
  | iface a b => simp [Rows.uptoBulk]
  | map a => simp [Rows.uptoBulk]
  | held a => simp [Rows.uptoBulk]
theorem bulk_length {H : Type} (l : List (DataW H)) : l.length ≤ Rows.uptoBulkAll l := by
  induction l with
  | nil => exact Nat.zero_le _
  | cons d r ih =>
    have := bulk_pos d
    simp only [List.length_cons, Rows.uptoBulkAll]
    omega
theorem bulk_mem {H : Type} {l : List (DataW H)} {d : DataW H} (h : d ∈ l) : Rows.uptoBulk d ≤ Rows.uptoBulkAll l := by
  induction l with
  | nil => cases h
  | cons e r ih =>
    simp only [Rows.uptoBulkAll]
    rcases List.mem_cons.1 h with rfl | h
    · omega
    · have := ih h; omega
theorem net_short {H : Type} {ds : List (DataW H)} {d y0 y1 : DataW H} {es : List E} (hk : Rows.uptoSmall H ds = true) (hd : d ∈ ds) (he : d = .agg [y0, y1]) (h : (y1 = .nil ∧ es = []) ∨ ∃ elems spare, y1 = .slice elems spare ∧ elems.length = es.length) : es.length ≤ 1048576 := by
  have hb : Rows.uptoBulkAll ds ≤ 1048576 := of_decide_eq_true hk
  rcases h with ⟨_, rfl⟩ | ⟨el, sp, rfl, hl⟩
  · simp
  · subst he
    have h1 := bulk_mem hd
    have h2 := bulk_length el
    simp only [Rows.uptoBulk, Rows.uptoBulkAll] at h1
    omega
end Go.Proofs.Ytdgihpegdcoilaa
