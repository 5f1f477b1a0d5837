/-
  A table among the arguments, opened.
-/
import Derived.Test.YtkbebdanpgaehaaOpenN
import Derived.Test.YtkbebdanpgaehaaER
namespace Go.Proofs.Ytkbebdanpgaehaa
open Go.ChangeShapes Go.WideShapes Go.ChangeAt Go.RowKit Go.Joins Go.Deep

theorem cells29 : Try.prog.cellsOf 29 = 1 := by kernel_rfl
theorem cells31 : Try.prog.cellsOf 31 = 2 := by kernel_rfl
theorem bytes25 : Try.prog.bytesOf 25 = 24 := by kernel_rfl
/-- One row, read. -/
theorem row_of {H : Type} {enc : TypeId × Value → H} {W : World} {m : Nat} {cs : List Value} {x : DataW H × List MemPlace} (h : DataW.trod enc Try.prog W 0 (fun _ => true) true m 25 cs = some x) :
    ∃ (u : Value) (ls : List Int), cs = [u] ∧ SlI W u ls ∧ ls.length ≤ 9223372036854775807 := by
  rcases open_ints Try.underlying25 Try.underlying3 cells3 h with ⟨hcs, _⟩ | ⟨ad, len, cap, zs, hcs, _, hl, hm, hz, _, hcell, _⟩
  · exact ⟨_, [], hcs, .no _ _ rfl rfl, by simp⟩
  · have hzl : len ≤ zs.length := by rw [hz]; simp; omega
    have hlt : (zs.take len).length = len := by simp; omega
    refine ⟨_, zs.take len, hcs, ?_, by rw [hlt]; unfold maxLen at hm; omega⟩
    by_cases h0 : len = 0
    · subst h0
      exact .no _ _ rfl (by simp)
    · obtain ⟨b, off, spot⟩ := ad
      have k0 := hcell 0 (by omega)
      have hspot : spot = none := by simpa [Addr.add] using World.cell?_spot k0
      subst hspot
      refine .row b off cap (by rw [hlt]) (fun i hi => ?_) (by rw [hlt]; exact hl)
      rw [hlt] at hi
      have hadd : (⟨b, off, none⟩ : Addr).add i = ⟨b, off + i, none⟩ := by unfold Addr.add; split <;> simp_all
      have := hcell i (by omega)
      rw [hadd] at this
      rw [this, List.getD_eq_getElem?_getD, List.getD_eq_getElem?_getD, List.getElem?_take_of_lt hi]
theorem pick_rows {n : Nat} {P : Nat → List Int → Prop} (h : ∀ i, i < n → ∃ l, P i l) : ∃ f : Nat → List Int, ∀ i, i < n → P i (f i) := by
  classical
  exact ⟨fun i => if hi : i < n then Classical.choose (h i hi) else [], fun i hi => by simp only [dif_pos hi]; exact Classical.choose_spec (h i hi)⟩
theorem open_rows {H : Type} {enc : TypeId × Value → H} {W : World} {fuel : Nat} {v : Value} {x : DataW H × List MemPlace} (h : DataW.trod enc Try.prog W 0 (fun _ => true) true fuel 29 [v] = some x) :
    ∃ rows : List (List Int), SlT W v rows ∧ (∀ i, i < rows.length → (rows.getD i []).length ≤ 9223372036854775807) ∧ ((x.1 = .nil ∧ rows = []) ∨ ∃ elems spare, x.1 = .slice elems spare ∧ elems.length = rows.length) := by
  rcases open_slice Try.underlying29 h with ⟨hc, hxx⟩ | ⟨a, len, cap, m, n, D, Pl, hc, _, hl, hm, hmm, hxx, hx⟩
  · simp at hc
    subst hc
    exact ⟨[], .no _ _ rfl rfl, fun i hi => absurd hi (by simp), .inl ⟨by rw [hxx], rfl⟩⟩
  · simp at hc
    subst hc
    have each : ∀ i, i < len → ∃ ls : List Int, ∃ u : Value, W.cell? (a.add i) = some u ∧ SlI W u ls ∧ ls.length ≤ 9223372036854775807 := by
      intro i hi
      obtain ⟨cs', h1, h2⟩ := hx i (by rw [hmm]; simp; omega)
      rw [cells25] at h1
      obtain ⟨u, ls, rfl, k1, k2⟩ := row_of h2
      obtain ⟨_, hlen, hcell⟩ := World.cells?_some h1
      have e0 := hcell 0 (by simp)
      rw [add_add] at e0
      exact ⟨ls, u, by simpa using e0, k1, k2⟩
    obtain ⟨f, hf⟩ := pick_rows each
    have hfl : ((List.range len).map f).length = len := by simp
    have hat : ∀ i, i < len → ((List.range len).map f).getD i [] = f i := fun i hi => by simp [List.getD_eq_getElem?_getD, hi]
    refine ⟨(List.range len).map f, ?_, fun i hi => ?_, .inr ⟨_, _, by rw [hxx], by simp⟩⟩
    · by_cases h0 : len = 0
      · subst h0
        exact .no _ _ rfl (by simp)
      · obtain ⟨b, off, spot⟩ := a
        obtain ⟨u0, k0, _⟩ := hf 0 (by omega)
        have hspot : spot = none := by simpa [Addr.add] using World.cell?_spot k0
        subst hspot
        refine ⟨.inr ⟨b, off, cap, by rw [hfl], fun i hi => ?_⟩⟩
        rw [hfl] at hi
        obtain ⟨u, k1, k2, _⟩ := hf i hi
        have hadd : (⟨b, off, none⟩ : Addr).add i = ⟨b, off + i, none⟩ := by unfold Addr.add; split <;> simp_all
        rw [hadd] at k1
        exact ⟨u, k1, by rw [hat i hi]; exact k2⟩
    · rw [hfl] at hi
      rw [hat i hi]
      obtain ⟨u, _, _, k3⟩ := hf i hi
      exact k3
theorem rows_fit {x n : Nat} (h : n * 24 ≤ reachBytes) (hx : x ≤ n) : x ≤ 5864062014634 := by unfold reachBytes at h; omega
/-- A table, opened. -/
theorem open_table {H : Type} {enc : TypeId × Value → H} {W : World} {b0 j : Nat} {r : Reach} {v : Value} {d : DataW H} {p : List MemPlace} {ts : List TypeId} {ds : List (DataW H)} (hsz : (DataW.weightsEach Try.prog ts ds).all (· ≤ reachBytes) = true) (ht : ts[j]? = some 31) (hd : ds[j]? = some d)
    (hv : Value.okWide Try.prog W r b0 31 v) (h : DataW.Trod enc Try.prog W 0 (fun _ => true) true 31 v d p) :
    ∃ (v1 v2 : Value) (F T : List (List Int)), v = .agg #[v1, v2] ∧ SlT W v1 F ∧ SlT W v2 T ∧ Rl F ∧ Rl T := by
  obtain ⟨c0, c1, y0, y1, n, rfl, hde, -, h0, h1⟩ := open_agg2 Try.underlying31 (by kernel_rfl) cells31 hv h
  obtain ⟨F, k1, k2, k3⟩ := open_rows h0
  obtain ⟨T, m1, m2, m3⟩ := open_rows h1
  have hw : ∀ z, z ∈ DataW.weights Try.prog 31 d → z ≤ reachBytes := fun z hz => of_decide_eq_true (List.all_eq_true.1 hsz _ (DataW.weights_mem_each ht hd z hz))
  refine ⟨c0, c1, F, T, rfl, k1, m1, ⟨?_, k2⟩, ⟨?_, m2⟩⟩
  · rcases k3 with ⟨_, rfl⟩ | ⟨el, sp, e1, e2⟩
    · simp
    · subst hde
      have := hw ((el.length + sp.length) * Try.prog.bytesOf 25) (by rw [e1]; simp [DataW.weights, DataW.weightsEach, Try.underlying31, Try.underlying29])
      rw [bytes25] at this
      exact rows_fit this (by omega)
  · rcases m3 with ⟨_, rfl⟩ | ⟨el, sp, e1, e2⟩
    · simp
    · subst hde
      have := hw ((el.length + sp.length) * Try.prog.bytesOf 25) (by rw [e1]; simp [DataW.weights, DataW.weightsEach, Try.underlying31, Try.underlying29])
      rw [bytes25] at this
      exact rows_fit this (by omega)
end Go.Proofs.Ytkbebdanpgaehaa
