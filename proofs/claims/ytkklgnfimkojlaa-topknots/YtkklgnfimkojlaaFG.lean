/-
  slices.Repeat of one truth value; straight of truth values.
-/
import Derived.Test.YtkklgnfimkojlaaFC
import Derived.Laws.CopyOwn
import Derived.Laws.Bits64b
namespace Go.Proofs.Ytkklgnfimkojlaa
open Go.RowKit
open Nm Wm Dm Bm Fm Fl
attribute [local go_sem ↓] Go.wp_at_zero Go.wp_at_succ

theorem info4 : (Try.prog.info? 4).map (fun i => (i.zero, i.size, i.bytes)) = some (some (.bool false), 1, 1) := by kernel_rfl
theorem info4_parts : ∃ i, Try.prog.info? 4 = some i ∧ i.zero = some (.bool false) ∧ i.size = 1 ∧ i.bytes = 1 := by
  obtain ⟨i, hi, hh⟩ := Option.map_eq_some_iff.1 info4
  simp only [Prod.mk.injEq] at hh
  exact ⟨i, hi, hh.1, hh.2.1, hh.2.2⟩
theorem made_runb (n : Nat) (hn : n ≤ 64) (w : World) : (Instr.makeSlice 41 (.int .i64 n) (.int .i64 n)).run Try.prog w = .ok (.slice (some ⟨w.heap.size, 0, none⟩) n n) (w.alloc (.cells (List.replicate n (Value.bool false)).toArray 4)) := by
  obtain ⟨i, hi, hz, hs, hb⟩ := info4_parts
  have := run_makeSlice (P := Try.prog) w 41 4 i (.bool false) Try.underlying41 hi hz .i64 .i64 n n (by omega) (by omega) (by rw [hs]; omega) (by rw [hb]; omega) (by omega)
  rw [hs] at this
  simp only [Int.toNat_natCast, Nat.mul_one] at this
  rw [this]
  have e : (List.replicate n (Value.bool false)).toArray = madeCells #[Value.bool false] n := by
    apply Array.ext
    · simp [madeCells]
    · intro i h1 h2
      simp [madeCells, Nat.mod_one]
  rw [e]
  rfl
theorem size4 : (Try.prog.info? 4).map (·.size) = some 1 := by kernel_rfl
/-- The first k are x, the others 0. -/
def partb (n k : Nat) (x : Bool) : List Value := List.replicate k (Value.bool x) ++ List.replicate (n - k) (Value.bool false)
theorem part_lengthb {n k : Nat} (x : Bool) (h : k ≤ n) : (partb n k x).length = n := by simp [partb]; omega
theorem part_spliceb (n k m : Nat) (x : Bool) : splice (partb n k x) k (List.replicate m (Value.bool x)) = partb n (k + m) x := by
  unfold splice partb
  rw [List.take_left' (by simp), List.length_replicate, List.drop_append]
  simp only [List.drop_replicate, List.length_replicate]
  rw [show k - (k + m) = 0 by omega, show k + m - k = m by omega, List.replicate_zero, List.nil_append, ← List.append_assoc, List.replicate_append_replicate, show n - k - m = n - (k + m) by omega]
structure Ptb (w : World) (g n k : Nat) (x : Bool) : Prop where
  at_ : w.heap[g]? = some (.cells (partb n k x).toArray 4 (0, 0))
theorem Ptb.cells {w : World} {g n k : Nat} {x : Bool} (h : Ptb w g n k x) : ∀ (m : Nat), m ≤ k → ∀ (j : Nat) (u : Value), (List.replicate m (Value.bool x))[j]? = some u → w.cell? ((⟨g, 0, none⟩ : Addr).add j) = some u := by
  intro m hm j u hu
  have hadd : (⟨g, 0, none⟩ : Addr).add j = ⟨g, j, none⟩ := by unfold Addr.add; split <;> simp_all
  rw [List.getElem?_replicate] at hu
  split at hu
  · rename_i hj
    rw [hadd]
    unfold World.cell?
    rw [h.at_]
    simp only [List.getElem?_toArray, partb]
    rw [List.getElem?_append_left (by simp; omega), List.getElem?_replicate, if_pos (show j < k by omega)]
    exact hu
  · cases hu
theorem Ptb.ur {w : World} {g n : Nat} {x : Bool} (h : Ptb w g n n x) : Uv 4 encb w g n (fun _ => x) := by
  refine ⟨h.at_.trans ?_⟩
  congr 2
  apply Array.ext
  · simp [partb]
  · intro i h1 h2
    simp [partb]

set_option maxRecDepth 100000 in
set_option maxHeartbeats 8000000 in
theorem repeat_anyb (B n : Nat) (x : Bool) (w : World) (h1 : 1 ≤ n) (hn : n ≤ 64) (hc : w.cell? ⟨B, 0, none⟩ = some (.bool x)) :
    Calls Try.prog 72 #[.slice (some ⟨B, 0, none⟩) 1 1, .int .i64 n] w fun e w' => e = .returned (.slice (some ⟨w.heap.size, 0, none⟩) n n) ∧ Uv 4 encb w' w.heap.size n (fun _ => x) ∧ Below w.heap.size w w' := by
  obtain ⟨Z, hZ⟩ : ∃ Z, List.replicate n (Value.bool false) = Z := ⟨_, rfl⟩
  have hmk := made_runb n hn
  rw [hZ] at hmk
  have hn0 : ¬ (n : Int) < 0 := by omega
  have HC : Hid (∀ (j : Nat) (u : Value), ([Value.bool x])[j]? = some u → (w.alloc (.cells Z.toArray 4)).cell? ((⟨B, 0, none⟩ : Addr).add j) = some u) := by
    intro j u hu
    have hadd : (⟨B, 0, none⟩ : Addr).add j = ⟨B, j, none⟩ := by unfold Addr.add; split <;> simp_all
    cases j with
    | zero => rw [hadd]; simp at hu; rw [← hu]; exact kept_alloc hc
    | succ j => simp at hu
  have HG : Hid ((w.alloc (.cells Z.toArray 4)).heap[w.heap.size]? = some (.cells Z.toArray 4 (0, 0))) := heap_alloc_new w _
  have HZL : Hid (Z.length = n) := by rw [← hZ]; unfold Hid; simp
  have HP1 : Hid (splice Z 0 [Value.bool x] = partb n 1 x) := by
    have := part_spliceb n 0 1 x
    unfold Hid
    rw [← hZ]
    simpa [partb] using this
  clear hc hZ
  go_enter Try.func72, Try.ntmps72
  go_wp2_with fail
  refine (mul_any n hn w).mono ?_
  rintro e w1 ⟨rfl, rfl⟩
  have hno : ¬ (9223372036854775807 : Int) < (n : Int) := by omega
  have HCP : Hid (∀ ty, (Builtin.copy_ #[41, 41] ty #[.slice (some ⟨w1.heap.size, 0, none⟩) n n, .slice (some ⟨B, 0, none⟩) 1 1]).run Try.prog (w1.alloc (.cells Z.toArray 4)) = .ok (goInt 1) ((w1.alloc (.cells Z.toArray 4)).setRow w1.heap.size (splice Z 0 [Value.bool x]).toArray)) := fun ty =>
    run_copy_row (P := Try.prog) (w1.alloc (.cells Z.toArray 4)) 41 41 ty 4 w1.heap.size 0 n n ⟨B, 0, none⟩ 1 1 Z.toArray 4 [Value.bool x] Try.underlying41 size4 HG.out (by simp [Nat.min_def]; omega) HC.out (by have := HZL.out; simp; omega) (by simp [Value.oneCell'])
  have P2 : Hid (Ptb ((w1.alloc (.cells Z.toArray 4)).setRow w1.heap.size (splice Z 0 [Value.bool x]).toArray) w1.heap.size n 1 x) := ⟨by rw [← HP1.out]; exact setRow_heap _ _ _ _ 4 _ HG.out⟩
  have B2 : Hid (Below w1.heap.size w1 ((w1.alloc (.cells Z.toArray 4)).setRow w1.heap.size (splice Z 0 [Value.bool x]).toArray)) := below_setRow (balloc (Below.refl _ _) _) (Nat.le_refl _) _
  go_wp2_with fail
  rw [HCP.out]
  generalize (w1.alloc (.cells Z.toArray 4)).setRow w1.heap.size (splice Z 0 [Value.bool x]).toArray = w2 at *
  go_wp2_with fail
  clear HC HG HCP hmk
  go_loopw [8] (fun z wr => ∃ k : Nat, z = .int .i64 k ∧ 1 ≤ k ∧ k ≤ n ∧ Ptb wr w1.heap.size n k x ∧ Below w1.heap.size w1 wr) (fun z _ => n - (intOf z).toNat)
  case atStart => exact ⟨1, rfl, by omega, h1, P2.out, B2.out⟩
  case round =>
    clear P2 B2
    obtain ⟨k, rfl, hk1, hk, hp, hb⟩ := hrel
    have HP : Hid _ := hp
    have HB : Hid (Below w1.heap.size w1 wr) := hb
    clear hp hb
    by_cases hlt : k < n
    · have hki : (k : Int) < (n : Int) := by omega
      have hkn : ¬ n = k := by omega
      have hkl : (k : Int) ≤ (n : Int) := by omega
      obtain ⟨m, hm⟩ : ∃ m, m = Nat.min k (n - k) := ⟨_, rfl⟩
      have hm1 : 1 ≤ m := by rw [hm]; simp [Nat.min_def]; split <;> omega
      have hm2 : m ≤ k := by rw [hm]; exact Nat.min_le_left _ _
      have hm3 : k + m ≤ n := by
        have h9 : m ≤ n - k := by rw [hm]; exact Nat.min_le_right _ _
        omega
      have HM : Hid _ := hm
      have HS : Hid _ := part_spliceb n k m x
      have HL : Hid _ := part_lengthb x hk
      have hmw : IntKind.i64.wrap ((k : Int) + (m : Int)) = (k : Int) + (m : Int) := by rw [IntKind.wrap_i64]; omega
      have HG : Hid _ := HP.out.at_
      have HCC : Hid _ := HP.out.cells m hm2
      clear hm
      go_wp2_with fail
      go_region_law
        (refine step_copy_splice (by rfl) _ _ _ _ (by rfl) 4 Try.underlying41 size4 (some ⟨w1.heap.size, 0 + k, none⟩) (some ⟨w1.heap.size, 0, none⟩) (n - k) (n - k) k n (by simp [Act.eval, Act.put]) (by simp [Act.eval, Act.put]) w1.heap.size k (partb n k x) 4 HG.out (List.replicate m (Value.bool x)) (by rw [List.length_replicate]; exact HM.out) (fun _ => ⟨by simp, _, rfl, HCC.out⟩) (by have := HL.out; rw [List.length_replicate]; omega) (by intro v hv; rw [List.eq_of_mem_replicate hv]; rfl) w1.heap.size w1 (Below.drew HB.out) (Nat.le_refl _) ?_; intro w4 hg4 hb4; simp only [List.length_replicate, goInt])
      have P4 : Hid (Ptb w4 w1.heap.size n (k + m) x) := ⟨by have := hg4.out; rw [HS.out] at this; exact this⟩
      have B4 : Hid (Below w1.heap.size w1 w4) := hb4
      clear hg4 hb4
      go_wp2_with fail
      go_simp
      go_roundw
      case rel => exact ⟨k + m, by go_num, by omega, hm3, P4.out, B4.out⟩
      case measure => simp [intOf]; omega
    · have hke : k = n := by omega
      subst hke
      go_wp2_with fail
      go_ret
      exact ⟨rfl, HP.out.ur, HB.out⟩
end Go.Proofs.Ytkklgnfimkojlaa
