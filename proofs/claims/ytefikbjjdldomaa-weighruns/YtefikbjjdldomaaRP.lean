/-
  A row of costs; slices.Repeat of one number.
-/
import Derived.Test.YtefikbjjdldomaaBA
import Derived.Test.YtefikbjjdldomaaMx
import Derived.Laws.CopyOwn
import Derived.Laws.Bits64b
namespace Go.Proofs.Ytefikbjjdldomaa
open Go.RowKit
open Nm Wm Dm
attribute [local go_sem ↓] Go.wp_at_zero Go.wp_at_succ

/-- Block g holds the n numbers d. -/
structure Ur (w : World) (g n : Nat) (d : Nat → Int) : Prop where
  block : w.heap[g]? = some (.cells (Array.ofFn (n := n) fun i => .int .i64 (d i)) 3 (0, 0))
theorem Ur.cell {w : World} {g n : Nat} {d : Nat → Int} (h : Ur w g n d) (i : Nat) (hi : i < n) : w.cell? ⟨g, i, none⟩ = some (.int .i64 (d i)) ∧ w.frozen? ⟨g, i, none⟩ = false := by
  simp [World.cell?, World.frozen?, h.block, hi]
theorem Ur.lt {w : World} {g n : Nat} {d : Nat → Int} (h : Ur w g n d) : g < w.heap.size := by
  rcases Nat.lt_or_ge g w.heap.size with hlt | hge
  · exact hlt
  · have := h.block; rw [Array.getElem?_eq_none hge] at this; cases this
theorem Ur.frame {w w' : World} {g n : Nat} {d : Nat → Int} (h : Ur w g n d) (hb : w'.heap[g]? = w.heap[g]?) : Ur w' g n d := ⟨hb.trans h.block⟩
theorem Ur.below {w w' : World} {g n : Nat} {d : Nat → Int} (h : Ur w g n d) (hb : Below w.heap.size w w') : Ur w' g n d := h.frame (hb.block _ h.lt)
theorem Ur.congr {w : World} {g n : Nat} {d d' : Nat → Int} (h : Ur w g n d) (e : ∀ x, x < n → d x = d' x) : Ur w g n d' := by
  refine ⟨h.block.trans ?_⟩
  congr 2
  apply Array.ext
  · simp
  · intro i h1 h2
    simp at h1 ⊢
    exact e i h1
theorem Ur.put {w : World} {g n : Nat} {d : Nat → Int} (h : Ur w g n d) (i : Nat) (x : Int) : Ur (w.setCell ⟨g, i, none⟩ (.int .i64 x)) g n (upd d i x) := by
  refine ⟨(heap_setCell_same _ _ _ _ _ _ _ h.block).trans ?_⟩
  congr 2
  apply Array.ext_getElem?
  intro j
  rw [Array.getElem?_setIfInBounds]
  by_cases hj : j < n
  · by_cases e : i = j
    · subst e; simp [hj, upd_same]
    · simp [hj, e, upd_other d x (fun e' => e e'.symm)]
  · by_cases e : i = j
    · subst e; simp [hj]
    · simp [hj, e]
/-- As a list. -/
def lst (n : Nat) (d : Nat → Int) : List Int := (List.range n).map d
theorem lst_length (n : Nat) (d : Nat → Int) : (lst n d).length = n := by simp [lst]
theorem lst_at {n : Nat} {d : Nat → Int} {i : Nat} (h : i < n) : (lst n d).getD i 0 = d i := by simp [lst, List.getD_eq_getElem?_getD, h]
theorem lst_congr {n : Nat} {d d' : Nat → Int} (h : ∀ v, v < n → d v = d' v) : lst n d = lst n d' := by
  unfold lst; apply List.map_congr_left; intro i hi; exact h i (by simpa using hi)
theorem Ur.sl {w : World} {g n : Nat} {d : Nat → Int} (h : Ur w g n d) : SlI w (.slice (some ⟨g, 0, none⟩) n n) (lst n d) := by
  refine .row g 0 n (by rw [lst_length]) (fun i hi => ?_) (by rw [lst_length]; exact Nat.le_refl _)
  rw [lst_length] at hi
  rw [Nat.zero_add, (h.cell i hi).1, lst_at hi]
theorem Ur.is {w : World} {g n base : Nat} {d : Nat → Int} (h : Ur w g n d) (hn : n ≤ 64) (hb : base ≤ g) : Is w base (.slice (some ⟨g, 0, none⟩) n n) (lst n d) := by
  refine ⟨⟨by simp, .inr ⟨g, n, _, by rw [lst_length], hb, h.block, by rw [lst_length]; exact Nat.le_refl _, by unfold maxLen; omega, by simp, ?_⟩⟩⟩
  rw [lst_length]
  apply List.ext_getElem
  · simp [lst]
  · intro i h1 h2
    simp [lst]

theorem mask_small (a : Nat) (ha : a ≤ 64) : bits .and .u64 (a : Int) 4294967295 = (a : Int) := by
  have h := bits_and_u64_nat a 4294967295 (by omega) (by omega)
  have e : a &&& 4294967295 = a % 4294967296 := Nat.and_two_pow_sub_one_eq_mod a 32
  rw [e, Nat.mod_eq_of_lt (by omega)] at h
  exact h
theorem mask_one : bits .and .u64 (1 : Int) 4294967295 = 1 := mask_small 1 (by omega)
theorem mask_zero : bits .and .u64 (0 : Int) 4294967295 = 0 := mask_small 0 (by omega)
set_option maxRecDepth 100000 in
set_option maxHeartbeats 4000000 in
theorem mul64_any (n : Nat) (hn : n ≤ 64) (w : World) : Calls Try.prog 100 #[.int .u64 1, .int .u64 n] w fun e w' => e = .returned (.tuple #[.int .u64 0, .int .u64 n]) ∧ w' = w := by
  have m1 := mask_small n hn
  have m2 := mask_one
  have m3 := mask_zero
  have hd : (n : Int) / 4294967296 = 0 := by omega
  have hw : IntKind.u64.wrap (n : Int) = (n : Int) := by rw [IntKind.wrap_u64]; omega
  go_enter Try.func100, Try.ntmps100
  go_wp2
  go_ret2
  exact ⟨rfl, rfl⟩
set_option maxRecDepth 100000 in
set_option maxHeartbeats 4000000 in
theorem mul_any (n : Nat) (hn : n ≤ 64) (w : World) : Calls Try.prog 92 #[.int .u64 1, .int .u64 n] w fun e w' => e = .returned (.tuple #[.int .u64 0, .int .u64 n]) ∧ w' = w := by
  go_enter Try.func92, Try.ntmps92
  go_wp2_with fail
  refine (mul64_any n hn w).mono ?_
  rintro e w' ⟨rfl, rfl⟩
  go_wp2_with fail
  go_ret2
  exact ⟨rfl, rfl⟩

theorem made_run (n : Nat) (hn : n ≤ 64) (w : World) : (Instr.makeSlice 25 (.int .i64 n) (.int .i64 n)).run Try.prog w = .ok (.slice (some ⟨w.heap.size, 0, none⟩) n n) (w.alloc (.cells (List.replicate n (Value.int .i64 0)).toArray 3)) := by
  obtain ⟨i, hi, hz, hs, hb⟩ := info3_parts
  have := run_makeSlice (P := Try.prog) w 25 3 i (.int .i64 0) Try.underlying25 hi hz .i64 .i64 n n (by omega) (by omega) (by rw [hs]; omega) (by rw [hb]; omega) (by omega)
  rw [hs] at this
  simp only [Int.toNat_natCast, Nat.mul_one] at this
  rw [this]
  have e : (List.replicate n (Value.int .i64 0)).toArray = madeCells #[Value.int .i64 0] n := by
    apply Array.ext
    · simp [madeCells]
    · intro i h1 h2
      simp [madeCells, Nat.mod_one]
  rw [e]
  rfl
theorem size3 : (Try.prog.info? 3).map (·.size) = some 1 := by kernel_rfl
/-- The first k are x, the others 0. -/
def part (n k : Nat) (x : Int) : List Value := List.replicate k (Value.int .i64 x) ++ List.replicate (n - k) (Value.int .i64 0)
theorem part_length {n k : Nat} (x : Int) (h : k ≤ n) : (part n k x).length = n := by simp [part]; omega
theorem part_splice (n k m : Nat) (x : Int) : splice (part n k x) k (List.replicate m (Value.int .i64 x)) = part n (k + m) x := by
  unfold splice part
  rw [List.take_left' (by simp), List.length_replicate, List.drop_append]
  simp only [List.drop_replicate, List.length_replicate]
  rw [show k - (k + m) = 0 by omega, show k + m - k = m by omega, List.replicate_zero, List.nil_append, ← List.append_assoc, List.replicate_append_replicate, show n - k - m = n - (k + m) by omega]
structure Pt (w : World) (g n k : Nat) (x : Int) : Prop where
  at_ : w.heap[g]? = some (.cells (part n k x).toArray 3 (0, 0))
theorem Pt.cells {w : World} {g n k : Nat} {x : Int} (h : Pt w g n k x) : ∀ (m : Nat), m ≤ k → ∀ (j : Nat) (u : Value), (List.replicate m (Value.int .i64 x))[j]? = some u → w.cell? ((⟨g, 0, none⟩ : Addr).add j) = some u := by
  intro m hm j u hu
  have hadd : (⟨g, 0, none⟩ : Addr).add j = ⟨g, j, none⟩ := by unfold Addr.add; split <;> simp_all
  rw [List.getElem?_replicate] at hu
  split at hu
  · rename_i hj
    rw [hadd]
    unfold World.cell?
    rw [h.at_]
    simp only [List.getElem?_toArray, part]
    rw [List.getElem?_append_left (by simp; omega), List.getElem?_replicate, if_pos (show j < k by omega)]
    exact hu
  · cases hu
theorem Pt.ur {w : World} {g n : Nat} {x : Int} (h : Pt w g n n x) : Ur w g n (fun _ => x) := by
  refine ⟨h.at_.trans ?_⟩
  congr 2
  apply Array.ext
  · simp [part]
  · intro i h1 h2
    simp [part]

set_option maxRecDepth 100000 in
set_option maxHeartbeats 8000000 in
theorem repeat_any (B n : Nat) (x : Int) (w : World) (h1 : 1 ≤ n) (hn : n ≤ 64) (hc : w.cell? ⟨B, 0, none⟩ = some (.int .i64 x)) :
    Calls Try.prog 71 #[.slice (some ⟨B, 0, none⟩) 1 1, .int .i64 n] w fun e w' => e = .returned (.slice (some ⟨w.heap.size, 0, none⟩) n n) ∧ Ur w' w.heap.size n (fun _ => x) ∧ Below w.heap.size w w' := by
  obtain ⟨Z, hZ⟩ : ∃ Z, List.replicate n (Value.int .i64 0) = Z := ⟨_, rfl⟩
  have hmk := made_run n hn
  rw [hZ] at hmk
  have hn0 : ¬ (n : Int) < 0 := by omega
  have HC : Hid (∀ (j : Nat) (u : Value), ([Value.int .i64 x])[j]? = some u → (w.alloc (.cells Z.toArray 3)).cell? ((⟨B, 0, none⟩ : Addr).add j) = some u) := by
    intro j u hu
    have hadd : (⟨B, 0, none⟩ : Addr).add j = ⟨B, j, none⟩ := by unfold Addr.add; split <;> simp_all
    cases j with
    | zero => rw [hadd]; simp at hu; rw [← hu]; exact kept_alloc hc
    | succ j => simp at hu
  have HG : Hid ((w.alloc (.cells Z.toArray 3)).heap[w.heap.size]? = some (.cells Z.toArray 3 (0, 0))) := heap_alloc_new w _
  have HZL : Hid (Z.length = n) := by rw [← hZ]; unfold Hid; simp
  have HP1 : Hid (splice Z 0 [Value.int .i64 x] = part n 1 x) := by
    have := part_splice n 0 1 x
    unfold Hid
    rw [← hZ]
    simpa [part] using this
  clear hc hZ
  go_enter Try.func71, Try.ntmps71
  go_wp2_with fail
  refine (mul_any n hn w).mono ?_
  rintro e w1 ⟨rfl, rfl⟩
  have hno : ¬ (9223372036854775807 : Int) < (n : Int) := by omega
  have HCP : Hid (∀ ty, (Builtin.copy_ #[25, 25] ty #[.slice (some ⟨w1.heap.size, 0, none⟩) n n, .slice (some ⟨B, 0, none⟩) 1 1]).run Try.prog (w1.alloc (.cells Z.toArray 3)) = .ok (goInt 1) ((w1.alloc (.cells Z.toArray 3)).setRow w1.heap.size (splice Z 0 [Value.int .i64 x]).toArray)) := fun ty =>
    run_copy_row (P := Try.prog) (w1.alloc (.cells Z.toArray 3)) 25 25 ty 3 w1.heap.size 0 n n ⟨B, 0, none⟩ 1 1 Z.toArray 3 [Value.int .i64 x] Try.underlying25 size3 HG.out (by simp [Nat.min_def]; omega) HC.out (by have := HZL.out; simp; omega) (by simp [Value.oneCell'])
  have P2 : Hid (Pt ((w1.alloc (.cells Z.toArray 3)).setRow w1.heap.size (splice Z 0 [Value.int .i64 x]).toArray) w1.heap.size n 1 x) := ⟨by rw [← HP1.out]; exact setRow_heap _ _ _ _ 3 _ HG.out⟩
  have B2 : Hid (Below w1.heap.size w1 ((w1.alloc (.cells Z.toArray 3)).setRow w1.heap.size (splice Z 0 [Value.int .i64 x]).toArray)) := below_setRow (balloc (Below.refl _ _) _) (Nat.le_refl _) _
  go_wp2_with fail
  rw [HCP.out]
  generalize (w1.alloc (.cells Z.toArray 3)).setRow w1.heap.size (splice Z 0 [Value.int .i64 x]).toArray = w2 at *
  go_wp2_with fail
  clear HC HG HCP hmk
  go_loopw [8] (fun z wr => ∃ k : Nat, z = .int .i64 k ∧ 1 ≤ k ∧ k ≤ n ∧ Pt wr w1.heap.size n k x ∧ Below w1.heap.size w1 wr) (fun z _ => n - (intOf z).toNat)
  case atStart => exact ⟨1, rfl, by omega, h1, P2.out, B2.out⟩
  case round =>
    clear P2 B2
    obtain ⟨k, rfl, hk1, hk, hp, hb⟩ := hrel
    have HP : Hid _ := hp
    have HB : Hid (Below w1.heap.size w1 wr) := hb
    clear hp hb
    by_cases hlt : k < n
    · have hki : (k : Int) < (n : Int) := by omega
      have hkn : ¬ n = k := by omega
      have hkl : (k : Int) ≤ (n : Int) := by omega
      obtain ⟨m, hm⟩ : ∃ m, m = Nat.min k (n - k) := ⟨_, rfl⟩
      have hm1 : 1 ≤ m := by rw [hm]; simp [Nat.min_def]; split <;> omega
      have hm2 : m ≤ k := by rw [hm]; exact Nat.min_le_left _ _
      have hm3 : k + m ≤ n := by
        have h9 : m ≤ n - k := by rw [hm]; exact Nat.min_le_right _ _
        omega
      have HM : Hid _ := hm
      have HS : Hid _ := part_splice n k m x
      have HL : Hid _ := part_length x hk
      have hmw : IntKind.i64.wrap ((k : Int) + (m : Int)) = (k : Int) + (m : Int) := by rw [IntKind.wrap_i64]; omega
      have HG : Hid _ := HP.out.at_
      have HCC : Hid _ := HP.out.cells m hm2
      clear hm
      go_wp2_with fail
      go_region_law
        (refine step_copy_splice (by rfl) _ _ _ _ (by rfl) 3 Try.underlying25 size3 (some ⟨w1.heap.size, 0 + k, none⟩) (some ⟨w1.heap.size, 0, none⟩) (n - k) (n - k) k n (by simp [Act.eval, Act.put]) (by simp [Act.eval, Act.put]) w1.heap.size k (part n k x) 3 HG.out (List.replicate m (Value.int .i64 x)) (by rw [List.length_replicate]; exact HM.out) (fun _ => ⟨by simp, _, rfl, HCC.out⟩) (by have := HL.out; rw [List.length_replicate]; omega) (by intro v hv; rw [List.eq_of_mem_replicate hv]; rfl) w1.heap.size w1 (Below.drew HB.out) (Nat.le_refl _) ?_; intro w4 hg4 hb4; simp only [List.length_replicate, goInt])
      have P4 : Hid (Pt w4 w1.heap.size n (k + m) x) := ⟨by have := hg4.out; rw [HS.out] at this; exact this⟩
      have B4 : Hid (Below w1.heap.size w1 w4) := hb4
      clear hg4 hb4
      go_wp2_with fail
      go_simp
      go_roundw
      case rel => exact ⟨k + m, by go_num, by omega, hm3, P4.out, B4.out⟩
      case measure => simp [intOf]; omega
    · have hke : k = n := by omega
      subst hke
      go_wp2_with fail
      go_ret
      exact ⟨rfl, HP.out.ur, HB.out⟩
end Go.Proofs.Ytefikbjjdldomaa
