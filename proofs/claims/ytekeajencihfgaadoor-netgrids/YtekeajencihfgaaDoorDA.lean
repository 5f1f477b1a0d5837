/-
  A slice of numbers as it is read; the contracts of isSide, Check and its twin in the document's answer.
-/
import Derived.Test.YtekeajencihfgaaDoorRows
import Derived.Test.YtekeajencihfgaaDoorGm
import Derived.WalkKit
import Derived.Deep.QuietTactic
import Derived.BigQuiet
import Derived.WalkSmall
import Derived.Deep.RegionHeld3
import Derived.Deep.DrawnRows
import Derived.BigRegion
import Derived.Deep.AppendLies
namespace Go.Proofs.YtekeajencihfgaaDoor
open Go.RowKit
open Gm

theorem ret_int {k : IntKind} {a b : Int} (h : a = b) : Ending.returned (.int k a) = .returned (.int k b) := by rw [h]
theorem ret_bool {a b : Bool} (h : a = b) : Ending.returned (.bool a) = .returned (.bool b) := by rw [h]

theorem bthen {w x y : World} (h1 : Below w.heap.size w x) (h2 : Below x.heap.size x y) : Below w.heap.size w y := h1.trans (h2.mono h1.size)
theorem balloc {w x : World} (h1 : Below w.heap.size w x) (o : Obj) : Below w.heap.size w (x.alloc o) := h1.alloc h1.size o
theorem bdrewN {w x : World} {b : Nat} (h : Below b w x) (q : Nat) : Below b w (x.drewN q) := h.trans ⟨rfl, rfl, rfl, Nat.le_refl _, fun _ _ => rfl⟩
theorem bcell {W w1 : World} (hb : Below W.heap.size W w1) : (∀ b o, b < W.heap.size → w1.cell? ⟨b, o, none⟩ = W.cell? ⟨b, o, none⟩) ∧ (∀ b o, b < W.heap.size → w1.frozen? ⟨b, o, none⟩ = W.frozen? ⟨b, o, none⟩) :=
  ⟨fun b o h => hb.cell (p := ⟨b, o, none⟩) h, fun b o h => hb.frozen (p := ⟨b, o, none⟩) h⟩
theorem kept {W w1 : World} (hb : Below W.heap.size W w1) {b o : Nat} {v : Value} (h : W.cell? ⟨b, o, none⟩ = some v) : w1.cell? ⟨b, o, none⟩ = some v := by
  rw [hb.cell (p := ⟨b, o, none⟩) (World.block_lt_of_cell? W ⟨b, o, none⟩ h)]; exact h

/-- A slice of numbers, as it is read. -/
structure SlI (w : World) (v : Value) (cs : List Int) : Prop where
  is : (∃ (a : Option Addr) (c : Nat), (v = .slice a 0 c) ∧ (cs = [])) ∨ ∃ (b off cap : Nat), (v = .slice (some ⟨b, off, none⟩) cs.length cap) ∧ (∀ i, i < cs.length → w.cell? ⟨b, off + i, none⟩ = some (.int .i64 (cs.getD i 0)))
theorem SlI.no {w : World} {v : Value} {cs : List Int} (a : Option Addr) (c : Nat) (h : v = .slice a 0 c) (e : cs = []) : SlI w v cs := ⟨.inl ⟨a, c, h, e⟩⟩
theorem SlI.row {w : World} {v : Value} {cs : List Int} (b off cap : Nat) (h : v = .slice (some ⟨b, off, none⟩) cs.length cap) (hc : ∀ i, i < cs.length → w.cell? ⟨b, off + i, none⟩ = some (.int .i64 (cs.getD i 0))) : SlI w v cs := ⟨.inr ⟨b, off, cap, h, hc⟩⟩

theorem SlI.below {w w' : World} {v : Value} {cs : List Int} (h : SlI w v cs) (hb : Below w.heap.size w w') : SlI w' v cs := by
  rcases h.is with ⟨a, c, h, e⟩ | ⟨b, off, cap, hv, hc⟩
  · exact .no a c h e
  · exact .row b off cap hv (fun i hi => kept hb (hc i hi))
theorem SlI.val {w : World} {v : Value} {cs : List Int} (h : SlI w v cs) : ∃ a c, v = .slice a cs.length c := by
  rcases h.is with ⟨a, c, rfl, rfl⟩ | ⟨b, off, cap, rfl, _⟩
  · exact ⟨_, _, rfl⟩
  · exact ⟨_, _, rfl⟩
theorem SlI.some' {w : World} {v : Value} {cs : List Int} (h : SlI w v cs) (hl : 0 < cs.length) : ∃ b off cap, v = .slice (some ⟨b, off, none⟩) cs.length cap ∧ ∀ i, i < cs.length → w.cell? ⟨b, off + i, none⟩ = some (.int .i64 (cs.getD i 0)) := by
  rcases h.is with ⟨_, _, _, rfl⟩ | ⟨b, off, cap, hv, hc⟩
  · simp at hl
  · exact ⟨b, off, cap, hv, hc⟩
theorem SlI.drewN {w : World} {v : Value} {cs : List Int} (h : SlI w v cs) (q : Nat) : SlI (w.drewN q) v cs := by
  rcases h.is with ⟨a, c, h, e⟩ | ⟨b, off, cap, hv, hc⟩
  · exact .no a c h e
  · exact .row b off cap hv hc

def side (n : Int) : Bool := decide (1 ≤ n ∧ n ≤ 8)
theorem isSide_any (n : Int) (w : World) : Calls Tryd.prog 21 #[.int .i64 n] w fun e w' => e = .returned (.bool (side n)) ∧ w' = w := by
  by_cases h1 : 1 ≤ n
  · by_cases h2 : n ≤ 8
    · have H : Hid (side n = true) := decide_eq_true ⟨h1, h2⟩
      go_enter Tryd.func21, Tryd.ntmps21
      go_wp2
      go_ret
      exact ⟨ret_bool H.out.symm, rfl⟩
    · have H : Hid (side n = false) := decide_eq_false (by omega)
      go_enter Tryd.func21, Tryd.ntmps21
      go_wp2
      go_ret
      exact ⟨ret_bool H.out.symm, rfl⟩
  · have H : Hid (side n = false) := decide_eq_false (by omega)
    go_enter Tryd.func21, Tryd.ntmps21
    go_wp2
    go_ret
    exact ⟨ret_bool H.out.symm, rfl⟩
theorem isSide_at (n : Int) (b : Bool) (w : World) (h : side n = b) : Calls Tryd.prog 21 #[.int .i64 n] w fun e w' => e = .returned (.bool b) ∧ w' = w := by
  have := isSide_any n w; rw [h] at this; exact this

def okc (c : Int) : Bool := decide (0 ≤ c ∧ c ≤ 9)
/-- What is wrong with ground. -/
def gchk (W H : Int) (cs : List Int) : Int := if side W = false ∨ side H = false then 1 else if (cs.length : Int) ≠ W * H then 3 else if cs.all okc = true then 0 else 4

theorem gchk_side {W H : Int} (cs : List Int) (h : side W = false ∨ side H = false) : gchk W H cs = 1 := by unfold gchk; rw [if_pos h]
theorem gchk_form {W H : Int} {cs : List Int} (h1 : side W = true) (h2 : side H = true) (h : (cs.length : Int) ≠ W * H) : gchk W H cs = 3 := by
  unfold gchk; rw [if_neg (by rw [h1, h2]; simp), if_pos h]
theorem gchk_bad {W H : Int} {cs : List Int} (h1 : side W = true) (h2 : side H = true) (h : (cs.length : Int) = W * H) {k : Nat} (hk : k < cs.length) (hb : okc (cs.getD k 0) = false) : gchk W H cs = 4 := by
  unfold gchk; rw [if_neg (by rw [h1, h2]; simp), if_neg (by simp [h]), if_neg]
  intro h4
  rw [List.all_eq_true] at h4
  have := h4 (cs.getD k 0) (by simp [List.getD_eq_getElem?_getD, List.getElem?_eq_getElem hk])
  rw [hb] at this; cases this
theorem gchk_good {W H : Int} {cs : List Int} (h1 : side W = true) (h2 : side H = true) (h : (cs.length : Int) = W * H) (hk : ∀ k, k < cs.length → okc (cs.getD k 0) = true) : gchk W H cs = 0 := by
  unfold gchk; rw [if_neg (by rw [h1, h2]; simp), if_neg (by simp [h]), if_pos]
  rw [List.all_eq_true]
  intro p hp
  obtain ⟨k, hk', rfl⟩ := List.mem_iff_getElem.1 hp
  have := hk k hk'
  rwa [List.getD_eq_getElem?_getD, List.getElem?_eq_getElem hk'] at this

/-- Ground as it should be. -/
structure Gd (W H : Int) (cs : List Int) : Prop where
  w1 : 1 ≤ W
  w8 : W ≤ 8
  h1 : 1 ≤ H
  h8 : H ≤ 8
  len : (cs.length : Int) = W * H
  cell : ∀ k, k < cs.length → 0 ≤ cs.getD k 0 ∧ cs.getD k 0 ≤ 9
theorem side_true {n : Int} (h : side n = true) : 1 ≤ n ∧ n ≤ 8 := of_decide_eq_true h
theorem gchk_zero {W H : Int} {cs : List Int} (h : gchk W H cs = 0) : Gd W H cs := by
  unfold gchk at h
  split at h
  · cases h
  · rename_i h0
    split at h
    · cases h
    · rename_i h1
      split at h
      · rename_i h2
        cases hw : side W
        · exact absurd (.inl hw) h0
        · cases hh : side H
          · exact absurd (.inr hh) h0
          · obtain ⟨a, b⟩ := side_true hw
            obtain ⟨c, d⟩ := side_true hh
            refine ⟨a, b, c, d, Classical.byContradiction h1, fun k hk => ?_⟩
            rw [List.all_eq_true] at h2
            have := h2 (cs.getD k 0) (by simp [List.getD_eq_getElem?_getD, List.getElem?_eq_getElem hk])
            exact of_decide_eq_true this
      · cases h
theorem prod_le {W H : Int} (w1 : 1 ≤ W) (w8 : W ≤ 8) (h1 : 1 ≤ H) (h8 : H ≤ 8) : 1 ≤ W * H ∧ W * H ≤ 64 := by
  have k1 : W * 1 ≤ W * H := Int.mul_le_mul_of_nonneg_left h1 (by omega)
  have k2 : W * H ≤ W * 8 := Int.mul_le_mul_of_nonneg_left h8 (by omega)
  omega
theorem Gd.le {W H : Int} {cs : List Int} (h : Gd W H cs) : 1 ≤ cs.length ∧ cs.length ≤ 64 := by
  have := prod_le h.w1 h.w8 h.h1 h.h8
  have := h.len
  omega

set_option maxRecDepth 100000 in
set_option maxHeartbeats 4000000 in
theorem gcheck_any (W H : Int) (v : Value) (cs : List Int) (w : World) (hv : SlI w v cs) (hlen : cs.length ≤ 9223372036854775807) :
    Calls Tryd.prog 14 #[.agg #[.int .i64 W, .int .i64 H, v]] w fun e w' => e = .returned (.int .i64 (gchk W H cs)) ∧ Below w.heap.size w w' := by
  obtain ⟨a0, c0, rfl⟩ := hv.val
  have HV : Hid _ := hv
  clear hv
  cases e1 : side W
  · have HC : Hid (gchk W H cs = 1) := gchk_side cs (.inl e1)
    have E1 : Hid _ := e1
    clear e1
    go_enter Tryd.func14, Tryd.ntmps14
    go_wp2_with fail
    refine (isSide_at _ _ _ E1.out).mono ?_
    rintro e w' ⟨rfl, rfl⟩
    go_wp2_with fail
    go_ret
    exact ⟨ret_int HC.out.symm, balloc (Below.refl _ _) _⟩
  cases e2 : side H
  · have HC : Hid (gchk W H cs = 1) := gchk_side cs (.inr e2)
    have E1 : Hid _ := e1
    have E2 : Hid _ := e2
    clear e1 e2
    go_enter Tryd.func14, Tryd.ntmps14
    go_wp2_with fail
    refine (isSide_at _ _ _ E1.out).mono ?_
    rintro e w' ⟨rfl, rfl⟩
    go_wp2_with fail
    refine (isSide_at _ _ _ E2.out).mono ?_
    rintro e w' ⟨rfl, rfl⟩
    go_wp2_with fail
    go_ret
    exact ⟨ret_int HC.out.symm, balloc (Below.refl _ _) _⟩
  obtain ⟨w1, w8⟩ := side_true e1
  obtain ⟨h1, h8⟩ := side_true e2
  obtain ⟨p1, p2⟩ := prod_le w1 w8 h1 h8
  have E1 : Hid _ := e1
  have E2 : Hid _ := e2
  clear e1 e2
  by_cases hl : (cs.length : Int) = W * H
  · have HL : Hid _ := hl
    have hne : ((cs.length : Int) != W * H) = false := by simp [hl]
    clear hl
    go_enter Tryd.func14, Tryd.ntmps14
    go_wp2_with fail
    refine (isSide_at _ _ _ E1.out).mono ?_
    rintro e w' ⟨rfl, rfl⟩
    go_wp2_with fail
    refine (isSide_at _ _ _ E2.out).mono ?_
    rintro e w' ⟨rfl, rfl⟩
    go_wp2_with fail
    obtain ⟨W1, hW1⟩ : ∃ W1, W1 = w.alloc (.cells #[.int .i64 W, .int .i64 H, .slice a0 cs.length c0] 24) := ⟨_, rfl⟩
    have HV1 : Hid (SlI W1 (.slice a0 cs.length c0) cs) := by rw [hW1]; exact HV.out.below (balloc (Below.refl _ _) _)
    have HB1 : Hid (Below w.heap.size w W1) := by rw [hW1]; exact balloc (Below.refl _ _) _
    rw [← hW1]
    clear hW1 HV
    go_loopw [27] (fun x wr => ∃ k : Nat, x = .int .i64 k ∧ k ≤ cs.length ∧ (∀ i, i < k → okc (cs.getD i 0) = true) ∧ wr = W1) (fun x _ => cs.length - (intOf x).toNat)
    case atStart => exact ⟨0, rfl, Nat.zero_le _, fun i hi => absurd hi (by omega), rfl⟩
    case round =>
      obtain ⟨k, rfl, hk, hin, rfl⟩ := hrel
      have HI : Hid _ := hin
      clear hin
      by_cases hlt : k < cs.length
      · have hki : (k : Int) < (cs.length : Int) := by omega
        obtain ⟨b, off, cap, hveq, hc⟩ := HV1.out.some' (by omega)
        simp only [Value.slice.injEq] at hveq
        obtain ⟨rfl, -, rfl⟩ := hveq
        have d0 := hc k hlt
        clear hc
        obtain ⟨x, hx⟩ : ∃ x, cs.getD k 0 = x := ⟨_, rfl⟩
        rw [hx] at d0
        have HX : Hid _ := hx
        clear hx
        by_cases hok : 0 ≤ x ∧ x ≤ 9
        · have HK : Hid (okc (cs.getD k 0) = true) := by rw [HX.out]; exact decide_eq_true hok
          obtain ⟨o1, o2⟩ := hok
          go_wp2_with fail
          go_roundw
          case rel =>
            refine ⟨k + 1, by go_num, by omega, fun i hi => ?_, trivial⟩
            rcases (show i < k ∨ i = k by omega) with h | rfl
            · exact HI.out i h
            · exact HK.out
          case measure => simp [intOf]; omega
        · have HC : Hid (gchk W H cs = 4) := gchk_bad E1.out E2.out HL.out hlt (by rw [HX.out]; exact decide_eq_false hok)
          by_cases o1 : x < 0
          · clear hok
            go_wp2_with fail
            go_ret
            exact ⟨ret_int HC.out.symm, HB1.out⟩
          · have o2 : 9 < x := by omega
            clear hok
            go_wp2_with fail
            go_ret
            exact ⟨ret_int HC.out.symm, HB1.out⟩
      · have hke : k = cs.length := by omega
        subst hke
        have HC : Hid (gchk W H cs = 0) := gchk_good E1.out E2.out HL.out HI.out
        go_wp2_with fail
        go_ret
        exact ⟨ret_int HC.out.symm, HB1.out⟩
  · have HC : Hid (gchk W H cs = 3) := gchk_form E1.out E2.out hl
    have hne : ((cs.length : Int) != W * H) = true := by simp [hl]
    clear hl
    go_enter Tryd.func14, Tryd.ntmps14
    go_wp2_with fail
    refine (isSide_at _ _ _ E1.out).mono ?_
    rintro e w' ⟨rfl, rfl⟩
    go_wp2_with fail
    refine (isSide_at _ _ _ E2.out).mono ?_
    rintro e w' ⟨rfl, rfl⟩
    go_wp2_with fail
    go_ret
    exact ⟨ret_int HC.out.symm, balloc (Below.refl _ _) _⟩
end Go.Proofs.YtekeajencihfgaaDoor
