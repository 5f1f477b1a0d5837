/-
  Contract: the document's text of ground.
-/
import Derived.Test.YteediekpljjbpaaDoorPA
import Derived.Laws.Concat
import Derived.Deep.DeepCutAuto
import Derived.Deep.LoopGhost
namespace Go.Proofs.YteediekpljjbpaaDoor
open Go.RowKit
open Gm Pm

def signs : ByteArray := { data := #[35, 49, 50, 51, 52, 53, 54, 55, 56, 57] }
theorem cl_bounds {W H : Int} {cs : List Int} (hg : Gd W H cs) (x y : Int) : 0 ≤ cl cs W H x y ∧ cl cs W H x y ≤ 9 := by
  by_cases h : 0 ≤ x ∧ x < W ∧ 0 ≤ y ∧ y < H
  · rw [cl_at h]
    obtain ⟨k1, k2⟩ := idx h.1 h.2.1 h.2.2.1 h.2.2.2
    have := hg.len
    exact hg.cell _ (by omega)
  · rw [cl_out h]; omega

theorem cut_sign (m : Nat) (h : m ≤ 9) (w : World) : (Instr.slice 9 (.string { data := #[35, 49, 50, 51, 52, 53, 54, 55, 56, 57] }) (some (.int .i64 (m : Int))) (some (.int .i64 ((m : Int) + 1))) none).run Tryd.prog w = .ok (.string { data := #[sg m] }) w := by
  rw [run_slice_string w 9 _ _ _ _ _ Tryd.underlying9 (by omega) (by omega) (by show (m : Int) + 1 ≤ ((10 : Nat) : Int); omega)]
  rcases (show m = 0 ∨ m = 1 ∨ m = 2 ∨ m = 3 ∨ m = 4 ∨ m = 5 ∨ m = 6 ∨ m = 7 ∨ m = 8 ∨ m = 9 by omega) with rfl | rfl | rfl | rfl | rfl | rfl | rfl | rfl | rfl | rfl <;> kernel_rfl

set_option maxRecDepth 100000 in
set_option maxHeartbeats 8000000 in
theorem map_any (W H : Int) (v : Value) (cs : List Int) (w : World) (hv : SlI w v cs) (hgd : Gd W H cs) :
    Calls Tryd.prog 16 #[.agg #[.int .i64 W, .int .i64 H, v]] w fun e w' => e = .returned (.string ⟨(txt W cs).toArray⟩) ∧ Below w.heap.size w w' := by
  obtain ⟨a0, c0, rfl⟩ := hv.val
  have HV : Hid _ := hv
  have hle := hgd.le
  have HGD : Hid _ := hgd
  have hw1 := hgd.w1
  have hw8 := hgd.w8
  have hh1 := hgd.h1
  have hh8 := hgd.h8
  obtain ⟨Wn, hWn⟩ := Int.eq_ofNat_of_zero_le (show 0 ≤ W by omega)
  obtain ⟨Hn, hHn⟩ := Int.eq_ofNat_of_zero_le (show 0 ≤ H by omega)
  subst hWn hHn
  clear hv hgd
  go_enter Tryd.func16, Tryd.ntmps16
  go_wp2_with fail
  obtain ⟨w3, hw3⟩ : ∃ w3, w3 = (w.alloc (.cells #[.int .i64 Wn, .int .i64 Hn, .slice a0 cs.length c0] 24)) := ⟨_, rfl⟩
  have B3 : Hid (Below w.heap.size w w3) := by rw [hw3]; exact balloc (Below.refl _ _) _
  have P3 : Hid (Box3 w3 w.heap.size Wn Hn (.slice a0 cs.length c0)) := by rw [hw3]; exact box3_start w Wn Hn _
  rw [← hw3]
  clear hw3
  go_loopw [8, 3] (fun z out wr => ∃ y : Nat, z = .int .i64 y ∧ y ≤ Hn ∧ out = .string ⟨(rw_ Wn cs y 0).toArray⟩ ∧ Below w3.heap.size w3 wr) (fun z _ _ => Hn - (intOf z).toNat)
  case atStart => exact ⟨0, rfl, Nat.zero_le _, by simp [rw_zero, pm], Below.refl _ _⟩
  case round =>
    obtain ⟨y, rfl, hy, rfl, hb⟩ := hrel
    have HB : Hid (Below w3.heap.size w3 wr) := hb
    clear hb
    by_cases hlt : y < Hn
    · have hyi : (y : Int) < (Hn : Int) := by omega
      obtain ⟨p0, p1, p2⟩ := P3.out.below HB.out
      go_wp2_with fail
      clear p0 p1 p2
      go_loopw [13, 3] (fun z out ws => ∃ x : Nat, z = .int .i64 x ∧ x ≤ Wn ∧ out = .string ⟨(rw_ Wn cs y x).toArray⟩ ∧ Below w3.heap.size w3 ws) (fun z _ _ => Wn - (intOf z).toNat)
      case atStart => exact ⟨0, rfl, Nat.zero_le _, rfl, HB.out⟩
      case round =>
        obtain ⟨x, rfl, hx, rfl, hb⟩ := hrel
        have HS : Hid (Below w3.heap.size w3 wr) := hb
        clear hb
        by_cases hlx : x < Wn
        · have hxi : (x : Int) < (Wn : Int) := by omega
          have hcb := cl_bounds HGD.out x y
          have HSL : Hid (SlI wr (.slice a0 cs.length c0) cs) := (HV.out.below B3.out).below HS.out
          have HCA : Hid (∀ w', Below wr.heap.size wr w' → Calls Tryd.prog 25 #[.agg #[.int .i64 Wn, .int .i64 Hn, .slice a0 cs.length c0], .int .i64 x, .int .i64 y] w' fun e w'' => e = .returned (.int .i64 (cl cs Wn Hn x y)) ∧ Below w'.heap.size w' w'') := fun w' hb => cell_any Wn Hn (.slice a0 cs.length c0) cs x y w' (HSL.out.below hb) HGD.out
          have KP : Hid (∀ w', Below wr.heap.size wr w' → w'.cell? ⟨w.heap.size, 0, none⟩ = some (.int .i64 Wn) ∧ w'.cell? ⟨w.heap.size, 1, none⟩ = some (.int .i64 Hn) ∧ w'.cell? ⟨w.heap.size, 2, none⟩ = some (.slice a0 cs.length c0)) := fun w' hb => ⟨kept hb (P3.out.below HS.out).g0, kept hb (P3.out.below HS.out).g1, kept hb (P3.out.below HS.out).g2⟩
          have HCC : Hid (cl cs Wn Hn x y = cs.getD (y * Wn + x) 0) := by
            unfold Hid
            rw [cl_at (by omega)]
            rw [show (y : Int) * (Wn : Int) + (x : Int) = ((y * Wn + x : Nat) : Int) by simp, Int.toNat_natCast]
          obtain ⟨c, hc⟩ : ∃ c, cl cs Wn Hn x y = c := ⟨_, rfl⟩
          rw [hc] at hcb HCA HCC
          clear hc
          obtain ⟨hc0, hc9⟩ := hcb
          obtain ⟨m, rfl⟩ := Int.eq_ofNat_of_zero_le hc0
          have hm9 : m ≤ 9 := by omega
          have hcl1 : (m : Int) + 1 ≤ 10 := by omega
          have hwrap : IntKind.i64.wrap ((m : Int) + 1) = (m : Int) + 1 := by rw [IntKind.wrap_i64]; omega
          have hsl := cut_sign m hm9
          have hsl2 := hsl
          rw [← hwrap] at hsl2
          clear hwrap
          have hln := rw_length Wn cs y x
          have hmul : y * Wn ≤ 8 * 8 := Nat.mul_le_mul (by omega) (by omega)
          have hadd : ∀ w', (Op.stringOp .add { data := (rw_ Wn cs y x).toArray } { data := #[sg m] }).run Tryd.prog w' = .ok (.string ⟨(rw_ Wn cs y (x + 1)).toArray⟩) w' := fun w' => by
            rw [rw_succ, Int.toNat_natCast, ← HCC.out]
            rw [Int.toNat_natCast] at hln
            exact run_string_add_lists w' (rw_ Wn cs y x) [sg m] (by omega) (by simp)
          clear hln hmul
          obtain ⟨p0, p1, p2⟩ := P3.out.below HS.out
          go_wp2_with fail
          go_region_held3 (fun w' => w'.cell? ⟨w.heap.size, 0, none⟩ = some (.int .i64 Wn) ∧ w'.cell? ⟨w.heap.size, 1, none⟩ = some (.int .i64 Hn) ∧ w'.cell? ⟨w.heap.size, 2, none⟩ = some (.slice a0 cs.length c0)) (first | go_keep | exact KP.out _ BB.out)
            (first
             | (go_at_call 25; refine (HCA.out _ ?_).mono ?_; (first | exact Below.drew (Below.refl _ _) | exact BB.out); rintro e w4 ⟨rfl, b4⟩; have BB : Hid (Below wr.heap.size wr w4) := (by first | exact bthen (Below.drew (Below.refl _ _)) b4 | exact bthen BB.out b4))
             | fail)
          all_goals
            go_wp2_with fail
            go_roundw
            case rel => exact ⟨x + 1, by go_num, by omega, rfl, bthen HS.out BB.out⟩
            case measure => simp [intOf]; omega
        · have hxe : x = Wn := by omega
          subst hxe
          have hln := rw_length x cs y x
          have hmul : y * x ≤ 8 * 8 := Nat.mul_le_mul (by omega) (by omega)
          have hadd : ∀ w', (Op.stringOp .add { data := (rw_ x cs y x).toArray } { data := #[10] }).run Tryd.prog w' = .ok (.string ⟨(rw_ x cs (y + 1) 0).toArray⟩) w' := fun w' => by
            have := rw_row (W := (x : Int)) hw1 cs y
            rw [Int.toNat_natCast] at this
            rw [← this]
            rw [Int.toNat_natCast] at hln
            exact run_string_add_lists w' (rw_ x cs y x) [10] (by omega) (by simp)
          clear hln hmul
          go_wp2_with fail
          go_roundw
          case rel => exact ⟨y + 1, by go_num, by omega, rfl, HS.out⟩
          case measure => simp [intOf]; omega
    · have hye : y = Hn := by omega
      subst hye
      have HT : Hid _ := rw_all hw1 hh1 HGD.out.len
      rw [Int.toNat_natCast] at HT
      go_wp2_with fail
      go_ret
      exact ⟨by rw [HT.out]; rfl, bthen B3.out HB.out⟩
end Go.Proofs.YteediekpljjbpaaDoor
