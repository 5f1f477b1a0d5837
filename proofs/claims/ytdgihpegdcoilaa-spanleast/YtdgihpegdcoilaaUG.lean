/-
  Contracts: slices.Equal of numbers that are the same; the document's groups.
-/
import Derived.Test.YtdgihpegdcoilaaUD
namespace Go.Proofs.Ytdgihpegdcoilaa.Un
open Go.RowKit
open Uf

set_option maxRecDepth 100000 in
set_option maxHeartbeats 4000000 in
theorem equal_yes (g h n c c' : Nat) (U V : Nat → Nat) (w : World) (hu : Ur w g n U) (hv : Ur w h n V) (hn : n ≤ 64) (he : ∀ i, i < n → U i = V i) :
    Calls Try.prog 16 #[.slice (some ⟨g, 0, none⟩) n c, .slice (some ⟨h, 0, none⟩) n c'] w fun e w' => e = .returned (.bool true) ∧ ∃ q, w' = w.drewN q := by
  have HU : Hid _ := hu
  have HV : Hid _ := hv
  have HE : Hid _ := he
  clear hu hv he
  go_enter Try.func16, Try.ntmps16
  go_wp2_with fail
  go_loopw [13] (fun x wr => ∃ k : Nat, x = .int .i64 k ∧ k ≤ n ∧ ∃ q, wr = w.drewN q) (fun x _ => n - (intOf x).toNat)
  case atStart => exact ⟨0, rfl, Nat.zero_le _, 0, rfl⟩
  case round =>
    obtain ⟨k, rfl, hk, q, rfl⟩ := hrel
    by_cases hlt : k < n
    · have hki : (k : Int) < (n : Int) := by omega
      obtain ⟨c0, -⟩ := HU.out.cell k hlt
      obtain ⟨c1, -⟩ := HV.out.cell k hlt
      rw [← HE.out k hlt] at c1
      generalize U k = x at *
      go_wp2_with fail
      go_quiet (fail)
      go_wp2
      go_roundw
      case rel => exact ⟨k + 1, by go_num, by omega, q + nq, rfl⟩
      case measure => simp [intOf]; omega
    · have hke : k = n := by omega
      subst hke
      go_wp2_with fail
      go_ret
      exact ⟨rfl, q, rfl⟩

theorem pass_take (ls : List (Int × Int)) (O : Nat → Nat) (k : Nat) (h : k < ls.length) : pass (ls.take (k + 1)) O = ps (pass (ls.take k) O) (at' ls k).1.toNat (at' ls k).2.toNat := by
  rw [take_succ_at ls k h, pass_snoc]

theorem ur_pass {w : World} {g n x y m : Nat} {O : Nat → Nat} (h : Ur w g n O) (hm : m = min (O x) (O y)) : Ur ((w.setCell ⟨g, x, none⟩ (.int .i64 m)).setCell ⟨g, y, none⟩ (.int .i64 m)) g n (ps O x y) := by
  subst hm
  exact (h.put x _).put y _

/-- Behind the making of a box for one pair. -/
theorem boxed {w0 w W : World} {g n X : Nat} {U : Nat → Nat} {x y : Int} (hW : W = w.alloc (.cells #[.int .i64 x, .int .i64 y] 43)) (hX : X = w.heap.size) (hu : Ur w g n U) (hb : Below w0.heap.size w0 w) :
    W.cell? ⟨X, 0, none⟩ = some (.int .i64 x) ∧ W.cell? ⟨X, 1, none⟩ = some (.int .i64 y) ∧ Ur W g n U ∧ Below w0.heap.size w0 W ∧ g ≠ X := by
  subst hW hX
  have hn := heap_alloc_new w (.cells #[.int .i64 x, .int .i64 y] 43)
  refine ⟨by unfold World.cell?; rw [hn]; rfl, by unfold World.cell?; rw [hn]; rfl, hu.below (balloc (Below.refl _ _) _), balloc hb _, ?_⟩
  have := hu.lt
  omega

set_option maxRecDepth 100000 in
set_option maxHeartbeats 8000000 in
theorem groups_any (n : Nat) (v : Value) (ls : List (Int × Int)) (w : World) (hv : SlR w v ls) (hn : n ≤ 64) (hl : ls.length ≤ 600) (hok : Ok n ls) :
    Calls Try.prog 15 #[.int .i64 n, v] w fun e w' => ∃ g, e = .returned (.slice (some ⟨g, 0, none⟩) n n) ∧ w.heap.size ≤ g ∧ Ur w' g n (rnd ls n) ∧ Below w.heap.size w w' := by
  obtain ⟨a0, c0, rfl⟩ := hv.val
  have HV : Hid _ := hv
  have HO : Hid (Ok n ls) := hok
  clear hv hok
  have hmk := made_run n hn
  go_enter Try.func15, Try.ntmps15
  go_wp2_with fail
  go_loopw [14] (fun x wr => ∃ k : Nat, x = .int .i64 k ∧ k ≤ n ∧ ∃ V, Ur wr w.heap.size n V ∧ (∀ i, i < k → V i = i) ∧ Below w.heap.size w wr) (fun x _ => n - (intOf x).toNat)
  case atStart => exact ⟨0, rfl, Nat.zero_le _, fun _ => 0, ⟨by rw [heap_alloc_new]; rfl⟩, fun i hi => absurd hi (by omega), balloc (Below.refl _ _) _⟩
  case round =>
    obtain ⟨k, rfl, hk, V, hv, hid, hb⟩ := hrel
    have HU : Hid _ := hv
    have HD : Hid _ := hid
    have HB : Hid (Below w.heap.size w wr) := hb
    by_cases hlt : k < n
    · have hki : (k : Int) < (n : Int) := by omega
      obtain ⟨c0, f0⟩ := hv.cell k hlt
      clear hv hid hb
      go_wp2_with fail
      go_roundw
      case rel =>
        refine ⟨k + 1, by go_num, by omega, _, HU.out.put k k, fun i hi => ?_, Below.setCell HB.out (Nat.le_refl _) _⟩
        by_cases e : i = k
        · subst e; rw [upd_same]
        · rw [upd_other _ _ e]; exact HD.out i (by omega)
      case measure => simp [intOf]; omega
    · have hke : k = n := by omega
      subst hke
      have HU0 : Hid (Ur wr w.heap.size k id) := HU.out.congr HD.out
      clear hv hid hb
      obtain ⟨g, hg⟩ : ∃ g, g = w.heap.size := ⟨_, rfl⟩
      rw [← hg]
      rw [← hg] at HU0
      have hgle : w.heap.size ≤ g := by omega
      clear hg hmk HU HD
      go_wp2_with fail
      go_loopw [23] (fun x wr => ∃ r : Nat, x = .int .i64 r ∧ r ≤ k ∧ Ur wr g k (rnd ls r) ∧ Below w.heap.size w wr) (fun x _ => k - (intOf x).toNat)
      case atStart => exact ⟨0, rfl, Nat.zero_le _, HU0.out, HB.out⟩
      case round =>
        obtain ⟨r, rfl, hr, hu, hb⟩ := hrel
        have HU : Hid _ := hu
        have HB : Hid (Below w.heap.size w wr) := hb
        clear hu hb
        by_cases hlt2 : r < k
        · have hri : (r : Int) < (k : Int) := by omega
          go_wp2_with fail
          go_loopw [27] (fun x wr => ∃ j : Nat, x = .int .i64 j ∧ j ≤ ls.length ∧ Ur wr g k (pass (ls.take j) (rnd ls r)) ∧ Below w.heap.size w wr) (fun x _ => ls.length - (intOf x).toNat)
          case atStart => exact ⟨0, rfl, Nat.zero_le _, HU.out, HB.out⟩
          case round =>
            obtain ⟨j, rfl, hj, hu, hb⟩ := hrel
            have HU : Hid _ := hu
            have HB : Hid (Below w.heap.size w wr) := hb
            clear hu hb
            by_cases hlt3 : j < ls.length
            · have hji : (j : Int) < (ls.length : Int) := by omega
              obtain ⟨b, off, cap, hveq, hc⟩ := (HV.out.below HB.out).some' (by omega)
              simp only [Value.slice.injEq] at hveq
              obtain ⟨rfl, -, rfl⟩ := hveq
              obtain ⟨d0, d1⟩ := hc j hlt3
              clear hc
              have hin := HO.out _ (at_mem ls j hlt3)
              have HG : Hid _ := pass_take ls (rnd ls r) j hlt3
              obtain ⟨p, hp⟩ : ∃ x, at' ls j = x := ⟨_, rfl⟩
              rw [hp] at d0 d1 hin HG
              obtain ⟨x, y⟩ := p
              simp only at d0 d1 hin HG
              obtain ⟨x, rfl⟩ := Int.eq_ofNat_of_zero_le hin.1
              obtain ⟨y, rfl⟩ := Int.eq_ofNat_of_zero_le hin.2.2.1
              rw [Int.toNat_natCast, Int.toNat_natCast] at HG
              have hxn : x < k := by omega
              have hyn : y < k := by omega
              have hxi : (x : Int) < (k : Int) := by omega
              have hyi : (y : Int) < (k : Int) := by omega
              clear hp hin
              go_wp2_with fail
              obtain ⟨W, hW⟩ : ∃ W, W = wr.alloc (.cells #[.int .i64 x, .int .i64 y] 43) := ⟨_, rfl⟩
              obtain ⟨X, hXs⟩ : ∃ X, X = wr.heap.size := ⟨_, rfl⟩
              rw [← hW, ← hXs]
              obtain ⟨e0, e1, wu, wb, gX⟩ := boxed hW hXs HU.out HB.out
              obtain ⟨c0, f0⟩ := wu.cell x hxn
              obtain ⟨c1, f1⟩ := wu.cell y hyn
              have HE : Hid (∀ m : Nat, m = min (pass (ls.take j) (rnd ls r) x) (pass (ls.take j) (rnd ls r) y) → Ur ((W.setCell ⟨g, x, none⟩ (.int .i64 m)).setCell ⟨g, y, none⟩ (.int .i64 m)) g k (pass (ls.take (j + 1)) (rnd ls r))) := fun m hm => by
                rw [HG.out]; exact ur_pass wu hm
              have WB : Hid (Below w.heap.size w W) := wb
              generalize pass (ls.take j) (rnd ls r) x = p at *
              generalize pass (ls.take j) (rnd ls r) y = q at *
              clear hW hXs wu wb HU HB HG
              rcases (show p < q ∨ q < p ∨ p = q by omega) with h | h | h
              · have h1 : (p : Int) < (q : Int) := by omega
                have h2 : ¬ ((q : Int) < (p : Int)) := by omega
                have hxy : x ≠ y := by
                  rintro rfl
                  rw [c0] at c1
                  simp at c1
                  omega
                have hxy' : y ≠ x := fun e => hxy e.symm
                go_region
                go_wp2_with fail
                go_region
                go_wp2_with fail
                go_roundw
                case rel => exact ⟨j + 1, by go_num, by omega, ⟨(HE.out p (by omega)).block⟩, Below.drew (Below.drew (Below.setCell (Below.setCell WB.out (by exact hgle) _) (by exact hgle) _))⟩
                case measure => simp [intOf]; omega
              · have h1 : ¬ ((p : Int) < (q : Int)) := by omega
                have h2 : (q : Int) < (p : Int) := by omega
                have hxy : x ≠ y := by
                  rintro rfl
                  rw [c0] at c1
                  simp at c1
                  omega
                have hxy' : y ≠ x := fun e => hxy e.symm
                go_region
                go_wp2_with fail
                go_region
                go_wp2_with fail
                go_roundw
                case rel => exact ⟨j + 1, by go_num, by omega, ⟨(HE.out q (by omega)).block⟩, Below.drew (Below.drew (Below.setCell (Below.setCell WB.out (by exact hgle) _) (by exact hgle) _))⟩
                case measure => simp [intOf]; omega
              · subst h
                by_cases hxy : x = y
                · subst hxy
                  go_region
                  go_wp2_with fail
                  go_region
                  go_wp2_with fail
                  go_roundw
                  case rel => exact ⟨j + 1, by go_num, by omega, ⟨(HE.out p (by omega)).block⟩, Below.drew (Below.drew (Below.setCell (Below.setCell WB.out (by exact hgle) _) (by exact hgle) _))⟩
                  case measure => simp [intOf]; omega
                · have hxy' : y ≠ x := fun e => hxy e.symm
                  go_region
                  go_wp2_with fail
                  go_region
                  go_wp2_with fail
                  go_roundw
                  case rel => exact ⟨j + 1, by go_num, by omega, ⟨(HE.out p (by omega)).block⟩, Below.drew (Below.drew (Below.setCell (Below.setCell WB.out (by exact hgle) _) (by exact hgle) _))⟩
                  case measure => simp [intOf]; omega
            · have hje : j = ls.length := by omega
              subst hje
              rw [List.take_length] at HU
              go_wp2_with fail
              go_roundw
              case rel => exact ⟨r + 1, by go_num, by omega, HU.out, HB.out⟩
              case measure => simp [intOf]; omega
        · have hre : r = k := by omega
          subst hre
          go_wp2_with fail
          go_ret
          exact ⟨g, rfl, hgle, HU.out, HB.out⟩
end Go.Proofs.Ytdgihpegdcoilaa.Un
