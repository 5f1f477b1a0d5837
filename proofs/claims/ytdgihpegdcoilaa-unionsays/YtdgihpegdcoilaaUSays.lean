/-
  The walk of the law felllaw.UnionSays: it returns true, and writes nothing that was there.
-/
import Derived.Test.YtdgihpegdcoilaaUE
import Derived.Test.YtdgihpegdcoilaaUG
import Derived.ProofKit
import Derived.OpenShut
import Derived.Lib.SmallJoins
namespace Go.Proofs.Ytdgihpegdcoilaa.Un.Says
open Go.ChangeShapes Go.WideShapes Go.ChangeAt Go.RowKit Go.Joins
open Uf

set_option maxRecDepth 100000 in
set_option maxHeartbeats 8000000 in
theorem walk_no (n : Int) (v : Value) (ls : List (Int × Int)) (w : World) (hv : SlR w v ls) (hlen : ls.length ≤ 8796093022208) (hc : chk n ls ≠ 0) :
    Calls Try.prog 3 #[.int .i64 n, v] w fun e w' => e = .returned (.bool true) ∧ Below w.heap.size w w' := by
  obtain ⟨a, c, rfl⟩ := hv.val
  have HV : Hid _ := hv
  clear hv
  have hz : (chk n ls != 0) = true := by simp [hc]
  have HC : Hid (chk n ls ≠ 0) := hc
  clear hc
  go_enter Try.func3, Try.ntmps3
  go_wp2_with fail
  refine (of_no n _ ls w HV.out hlen HC.out).mono ?_
  rintro e w1 ⟨rfl, b1⟩
  have HV1 : Hid _ := HV.out.below b1
  have HB1 : Hid (Below w.heap.size w w1) := b1
  clear b1
  go_wp2_with fail
  refine (many_no n _ ls w1 HV1.out hlen HC.out).mono ?_
  rintro e w2 ⟨rfl, b2⟩
  have HV2 : Hid _ := HV1.out.below b2
  have HB2 : Hid (Below w.heap.size w w2) := bthen HB1.out b2
  clear b2
  go_wp2_with fail
  refine (pairs_any n _ ls w2 HV2.out hlen).mono ?_
  rintro e w3 ⟨rfl, b3⟩
  have HB3 : Hid (Below w.heap.size w w3) := bthen HB2.out b3
  clear b3
  go_wp2_with fail
  go_ret
  exact ⟨rfl, HB3.out⟩

set_option maxRecDepth 100000 in
set_option maxHeartbeats 8000000 in
theorem walk_yes (n : Nat) (v : Value) (ls : List (Int × Int)) (w : World) (hv : SlR w v ls) (hc : chk n ls = 0) :
    Calls Try.prog 3 #[.int .i64 n, v] w fun e w' => e = .returned (.bool true) ∧ Below w.heap.size w w' := by
  obtain ⟨a, c, rfl⟩ := hv.val
  have HV : Hid _ := hv
  clear hv
  obtain ⟨-, hn, hl, hok⟩ := chk_zero hc
  have hn' : n ≤ 64 := by omega
  rw [Int.toNat_natCast] at hok
  have HR : Hid _ := rnd_grp hok
  have HO : Hid (Ok n ls) := hok
  have HC : Hid (chk n ls = 0) := hc
  clear hc hok
  have hml : many n (grp ls) ≤ 64 := Nat.le_trans (many_le _ _) hn'
  go_enter Try.func3, Try.ntmps3
  go_wp2_with fail
  refine (of_yes n _ ls w HV.out HC.out).mono ?_
  rintro e w1 ⟨g, rfl, hg, r1, b1⟩
  have HU1 : Hid _ := r1
  have HV1 : Hid _ := HV.out.below b1
  have HB1 : Hid (Below w.heap.size w w1) := b1
  clear b1 r1
  go_wp2_with fail
  refine (many_yes n _ ls w1 HV1.out HC.out).mono ?_
  rintro e w2 ⟨rfl, b2⟩
  have HU2 : Hid _ := HU1.out.below b2
  have HV2 : Hid _ := HV1.out.below b2
  have HB2 : Hid (Below w.heap.size w w2) := bthen HB1.out b2
  clear b2
  go_wp2_with fail
  refine (pairs_any n _ ls w2 HV2.out (by omega)).mono ?_
  rintro e w3 ⟨rfl, b3⟩
  rw [HC.out]
  have HU3 : Hid _ := HU2.out.below b3
  have HV3 : Hid _ := HV2.out.below b3
  have HB3 : Hid (Below w.heap.size w w3) := bthen HB2.out b3
  clear b3
  go_wp2_with fail
  refine (groups_any n _ ls w3 HV3.out hn' hl HO.out).mono ?_
  rintro e w4 ⟨h, rfl, hh, r4, b4⟩
  have HR4 : Hid (Ur w4 h n (grp ls)) := r4.congr HR.out
  have HU4 : Hid _ := HU3.out.below b4
  have HB4 : Hid (Below w.heap.size w w4) := bthen HB3.out b4
  clear r4 b4 HV HV1 HV2 HV3 HB1 HB2 HB3 HU1 HU2 HU3
  go_wp2_with fail
  go_loopw [53, 11] (fun x y wr => ∃ k : Nat, x = .int .i64 k ∧ k ≤ n ∧ y = .int .i64 (cnt (fun x => x == grp ls x) k : Nat) ∧ wr = w4) (fun x _ _ => n - (intOf x).toNat)
  case atStart => exact ⟨0, rfl, Nat.zero_le _, rfl, rfl⟩
  case round =>
    obtain ⟨k, rfl, hk, rfl, rfl⟩ := hrel
    have hle := cnt_le (fun x => x == grp ls x) k
    by_cases hlt : k < n
    · have hki : (k : Int) < (n : Int) := by omega
      obtain ⟨c0, -⟩ := HR4.out.cell k hlt
      have HS : Hid _ := cnt_succ (fun x => x == grp ls x) k
      generalize cnt (fun x => x == grp ls x) k = m at *
      obtain ⟨p, hp⟩ : ∃ p, grp ls k = p := ⟨_, rfl⟩
      rw [hp] at c0 HS
      clear hp
      by_cases e : k = p
      · subst e
        simp only [beq_self_eq_true, if_true] at HS
        go_wp2_with fail
        go_roundw
        case rel => exact ⟨k + 1, by go_num, by omega, by rw [HS.out]; go_num, trivial⟩
        case measure => simp [intOf]; omega
      · have e1 : ((k : Int) == (p : Int)) = false := by simp; omega
        have e2 : (k == p) = false := by simp [e]
        rw [e2] at HS
        go_wp2_with fail
        go_roundw
        case rel => exact ⟨k + 1, by go_num, by omega, by rw [HS.out]; rfl, trivial⟩
        case measure => simp [intOf]; omega
    · have hke : k = n := by omega
      subst hke
      clear hle
      have HM : Hid (many k (grp ls) = cnt (fun x => x == grp ls x) k) := rfl
      generalize many k (grp ls) = m1 at *
      go_wp2_with fail
      refine (equal_yes g h k k k _ _ wr HU4.out HR4.out hn' (fun _ _ => rfl)).mono ?_
      rintro e w5 ⟨rfl, q, rfl⟩
      rw [← HM.out]
      go_wp2_with fail
      go_ret
      exact ⟨rfl, bdrewN HB4.out q⟩

theorem walk (n : Int) (v : Value) (ls : List (Int × Int)) (w : World) (hv : SlR w v ls) (hlen : ls.length ≤ 8796093022208) :
    Calls Try.prog 3 #[.int .i64 n, v] w fun e w' => e = .returned (.bool true) ∧ Below w.heap.size w w' := by
  by_cases hc : chk n ls = 0
  · obtain ⟨m, rfl⟩ := Int.eq_ofNat_of_zero_le (chk_zero hc).1
    exact walk_yes m v ls w hv hc
  · exact walk_no n v ls w hv hlen hc

end Go.Proofs.Ytdgihpegdcoilaa.Un.Says
