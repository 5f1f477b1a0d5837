/-
  The walk of the law felllaw.GridMoves: it returns true, and writes nothing that was there.
-/
import Derived.Test.YtpikbnolbjaebaaDoorDB
import Derived.Test.YtpikbnolbjaebaaDoorDE
import Derived.Test.YtpikbnolbjaebaaDoorDF
namespace Go.Proofs.YtpikbnolbjaebaaDoor.GMoves
open Go.RowKit
open Gm

set_option maxRecDepth 100000 in
set_option maxHeartbeats 8000000 in
theorem walk_bad (W H n : Int) (v : Value) (cs : List Int) (w : World) (hv : SlI w v cs) (hlen : cs.length ≤ 9223372036854775807) (hc : gchk W H cs ≠ 0) :
    Calls Tryd.prog 3 #[.agg #[.int .i64 W, .int .i64 H, v], .int .i64 n] w fun e w' => e = .returned (.bool true) ∧ Below w.heap.size w w' := by
  obtain ⟨a, c, rfl⟩ := hv.val
  have HV : Hid _ := hv
  have hz : (gchk W H cs != 0) = true := by simp [hc]
  have hz' : (gchk W H cs == 0) = false := by simp [hc]
  have HC : Hid (gchk W H cs ≠ 0) := hc
  clear hv hc
  go_enter Tryd.func3, Tryd.ntmps3
  go_wp2_with fail
  have P0 : Hid _ := box3_start w W H (.slice a cs.length c)
  have B0 : Hid (Below w.heap.size w (w.alloc (.cells #[.int .i64 W, .int .i64 H, .slice a cs.length c] 24))) := balloc (Below.refl _ _) _
  generalize w.alloc (.cells #[.int .i64 W, .int .i64 H, .slice a cs.length c] 24) = W0 at *
  refine (moves_bad W H n _ cs W0 (HV.out.below B0.out) hlen HC.out).mono ?_
  rintro e w1 ⟨rfl, b1⟩
  have P1 : Hid _ := P0.out.below b1
  have B1 : Hid (Below w.heap.size w w1) := bthen B0.out b1
  obtain ⟨p0, p1, p2⟩ := P1.out
  clear b1
  go_wp2_with fail
  refine (rgrid_any W H _ cs w1 (HV.out.below B1.out) hlen).mono ?_
  rintro e w2 ⟨rfl, b2⟩
  have P2 : Hid _ := P1.out.below b2
  have B2 : Hid (Below w.heap.size w w2) := bthen B1.out b2
  clear b2 p0 p1 p2
  obtain ⟨p0, p1, p2⟩ := P2.out
  go_wp2_with fail
  refine (gcheck_any W H _ cs w2 (HV.out.below B2.out) hlen).mono ?_
  rintro e w3 ⟨rfl, b3⟩
  have P3 : Hid _ := P2.out.below b3
  have B3 : Hid (Below w.heap.size w w3) := bthen B2.out b3
  clear b3 p0 p1 p2
  obtain ⟨p0, p1, p2⟩ := P3.out
  go_wp2_with fail
  go_ret
  exact ⟨rfl, B3.out⟩

set_option maxRecDepth 100000 in
set_option maxHeartbeats 8000000 in
theorem walk_at (W H n : Int) (v : Value) (cs : List Int) (w : World) (hv : SlI w v cs) (hc : gchk W H cs = 0) (ha : n < 0 ∨ (cs.length : Int) ≤ n) :
    Calls Tryd.prog 3 #[.agg #[.int .i64 W, .int .i64 H, v], .int .i64 n] w fun e w' => e = .returned (.bool true) ∧ Below w.heap.size w w' := by
  obtain ⟨a, c, rfl⟩ := hv.val
  have HV : Hid _ := hv
  have HC : Hid (gchk W H cs = 0) := hc
  have hle := (gchk_zero hc).le
  have HA : Hid _ := ha
  have hlen : cs.length ≤ 9223372036854775807 := by omega
  clear hv hc ha
  go_enter Tryd.func3, Tryd.ntmps3
  go_wp2_with fail
  have P0 : Hid _ := box3_start w W H (.slice a cs.length c)
  have B0 : Hid (Below w.heap.size w (w.alloc (.cells #[.int .i64 W, .int .i64 H, .slice a cs.length c] 24))) := balloc (Below.refl _ _) _
  generalize w.alloc (.cells #[.int .i64 W, .int .i64 H, .slice a cs.length c] 24) = W0 at *
  refine (moves_at W H n _ cs W0 (HV.out.below B0.out) HC.out HA.out).mono ?_
  rintro e w1 ⟨rfl, b1⟩
  have P1 : Hid _ := P0.out.below b1
  have B1 : Hid (Below w.heap.size w w1) := bthen B0.out b1
  obtain ⟨p0, p1, p2⟩ := P1.out
  clear b1
  go_wp2_with fail
  refine (rgrid_any W H _ cs w1 (HV.out.below B1.out) hlen).mono ?_
  rintro e w2 ⟨rfl, b2⟩
  have P2 : Hid _ := P1.out.below b2
  have B2 : Hid (Below w.heap.size w w2) := bthen B1.out b2
  clear b2 p0 p1 p2
  obtain ⟨p0, p1, p2⟩ := P2.out
  rw [HC.out]
  go_wp2_with fail
  refine (gcheck_any W H _ cs w2 (HV.out.below B2.out) hlen).mono ?_
  rintro e w3 ⟨rfl, b3⟩
  have P3 : Hid _ := P2.out.below b3
  have B3 : Hid (Below w.heap.size w w3) := bthen B2.out b3
  clear b3 p0 p1 p2
  obtain ⟨p0, p1, p2⟩ := P3.out
  rw [HC.out]
  by_cases h0 : n < 0
  · go_wp2_with fail
    go_ret
    exact ⟨rfl, B3.out⟩
  · have h1 : (cs.length : Int) ≤ n := by have := HA.out; omega
    go_wp2_with fail
    go_ret
    exact ⟨rfl, B3.out⟩

set_option maxRecDepth 100000 in
set_option maxHeartbeats 8000000 in
theorem walk_yes (W H : Int) (n : Nat) (v : Value) (cs : List Int) (w : World) (hv : SlI w v cs) (hc : gchk W H cs = 0) (ha : n < cs.length) (hs : Steps w) :
    Calls Tryd.prog 3 #[.agg #[.int .i64 W, .int .i64 H, v], .int .i64 n] w fun e w' => e = .returned (.bool true) ∧ Below w.heap.size w w' := by
  obtain ⟨a, c, rfl⟩ := hv.val
  have HV : Hid _ := hv
  have HC : Hid (gchk W H cs = 0) := hc
  have HGD : Hid _ := gchk_zero hc
  have HS : Hid _ := hs
  have hle := (gchk_zero hc).le
  have hlen : cs.length ≤ 9223372036854775807 := by omega
  have hni : (n : Int) < (cs.length : Int) := by omega
  clear hv hc hs
  go_enter Tryd.func3, Tryd.ntmps3
  go_wp2_with fail
  have P0 : Hid _ := box3_start w W H (.slice a cs.length c)
  have B0 : Hid (Below w.heap.size w (w.alloc (.cells #[.int .i64 W, .int .i64 H, .slice a cs.length c] 24))) := balloc (Below.refl _ _) _
  generalize w.alloc (.cells #[.int .i64 W, .int .i64 H, .slice a cs.length c] 24) = W0 at *
  refine (moves_yes W H n _ cs W0 (HV.out.below B0.out) HC.out ha (HS.out.below B0.out)).mono ?_
  rintro e w1 ⟨u, rfl, es1, b1⟩
  have E1 : Hid _ := es1.sl
  have P1 : Hid _ := P0.out.below b1
  have B1 : Hid (Below w.heap.size w w1) := bthen B0.out b1
  obtain ⟨au, cu, rfl⟩ := E1.out.val
  obtain ⟨p0, p1, p2⟩ := P1.out
  have hml : (moves (cl cs W H) W ((n : Int) % W) ((n : Int) / W)).length ≤ 8 := rls_length (cl cs W H) W _ _ 8
  obtain ⟨es, hes⟩ : ∃ es, moves (cl cs W H) W ((n : Int) % W) ((n : Int) / W) = es := ⟨_, rfl⟩
  rw [hes] at E1 hml ⊢
  have HES : Hid _ := hes
  clear b1 es1 hes
  go_wp2_with fail
  refine (rgrid_any W H _ cs w1 (HV.out.below B1.out) hlen).mono ?_
  rintro e w2 ⟨rfl, b2⟩
  have P2 : Hid _ := P1.out.below b2
  have E2 : Hid _ := E1.out.below b2
  have B2 : Hid (Below w.heap.size w w2) := bthen B1.out b2
  clear b2 p0 p1 p2
  obtain ⟨p0, p1, p2⟩ := P2.out
  rw [HC.out]
  go_wp2_with fail
  refine (gcheck_any W H _ cs w2 (HV.out.below B2.out) hlen).mono ?_
  rintro e w3 ⟨rfl, b3⟩
  have P3 : Hid _ := P2.out.below b3
  have E3 : Hid _ := E2.out.below b3
  have B3 : Hid (Below w.heap.size w w3) := bthen B2.out b3
  clear b3 p0 p1 p2
  obtain ⟨p0, p1, p2⟩ := P3.out
  rw [HC.out]
  go_wp2_with fail
  refine (rmoves_xy W H _ _ n _ cs w3 (HV.out.below B3.out) HGD.out ha rfl rfl).mono ?_
  rintro e w4 ⟨u4, rfl, es4, b4⟩
  rw [HES.out] at es4
  have F4 : Hid _ := es4.sl
  have E4 : Hid _ := E3.out.below b4
  have B4 : Hid (Below w.heap.size w w4) := bthen B3.out b4
  obtain ⟨a4, c4, rfl⟩ := F4.out.val
  clear b4 es4 p0 p1 p2
  go_wp2_with fail
  refine (eequal_yes _ _ es w4 E4.out F4.out (by omega)).mono ?_
  rintro e w5 ⟨rfl, q, rfl⟩
  go_wp2_with fail
  go_ret
  exact ⟨rfl, bdrewN B4.out q⟩

theorem walk (W H n : Int) (v : Value) (cs : List Int) (w : World) (hv : SlI w v cs) (hlen : cs.length ≤ 9223372036854775807) (hs : Steps w) :
    Calls Tryd.prog 3 #[.agg #[.int .i64 W, .int .i64 H, v], .int .i64 n] w fun e w' => e = .returned (.bool true) ∧ Below w.heap.size w w' := by
  by_cases hc : gchk W H cs = 0
  · by_cases ha : n < 0 ∨ (cs.length : Int) ≤ n
    · exact walk_at W H n v cs w hv hc ha
    · obtain ⟨m, rfl⟩ := Int.eq_ofNat_of_zero_le (show 0 ≤ n by omega)
      exact walk_yes W H m v cs w hv hc (by omega) hs
  · exact walk_bad W H n v cs w hv hlen hc
end Go.Proofs.YtpikbnolbjaebaaDoor.GMoves
