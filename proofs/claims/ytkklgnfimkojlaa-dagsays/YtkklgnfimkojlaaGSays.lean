/-
  The law felllaw.DagSays, walked.
-/
import Derived.Test.YtkklgnfimkojlaaKN
import Derived.Test.YtkklgnfimkojlaaKR
import Derived.Test.YtkklgnfimkojlaaKL
import Derived.Test.YtkklgnfimkojlaaNB
import Derived.Test.YtkklgnfimkojlaaIE
namespace Go.Proofs.Ytkklgnfimkojlaa.GSays
open Go.RowKit
open Nm Wm Dm Bm Fm Fl Km
attribute [local go_sem ↓] Go.wp_at_zero Go.wp_at_succ

set_option maxRecDepth 100000 in
set_option maxHeartbeats 8000000 in
theorem walk_net (n : Int) (v : Value) (es : List E) (w : World) (hv : SlE w v es) (hlen : es.length ≤ 9223372036854775807) (hc : nck n es ≠ 0) :
    Calls Try.prog 4 #[.agg #[.int .i64 n, v]] w fun e w' => e = .returned (.bool true) ∧ Below w.heap.size w w' := by
  obtain ⟨a0, c0, rfl⟩ := hv.val
  have HV : Hid _ := hv
  have HC : Hid _ := hc
  obtain ⟨k1, hk1⟩ : ∃ k, nck n es = k := ⟨_, rfl⟩
  have HK : Hid _ := hk1
  have HD : Hid (∀ W, SlE W (.slice a0 es.length c0) es → Calls Try.prog 17 #[.agg #[.int .i64 n, .slice a0 es.length c0]] W fun e w' => e = .returned (.tuple #[.slice none 0 0, .int .i64 k1]) ∧ Below W.heap.size W w') := fun W hW => by rw [← hk1]; exact dord_net n _ es W hW hlen hc
  have hk0 : k1 ≠ 0 := by rw [← hk1]; exact hc
  have HKZ : Hid _ := hk0
  have z1 : (k1 == 0) = false := by simp [hk0]
  have z3 : (k1 == k1) = true := by simp
  have z4 : (k1 != 0) = true := by simp [hk0]
  clear hv hc hk1 hk0
  go_enter Try.func4, Try.ntmps4
  go_wp2_with fail
  have P0 : Hid _ := box2_new w (n : Int) (.slice a0 es.length c0) 24
  have B0 : Hid (Below w.heap.size w (w.alloc (.cells #[.int .i64 n, .slice a0 es.length c0] 24))) := balloc (Below.refl _ _) _
  generalize w.alloc (.cells #[.int .i64 n, .slice a0 es.length c0] 24) = W0 at *
  refine (HD.out W0 (HV.out.below B0.out)).mono ?_
  rintro e w1 ⟨rfl, b1⟩
  have P1 : Hid _ := P0.out.below b1
  have B1 : Hid (Below w.heap.size w w1) := bthen B0.out b1
  obtain ⟨p0, p1⟩ := P1.out
  clear b1 P0 B0
  go_wp2_with fail
  clear p0 p1
  refine (dlong_no n k1 _ es w1 HKZ.out HD.out (HV.out.below B1.out)).mono ?_
  rintro e w2 ⟨rfl, b2⟩
  have P2 : Hid _ := P1.out.below b2
  have B2 : Hid (Below w.heap.size w w2) := bthen B1.out b2
  obtain ⟨p0, p1⟩ := P2.out
  clear b2 P1 B1
  go_wp2_with fail
  clear p0 p1
  refine (rnet_any n _ es w2 (HV.out.below B2.out) hlen).mono ?_
  rintro e w3 ⟨rfl, b3⟩
  rw [HK.out]
  have B3 : Hid (Below w.heap.size w w3) := bthen B2.out b3
  clear b3
  go_wp2_with fail
  go_ret
  exact ⟨rfl, B3.out⟩
set_option maxRecDepth 100000 in
set_option maxHeartbeats 8000000 in
theorem walk_no (N : Nat) (v : Value) (es : List E) (w : World) (hv : SlE w v es) (hb : Rnt N es) (ho : ¬ okd N es) :
    Calls Try.prog 4 #[.agg #[.int .i64 N, v]] w fun e w' => e = .returned (.bool true) ∧ Below w.heap.size w w' := by
  obtain ⟨a0, c0, rfl⟩ := hv.val
  have HV : Hid _ := hv
  have HB : Hid _ := hb
  have HC : Hid _ := hb.nck
  have hn64 := hb.n64
  have hlen : es.length ≤ 9223372036854775807 := by have := hb.len; omega
  have HDG : Hid _ := (lds_fwb hb.inn).dag hb.inn
  have HOK : Hid _ := ho
  have HD : Hid (∀ W, SlE W (.slice a0 es.length c0) es → Calls Try.prog 17 #[.agg #[.int .i64 N, .slice a0 es.length c0]] W fun e w' => e = .returned (.tuple #[.slice none 0 0, .int .i64 6]) ∧ Below W.heap.size W w') := fun W hW => (dord N _ es W hW hb).mono (by
    rintro e w' ⟨⟨h1, _⟩ | ⟨_, h1⟩, h3⟩
    · exact absurd h1 ho
    · exact ⟨h1, h3⟩)
  have HDL : Hid ((ord (le1 es) (List.range N)).length < N) := Classical.byContradiction fun h => ho (HDG.out.2 h)
  clear hv hb ho
  go_enter Try.func4, Try.ntmps4
  go_wp2_with fail
  have P0 : Hid _ := box2_new w (N : Int) (.slice a0 es.length c0) 24
  have B0 : Hid (Below w.heap.size w (w.alloc (.cells #[.int .i64 N, .slice a0 es.length c0] 24))) := balloc (Below.refl _ _) _
  generalize w.alloc (.cells #[.int .i64 N, .slice a0 es.length c0] 24) = W0 at *
  refine (HD.out W0 (HV.out.below B0.out)).mono ?_
  rintro e w1 ⟨rfl, b1⟩
  have P1 : Hid _ := P0.out.below b1
  have B1 : Hid (Below w.heap.size w w1) := bthen B0.out b1
  obtain ⟨p0, p1⟩ := P1.out
  clear b1 P0 B0
  go_wp2_with fail
  clear p0 p1
  refine (dlong_no N 6 _ es w1 (by decide) HD.out (HV.out.below B1.out)).mono ?_
  rintro e w2 ⟨rfl, b2⟩
  have P2 : Hid _ := P1.out.below b2
  have B2 : Hid (Below w.heap.size w w2) := bthen B1.out b2
  obtain ⟨p0, p1⟩ := P2.out
  clear b2 P1 B1
  go_wp2_with fail
  clear p0 p1
  refine (rnet_any N _ es w2 (HV.out.below B2.out) hlen).mono ?_
  rintro e w3 ⟨rfl, b3⟩
  rw [HC.out]
  have P3 : Hid _ := P2.out.below b3
  have B3 : Hid (Below w.heap.size w w3) := bthen B2.out b3
  obtain ⟨p0, p1⟩ := P3.out
  clear b3 P2 B2
  go_wp2_with fail
  clear p0 p1
  refine (rorder N _ es w3 (HV.out.below B3.out) HB.out).mono ?_
  rintro e w4 ⟨hor, b4⟩
  have B4 : Hid (Below w.heap.size w w4) := bthen B3.out b4
  rcases hor with ⟨_, rfl⟩ | ⟨h, _⟩
  · clear b4
    go_wp2_with fail
    go_ret
    exact ⟨rfl, B4.out⟩
  · exact absurd HDL.out h
set_option maxRecDepth 100000 in
set_option maxHeartbeats 8000000 in
theorem walk_yes (N : Nat) (v : Value) (es : List E) (w : World) (hv : SlE w v es) (hb : Rnt N es) (ho : okd N es) :
    Calls Try.prog 4 #[.agg #[.int .i64 N, v]] w fun e w' => e = .returned (.bool true) ∧ Below w.heap.size w w' := by
  obtain ⟨a0, c0, rfl⟩ := hv.val
  have HV : Hid _ := hv
  have HB : Hid _ := hb
  have HC : Hid _ := hb.nck
  have hn64 := hb.n64
  have hlen : es.length ≤ 9223372036854775807 := by have := hb.len; omega
  have HDG : Hid _ := (lds_fwb hb.inn).dag hb.inn
  have HOK : Hid _ := ho
  have HD : Hid (∀ W, SlE W (.slice a0 es.length c0) es → Calls Try.prog 17 #[.agg #[.int .i64 N, .slice a0 es.length c0]] W fun e w' => ∃ ov, e = .returned (.tuple #[ov, .int .i64 0]) ∧ Is w' W.heap.size ov (ints (ordk N es)) ∧ Below W.heap.size W w') := fun W hW => (dord N _ es W hW hb).mono (by
    rintro e w' ⟨⟨_, ov, h1, h2⟩ | ⟨h1, _⟩, h3⟩
    · exact ⟨ov, h1, h2, h3⟩
    · exact absurd ho h1)
  have HDL : Hid (¬ (ord (le1 es) (List.range N)).length < N) := HDG.out.1 ho
  have HEQ : Hid (ordk N es = ord (le1 es) (List.range N)) := (okd_acy ho).ord hb.inn
  have HFW : Hid _ := (lds_fwb hb.inn).fwd hb.inn (okd_acy ho)
  have HLG : Hid (lst N (mo es (ordk N es) (ordk N es).length) = lst N (fun x => -(spr (neg es) (fun _ => 0) (N - 1) x))) := lst_congr (fun x hx => HFW.out.long hb x hx)
  have HLO : Hid ((ints (ordk N es)).length ≤ 9223372036854775807) := by
    unfold Hid; rw [ints_length, HEQ.out]; have := ord_len (le1 es) (List.range N); rw [List.length_range] at this; omega
  clear hv hb ho
  go_enter Try.func4, Try.ntmps4
  go_wp2_with fail
  have P0 : Hid _ := box2_new w (N : Int) (.slice a0 es.length c0) 24
  have B0 : Hid (Below w.heap.size w (w.alloc (.cells #[.int .i64 N, .slice a0 es.length c0] 24))) := balloc (Below.refl _ _) _
  generalize w.alloc (.cells #[.int .i64 N, .slice a0 es.length c0] 24) = W0 at *
  refine (HD.out W0 (HV.out.below B0.out)).mono ?_
  rintro e w1 ⟨ov, rfl, i1, b1⟩
  have I1 : Hid _ := i1.sl
  have P1 : Hid _ := P0.out.below b1
  have B1 : Hid (Below w.heap.size w w1) := bthen B0.out b1
  obtain ⟨p0, p1⟩ := P1.out
  clear i1 b1 P0 B0
  obtain ⟨ao, co, rfl⟩ := I1.out.val
  go_wp2_with fail
  clear p0 p1
  refine (dlong_yes N _ es w1 (HV.out.below B1.out) HB.out HOK.out).mono ?_
  rintro e w2 ⟨G, rfl, u2, -, b2⟩
  have I2 : Hid _ := I1.out.below b2
  have U2 : Hid _ := u2.sl
  have P2 : Hid _ := P1.out.below b2
  have B2 : Hid (Below w.heap.size w w2) := bthen B1.out b2
  obtain ⟨p0, p1⟩ := P2.out
  clear b2 u2 P1 B1 I1
  go_wp2_with fail
  clear p0 p1
  refine (rnet_any N _ es w2 (HV.out.below B2.out) hlen).mono ?_
  rintro e w3 ⟨rfl, b3⟩
  rw [HC.out]
  have I3 : Hid _ := I2.out.below b3
  have U3 : Hid _ := U2.out.below b3
  have P3 : Hid _ := P2.out.below b3
  have B3 : Hid (Below w.heap.size w w3) := bthen B2.out b3
  obtain ⟨p0, p1⟩ := P3.out
  clear b3 P2 B2 U2 I2
  go_wp2_with fail
  clear p0 p1
  refine (rorder N _ es w3 (HV.out.below B3.out) HB.out).mono ?_
  rintro e w4 ⟨hor, b4⟩
  have I4 : Hid _ := I3.out.below b4
  have U4 : Hid _ := U3.out.below b4
  have P4 : Hid _ := P3.out.below b4
  have B4 : Hid (Below w.heap.size w w4) := bthen B3.out b4
  obtain ⟨p0, p1⟩ := P4.out
  clear b4 P3 B3 U3 I3
  rcases hor with ⟨h, _⟩ | ⟨_, dv, rfl, i4⟩
  · exact absurd h HDL.out
  · have J4 : Hid _ := i4.sl
    rw [← HEQ.out] at J4
    clear i4
    obtain ⟨ad, cd, rfl⟩ := J4.out.val
    go_wp2_with fail
    clear p0 p1
    refine (iequal_yes _ _ _ w4 I4.out J4.out HLO.out).mono ?_
    rintro e w5 ⟨rfl, b5⟩
    have U5 : Hid _ := U4.out.below b5
    have P5 : Hid _ := P4.out.below b5
    have B5 : Hid (Below w.heap.size w w5) := bthen B4.out b5
    obtain ⟨p0, p1⟩ := P5.out
    clear b5 P4 B4 U4 I4 J4
    go_wp2_with fail
    clear p0 p1
    refine (rlong N _ es w5 (HV.out.below B5.out) HB.out).mono ?_
    rintro e w6 ⟨b6, cp6, rfl, r6, bb6⟩
    have U6 : Hid _ := U5.out.below bb6
    have J6 : Hid (SlI w6 (.slice (some ⟨b6, 0, none⟩) N cp6) (lst N (mo es (ordk N es) (ordk N es).length))) := by
      rw [HLG.out]
      have := (r6.is (base := 0) (Nat.zero_le _)).sl
      rw [lst_length] at this
      exact this
    have B6 : Hid (Below w.heap.size w w6) := bthen B5.out bb6
    clear bb6 r6 B5 U5 P5
    go_wp2_with fail
    refine (iequal_yes _ _ _ w6 U6.out J6.out (by rw [lst_length]; omega)).mono ?_
    rintro e w7 ⟨rfl, b7⟩
    have B7 : Hid (Below w.heap.size w w7) := bthen B6.out b7
    clear b7
    go_wp2_with fail
    go_ret
    exact ⟨rfl, B7.out⟩
theorem walk (n : Int) (v : Value) (es : List E) (w : World) (hv : SlE w v es) (hlen : es.length ≤ 9223372036854775807) :
    Calls Try.prog 4 #[.agg #[.int .i64 n, v]] w fun e w' => e = .returned (.bool true) ∧ Below w.heap.size w w' := by
  by_cases hc : nck n es = 0
  · obtain ⟨hb, hn⟩ := bn_of hc
    rw [← hn]
    by_cases ho : okd n.toNat es
    · exact walk_yes n.toNat v es w hv hb ho
    · exact walk_no n.toNat v es w hv hb ho
  · exact walk_net n v es w hv hlen hc
end Go.Proofs.Ytkklgnfimkojlaa.GSays
