/-
  The law HeurMarks.
-/
import Derived.Test.YtkbebdanpgaehaaEK
import Derived.Test.YtkbebdanpgaehaaOpenN
namespace Go.Proofs.Ytkbebdanpgaehaa.HMarks
open Go.RowKit
open Nm Wm Dm

set_option maxRecDepth 100000 in
set_option maxHeartbeats 16000000 in
theorem walk_no (n : Int) (v u : Value) (es : List E) (p : List Int) (w : World) (hv : SlE w v es) (hu : SlI w u p) (hlen : es.length ≤ 9223372036854775807) (hl : p.length ≤ 9223372036854775807) (hc : mrk n es p ≠ 0) :
    Calls Try.prog 4 #[.agg #[.int .i64 n, v], u] w fun e w' => e = .returned (.bool true) ∧ Below w.heap.size w w' := by
  obtain ⟨a0, c0, rfl⟩ := hv.val
  obtain ⟨a1, c1, rfl⟩ := hu.val
  have HV : Hid _ := hv
  have HU : Hid _ := hu
  have HC : Hid _ := hc
  obtain ⟨k1, hk1⟩ : ∃ k, mrk n es p = k := ⟨_, rfl⟩
  have HK : Hid _ := hk1
  have z3 : (k1 == k1) = true := by simp
  clear hc hk1
  clear hv hu
  go_enter Try.func4, Try.ntmps4
  go_wp2_with fail
  have P0 : Hid _ := box2_new w n (.slice a0 es.length c0) 24
  have B0 : Hid (Below w.heap.size w (w.alloc (.cells #[.int .i64 n, .slice a0 es.length c0] 24))) := balloc (Below.refl _ _) _
  generalize w.alloc (.cells #[.int .i64 n, .slice a0 es.length c0] 24) = W0 at *
  refine (marks_no n _ _ es p W0 (HV.out.below B0.out) (HU.out.below B0.out) hlen hl HC.out).mono ?_
  rintro e w1 ⟨rfl, b1⟩
  rw [HK.out]
  have P1 : Hid _ := (P0.out.below b1).below (balloc (Below.refl _ _) (.cells #[.slice none 0 0, .slice none 0 0] 31))
  have B1 : Hid (Below w.heap.size w (w1.alloc (.cells #[.slice none 0 0, .slice none 0 0] 31))) := balloc (bthen B0.out b1) _
  have T1 : Hid _ := bt_new w1 (.slice none 0 0) (.slice none 0 0)
  clear b1 P0 B0
  obtain ⟨p0, p1⟩ := P1.out
  go_wp2_with fail
  clear p0 p1
  generalize w1.alloc (.cells #[.slice none 0 0, .slice none 0 0] 31) = W1 at *
  refine (rmarks_no n _ _ es p W1 (HV.out.below B1.out) (HU.out.below B1.out) hlen hl HC.out).mono ?_
  rintro e w2 ⟨rfl, b2⟩
  rw [HK.out]
  have T2 : Hid _ := (T1.out.below b2).below (balloc (Below.refl _ _) (.cells #[.slice none 0 0, .slice none 0 0] 31))
  have B2 : Hid (Below w.heap.size w (w2.alloc (.cells #[.slice none 0 0, .slice none 0 0] 31))) := balloc (bthen B1.out b2) _
  have S2 : Hid _ := bt_new w2 (.slice none 0 0) (.slice none 0 0)
  clear b2 P1 B1 T1
  obtain ⟨q0, q1⟩ := T2.out.cell
  obtain ⟨r0, r1⟩ := S2.out.cell
  go_wp2_with fail
  clear q0 q1 r0 r1
  generalize w2.alloc (.cells #[.slice none 0 0, .slice none 0 0] 31) = W2 at *
  refine (sameRows_yes _ _ [] W2 (.no none 0 rfl rfl) (.no none 0 rfl rfl) (by simp) (fun i hi => absurd hi (by simp))).mono ?_
  rintro e w3 ⟨rfl, b3⟩
  have T3 : Hid _ := T2.out.below b3
  have S3 : Hid _ := S2.out.below b3
  have B3 : Hid (Below w.heap.size w w3) := bthen B2.out b3
  clear b3
  obtain ⟨q0, q1⟩ := T3.out.cell
  obtain ⟨r0, r1⟩ := S3.out.cell
  go_wp2_with fail
  clear q0 q1 r0 r1
  refine (sameRows_yes _ _ [] w3 (.no none 0 rfl rfl) (.no none 0 rfl rfl) (by simp) (fun i hi => absurd hi (by simp))).mono ?_
  rintro e w4 ⟨rfl, b4⟩
  have B4 : Hid (Below w.heap.size w w4) := bthen B3.out b4
  clear b4
  go_wp2_with fail
  go_ret
  exact ⟨rfl, B4.out⟩
set_option maxRecDepth 100000 in
set_option maxHeartbeats 16000000 in
theorem walk_yes (N : Nat) (v u : Value) (es : List E) (p : List Int) (w : World) (hv : SlE w v es) (hu : SlI w u p) (hlen : es.length ≤ 9223372036854775807) (hl : p.length ≤ 9223372036854775807) (hc : mrk N es p = 0) :
    Calls Try.prog 4 #[.agg #[.int .i64 N, v], u] w fun e w' => e = .returned (.bool true) ∧ Below w.heap.size w w' := by
  obtain ⟨a0, c0, rfl⟩ := hv.val
  obtain ⟨a1, c1, rfl⟩ := hu.val
  have HV : Hid _ := hv
  have HU : Hid _ := hu
  have HC : Hid _ := hc
  obtain ⟨M, hM, hp, hnp, hp4, hpl⟩ := mrk_good hc
  obtain rfl : N = M := by omega
  have hn64 := hp.n64
  clear hc hM hp hnp hpl
  have HLF : Hid (∀ i, i < (frw N es p).length → ((frw N es p).getD i []).length ≤ 64) := fun i hi => by rw [frw_length] at hi; rw [frw_at hi, lst_length]; exact hn64
  have HLT : Hid (∀ i, i < (trw N es p).length → ((trw N es p).getD i []).length ≤ 64) := fun i hi => by rw [trw_length] at hi; rw [trw_at hi, lst_length]; exact hn64
  have hlf : (frw N es p).length ≤ 64 := by rw [frw_length]; omega
  have hlt : (trw N es p).length ≤ 64 := by rw [trw_length]; omega
  clear hv hu
  go_enter Try.func4, Try.ntmps4
  go_wp2_with fail
  have P0 : Hid _ := box2_new w (N : Int) (.slice a0 es.length c0) 24
  have B0 : Hid (Below w.heap.size w (w.alloc (.cells #[.int .i64 N, .slice a0 es.length c0] 24))) := balloc (Below.refl _ _) _
  generalize w.alloc (.cells #[.int .i64 N, .slice a0 es.length c0] 24) = W0 at *
  refine (marks_yes N _ _ es p W0 (HV.out.below B0.out) (HU.out.below B0.out) hlen hl HC.out).mono ?_
  rintro e w1 ⟨vF, vT, rfl, sF, sT, b1⟩
  have R2X : Hid _ := fun w2 hv hu => rmarks_yes N (.slice a0 es.length c0) (.slice a1 p.length c1) es p w2 hv hu hlen hl HC.out
  generalize frw N es p = rF at *
  generalize trw N es p = rT at *
  obtain ⟨aF, cF, rfl⟩ := sF.val
  obtain ⟨aT, cT, rfl⟩ := sT.val
  have SF1 : Hid _ := sF.below (balloc (Below.refl _ _) (.cells #[.slice aF rF.length cF, .slice aT rT.length cT] 31))
  have ST1 : Hid _ := sT.below (balloc (Below.refl _ _) (.cells #[.slice aF rF.length cF, .slice aT rT.length cT] 31))
  have P1 : Hid _ := (P0.out.below b1).below (balloc (Below.refl _ _) (.cells #[.slice aF rF.length cF, .slice aT rT.length cT] 31))
  have B1 : Hid (Below w.heap.size w (w1.alloc (.cells #[.slice aF rF.length cF, .slice aT rT.length cT] 31))) := balloc (bthen B0.out b1) _
  have T1 : Hid _ := bt_new w1 (.slice aF rF.length cF) (.slice aT rT.length cT)
  clear b1 P0 B0 sF sT
  obtain ⟨p0, p1⟩ := P1.out
  go_wp2_with fail
  clear p0 p1
  generalize w1.alloc (.cells #[.slice aF rF.length cF, .slice aT rT.length cT] 31) = W1 at *
  refine (R2X.out W1 (HV.out.below B1.out) (HU.out.below B1.out)).mono ?_
  rintro e w2 ⟨vF, vT, rfl, sF, sT, b2⟩
  obtain ⟨aF', cF', rfl⟩ := sF.val
  obtain ⟨aT', cT', rfl⟩ := sT.val
  have SF2 : Hid _ := sF.below (balloc (Below.refl _ _) (.cells #[.slice aF' rF.length cF', .slice aT' rT.length cT'] 31))
  have ST2 : Hid _ := sT.below (balloc (Below.refl _ _) (.cells #[.slice aF' rF.length cF', .slice aT' rT.length cT'] 31))
  have SF1' : Hid _ := (SF1.out.below b2).below (balloc (Below.refl _ _) (.cells #[.slice aF' rF.length cF', .slice aT' rT.length cT'] 31))
  have ST1' : Hid _ := (ST1.out.below b2).below (balloc (Below.refl _ _) (.cells #[.slice aF' rF.length cF', .slice aT' rT.length cT'] 31))
  have T2 : Hid _ := (T1.out.below b2).below (balloc (Below.refl _ _) (.cells #[.slice aF' rF.length cF', .slice aT' rT.length cT'] 31))
  have B2 : Hid (Below w.heap.size w (w2.alloc (.cells #[.slice aF' rF.length cF', .slice aT' rT.length cT'] 31))) := balloc (bthen B1.out b2) _
  have S2 : Hid _ := bt_new w2 (.slice aF' rF.length cF') (.slice aT' rT.length cT')
  clear b2 P1 B1 T1 sF sT SF1 ST1 R2X
  obtain ⟨q0, q1⟩ := T2.out.cell
  obtain ⟨r0, r1⟩ := S2.out.cell
  go_wp2_with fail
  clear q0 q1 r0 r1
  generalize w2.alloc (.cells #[.slice aF' rF.length cF', .slice aT' rT.length cT'] 31) = W2 at *
  refine (sameRows_yes _ _ rF W2 SF1'.out SF2.out hlf HLF.out).mono ?_
  rintro e w3 ⟨rfl, b3⟩
  have T3 : Hid _ := T2.out.below b3
  have S3 : Hid _ := S2.out.below b3
  have X1 : Hid _ := ST1'.out.below b3
  have X2 : Hid _ := ST2.out.below b3
  have B3 : Hid (Below w.heap.size w w3) := bthen B2.out b3
  clear b3
  obtain ⟨q0, q1⟩ := T3.out.cell
  obtain ⟨r0, r1⟩ := S3.out.cell
  go_wp2_with fail
  clear q0 q1 r0 r1
  refine (sameRows_yes _ _ rT w3 X1.out X2.out hlt HLT.out).mono ?_
  rintro e w4 ⟨rfl, b4⟩
  have B4 : Hid (Below w.heap.size w w4) := bthen B3.out b4
  clear b4
  go_wp2_with fail
  go_ret
  exact ⟨rfl, B4.out⟩
theorem walk (n : Int) (v u : Value) (es : List E) (p : List Int) (w : World) (hv : SlE w v es) (hu : SlI w u p) (hlen : es.length ≤ 9223372036854775807) (hl : p.length ≤ 9223372036854775807) :
    Calls Try.prog 4 #[.agg #[.int .i64 n, v], u] w fun e w' => e = .returned (.bool true) ∧ Below w.heap.size w w' := by
  by_cases hc : mrk n es p = 0
  · obtain ⟨M, rfl, _⟩ := mrk_good hc
    exact walk_yes M v u es p w hv hu hlen hl hc
  · exact walk_no n v u es p w hv hu hlen hl hc
end Go.Proofs.Ytkbebdanpgaehaa.HMarks
