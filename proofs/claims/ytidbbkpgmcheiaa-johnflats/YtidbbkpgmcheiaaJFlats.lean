/-
  The law felllaw.JohnFlats, walked.
-/
import Derived.Test.YtidbbkpgmcheiaaJC
import Derived.Test.YtidbbkpgmcheiaaSN
import Derived.Test.YtidbbkpgmcheiaaNB
import Derived.Test.YtidbbkpgmcheiaaWD
namespace Go.Proofs.Ytidbbkpgmcheiaa.JFlats
open Go.RowKit
open Nm Wm Dm Bm Jm
attribute [local go_sem ↓] Go.wp_at_zero Go.wp_at_succ

theorem hgt_mm {hs : List Int} (h0 : 0 < hs.length) : hgt hs = true ↔ ¬ mn hs hs.length < -1000000 ∧ ¬ 1000000 < mx hs hs.length := by
  constructor
  · intro h
    obtain ⟨i, hi, h1⟩ := mn_at hs hs.length (Nat.le_refl _) h0
    obtain ⟨j, hj, h2⟩ := mx_at hs hs.length (Nat.le_refl _) h0
    have := hgt_at h hi
    have := hgt_at h hj
    omega
  · rintro ⟨h1, h2⟩
    refine hgt_yes (fun i hi => ?_)
    have := mn_le (p := hs) (k := hs.length) hi
    have := mx_ge (p := hs) (k := hs.length) hi
    omega

set_option maxRecDepth 100000 in
set_option maxHeartbeats 8000000 in
theorem walk_net (n : Int) (v u : Value) (es : List E) (hs : List Int) (w : World) (hv : SlE w v es) (hu : SlI w u hs) (hlen : es.length ≤ 9223372036854775807) (hc : nck n es ≠ 0) :
    Calls Try.prog 6 #[.agg #[.int .i64 n, v], u] w fun e w' => e = .returned (.bool true) ∧ Below w.heap.size w w' := by
  obtain ⟨a0, c0, rfl⟩ := hv.val
  obtain ⟨a1, c1, rfl⟩ := hu.val
  have HV : Hid _ := hv
  have HU : Hid _ := hu
  have HC : Hid _ := hc
  obtain ⟨k1, hk1⟩ : ∃ k, nck n es = k := ⟨_, rfl⟩
  have HK : Hid _ := hk1
  have z1 : (k1 == 0) = false := by rw [← hk1]; simp [hc]
  have z2 : (k1 != 0) = true := by rw [← hk1]; simp [hc]
  have z3 : (k1 == k1) = true := by simp
  clear hv hu hc hk1
  go_enter Try.func6, Try.ntmps6
  go_wp2_with fail
  have P0 : Hid _ := box2_new w (n : Int) (.slice a0 es.length c0) 24
  have B0 : Hid (Below w.heap.size w (w.alloc (.cells #[.int .i64 n, .slice a0 es.length c0] 24))) := balloc (Below.refl _ _) _
  generalize w.alloc (.cells #[.int .i64 n, .slice a0 es.length c0] 24) = W0 at *
  refine (flat_net n _ _ es hs W0 (HV.out.below B0.out) (HU.out.below B0.out) hlen HC.out).mono ?_
  rintro e w1 ⟨rfl, b1⟩
  have P1 : Hid _ := (P0.out.below b1).below (balloc (Below.refl _ _) (.cells #[.int .i64 0, .slice none 0 0] 24))
  have B1 : Hid (Below w.heap.size w (w1.alloc (.cells #[.int .i64 0, .slice none 0 0] 24))) := balloc (bthen B0.out b1) _
  have N1 : Hid _ := bn_new w1 (.int .i64 0) (.slice none 0 0)
  obtain ⟨p0, p1⟩ := P1.out
  obtain ⟨n0, n1⟩ := N1.out.cell
  rw [HK.out]
  clear b1 P0 B0
  go_wp2_with fail
  clear p0 p1 n0 n1
  generalize w1.alloc (.cells #[.int .i64 0, .slice none 0 0] 24) = W1 at *
  obtain ⟨F, hF⟩ : ∃ F, w1.heap.size = F := ⟨_, rfl⟩
  rw [hF] at N1 ⊢
  clear hF
  refine (rnet_any n _ es W1 (HV.out.below B1.out) hlen).mono ?_
  rintro e w2 ⟨rfl, b2⟩
  rw [HK.out]
  have P2 : Hid _ := P1.out.below b2
  have B2 : Hid (Below w.heap.size w w2) := bthen B1.out b2
  have N2 : Hid _ := N1.out.below b2
  obtain ⟨p0, p1⟩ := P2.out
  clear b2 P1 B1 N1
  have P3 : Hid _ := P2.out.below (balloc (Below.refl _ _) (.cells #[.int .i64 n, .slice none 0 0] 24))
  have B3 : Hid (Below w.heap.size w (w2.alloc (.cells #[.int .i64 n, .slice none 0 0] 24))) := balloc B2.out _
  have N3 : Hid _ := N2.out.below (balloc (Below.refl _ _) (.cells #[.int .i64 n, .slice none 0 0] 24))
  clear P2 B2 N2
  go_wp2_with fail
  generalize w2.alloc (.cells #[.int .i64 n, .slice none 0 0] 24) = W3 at *
  clear p0 p1
  go_loopw [9, 7] (fun z q wr => z = .int .i64 0 ∧ q = .int .i64 k1 ∧ Below W3.heap.size W3 wr) (fun _ _ _ => 0)
  case atStart => exact ⟨rfl, rfl, Below.refl _ _⟩
  case round =>
    obtain ⟨rfl, rfl, hbr⟩ := hrel
    have HBR : Hid (Below W3.heap.size W3 wr) := hbr
    have P4 : Hid _ := P3.out.below hbr
    have N4 : Hid _ := N3.out.below hbr
    have B4 : Hid (Below w.heap.size w wr) := bthen B3.out hbr
    obtain ⟨p0, p1⟩ := P4.out
    obtain ⟨n0, n1⟩ := N4.out.cell
    clear hbr
    by_cases hl0 : (0 : Int) < (es.length : Int)
    · go_wp2_with fail
      refine (sameNet_yes 0 _ _ [] wr (.no none 0 rfl rfl) (.no none 0 rfl rfl) (by simp)).mono ?_
      rintro e w5 ⟨rfl, b5⟩
      have B5 : Hid (Below w.heap.size w w5) := bthen B4.out b5
      clear b5
      go_wp2_with fail
      go_ret
      exact ⟨rfl, B5.out⟩
    · go_wp2_with fail
      refine (sameNet_yes 0 _ _ [] wr (.no none 0 rfl rfl) (.no none 0 rfl rfl) (by simp)).mono ?_
      rintro e w5 ⟨rfl, b5⟩
      have B5 : Hid (Below w.heap.size w w5) := bthen B4.out b5
      clear b5
      go_wp2_with fail
      go_ret
      exact ⟨rfl, B5.out⟩
set_option maxRecDepth 100000 in
set_option maxHeartbeats 8000000 in
theorem walk_len (n : Int) (v u : Value) (es : List E) (hs : List Int) (w : World) (hv : SlE w v es) (hu : SlI w u hs) (hlen : es.length ≤ 9223372036854775807) (hc : nck n es = 0) (hn64 : n ≤ 64) (hh : ¬ (hs.length : Int) = n) :
    Calls Try.prog 6 #[.agg #[.int .i64 n, v], u] w fun e w' => e = .returned (.bool true) ∧ Below w.heap.size w w' := by
  obtain ⟨a0, c0, rfl⟩ := hv.val
  obtain ⟨a1, c1, rfl⟩ := hu.val
  have HV : Hid _ := hv
  have HU : Hid _ := hu
  have HC : Hid _ := hc
  have HH : Hid (¬ ((hs.length : Int) = n ∧ hgt hs = true)) := fun h => hh h.1
  clear hv hu hc
  have hh2 : ((hs.length : Int) != n) = true := by simp [hh]
  go_enter Try.func6, Try.ntmps6
  go_wp2_with fail
  have P0 : Hid _ := box2_new w (n : Int) (.slice a0 es.length c0) 24
  have B0 : Hid (Below w.heap.size w (w.alloc (.cells #[.int .i64 n, .slice a0 es.length c0] 24))) := balloc (Below.refl _ _) _
  generalize w.alloc (.cells #[.int .i64 n, .slice a0 es.length c0] 24) = W0 at *
  refine (flat_arg n _ _ es hs W0 (HV.out.below B0.out) (HU.out.below B0.out) hlen HC.out hn64 HH.out).mono ?_
  rintro e w1 ⟨rfl, b1⟩
  have P1 : Hid _ := (P0.out.below b1).below (balloc (Below.refl _ _) (.cells #[.int .i64 0, .slice none 0 0] 24))
  have B1 : Hid (Below w.heap.size w (w1.alloc (.cells #[.int .i64 0, .slice none 0 0] 24))) := balloc (bthen B0.out b1) _
  have N1 : Hid _ := bn_new w1 (.int .i64 0) (.slice none 0 0)
  obtain ⟨p0, p1⟩ := P1.out
  obtain ⟨n0, n1⟩ := N1.out.cell
  skip
  clear b1 P0 B0
  go_wp2_with fail
  clear p0 p1 n0 n1
  generalize w1.alloc (.cells #[.int .i64 0, .slice none 0 0] 24) = W1 at *
  obtain ⟨F, hF⟩ : ∃ F, w1.heap.size = F := ⟨_, rfl⟩
  rw [hF] at N1 ⊢
  clear hF
  refine (rnet_any n _ es W1 (HV.out.below B1.out) hlen).mono ?_
  rintro e w2 ⟨rfl, b2⟩
  rw [HC.out]
  have P2 : Hid _ := P1.out.below b2
  have B2 : Hid (Below w.heap.size w w2) := bthen B1.out b2
  have N2 : Hid _ := N1.out.below b2
  obtain ⟨p0, p1⟩ := P2.out
  clear b2 P1 B1 N1
  have P3 : Hid _ := P2.out.below (balloc (Below.refl _ _) (.cells #[.int .i64 n, .slice none 0 0] 24))
  have B3 : Hid (Below w.heap.size w (w2.alloc (.cells #[.int .i64 n, .slice none 0 0] 24))) := balloc B2.out _
  have N3 : Hid _ := N2.out.below (balloc (Below.refl _ _) (.cells #[.int .i64 n, .slice none 0 0] 24))
  clear P2 B2 N2
  go_wp2_with fail
  generalize w2.alloc (.cells #[.int .i64 n, .slice none 0 0] 24) = W3 at *
  clear p0 p1
  go_loopw [9, 7] (fun z q wr => z = .int .i64 0 ∧ q = .int .i64 1 ∧ Below W3.heap.size W3 wr) (fun _ _ _ => 0)
  case atStart => exact ⟨rfl, rfl, Below.refl _ _⟩
  case round =>
    obtain ⟨rfl, rfl, hbr⟩ := hrel
    have HBR : Hid (Below W3.heap.size W3 wr) := hbr
    have P4 : Hid _ := P3.out.below hbr
    have N4 : Hid _ := N3.out.below hbr
    have B4 : Hid (Below w.heap.size w wr) := bthen B3.out hbr
    obtain ⟨p0, p1⟩ := P4.out
    obtain ⟨n0, n1⟩ := N4.out.cell
    clear hbr
    by_cases hl0 : (0 : Int) < (es.length : Int)
    · go_wp2_with fail
      refine (sameNet_yes 0 _ _ [] wr (.no none 0 rfl rfl) (.no none 0 rfl rfl) (by simp)).mono ?_
      rintro e w5 ⟨rfl, b5⟩
      have B5 : Hid (Below w.heap.size w w5) := bthen B4.out b5
      clear b5
      go_wp2_with fail
      go_ret
      exact ⟨rfl, B5.out⟩
    · go_wp2_with fail
      refine (sameNet_yes 0 _ _ [] wr (.no none 0 rfl rfl) (.no none 0 rfl rfl) (by simp)).mono ?_
      rintro e w5 ⟨rfl, b5⟩
      have B5 : Hid (Below w.heap.size w w5) := bthen B4.out b5
      clear b5
      go_wp2_with fail
      go_ret
      exact ⟨rfl, B5.out⟩
set_option maxRecDepth 100000 in
set_option maxHeartbeats 8000000 in
theorem walk_min (N : Nat) (v u : Value) (es : List E) (hs : List Int) (w : World) (hv : SlE w v es) (hu : SlI w u hs) (hb : Rnt N es) (hn : hs.length = N) (hcase : mn hs hs.length < -1000000) :
    Calls Try.prog 6 #[.agg #[.int .i64 N, v], u] w fun e w' => e = .returned (.bool true) ∧ Below w.heap.size w w' := by
  obtain ⟨a0, c0, rfl⟩ := hv.val
  obtain ⟨a1, c1, rfl⟩ := hu.val
  have HV : Hid _ := hv
  have HU : Hid _ := hu
  subst hn
  have HC : Hid _ := hb.nck
  have hlen : es.length ≤ 9223372036854775807 := by have := hb.len; omega
  have hn64 := hb.n64
  have hl0' : 0 < hs.length := by have := hb.n1; omega
  have hl1' : hs.length ≤ 100 := by omega
  obtain ⟨m, hm⟩ : ∃ m, mn hs hs.length = m := ⟨_, rfl⟩
  obtain ⟨M, hM⟩ : ∃ M, mx hs hs.length = M := ⟨_, rfl⟩
  have HM : Hid _ := hm
  have HMX : Hid _ := hM
  have hiff := hgt_mm hl0'
  rw [hm, hM] at hiff
  rw [hm] at hcase
  have HH : Hid (¬ ((hs.length : Int) = (hs.length : Int) ∧ hgt hs = true)) := fun h => by
    have := hiff.1 h.2
    omega
  clear hv hu hm hM hiff hb
  go_enter Try.func6, Try.ntmps6
  go_wp2_with fail
  have P0 : Hid _ := box2_new w (hs.length : Int) (.slice a0 es.length c0) 24
  have B0 : Hid (Below w.heap.size w (w.alloc (.cells #[.int .i64 hs.length, .slice a0 es.length c0] 24))) := balloc (Below.refl _ _) _
  generalize w.alloc (.cells #[.int .i64 hs.length, .slice a0 es.length c0] 24) = W0 at *
  refine (flat_arg hs.length _ _ es hs W0 (HV.out.below B0.out) (HU.out.below B0.out) hlen HC.out (by omega) (fun h => HH.out ⟨trivial, h.2⟩)).mono ?_
  rintro e w1 ⟨rfl, b1⟩
  have P1 : Hid _ := (P0.out.below b1).below (balloc (Below.refl _ _) (.cells #[.int .i64 0, .slice none 0 0] 24))
  have B1 : Hid (Below w.heap.size w (w1.alloc (.cells #[.int .i64 0, .slice none 0 0] 24))) := balloc (bthen B0.out b1) _
  have N1 : Hid _ := bn_new w1 (.int .i64 0) (.slice none 0 0)
  obtain ⟨p0, p1⟩ := P1.out
  obtain ⟨n0, n1⟩ := N1.out.cell
  skip
  clear b1 P0 B0
  go_wp2_with fail
  clear p0 p1 n0 n1
  generalize w1.alloc (.cells #[.int .i64 0, .slice none 0 0] 24) = W1 at *
  obtain ⟨F, hF⟩ : ∃ F, w1.heap.size = F := ⟨_, rfl⟩
  rw [hF] at N1 ⊢
  clear hF
  refine (rnet_any hs.length _ es W1 (HV.out.below B1.out) hlen).mono ?_
  rintro e w2 ⟨rfl, b2⟩
  rw [HC.out]
  have P2 : Hid _ := P1.out.below b2
  have B2 : Hid (Below w.heap.size w w2) := bthen B1.out b2
  have N2 : Hid _ := N1.out.below b2
  obtain ⟨p0, p1⟩ := P2.out
  clear b2 P1 B1 N1
  go_wp2_with fail
  clear p0 p1
  refine (min_at hs _ m w2 (HU.out.below B2.out) hl0' hl1' HM.out).mono ?_
  rintro e w2d ⟨rfl, rfl⟩
  obtain ⟨p0, p1⟩ := P2.out
  have P3 : Hid _ := P2.out.below (balloc (Below.refl _ _) (.cells #[.int .i64 hs.length, .slice none 0 0] 24))
  have B3 : Hid (Below w.heap.size w (w2d.alloc (.cells #[.int .i64 hs.length, .slice none 0 0] 24))) := balloc B2.out _
  have N3 : Hid _ := N2.out.below (balloc (Below.refl _ _) (.cells #[.int .i64 hs.length, .slice none 0 0] 24))
  clear P2 B2 N2
  go_wp2_with fail
  generalize w2d.alloc (.cells #[.int .i64 hs.length, .slice none 0 0] 24) = W3 at *
  clear p0 p1
  go_loopw [9, 7] (fun z q wr => z = .int .i64 0 ∧ q = .int .i64 1 ∧ Below W3.heap.size W3 wr) (fun _ _ _ => 0)
  case atStart => exact ⟨rfl, rfl, Below.refl _ _⟩
  case round =>
    obtain ⟨rfl, rfl, hbr⟩ := hrel
    have HBR : Hid (Below W3.heap.size W3 wr) := hbr
    have P4 : Hid _ := P3.out.below hbr
    have N4 : Hid _ := N3.out.below hbr
    have B4 : Hid (Below w.heap.size w wr) := bthen B3.out hbr
    obtain ⟨p0, p1⟩ := P4.out
    obtain ⟨n0, n1⟩ := N4.out.cell
    clear hbr
    by_cases hl0 : (0 : Int) < (es.length : Int)
    · go_wp2_with fail
      refine (sameNet_yes 0 _ _ [] wr (.no none 0 rfl rfl) (.no none 0 rfl rfl) (by simp)).mono ?_
      rintro e w5 ⟨rfl, b5⟩
      have B5 : Hid (Below w.heap.size w w5) := bthen B4.out b5
      clear b5
      go_wp2_with fail
      go_ret
      exact ⟨rfl, B5.out⟩
    · go_wp2_with fail
      refine (sameNet_yes 0 _ _ [] wr (.no none 0 rfl rfl) (.no none 0 rfl rfl) (by simp)).mono ?_
      rintro e w5 ⟨rfl, b5⟩
      have B5 : Hid (Below w.heap.size w w5) := bthen B4.out b5
      clear b5
      go_wp2_with fail
      go_ret
      exact ⟨rfl, B5.out⟩
set_option maxRecDepth 100000 in
set_option maxHeartbeats 8000000 in
theorem walk_max (N : Nat) (v u : Value) (es : List E) (hs : List Int) (w : World) (hv : SlE w v es) (hu : SlI w u hs) (hb : Rnt N es) (hn : hs.length = N) (hcase : ¬ mn hs hs.length < -1000000) (hcase2 : 1000000 < mx hs hs.length) :
    Calls Try.prog 6 #[.agg #[.int .i64 N, v], u] w fun e w' => e = .returned (.bool true) ∧ Below w.heap.size w w' := by
  obtain ⟨a0, c0, rfl⟩ := hv.val
  obtain ⟨a1, c1, rfl⟩ := hu.val
  have HV : Hid _ := hv
  have HU : Hid _ := hu
  subst hn
  have HC : Hid _ := hb.nck
  have hlen : es.length ≤ 9223372036854775807 := by have := hb.len; omega
  have hn64 := hb.n64
  have hl0' : 0 < hs.length := by have := hb.n1; omega
  have hl1' : hs.length ≤ 100 := by omega
  obtain ⟨m, hm⟩ : ∃ m, mn hs hs.length = m := ⟨_, rfl⟩
  obtain ⟨M, hM⟩ : ∃ M, mx hs hs.length = M := ⟨_, rfl⟩
  have HM : Hid _ := hm
  have HMX : Hid _ := hM
  have hiff := hgt_mm hl0'
  rw [hm, hM] at hiff
  rw [hm] at hcase
  rw [hM] at hcase2
  have HH : Hid (¬ ((hs.length : Int) = (hs.length : Int) ∧ hgt hs = true)) := fun h => by
    have := hiff.1 h.2
    omega
  clear hv hu hm hM hiff hb
  go_enter Try.func6, Try.ntmps6
  go_wp2_with fail
  have P0 : Hid _ := box2_new w (hs.length : Int) (.slice a0 es.length c0) 24
  have B0 : Hid (Below w.heap.size w (w.alloc (.cells #[.int .i64 hs.length, .slice a0 es.length c0] 24))) := balloc (Below.refl _ _) _
  generalize w.alloc (.cells #[.int .i64 hs.length, .slice a0 es.length c0] 24) = W0 at *
  refine (flat_arg hs.length _ _ es hs W0 (HV.out.below B0.out) (HU.out.below B0.out) hlen HC.out (by omega) (fun h => HH.out ⟨trivial, h.2⟩)).mono ?_
  rintro e w1 ⟨rfl, b1⟩
  have P1 : Hid _ := (P0.out.below b1).below (balloc (Below.refl _ _) (.cells #[.int .i64 0, .slice none 0 0] 24))
  have B1 : Hid (Below w.heap.size w (w1.alloc (.cells #[.int .i64 0, .slice none 0 0] 24))) := balloc (bthen B0.out b1) _
  have N1 : Hid _ := bn_new w1 (.int .i64 0) (.slice none 0 0)
  obtain ⟨p0, p1⟩ := P1.out
  obtain ⟨n0, n1⟩ := N1.out.cell
  skip
  clear b1 P0 B0
  go_wp2_with fail
  clear p0 p1 n0 n1
  generalize w1.alloc (.cells #[.int .i64 0, .slice none 0 0] 24) = W1 at *
  obtain ⟨F, hF⟩ : ∃ F, w1.heap.size = F := ⟨_, rfl⟩
  rw [hF] at N1 ⊢
  clear hF
  refine (rnet_any hs.length _ es W1 (HV.out.below B1.out) hlen).mono ?_
  rintro e w2 ⟨rfl, b2⟩
  rw [HC.out]
  have P2 : Hid _ := P1.out.below b2
  have B2 : Hid (Below w.heap.size w w2) := bthen B1.out b2
  have N2 : Hid _ := N1.out.below b2
  obtain ⟨p0, p1⟩ := P2.out
  clear b2 P1 B1 N1
  go_wp2_with fail
  clear p0 p1
  refine (min_at hs _ m w2 (HU.out.below B2.out) hl0' hl1' HM.out).mono ?_
  rintro e w2d ⟨rfl, rfl⟩
  obtain ⟨p0, p1⟩ := P2.out
  go_wp2_with fail
  clear p0 p1
  refine (max_at hs _ M w2d (HU.out.below B2.out) hl0' hl1' HMX.out).mono ?_
  rintro e w2e ⟨rfl, rfl⟩
  obtain ⟨p0, p1⟩ := P2.out
  have P3 : Hid _ := P2.out.below (balloc (Below.refl _ _) (.cells #[.int .i64 hs.length, .slice none 0 0] 24))
  have B3 : Hid (Below w.heap.size w (w2e.alloc (.cells #[.int .i64 hs.length, .slice none 0 0] 24))) := balloc B2.out _
  have N3 : Hid _ := N2.out.below (balloc (Below.refl _ _) (.cells #[.int .i64 hs.length, .slice none 0 0] 24))
  clear P2 B2 N2
  go_wp2_with fail
  generalize w2e.alloc (.cells #[.int .i64 hs.length, .slice none 0 0] 24) = W3 at *
  clear p0 p1
  go_loopw [9, 7] (fun z q wr => z = .int .i64 0 ∧ q = .int .i64 1 ∧ Below W3.heap.size W3 wr) (fun _ _ _ => 0)
  case atStart => exact ⟨rfl, rfl, Below.refl _ _⟩
  case round =>
    obtain ⟨rfl, rfl, hbr⟩ := hrel
    have HBR : Hid (Below W3.heap.size W3 wr) := hbr
    have P4 : Hid _ := P3.out.below hbr
    have N4 : Hid _ := N3.out.below hbr
    have B4 : Hid (Below w.heap.size w wr) := bthen B3.out hbr
    obtain ⟨p0, p1⟩ := P4.out
    obtain ⟨n0, n1⟩ := N4.out.cell
    clear hbr
    by_cases hl0 : (0 : Int) < (es.length : Int)
    · go_wp2_with fail
      refine (sameNet_yes 0 _ _ [] wr (.no none 0 rfl rfl) (.no none 0 rfl rfl) (by simp)).mono ?_
      rintro e w5 ⟨rfl, b5⟩
      have B5 : Hid (Below w.heap.size w w5) := bthen B4.out b5
      clear b5
      go_wp2_with fail
      go_ret
      exact ⟨rfl, B5.out⟩
    · go_wp2_with fail
      refine (sameNet_yes 0 _ _ [] wr (.no none 0 rfl rfl) (.no none 0 rfl rfl) (by simp)).mono ?_
      rintro e w5 ⟨rfl, b5⟩
      have B5 : Hid (Below w.heap.size w w5) := bthen B4.out b5
      clear b5
      go_wp2_with fail
      go_ret
      exact ⟨rfl, B5.out⟩
set_option maxRecDepth 100000 in
set_option maxHeartbeats 8000000 in
theorem walk_any (N : Nat) (v u : Value) (es : List E) (hs : List Int) (w : World) (hv : SlE w v es) (hu : SlI w u hs) (hb : Rnt N es) (hn : hs.length = N) (hh : hgt hs = true) :
    Calls Try.prog 6 #[.agg #[.int .i64 N, v], u] w fun e w' => e = .returned (.bool true) ∧ Below w.heap.size w w' := by
  obtain ⟨a0, c0, rfl⟩ := hv.val
  obtain ⟨a1, c1, rfl⟩ := hu.val
  have HV : Hid _ := hv
  have HU : Hid _ := hu
  have HB : Hid _ := hb
  have HH : Hid _ := hh
  subst hn
  have HC : Hid _ := hb.nck
  have hlen : es.length ≤ 9223372036854775807 := by have := hb.len; omega
  have hn64 := hb.n64
  have hl0' : 0 < hs.length := by have := hb.n1; omega
  have hl1' : hs.length ≤ 100 := by omega
  obtain ⟨m, hm⟩ : ∃ m, mn hs hs.length = m := ⟨_, rfl⟩
  obtain ⟨M, hM⟩ : ∃ M, mx hs hs.length = M := ⟨_, rfl⟩
  have HM : Hid _ := hm
  have HMX : Hid _ := hM
  have hiff := hgt_mm hl0'
  rw [hm, hM] at hiff
  obtain ⟨hc1, hc2⟩ := hiff.1 hh
  have hlen6 := hb.len
  clear hv hu hm hM hiff hb hh
  go_enter Try.func6, Try.ntmps6
  go_wp2_with fail
  have P0 : Hid _ := box2_new w (hs.length : Int) (.slice a0 es.length c0) 24
  have B0 : Hid (Below w.heap.size w (w.alloc (.cells #[.int .i64 hs.length, .slice a0 es.length c0] 24))) := balloc (Below.refl _ _) _
  generalize w.alloc (.cells #[.int .i64 hs.length, .slice a0 es.length c0] 24) = W0 at *
  refine (flat_any hs.length _ _ es hs W0 (HV.out.below B0.out) (HU.out.below B0.out) HB.out rfl HH.out).mono ?_
  rintro e w1 ⟨⟨h1⟩, b1⟩
  have FV : ∃ fn fa fl fc K, fch (es.map (lvl hs)) = K ∧ e = .returned (.tuple #[.agg #[.int .i64 fn, .slice fa fl fc], .int .i64 K]) ∧ (K = 0 → fn = hs.length ∧ SlE w1 (.slice fa fl fc) (es.map (lvl hs))) ∧ (K ≠ 0 → fn = 0 ∧ fa = none ∧ fl = 0 ∧ fc = 0) := by
    rcases h1 with ⟨hf, G, rfl, _, r⟩ | ⟨hf, rfl⟩
    · refine ⟨hs.length, some ⟨G, 0, none⟩, es.length, es.length, 0, hf, rfl, fun _ => ⟨rfl, r.sl (List.length_map _) (fun i hi => at3_map _ hi)⟩, fun h => absurd rfl h⟩
    · exact ⟨0, none, 0, 0, _, rfl, rfl, fun h => absurd h hf, fun _ => ⟨rfl, rfl, rfl, rfl⟩⟩
  obtain ⟨fn, fa, fl, fc, K, hK, rfl, hyes, hno⟩ := FV
  have HK : Hid _ := hK
  have HYES : Hid _ := hyes
  have HNO : Hid _ := hno
  have P1 : Hid _ := (P0.out.below b1).below (balloc (Below.refl _ _) (.cells #[.int .i64 fn, .slice fa fl fc] 24))
  have B1 : Hid (Below w.heap.size w (w1.alloc (.cells #[.int .i64 fn, .slice fa fl fc] 24))) := balloc (bthen B0.out b1) _
  have b1' : Below w1.heap.size w1 (w1.alloc (.cells #[.int .i64 fn, .slice fa fl fc] 24)) := balloc (Below.refl _ _) _
  have N1 : Hid _ := bn_new w1 (.int .i64 fn) (.slice fa fl fc)
  obtain ⟨p0, p1⟩ := P1.out
  obtain ⟨n0, n1⟩ := N1.out.cell
  clear b1 P0 B0 h1 hK hyes hno
  go_wp2_with fail
  clear p0 p1 n0 n1
  generalize w1.alloc (.cells #[.int .i64 fn, .slice fa fl fc] 24) = W1 at *
  obtain ⟨F, hF⟩ : ∃ F, w1.heap.size = F := ⟨_, rfl⟩
  rw [hF] at N1 ⊢
  clear hF
  refine (rnet_any hs.length _ es W1 (HV.out.below B1.out) hlen).mono ?_
  rintro e w2 ⟨rfl, b2⟩
  rw [HC.out]
  have Y2 : Hid (K = 0 → fn = hs.length ∧ SlE w2 (.slice fa fl fc) (es.map (lvl hs))) := fun h => ⟨(HYES.out h).1, ((HYES.out h).2.below b1').below b2⟩
  have P2 : Hid _ := P1.out.below b2
  have B2 : Hid (Below w.heap.size w w2) := bthen B1.out b2
  have N2 : Hid _ := N1.out.below b2
  obtain ⟨p0, p1⟩ := P2.out
  clear b2 P1 B1 N1 b1' HYES
  go_wp2_with fail
  clear p0 p1
  refine (min_at hs _ m w2 (HU.out.below B2.out) hl0' hl1' HM.out).mono ?_
  rintro e w2d ⟨rfl, rfl⟩
  obtain ⟨p0, p1⟩ := P2.out
  go_wp2_with fail
  clear p0 p1
  refine (max_at hs _ M w2d (HU.out.below B2.out) hl0' hl1' HMX.out).mono ?_
  rintro e w2e ⟨rfl, rfl⟩
  obtain ⟨p0, p1⟩ := P2.out
  have P3 : Hid _ := P2.out.below (balloc (Below.refl _ _) (.cells #[.int .i64 hs.length, .slice none 0 0] 24))
  have B3 : Hid (Below w.heap.size w (w2e.alloc (.cells #[.int .i64 hs.length, .slice none 0 0] 24))) := balloc B2.out _
  have M3 : Hid _ := bn_new w2e (.int .i64 hs.length) (.slice none 0 0)
  have HF2 : Hid (F < w2e.heap.size) := N2.out.lt
  have hz3 : (w2e.alloc (.cells #[.int .i64 hs.length, .slice none 0 0] 24)).heap.size = w2e.heap.size + 1 := by simp
  have b3' : Below w2e.heap.size w2e (w2e.alloc (.cells #[.int .i64 hs.length, .slice none 0 0] 24)) := balloc (Below.refl _ _) _
  have B3' : Hid _ := b3'
  have HZ3 : Hid _ := hz3
  clear hz3 b3'
  go_wp2_with fail
  generalize w2e.alloc (.cells #[.int .i64 hs.length, .slice none 0 0] 24) = W3 at *
  clear p0 p1
  obtain ⟨O5, hO5⟩ : ∃ O5, w2e.heap.size = O5 := ⟨_, rfl⟩
  have HO : Hid _ := hO5
  rw [hO5] at M3 HZ3 ⊢
  clear hO5
  go_loopw [9, 7] (fun z q wr => ∃ (k : Nat) (wt : Int) (out : Value), z = .int .i64 k ∧ k ≤ es.length ∧ q = .int .i64 wt ∧ ((wt = 0 ∧ fch (es.map (lvl hs)) = fch ((es.map (lvl hs)).drop k)) ∨ (wt ≠ 0 ∧ wt = K)) ∧ Bn wr O5 (.int .i64 hs.length) out ∧ Es wr (O5 + 1) out ((es.map (lvl hs)).take k) ∧ O5 + 1 ≤ wr.heap.size ∧ Below w2e.heap.size w2e wr) (fun z _ _ => es.length - (intOf z).toNat)
  case atStart => exact ⟨0, 0, _, rfl, Nat.zero_le _, rfl, .inl ⟨rfl, rfl⟩, M3.out, Es.nil _ _, by have := HZ3.out; omega, B3'.out⟩
  case round =>
    obtain ⟨k, wt, out, rfl, hk, rfl, hwt, y1, o, hz, hbr⟩ := hrel
    obtain ⟨ao, co, rfl⟩ := o.sl.val
    have Y1 : Hid _ := y1
    have O : Hid _ := o
    have HZ : Hid _ := hz
    have HBR : Hid (Below w2e.heap.size w2e wr) := hbr
    have BR : Hid (Below w.heap.size w wr) := bthen B2.out hbr
    have PR : Hid _ := P2.out.below hbr
    have NR : Hid _ := N2.out.below hbr
    have YR : Hid (K = 0 → fn = hs.length ∧ SlE wr (.slice fa fl fc) (es.map (lvl hs))) := fun h => ⟨(Y2.out h).1, (Y2.out h).2.below hbr⟩
    have HWT : Hid _ := hwt
    clear y1 o hz hbr hwt M3 B3' HZ3 P3 B3
    obtain ⟨p0, p1⟩ := PR.out
    obtain ⟨n0, n1⟩ := NR.out.cell
    by_cases hlt : k < es.length
    · have hki : (k : Int) < (es.length : Int) := by omega
      by_cases hw0 : wt = 0
      · subst hw0
        have HFC : Hid (fch (es.map (lvl hs)) = fch ((es.map (lvl hs)).drop k)) := by
          rcases HWT.out with h | h
          · exact h.2
          · exact absurd rfl h.1
        have hlt' : k < (es.map (lvl hs)).length := by rw [List.length_map]; exact hlt
        obtain ⟨b, off, cap, hveq, hc⟩ := (HV.out.below BR.out).some' (by omega)
        simp only [Value.slice.injEq] at hveq
        obtain ⟨rfl, -, rfl⟩ := hveq
        obtain ⟨e0, e1, e2⟩ := hc k hlt
        clear hc
        have hok := HB.out.ok _ (mem_at hlt)
        obtain ⟨p, hpe⟩ : ∃ p, at3 es k = p := ⟨_, rfl⟩
        have HPE : Hid _ := hpe
        rw [hpe] at e0 e1 e2 hok
        clear hpe
        obtain ⟨x, y, c⟩ := p
        simp only at e0 e1 e2 hok
        obtain ⟨ok1, ok2, ok3, ok4, ok5, ok6⟩ := hok
        obtain ⟨x, rfl⟩ := Int.eq_ofNat_of_zero_le ok1
        obtain ⟨y, rfl⟩ := Int.eq_ofNat_of_zero_le ok3
        have hxN : x < hs.length := by omega
        have hyN : y < hs.length := by omega
        have hx := hgt_at HH.out hxN
        have hy := hgt_at HH.out hyN
        obtain ⟨hx0, hx1⟩ := hx
        obtain ⟨hy0, hy1⟩ := hy
        have HL : Hid (at3 (es.map (lvl hs)) k = ((x : Int), (y : Int), c - hs.getD y 0 + hs.getD x 0)) := by
          rw [at3_map _ hlt, HPE.out]; unfold Hid lvl; simp; omega
        obtain ⟨hb', hoff, hcap, hueq, hcu⟩ := ((HU.out.below BR.out).below (balloc (Below.refl _ _) (.cells #[.int .i64 x, .int .i64 y, .int .i64 c] 44))).some' (by omega)
        simp only [Value.slice.injEq] at hueq
        obtain ⟨rfl, -, rfl⟩ := hueq
        have cx := hcu x hxN
        have cy := hcu y hyN
        clear hcu
        obtain ⟨y0, y1, y2⟩ := box3_new wr x y (.int .i64 c) 44
        have HTK : Hid _ := take_at hlt'
        rw [HL.out] at HTK
        generalize hs.getD x 0 = dx at *
        generalize hs.getD y 0 = dy at *
        have hxi : (x : Int) < (hs.length : Int) := by omega
        have hyi : (y : Int) < (hs.length : Int) := by omega
        go_wp2_with fail
        go_quiet (fail)
        clear y0 y1 y2 cx cy e0 e1 e2 p0 p1 n0 n1
        have HX7 : Hid _ := (box3_new wr x y (.int .i64 c) 44).below (bdrewN (Below.refl _ _) nq)
        have B7 : Hid (Below wr.heap.size wr ((wr.alloc (.cells #[.int .i64 x, .int .i64 y, .int .i64 c] 44)).drewN nq)) := bdrewN (balloc (Below.refl _ _) _) nq
        have YL : Hid (O5 + 1 ≤ wr.heap.size) := HZ.out
        obtain ⟨Y, hY⟩ : ∃ Y, wr.heap.size = Y := ⟨_, rfl⟩
        generalize (wr.alloc (.cells #[.int .i64 x, .int .i64 y, .int .i64 c] 44)).drewN nq = W7 at *
        rw [hY] at HX7 YL ⊢
        clear hY
        have Y7 : Hid _ := Y1.out.below B7.out
        have O7 : Hid _ := O.out.below B7.out
        have Z7 : Hid (O5 + 1 ≤ W7.heap.size) := by have := B7.out.size; have := HZ.out; unfold Hid; omega
        have BB7 : Hid (Below w2e.heap.size w2e W7) := bthen HBR.out B7.out
        have hll : ((es.map (lvl hs)).take k).length ≤ 600 := by rw [List.length_take, List.length_map]; omega
        have HCC : Hid ((at3 (es.map (lvl hs)) k).2.2 = c - dy + dx) := by rw [HL.out]; rfl
        obtain ⟨cc, hcc⟩ : ∃ cc, c - dy + dx = cc := ⟨_, rfl⟩
        have hcb : -3000000 ≤ cc ∧ cc ≤ 3000000 := by omega
        have HCS : Hid _ := hcc
        rw [hcc] at HCC HTK ⊢
        have NXT : Hid (∃ wt' : Int, (if cc < 0 then (4 : Int) else if 10000 < cc then 2 else 0) = wt' ∧ ((wt' = 0 ∧ fch (es.map (lvl hs)) = fch ((es.map (lvl hs)).drop (k + 1))) ∨ (wt' ≠ 0 ∧ wt' = K))) := by
          refine ⟨_, rfl, ?_⟩
          split
          · next h => exact .inr ⟨by omega, by rw [← HK.out]; exact (fch_low HFC.out hlt' (by rw [HCC.out]; exact h)).symm⟩
          · next h =>
            split
            · next h2 => exact .inr ⟨by omega, by rw [← HK.out]; exact (fch_high HFC.out hlt' (by rw [HCC.out]; exact h) (by rw [HCC.out]; exact h2)).symm⟩
            · next h2 => exact .inl ⟨rfl, fch_next HFC.out hlt' (by rw [HCC.out]; exact h) (by rw [HCC.out]; exact h2)⟩
        clear hcc
        generalize (es.map (lvl hs)).take k = l at *
        obtain ⟨wt', hwt', hnx⟩ := NXT.out
        have HNX : Hid _ := hnx
        clear NXT hnx HFC HWT HL HPE HCC
        obtain ⟨x0, x1, x2⟩ := HX7.out
        obtain ⟨m0, m1⟩ := Y7.out.cell
        obtain ⟨i0, hi0, hz0, hz1, hz2⟩ := info47_parts
        have hown := O7.out.own
        have hzz := Z7.out
        by_cases h1 : cc < 0
        · rw [if_pos h1] at hwt'
          subst hwt'
          go_wp2_with (at_builtin; refine wpList_append_lies _ rfl _ _ _ rfl (O5 + 1) 44 i0 _ 3 24 Try.underlying22 hi0 hz0 hz1 hz2 rfl (by omega) (.slice ao l.length co) l.length (flat3 l) rfl (hown.alloc _) ⟨W7.heap.size, 0, none⟩ 1 1 [.int .i64 x, .int .i64 y, .int .i64 cc] rfl rfl (World.news_of_block (cs := #[.int .i64 x, .int .i64 y, .int .i64 cc]) (t := 44) (fr := (0, 0)) (heap_alloc_new _ _)) (by simp [Value.oneCell']) (by omega) (by unfold maxLen; omega) (by omega) (by simp; omega) (W7.heap.size + 1) (by simp) ?_; intro gg cap' w4 hown4 hgrow hat hlt4; have FAR : Hid (∀ g, g < O5 + 1 → w4.heap[g]? = W7.heap[g]?) := (by exact fun g hg => (hgrow.block g (by simp; omega) (fun e => by have := (ownBlock_lt hown g e.symm).1; omega)).trans (Below.heap_alloc _ _ _ (by omega))); have B4 : Hid (Below w2e.heap.size w2e w4) := (by exact (balloc BB7.out _).grown hgrow (by simp; have := HO.out; omega) (fun k hk => by have := (ownBlock_lt hown k hk).1; have := HO.out; omega)); have HZ4 : Hid (O5 + 1 ≤ w4.heap.size) := (by have := hgrow.size; simp at this; unfold Hid; omega); have V1 : Hid _ := Y7.out.frame (FAR.out _ (by omega)); clear hgrow hat m0 m1; obtain ⟨m0, m1⟩ := V1.out.cell; obtain ⟨f0, f1⟩ := V1.out.frozen)
          go_roundw
          case rel =>
            exact ⟨k + 1, 4, .slice (some ⟨gg, 0, none⟩) (l.length + 1) cap', by go_num, by omega, rfl, HNX.out, V1.out.put1 _, (Es.next HTK.out rfl hown4).other (by omega), by have := HZ4.out; simp [World.setCell]; omega, Below.setCell B4.out (by simp; have := HO.out; omega) _⟩
          case measure => simp [intOf]; omega
        · rw [if_neg h1] at hwt'
          by_cases h2 : 10000 < cc
          · rw [if_pos h2] at hwt'
            subst hwt'
            go_wp2_with (at_builtin; refine wpList_append_lies _ rfl _ _ _ rfl (O5 + 1) 44 i0 _ 3 24 Try.underlying22 hi0 hz0 hz1 hz2 rfl (by omega) (.slice ao l.length co) l.length (flat3 l) rfl (hown.alloc _) ⟨W7.heap.size, 0, none⟩ 1 1 [.int .i64 x, .int .i64 y, .int .i64 cc] rfl rfl (World.news_of_block (cs := #[.int .i64 x, .int .i64 y, .int .i64 cc]) (t := 44) (fr := (0, 0)) (heap_alloc_new _ _)) (by simp [Value.oneCell']) (by omega) (by unfold maxLen; omega) (by omega) (by simp; omega) (W7.heap.size + 1) (by simp) ?_; intro gg cap' w4 hown4 hgrow hat hlt4; have FAR : Hid (∀ g, g < O5 + 1 → w4.heap[g]? = W7.heap[g]?) := (by exact fun g hg => (hgrow.block g (by simp; omega) (fun e => by have := (ownBlock_lt hown g e.symm).1; omega)).trans (Below.heap_alloc _ _ _ (by omega))); have B4 : Hid (Below w2e.heap.size w2e w4) := (by exact (balloc BB7.out _).grown hgrow (by simp; have := HO.out; omega) (fun k hk => by have := (ownBlock_lt hown k hk).1; have := HO.out; omega)); have HZ4 : Hid (O5 + 1 ≤ w4.heap.size) := (by have := hgrow.size; simp at this; unfold Hid; omega); have V1 : Hid _ := Y7.out.frame (FAR.out _ (by omega)); clear hgrow hat m0 m1; obtain ⟨m0, m1⟩ := V1.out.cell; obtain ⟨f0, f1⟩ := V1.out.frozen)
            go_roundw
            case rel =>
              exact ⟨k + 1, 2, .slice (some ⟨gg, 0, none⟩) (l.length + 1) cap', by go_num, by omega, rfl, HNX.out, V1.out.put1 _, (Es.next HTK.out rfl hown4).other (by omega), by have := HZ4.out; simp [World.setCell]; omega, Below.setCell B4.out (by simp; have := HO.out; omega) _⟩
            case measure => simp [intOf]; omega
          · rw [if_neg h2] at hwt'
            subst hwt'
            go_wp2_with (at_builtin; refine wpList_append_lies _ rfl _ _ _ rfl (O5 + 1) 44 i0 _ 3 24 Try.underlying22 hi0 hz0 hz1 hz2 rfl (by omega) (.slice ao l.length co) l.length (flat3 l) rfl (hown.alloc _) ⟨W7.heap.size, 0, none⟩ 1 1 [.int .i64 x, .int .i64 y, .int .i64 cc] rfl rfl (World.news_of_block (cs := #[.int .i64 x, .int .i64 y, .int .i64 cc]) (t := 44) (fr := (0, 0)) (heap_alloc_new _ _)) (by simp [Value.oneCell']) (by omega) (by unfold maxLen; omega) (by omega) (by simp; omega) (W7.heap.size + 1) (by simp) ?_; intro gg cap' w4 hown4 hgrow hat hlt4; have FAR : Hid (∀ g, g < O5 + 1 → w4.heap[g]? = W7.heap[g]?) := (by exact fun g hg => (hgrow.block g (by simp; omega) (fun e => by have := (ownBlock_lt hown g e.symm).1; omega)).trans (Below.heap_alloc _ _ _ (by omega))); have B4 : Hid (Below w2e.heap.size w2e w4) := (by exact (balloc BB7.out _).grown hgrow (by simp; have := HO.out; omega) (fun k hk => by have := (ownBlock_lt hown k hk).1; have := HO.out; omega)); have HZ4 : Hid (O5 + 1 ≤ w4.heap.size) := (by have := hgrow.size; simp at this; unfold Hid; omega); have V1 : Hid _ := Y7.out.frame (FAR.out _ (by omega)); clear hgrow hat m0 m1; obtain ⟨m0, m1⟩ := V1.out.cell; obtain ⟨f0, f1⟩ := V1.out.frozen)
            go_roundw
            case rel =>
              exact ⟨k + 1, 0, .slice (some ⟨gg, 0, none⟩) (l.length + 1) cap', by go_num, by omega, rfl, HNX.out, V1.out.put1 _, (Es.next HTK.out rfl hown4).other (by omega), by have := HZ4.out; simp [World.setCell]; omega, Below.setCell B4.out (by simp; have := HO.out; omega) _⟩
            case measure => simp [intOf]; omega
      · have HK0 : Hid (wt = K) := by
          rcases HWT.out with h | h
          · exact absurd h.1 hw0
          · exact h.2
        have hk0 : K ≠ 0 := by have := HK0.out; omega
        obtain ⟨rfl, rfl, rfl, rfl⟩ := HNO.out hk0
        have z1 : (wt == 0) = false := by simp [hw0]
        have z2 : (wt != 0) = true := by simp [hw0]
        have z3 : (K == wt) = true := by have := HK0.out; simp; omega
        clear HWT HK0
        go_wp2_with fail
        refine (sameNet_yes 0 _ _ [] wr (.no none 0 rfl rfl) (.no none 0 rfl rfl) (by simp)).mono ?_
        rintro e w5 ⟨rfl, b5⟩
        have B5 : Hid (Below w.heap.size w w5) := bthen BR.out b5
        clear b5
        go_wp2_with fail
        go_ret
        exact ⟨rfl, B5.out⟩
    · have hke : k = es.length := by omega
      have hki : ¬ (k : Int) < (es.length : Int) := by omega
      by_cases hw0 : wt = 0
      · subst hw0
        have HK0 : Hid (K = 0) := by
          rcases HWT.out with h | h
          · have h2 := h.2
            rw [HK.out] at h2
            rw [show k = (es.map (lvl hs)).length by rw [List.length_map]; exact hke, List.drop_length] at h2
            exact h2
          · exact absurd rfl h.1
        obtain ⟨hfn, hfs⟩ := YR.out HK0.out
        subst hfn
        have FSL : Hid _ := hfs
        have k0 : (K == 0) = true := by have := HK0.out; simp [this]
        have OSL : Hid (SlE wr (.slice ao ((es.map (lvl hs)).take k).length co) (es.map (lvl hs))) := by
          have := O.out.sl
          rw [List.take_of_length_le (by rw [List.length_map]; omega)] at this ⊢
          exact this
        obtain ⟨m0, m1⟩ := Y1.out.cell
        generalize ((es.map (lvl hs)).take k).length = tl at *
        clear HWT hfs HK0
        go_wp2_with fail
        refine (sameNet_yes hs.length _ _ (es.map (lvl hs)) wr FSL.out OSL.out (by rw [List.length_map]; omega)).mono ?_
        rintro e w5 ⟨rfl, b5⟩
        have B5 : Hid (Below w.heap.size w w5) := bthen BR.out b5
        clear b5
        go_wp2_with fail
        go_ret
        exact ⟨rfl, B5.out⟩
      · have HK0 : Hid (wt = K) := by
          rcases HWT.out with h | h
          · exact absurd h.1 hw0
          · exact h.2
        have hk0 : K ≠ 0 := by have := HK0.out; omega
        obtain ⟨rfl, rfl, rfl, rfl⟩ := HNO.out hk0
        have z1 : (wt == 0) = false := by simp [hw0]
        have z2 : (wt != 0) = true := by simp [hw0]
        have z3 : (K == wt) = true := by have := HK0.out; simp; omega
        clear HWT HK0
        go_wp2_with fail
        refine (sameNet_yes 0 _ _ [] wr (.no none 0 rfl rfl) (.no none 0 rfl rfl) (by simp)).mono ?_
        rintro e w5 ⟨rfl, b5⟩
        have B5 : Hid (Below w.heap.size w w5) := bthen BR.out b5
        clear b5
        go_wp2_with fail
        go_ret
        exact ⟨rfl, B5.out⟩
theorem walk (n : Int) (v u : Value) (es : List E) (hs : List Int) (w : World) (hv : SlE w v es) (hu : SlI w u hs) (hlen : es.length ≤ 9223372036854775807) :
    Calls Try.prog 6 #[.agg #[.int .i64 n, v], u] w fun e w' => e = .returned (.bool true) ∧ Below w.heap.size w w' := by
  by_cases hc : nck n es = 0
  · obtain ⟨hb, hn⟩ := bn_of hc
    by_cases hl : (hs.length : Int) = n
    · rw [← hn]
      have hl' : hs.length = n.toNat := by omega
      have h0 : 0 < hs.length := by have := hb.n1; omega
      by_cases h1 : mn hs hs.length < -1000000
      · exact walk_min n.toNat v u es hs w hv hu hb hl' h1
      · by_cases h2 : 1000000 < mx hs hs.length
        · exact walk_max n.toNat v u es hs w hv hu hb hl' h1 h2
        · exact walk_any n.toNat v u es hs w hv hu hb hl' ((hgt_mm h0).2 ⟨h1, h2⟩)
    · exact walk_len n v u es hs w hv hu hlen hc (nck_zero.1 hc).n64 hl
  · exact walk_net n v u es hs w hv hu hlen hc
end Go.Proofs.Ytidbbkpgmcheiaa.JFlats
