/-
  The law fellkeep.DijkWalks, walked.
-/
import Derived.Test.YtahijfljpjgdlaaYE
import Derived.Test.YtahijfljpjgdlaaCA
namespace Go.Proofs.Ytahijfljpjgdlaa.DWalks
open Go.RowKit
open Nm Wm Dm Cm Ym
attribute [local go_sem ↓] Go.wp_at_zero Go.wp_at_succ

theorem lk_cases {n s : Int} {es : List E} (h : lk n es [s] = 0) : nps n es = 0 ∧ plc n s = true := by
  obtain ⟨h1, h2⟩ := lk_zero h
  refine ⟨h1, ?_⟩
  simpa using h2
theorem lk_cases2 {n s t : Int} {es : List E} (h : lk n es [s, t] = 0) : nps n es = 0 ∧ plc n s = true ∧ plc n t = true := by
  obtain ⟨h1, h2⟩ := lk_zero h
  refine ⟨h1, ?_⟩
  simpa using h2
theorem lk_second {n s t : Int} {es : List E} (h : lk n es [s, t] ≠ 0) (h1 : lk n es [s] = 0) : lk n es [s, t] = 1 := by
  obtain ⟨a, b⟩ := lk_cases h1
  cases ht : plc n t
  · exact lk_out (k := 1) a (by simp) ht
  · refine absurd (lk_ok a (fun k hk => ?_)) h
    rcases (show k = 0 ∨ k = 1 by simp at hk; omega) with rfl | rfl
    · exact b
    · exact ht

set_option maxRecDepth 100000 in
set_option maxHeartbeats 8000000 in
theorem walk_bad (n s t : Int) (v : Value) (es : List E) (w : World) (hv : SlE w v es) (hlen : es.length ≤ 9223372036854775807) (hc : lk n es [s, t] ≠ 0) (hc1 : lk n es [s] ≠ 0) :
    Calls Try.prog 6 #[.agg #[.int .i64 n, v], .int .i64 s, .int .i64 t] w fun e w' => e = .returned (.bool true) ∧ Below w.heap.size w w' := by
  obtain ⟨a0, c0, rfl⟩ := hv.val
  have HV : Hid _ := hv
  have HC : Hid (lk n es [s, t] ≠ 0) := hc
  have HC1 : Hid (lk n es [s] ≠ 0) := hc1
  have hz : (lk n es [s, t] != 0) = true := by simp [hc]
  have hz1 : (lk n es [s] != 0) = true := by simp [hc1]
  clear hv hc hc1
  go_enter Try.func6, Try.ntmps6
  go_wp2_with fail
  have P0 : Hid _ := box2_new w n (.slice a0 es.length c0) 24
  have B0 : Hid (Below w.heap.size w (w.alloc (.cells #[.int .i64 n, .slice a0 es.length c0] 24))) := balloc (Below.refl _ _) _
  generalize w.alloc (.cells #[.int .i64 n, .slice a0 es.length c0] 24) = W0 at *
  refine (two_any W0).mono ?_
  rintro e w1 ⟨X1, rfl, e1, b1⟩
  have E1 : Hid _ := e1
  have P1 : Hid _ := P0.out.below b1
  have B1 : Hid (Below w.heap.size w w1) := bthen B0.out b1
  clear e1 b1 P0 B0
  go_wp2_with fail
  refine (way_two01 _ w1 E1.out).mono ?_
  rintro e w2 ⟨u2, rfl, i2, b2⟩
  obtain ⟨a2, c2, rfl⟩ := i2.val
  have I2 : Hid _ := i2
  have P2 : Hid _ := P1.out.below b2
  have B2 : Hid (Below w.heap.size w w2) := bthen B1.out b2
  clear i2 b2 P1 B1 E1
  go_wp2_with fail
  have b3 : Below w2.heap.size w2 (w2.alloc (.cells #[.slice a2 2 c2, .int .i64 5] 34)) := balloc (Below.refl _ _) _
  have hz3 : (w2.alloc (.cells #[.slice a2 2 c2, .int .i64 5] 34)).heap.size = w2.heap.size + 1 := by simp
  generalize w2.alloc (.cells #[.slice a2 2 c2, .int .i64 5] 34) = W3 at *
  have L3 : Hid _ := lit_nums W3 [0, 1] #[.int .i64 0, .int .i64 1] 2 rfl rfl
  rw [hz3] at L3
  have b4 : Below w2.heap.size w2 (W3.alloc (.cells #[.int .i64 0, .int .i64 1] 3)) := balloc b3 _
  generalize W3.alloc (.cells #[.int .i64 0, .int .i64 1] 3) = W4 at *
  refine (same_yes _ _ 5 [0, 1] W4 (I2.out.below b4) L3.out (by simp)).mono ?_
  rintro e w5 ⟨rfl, b5⟩
  have P5 : Hid _ := (P2.out.below b4).below b5
  have B5 : Hid (Below w.heap.size w w5) := bthen (bthen B2.out b4) b5
  obtain ⟨p0, p1⟩ := P5.out
  clear b3 b4 b5 P2 B2 I2 L3 hz3
  go_wp2_with fail
  clear p0 p1
  refine (way_bad n s t _ es w5 (HV.out.below B5.out) hlen HC.out).mono ?_
  rintro e w6 ⟨rfl, b6⟩
  have P6 : Hid _ := P5.out.below b6
  have B6 : Hid (Below w.heap.size w w6) := bthen B5.out b6
  clear b6 P5 B5
  obtain ⟨p0, p1⟩ := P6.out.below (balloc (Below.refl _ _) (.cells #[.slice none 0 0, .int .i64 0] 34))
  go_wp2_with fail
  clear p0 p1
  have B7 : Hid (Below w.heap.size w (w6.alloc (.cells #[.slice none 0 0, .int .i64 0] 34))) := balloc B6.out _
  have W7 : Hid _ := bw_new w6 (.slice none 0 0) (.int .i64 0)
  generalize w6.alloc (.cells #[.slice none 0 0, .int .i64 0] 34) = W7' at *
  obtain ⟨X, hX⟩ : ∃ X, w6.heap.size = X := ⟨_, rfl⟩
  rw [hX] at W7 ⊢
  clear hX
  refine (dist_bad n s _ es W7' (HV.out.below B7.out) hlen HC1.out).mono ?_
  rintro e w8 ⟨rfl, b8⟩
  have W8 : Hid _ := W7.out.below b8
  have B8 : Hid (Below w.heap.size w w8) := bthen B7.out b8
  clear b8 W7 B7
  generalize lk n es [s, t] = k2 at *
  generalize lk n es [s] = k1 at *
  obtain ⟨q0, q1⟩ := W8.out.cell
  go_wp2_with fail
  clear q0 q1
  refine (same_yes _ _ 0 [] w8 (.no none 0 rfl rfl) (.no none 0 rfl rfl) (by simp)).mono ?_
  rintro e w9 ⟨rfl, b9⟩
  go_wp2_with fail
  go_ret
  exact ⟨rfl, bthen B8.out b9⟩

set_option maxRecDepth 100000 in
set_option maxHeartbeats 8000000 in
theorem walk_out (N a : Nat) (t : Int) (v : Value) (es : List E) (w : World) (hv : SlE w v es) (hc : lk N es [(a : Int), t] = 1) (hps : nps N es = 0) (hp : Pn N es) (ha : a < N) :
    Calls Try.prog 6 #[.agg #[.int .i64 N, v], .int .i64 a, .int .i64 t] w fun e w' => e = .returned (.bool true) ∧ Below w.heap.size w w' := by
  obtain ⟨a0, c0, rfl⟩ := hv.val
  have HV : Hid _ := hv
  have HC : Hid _ := hc
  have HPS : Hid _ := hps
  have HP : Hid _ := hp
  have hlen := hp.len
  clear hv hc hps hp
  go_enter Try.func6, Try.ntmps6
  go_wp2_with fail
  have P0 : Hid _ := box2_new w (N : Int) (.slice a0 es.length c0) 24
  have B0 : Hid (Below w.heap.size w (w.alloc (.cells #[.int .i64 N, .slice a0 es.length c0] 24))) := balloc (Below.refl _ _) _
  generalize w.alloc (.cells #[.int .i64 N, .slice a0 es.length c0] 24) = W0 at *
  refine (two_any W0).mono ?_
  rintro e w1 ⟨X1, rfl, e1, b1⟩
  have E1 : Hid _ := e1
  have P1 : Hid _ := P0.out.below b1
  have B1 : Hid (Below w.heap.size w w1) := bthen B0.out b1
  clear e1 b1 P0 B0
  go_wp2_with fail
  refine (way_two01 _ w1 E1.out).mono ?_
  rintro e w2 ⟨u2, rfl, i2, b2⟩
  obtain ⟨a2, c2, rfl⟩ := i2.val
  have I2 : Hid _ := i2
  have P2 : Hid _ := P1.out.below b2
  have B2 : Hid (Below w.heap.size w w2) := bthen B1.out b2
  clear i2 b2 P1 B1 E1
  go_wp2_with fail
  have b3 : Below w2.heap.size w2 (w2.alloc (.cells #[.slice a2 2 c2, .int .i64 5] 34)) := balloc (Below.refl _ _) _
  have hz3 : (w2.alloc (.cells #[.slice a2 2 c2, .int .i64 5] 34)).heap.size = w2.heap.size + 1 := by simp
  generalize w2.alloc (.cells #[.slice a2 2 c2, .int .i64 5] 34) = W3 at *
  have L3 : Hid _ := lit_nums W3 [0, 1] #[.int .i64 0, .int .i64 1] 2 rfl rfl
  rw [hz3] at L3
  have b4 : Below w2.heap.size w2 (W3.alloc (.cells #[.int .i64 0, .int .i64 1] 3)) := balloc b3 _
  generalize W3.alloc (.cells #[.int .i64 0, .int .i64 1] 3) = W4 at *
  refine (same_yes _ _ 5 [0, 1] W4 (I2.out.below b4) L3.out (by simp)).mono ?_
  rintro e w5 ⟨rfl, b5⟩
  have P5 : Hid _ := (P2.out.below b4).below b5
  have B5 : Hid (Below w.heap.size w w5) := bthen (bthen B2.out b4) b5
  obtain ⟨p0, p1⟩ := P5.out
  clear b3 b4 b5 P2 B2 I2 L3 hz3
  go_wp2_with fail
  clear p0 p1
  have hwb := way_bad N a t (.slice a0 es.length c0) es w5 (HV.out.below B5.out) (by omega) (by rw [HC.out]; decide)
  rw [HC.out] at hwb
  refine hwb.mono ?_
  rintro e w6 ⟨rfl, b6⟩
  have P6 : Hid _ := P5.out.below b6
  have B6 : Hid (Below w.heap.size w w6) := bthen B5.out b6
  clear b6 P5 B5 hwb
  obtain ⟨p0, p1⟩ := P6.out.below (balloc (Below.refl _ _) (.cells #[.slice none 0 0, .int .i64 0] 34))
  go_wp2_with fail
  clear p0 p1
  have B7 : Hid (Below w.heap.size w (w6.alloc (.cells #[.slice none 0 0, .int .i64 0] 34))) := balloc B6.out _
  have W7 : Hid _ := bw_new w6 (.slice none 0 0) (.int .i64 0)
  generalize w6.alloc (.cells #[.slice none 0 0, .int .i64 0] 34) = W7' at *
  obtain ⟨X, hX⟩ : ∃ X, w6.heap.size = X := ⟨_, rfl⟩
  rw [hX] at W7 ⊢
  clear hX
  refine (dist_yes N a _ es W7' (HV.out.below B7.out) HPS.out HP.out ha).mono ?_
  rintro e w8 ⟨G8, d8, rfl, _, _, _, b8⟩
  have W8 : Hid _ := W7.out.below b8
  have B8 : Hid (Below w.heap.size w w8) := bthen B7.out b8
  clear b8 W7 B7
  obtain ⟨q0, q1⟩ := W8.out.cell
  go_wp2_with fail
  clear q0 q1
  refine (same_yes _ _ 0 [] w8 (.no none 0 rfl rfl) (.no none 0 rfl rfl) (by simp)).mono ?_
  rintro e w9 ⟨rfl, b9⟩
  go_wp2_with fail
  go_ret
  exact ⟨rfl, bthen B8.out b9⟩

set_option maxRecDepth 100000 in
set_option maxHeartbeats 8000000 in
theorem walk_yes (N a b : Nat) (v : Value) (es : List E) (w : World) (hv : SlE w v es) (hps : nps N es = 0) (hp : Pn N es) (ha : a < N) (hb : b < N) :
    Calls Try.prog 6 #[.agg #[.int .i64 N, v], .int .i64 a, .int .i64 b] w fun e w' => e = .returned (.bool true) ∧ Below w.heap.size w w' := by
  obtain ⟨a0, c0, rfl⟩ := hv.val
  have HV : Hid _ := hv
  have HPS : Hid _ := hps
  have HP : Hid _ := hp
  have hlen := hp.len
  have hn64 := hp.n64
  have hbi : (b : Int) < (N : Int) := by omega
  clear hv hps hp
  go_enter Try.func6, Try.ntmps6
  go_wp2_with fail
  have P0 : Hid _ := box2_new w (N : Int) (.slice a0 es.length c0) 24
  have B0 : Hid (Below w.heap.size w (w.alloc (.cells #[.int .i64 N, .slice a0 es.length c0] 24))) := balloc (Below.refl _ _) _
  generalize w.alloc (.cells #[.int .i64 N, .slice a0 es.length c0] 24) = W0 at *
  refine (two_any W0).mono ?_
  rintro e w1 ⟨X1, rfl, e1, b1⟩
  have E1 : Hid _ := e1
  have P1 : Hid _ := P0.out.below b1
  have B1 : Hid (Below w.heap.size w w1) := bthen B0.out b1
  clear e1 b1 P0 B0
  go_wp2_with fail
  refine (way_two01 _ w1 E1.out).mono ?_
  rintro e w2 ⟨u2, rfl, i2, b2⟩
  obtain ⟨a2, c2, rfl⟩ := i2.val
  have I2 : Hid _ := i2
  have P2 : Hid _ := P1.out.below b2
  have B2 : Hid (Below w.heap.size w w2) := bthen B1.out b2
  clear i2 b2 P1 B1 E1
  go_wp2_with fail
  have b3 : Below w2.heap.size w2 (w2.alloc (.cells #[.slice a2 2 c2, .int .i64 5] 34)) := balloc (Below.refl _ _) _
  have hz3 : (w2.alloc (.cells #[.slice a2 2 c2, .int .i64 5] 34)).heap.size = w2.heap.size + 1 := by simp
  generalize w2.alloc (.cells #[.slice a2 2 c2, .int .i64 5] 34) = W3 at *
  have L3 : Hid _ := lit_nums W3 [0, 1] #[.int .i64 0, .int .i64 1] 2 rfl rfl
  rw [hz3] at L3
  have b4 : Below w2.heap.size w2 (W3.alloc (.cells #[.int .i64 0, .int .i64 1] 3)) := balloc b3 _
  generalize W3.alloc (.cells #[.int .i64 0, .int .i64 1] 3) = W4 at *
  refine (same_yes _ _ 5 [0, 1] W4 (I2.out.below b4) L3.out (by simp)).mono ?_
  rintro e w5 ⟨rfl, b5⟩
  have P5 : Hid _ := (P2.out.below b4).below b5
  have B5 : Hid (Below w.heap.size w w5) := bthen (bthen B2.out b4) b5
  obtain ⟨p0, p1⟩ := P5.out
  clear b3 b4 b5 P2 B2 I2 L3 hz3
  go_wp2_with fail
  clear p0 p1
  refine (way_yes N a b _ es w5 (HV.out.below B5.out) HPS.out HP.out ha hb).mono ?_
  rintro e w6 ⟨b6, d, hd, h⟩
  have HD : Hid _ := hd
  have P6 : Hid _ := P5.out.below b6
  have B6 : Hid (Below w.heap.size w w6) := bthen B5.out b6
  clear b6 P5 B5 hd
  rcases h with ⟨hf, rfl⟩ | ⟨hf, g, cap, k, p, rfl, hwp, hpl, hcap, hsl⟩
  · have HF : Hid _ := hf
    clear hf
    obtain ⟨p0, p1⟩ := P6.out.below (balloc (Below.refl _ _) (.cells #[.slice none 0 0, .int .i64 0] 34))
    go_wp2_with fail
    clear p0 p1
    have B7 : Hid (Below w.heap.size w (w6.alloc (.cells #[.slice none 0 0, .int .i64 0] 34))) := balloc B6.out _
    have W7 : Hid _ := bw_new w6 (.slice none 0 0) (.int .i64 0)
    generalize w6.alloc (.cells #[.slice none 0 0, .int .i64 0] 34) = W7' at *
    obtain ⟨X, hX⟩ : ∃ X, w6.heap.size = X := ⟨_, rfl⟩
    rw [hX] at W7 ⊢
    clear hX
    refine (dist_yes N a _ es W7' (HV.out.below B7.out) HPS.out HP.out ha).mono ?_
    rintro e w8 ⟨G8, d8, rfl, _, u8, i8, b8⟩
    have HE8 : Hid (d8 b = 1099511627776) := by rw [i8.eq HP.out HD.out hb]; exact HF.out
    have W8 : Hid _ := W7.out.below b8
    have B8 : Hid (Below w.heap.size w w8) := bthen B7.out b8
    have U8 : Hid _ := u8
    clear b8 W7 B7 u8 i8
    obtain ⟨q0, q1⟩ := W8.out.cell
    go_wp2_with fail
    clear q0 q1
    refine (same_yes _ _ 0 [] w8 (.no none 0 rfl rfl) (.no none 0 rfl rfl) (by simp)).mono ?_
    rintro e w9 ⟨rfl, b9⟩
    obtain ⟨c9, _⟩ := (U8.out.below b9).cell b hb
    rw [HE8.out] at c9
    have B9 : Hid (Below w.heap.size w w9) := bthen B8.out b9
    clear b9
    go_wp2_with fail
    go_ret
    exact ⟨rfl, B9.out⟩
  · have HWP : Hid _ := hwp
    have HSL : Hid _ := hsl
    have HPL : Hid _ := hpl
    have hkN : k + 1 ≤ 64 := by have := hwp.len; omega
    have HCO : Hid _ := hwp.wcode HP.out (nps_nck HPS.out) (by omega)
    have HBN : Hid _ := hwp.bnd HP.out (by omega)
    have HWF : Hid _ := hwp.wf HP.out
    have HCU : Hid _ := cut_self hwp.nodup
    have HP0 : Hid (p.getD 0 0 = (a : Int)) := hwp.first
    have HPK : Hid (p.getD k 0 = (b : Int)) := by have := hwp.last; rw [hpl] at this; exact this
    clear hwp hsl hpl hf
    obtain ⟨x, hx⟩ : ∃ x, d b = x := ⟨_, rfl⟩
    have HX : Hid _ := hx
    rw [hx] at HCO ⊢
    clear hx
    obtain ⟨p0, p1⟩ := P6.out.below (balloc (Below.refl _ _) (.cells #[.slice (some ⟨g, 0, none⟩) (k + 1) cap, .int .i64 x] 34))
    go_wp2_with fail
    clear p0 p1
    have P7 : Hid _ := P6.out.below (balloc (Below.refl _ _) (.cells #[.slice (some ⟨g, 0, none⟩) (k + 1) cap, .int .i64 x] 34))
    have S7 : Hid _ := HSL.out.below (balloc (Below.refl _ _) (.cells #[.slice (some ⟨g, 0, none⟩) (k + 1) cap, .int .i64 x] 34))
    have B7 : Hid (Below w.heap.size w (w6.alloc (.cells #[.slice (some ⟨g, 0, none⟩) (k + 1) cap, .int .i64 x] 34))) := balloc B6.out _
    have W7 : Hid _ := bw_new w6 (.slice (some ⟨g, 0, none⟩) (k + 1) cap) (.int .i64 x)
    generalize w6.alloc (.cells #[.slice (some ⟨g, 0, none⟩) (k + 1) cap, .int .i64 x] 34) = W7' at *
    obtain ⟨X, hX⟩ : ∃ X, w6.heap.size = X := ⟨_, rfl⟩
    rw [hX] at W7 ⊢
    clear hX P6 B6 HSL
    refine (dist_yes N a _ es W7' (HV.out.below B7.out) HPS.out HP.out ha).mono ?_
    rintro e w8 ⟨G8, d8, rfl, _, u8, i8, b8⟩
    have HE8 : Hid (d8 b = x) := by rw [i8.eq HP.out HD.out hb]; exact HX.out
    have W8 : Hid _ := W7.out.below b8
    have P8 : Hid _ := P7.out.below b8
    have S8 : Hid _ := S7.out.below b8
    have B8 : Hid (Below w.heap.size w w8) := bthen B7.out b8
    have U8 : Hid _ := u8
    clear b8 W7 B7 P7 S7 u8 i8
    obtain ⟨q0, q1⟩ := W8.out.cell
    obtain ⟨p0, p1⟩ := P8.out
    go_wp2_with fail
    clear q0 q1 p0 p1
    have hco := cost_any N (.slice a0 es.length c0) (.slice (some ⟨g, 0, none⟩) (k + 1) cap) es p w8 (HV.out.below B8.out) S8.out (by omega) (by have := HPL.out; omega)
    rw [HCO.out] at hco
    refine hco.mono ?_
    rintro e w9 ⟨rfl, b9⟩
    have W9 : Hid _ := W8.out.below b9
    have S9 : Hid _ := S8.out.below b9
    have U9 : Hid _ := U8.out.below b9
    have B9 : Hid (Below w.heap.size w w9) := bthen B8.out b9
    clear b9 W8 B8 P8 S8 U8 hco
    obtain ⟨q0, q1⟩ := W9.out.cell
    go_wp2_with fail
    clear q0 q1
    refine (cut_yes p _ w9 S9.out HBN.out HWF.out).mono ?_
    rintro e w10 ⟨u10, rfl, i10, b10⟩
    rw [HCU.out] at i10
    obtain ⟨gu, ou, cu, rfl, _, _⟩ := i10.sl.some2 (by have := HPL.out; omega)
    rw [HPL.out]
    have I10 : Hid (SlI w10 (.slice (some ⟨gu, ou, none⟩) (k + 1) cu) p) := by have := i10.sl; rw [HPL.out] at this; exact this
    have W10 : Hid _ := W9.out.below b10
    have S10 : Hid _ := S9.out.below b10
    have U10 : Hid _ := U9.out.below b10
    have B10 : Hid (Below w.heap.size w w10) := bthen B9.out b10
    clear b10 i10 W9 B9 S9 U9
    obtain ⟨q0, q1⟩ := W10.out.cell
    obtain ⟨c10, _⟩ := U10.out.cell b hb
    rw [HE8.out] at c10
    have ⟨k0, kk⟩ : w10.cell? ⟨g, 0, none⟩ = some (.int .i64 a) ∧ w10.cell? ⟨g, k, none⟩ = some (.int .i64 b) := by
      obtain ⟨g', o', c', hveq, hcl⟩ := S10.out.some' (by have := HPL.out; omega)
      simp only [Value.slice.injEq, Option.some.injEq, Addr.mk.injEq] at hveq
      obtain ⟨⟨rfl, rfl, -⟩, -, rfl⟩ := hveq
      have h1 := hcl 0 (by have := HPL.out; omega)
      have h2 := hcl k (by have := HPL.out; omega)
      rw [HP0.out] at h1
      rw [HPK.out, Nat.zero_add] at h2
      exact ⟨h1, h2⟩
    have K0 : Hid _ := k0
    have KK : Hid _ := kk
    go_wp2_with fail
    clear q0 q1 c10 k0 kk
    have hie := iequal_yes (.slice (some ⟨gu, ou, none⟩) (k + 1) cu) (.slice (some ⟨g, 0, none⟩) (k + 1) cap) p w10 I10.out S10.out (by have := HPL.out; omega)
    refine hie.mono ?_
    rintro e w11 ⟨rfl, b11⟩
    have B11 : Hid (Below w.heap.size w w11) := bthen B10.out b11
    obtain ⟨q0, q1⟩ := W10.out.cell
    have q0' := kept b11 q0
    have k0' := kept b11 K0.out
    have kk' := kept b11 KK.out
    clear b11 hie q0 q1
    have h01 : (0 : Int) < (k : Int) + 1 := by omega
    have h02 : (k : Int) < (k : Int) + 1 := by omega
    go_wp2_with fail
    go_ret
    exact ⟨rfl, B11.out⟩

theorem walk (n s t : Int) (v : Value) (es : List E) (w : World) (hv : SlE w v es) (hlen : es.length ≤ 9223372036854775807) :
    Calls Try.prog 6 #[.agg #[.int .i64 n, v], .int .i64 s, .int .i64 t] w fun e w' => e = .returned (.bool true) ∧ Below w.heap.size w w' := by
  by_cases hc1 : lk n es [s] = 0
  · obtain ⟨h1, h2⟩ := lk_cases hc1
    obtain ⟨hg, hp, hn⟩ := pn_of h1
    obtain ⟨a, rfl, ha⟩ := plc_nat h2
    by_cases hc : lk n es [(a : Int), t] = 0
    · obtain ⟨_, _, h3⟩ := lk_cases2 hc
      obtain ⟨b, rfl, hb⟩ := plc_nat h3
      rw [← hn] at h1 ha hb ⊢
      exact walk_yes n.toNat a b v es w hv h1 hp (by omega) (by omega)
    · have h4 := lk_second hc hc1
      rw [← hn] at h1 ha h4 ⊢
      exact walk_out n.toNat a t v es w hv h4 h1 hp (by omega)
  · refine walk_bad n s t v es w hv hlen (fun hc => hc1 ?_) hc1
    obtain ⟨h1, h2, _⟩ := lk_cases2 hc
    exact lk_ok h1 (fun k hk => by
      obtain rfl : k = 0 := by simpa using hk
      exact h2)
end Go.Proofs.Ytahijfljpjgdlaa.DWalks
