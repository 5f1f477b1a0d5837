/-
  The law felllaw.DijkWays, walked.
-/
import Derived.Test.YtahijfljpjgdlaaYG
import Derived.Test.YtahijfljpjgdlaaYD
namespace Go.Proofs.Ytahijfljpjgdlaa.DWays
open Go.RowKit
open Nm Wm Dm Ym
attribute [local go_sem ↓] Go.wp_at_zero Go.wp_at_succ

theorem lk_cases2 {n s t : Int} {es : List E} (h : lk n es [s, t] = 0) : nps n es = 0 ∧ plc n s = true ∧ plc n t = true := by
  obtain ⟨h1, h2⟩ := lk_zero h
  refine ⟨h1, ?_⟩
  simpa using h2

set_option maxRecDepth 100000 in
set_option maxHeartbeats 8000000 in
theorem walk_bad (n s t : Int) (v : Value) (es : List E) (w : World) (hv : SlE w v es) (hlen : es.length ≤ 9223372036854775807) (hc : lk n es [s, t] ≠ 0) :
    Calls Try.prog 4 #[.agg #[.int .i64 n, v], .int .i64 s, .int .i64 t] w fun e w' => e = .returned (.bool true) ∧ Below w.heap.size w w' := by
  obtain ⟨a0, c0, rfl⟩ := hv.val
  have HV : Hid _ := hv
  have HC : Hid (lk n es [s, t] ≠ 0) := hc
  have hz : (lk n es [s, t] != 0) = true := by simp [hc]
  have hz0 : (lk n es [s, t] == 0) = false := by simp [hc]
  clear hv hc
  go_enter Try.func4, Try.ntmps4
  go_wp2_with fail
  have P0 : Hid _ := box2_new w n (.slice a0 es.length c0) 24
  have B0 : Hid (Below w.heap.size w (w.alloc (.cells #[.int .i64 n, .slice a0 es.length c0] 24))) := balloc (Below.refl _ _) _
  generalize w.alloc (.cells #[.int .i64 n, .slice a0 es.length c0] 24) = W0 at *
  refine (way_bad n s t _ es W0 (HV.out.below B0.out) hlen HC.out).mono ?_
  rintro e w1 ⟨rfl, b1⟩
  have P2 : Hid _ := (P0.out.below b1).below (balloc (Below.refl _ _) (.cells #[.slice none 0 0, .int .i64 0] 34))
  have B2 : Hid (Below w.heap.size w (w1.alloc (.cells #[.slice none 0 0, .int .i64 0] 34))) := balloc (bthen B0.out b1) _
  have W2' : Hid _ := bw_new w1 (.slice none 0 0) (.int .i64 0)
  have hz2 : (w1.alloc (.cells #[.slice none 0 0, .int .i64 0] 34)).heap.size = w1.heap.size + 1 := by simp
  obtain ⟨p0, p1⟩ := P2.out
  clear b1 P0 B0
  go_wp2_with fail
  clear p0 p1
  generalize w1.alloc (.cells #[.slice none 0 0, .int .i64 0] 34) = W2 at *
  have L3 : Hid _ := lit_nums W2 [s, t] #[.int .i64 s, .int .i64 t] 2 rfl rfl
  rw [hz2] at L3
  have b3 : Below W2.heap.size W2 (W2.alloc (.cells #[.int .i64 s, .int .i64 t] 3)) := balloc (Below.refl _ _) _
  generalize W2.alloc (.cells #[.int .i64 s, .int .i64 t] 3) = W3 at *
  have P3 : Hid _ := P2.out.below b3
  have Q3 : Hid _ := W2'.out.below b3
  have B3 : Hid (Below w.heap.size w W3) := bthen B2.out b3
  clear b3 P2 B2 W2' hz2
  refine (rlook_any n _ _ es [s, t] W3 (HV.out.below B3.out) L3.out hlen (by simp)).mono ?_
  rintro e w4 ⟨rfl, b4⟩
  have P4 : Hid _ := P3.out.below b4
  have Q4 : Hid _ := Q3.out.below b4
  have B4 : Hid (Below w.heap.size w w4) := bthen B3.out b4
  obtain ⟨X, hX⟩ : ∃ X, w1.heap.size = X := ⟨_, rfl⟩
  rw [hX] at Q4 ⊢
  clear b4 P3 B3 L3 Q3 hX
  generalize lk n es [s, t] = k2 at *
  obtain ⟨q0, q1⟩ := Q4.out.cell
  go_wp2_with fail
  clear q0 q1
  refine (same_yes _ _ 0 [] w4 (.no none 0 rfl rfl) (.no none 0 rfl rfl) (by simp)).mono ?_
  rintro e w5 ⟨rfl, b5⟩
  go_wp2_with fail
  go_ret
  exact ⟨rfl, bthen B4.out b5⟩

set_option maxRecDepth 100000 in
set_option maxHeartbeats 8000000 in
theorem walk_yes (N s t : Nat) (v : Value) (es : List E) (w : World) (hv : SlE w v es) (hps : nps N es = 0) (hp : Pn N es) (hg : Gn N es) (hs : s < N) (ht : t < N) :
    Calls Try.prog 4 #[.agg #[.int .i64 N, v], .int .i64 s, .int .i64 t] w fun e w' => e = .returned (.bool true) ∧ Below w.heap.size w w' := by
  obtain ⟨a0, c0, rfl⟩ := hv.val
  have HV : Hid _ := hv
  have HPS : Hid _ := hps
  have HP : Hid _ := hp
  have HG : Hid _ := hg
  have HLK : Hid _ := lk_two hps hs ht
  have hlen := hp.len
  have hn64 := hp.n64
  have hti : (t : Int) < (N : Int) := by omega
  clear hv hps hp hg
  go_enter Try.func4, Try.ntmps4
  go_wp2_with fail
  have P0 : Hid _ := box2_new w (N : Int) (.slice a0 es.length c0) 24
  have B0 : Hid (Below w.heap.size w (w.alloc (.cells #[.int .i64 N, .slice a0 es.length c0] 24))) := balloc (Below.refl _ _) _
  generalize w.alloc (.cells #[.int .i64 N, .slice a0 es.length c0] 24) = W0 at *
  refine (way_any N s t _ es W0 (HV.out.below B0.out) HPS.out HP.out hs ht).mono ?_
  rintro e w1 ⟨⟨d, hd, h⟩, b1⟩
  have HD : Hid _ := hd
  have P1 : Hid _ := P0.out.below b1
  have B1 : Hid (Below w.heap.size w w1) := bthen B0.out b1
  clear b1 P0 B0 hd
  rcases h with ⟨hf, rfl⟩ | ⟨hf, g, cap, k, rfl, hbk, han, his⟩
  · have HF : Hid _ := hf
    clear hf
    have P2 : Hid _ := P1.out.below (balloc (Below.refl _ _) (.cells #[.slice none 0 0, .int .i64 0] 34))
    have B2 : Hid (Below w.heap.size w (w1.alloc (.cells #[.slice none 0 0, .int .i64 0] 34))) := balloc B1.out _
    have W2' : Hid _ := bw_new w1 (.slice none 0 0) (.int .i64 0)
    have hz2 : (w1.alloc (.cells #[.slice none 0 0, .int .i64 0] 34)).heap.size = w1.heap.size + 1 := by simp
    obtain ⟨p0, p1⟩ := P2.out
    clear P1 B1
    go_wp2_with fail
    clear p0 p1
    generalize w1.alloc (.cells #[.slice none 0 0, .int .i64 0] 34) = W2 at *
    have L3 : Hid _ := lit_nums W2 [(s : Int), (t : Int)] #[.int .i64 s, .int .i64 t] 2 rfl rfl
    rw [hz2] at L3
    have b3 : Below W2.heap.size W2 (W2.alloc (.cells #[.int .i64 s, .int .i64 t] 3)) := balloc (Below.refl _ _) _
    generalize W2.alloc (.cells #[.int .i64 s, .int .i64 t] 3) = W3 at *
    have P3 : Hid _ := P2.out.below b3
    have Q3 : Hid _ := W2'.out.below b3
    have B3 : Hid (Below w.heap.size w W3) := bthen B2.out b3
    clear b3 P2 B2 W2' hz2
    refine (rlook_any N _ _ es [(s : Int), (t : Int)] W3 (HV.out.below B3.out) L3.out (by omega) (by simp)).mono ?_
    rintro e w4 ⟨rfl, b4⟩
    have P4 : Hid _ := P3.out.below b4
    have Q4 : Hid _ := Q3.out.below b4
    have B4 : Hid (Below w.heap.size w w4) := bthen B3.out b4
    obtain ⟨X, hX⟩ : ∃ X, w1.heap.size = X := ⟨_, rfl⟩
    rw [hX] at Q4 ⊢
    clear b4 P3 B3 L3 Q3 hX
    rw [HLK.out]
    obtain ⟨p0, p1⟩ := P4.out
    go_wp2_with fail
    clear p0 p1
    refine (rdist_is N s d _ es w4 (HV.out.below B4.out) HP.out HD.out hs).mono ?_
    rintro e w5 ⟨b5, cap5, rfl, r5, bb5⟩
    have c5 := (r5.cell t (by rw [lst_length]; exact ht)).1
    rw [lst_at ht, HF.out] at c5
    have P5 : Hid _ := P4.out.below bb5
    have Q5 : Hid _ := Q4.out.below bb5
    have B5 : Hid (Below w.heap.size w w5) := bthen B4.out bb5
    clear r5 bb5 P4 Q4 B4
    obtain ⟨q0, q1⟩ := Q5.out.cell
    go_wp2_with fail
    clear q0 q1 c5
    refine (same_yes _ _ 0 [] w5 (.no none 0 rfl rfl) (.no none 0 rfl rfl) (by simp)).mono ?_
    rintro e w6 ⟨rfl, b6⟩
    go_wp2_with fail
    go_ret
    exact ⟨rfl, bthen B5.out b6⟩
  · have HBK : Hid _ := hbk
    have HAN : Hid _ := han
    have HIS : Hid _ := his.sl
    have HF : Hid _ := hf
    have hfb : (d t == 1099511627776) = false := by simp; omega
    have hfn : ¬ d t = 1099511627776 := by omega
    clear hbk han his hf
    obtain ⟨x, hx⟩ : ∃ x, d t = x := ⟨_, rfl⟩
    have HX : Hid _ := hx
    rw [hx] at hfb hfn ⊢
    clear hx
    have P2 : Hid _ := P1.out.below (balloc (Below.refl _ _) (.cells #[.slice (some ⟨g, 0, none⟩) (k + 1) cap, .int .i64 x] 34))
    have B2 : Hid (Below w.heap.size w (w1.alloc (.cells #[.slice (some ⟨g, 0, none⟩) (k + 1) cap, .int .i64 x] 34))) := balloc B1.out _
    have I2 : Hid _ := HIS.out.below (balloc (Below.refl _ _) (.cells #[.slice (some ⟨g, 0, none⟩) (k + 1) cap, .int .i64 x] 34))
    have W2' : Hid _ := bw_new w1 (.slice (some ⟨g, 0, none⟩) (k + 1) cap) (.int .i64 x)
    have hz2 : (w1.alloc (.cells #[.slice (some ⟨g, 0, none⟩) (k + 1) cap, .int .i64 x] 34)).heap.size = w1.heap.size + 1 := by simp
    obtain ⟨p0, p1⟩ := P2.out
    clear P1 B1 HIS
    go_wp2_with fail
    clear p0 p1
    generalize w1.alloc (.cells #[.slice (some ⟨g, 0, none⟩) (k + 1) cap, .int .i64 x] 34) = W2 at *
    have L3 : Hid _ := lit_nums W2 [(s : Int), (t : Int)] #[.int .i64 s, .int .i64 t] 2 rfl rfl
    rw [hz2] at L3
    have b3 : Below W2.heap.size W2 (W2.alloc (.cells #[.int .i64 s, .int .i64 t] 3)) := balloc (Below.refl _ _) _
    generalize W2.alloc (.cells #[.int .i64 s, .int .i64 t] 3) = W3 at *
    have P3 : Hid _ := P2.out.below b3
    have I3 : Hid _ := I2.out.below b3
    have Q3 : Hid _ := W2'.out.below b3
    have B3 : Hid (Below w.heap.size w W3) := bthen B2.out b3
    clear b3 P2 B2 W2' hz2
    refine (rlook_any N _ _ es [(s : Int), (t : Int)] W3 (HV.out.below B3.out) L3.out (by omega) (by simp)).mono ?_
    rintro e w4 ⟨rfl, b4⟩
    have P4 : Hid _ := P3.out.below b4
    have I4 : Hid _ := I3.out.below b4
    have Q4 : Hid _ := Q3.out.below b4
    have B4 : Hid (Below w.heap.size w w4) := bthen B3.out b4
    obtain ⟨X, hX⟩ : ∃ X, w1.heap.size = X := ⟨_, rfl⟩
    rw [hX] at Q4 ⊢
    clear b4 P3 B3 L3 Q3 hX
    rw [HLK.out]
    obtain ⟨p0, p1⟩ := P4.out
    go_wp2_with fail
    clear p0 p1
    refine (rdist_is N s d _ es w4 (HV.out.below B4.out) HP.out HD.out hs).mono ?_
    rintro e w5 ⟨b5, cap5, rfl, r5, bb5⟩
    have c5 := (r5.cell t (by rw [lst_length]; exact ht)).1
    rw [lst_at ht, HX.out] at c5
    have P5 : Hid _ := P4.out.below bb5
    have Q5 : Hid _ := Q4.out.below bb5
    have B5 : Hid (Below w.heap.size w w5) := bthen B4.out bb5
    have I5 : Hid _ := I4.out.below bb5
    clear r5 bb5 P4 Q4 B4 I4
    obtain ⟨q0, q1⟩ := Q5.out.cell
    obtain ⟨p0, p1⟩ := P5.out
    obtain ⟨p, hpp⟩ : ∃ p, (bp (ah N es d) t k).reverse = p := ⟨_, rfl⟩
    have HPL : Hid (p.length = k + 1) := by rw [← hpp, List.length_reverse, bp_length]; rfl
    rw [hpp] at I5
    have hkN := HBK.out.short HP.out
    have HWO : Hid (∀ w', Below w5.heap.size w5 w' → Calls Try.prog 17 #[.agg #[.int .i64 N, .slice a0 es.length c0], .int .i64 s, .int .i64 t] w' fun e w'' => ∃ g6 cap6, e = .returned (.agg #[.slice (some ⟨g6, 0, none⟩) (k + 1) cap6, .int .i64 x]) ∧ SlI w'' (.slice (some ⟨g6, 0, none⟩) (k + 1) cap6) p ∧ Below w'.heap.size w' w'') := fun w' hb => by
      refine (wayof_any N s t _ es d w' (HV.out.below (bthen B5.out hb)) HP.out HG.out HD.out hs ht HF.out).mono ?_
      rintro e w'' ⟨g6, cap6, k6, rfl, hbk6, han6, his6, b6⟩
      obtain rfl := hbk6.one han6 HBK.out HAN.out
      rw [hpp] at his6
      exact ⟨g6, cap6, by rw [HX.out], his6, b6⟩
    have HSA : Hid (∀ w' u, Below w5.heap.size w5 w' → SlI w' u p → Calls Try.prog 16 #[.agg #[.slice (some ⟨g, 0, none⟩) (k + 1) cap, .int .i64 x], .agg #[u, .int .i64 x]] w' fun e w'' => e = .returned (.bool true) ∧ Below w'.heap.size w' w'') := fun w' u hb hu => same_yes _ u x p w' (I5.out.below hb) hu (by have := HPL.out; omega)
    clear hpp
    go_wp2_with fail
    go_region_held3 (fun w' => w'.cell? ⟨w.heap.size, 0, none⟩ = some (.int .i64 N) ∧ w'.cell? ⟨w.heap.size, 1, none⟩ = some (.slice a0 es.length c0) ∧ w'.cell? ⟨X, 0, none⟩ = some (.slice (some ⟨g, 0, none⟩) (k + 1) cap) ∧ w'.cell? ⟨X, 1, none⟩ = some (.int .i64 x)) (first | go_keep | exact KEEP.out)
      (first
       | (go_at_call 17; refine (HWO.out _ (by exact Below.drew (Below.refl _ _))).mono ?_; rintro e w6 ⟨g6, cap6, rfl, s6, b6⟩; have S6 : Hid _ := s6; have BB : Hid (Below w5.heap.size w5 w6) := (by exact bthen (Below.drew (Below.refl _ _)) b6); clear b6 s6; have KEEP : Hid (w6.cell? ⟨w.heap.size, 0, none⟩ = some (.int .i64 N) ∧ w6.cell? ⟨w.heap.size, 1, none⟩ = some (.slice a0 es.length c0) ∧ w6.cell? ⟨X, 0, none⟩ = some (.slice (some ⟨g, 0, none⟩) (k + 1) cap) ∧ w6.cell? ⟨X, 1, none⟩ = some (.int .i64 x)) := ⟨kept BB.out P5.out.g0, kept BB.out P5.out.g1, kept BB.out Q5.out.cell.1, kept BB.out Q5.out.cell.2⟩)
       | (go_at_call 16; refine (HSA.out _ _ BB.out S6.out).mono ?_; rintro e w7 ⟨rfl, b7⟩; have BC : Hid (Below w5.heap.size w5 w7) := (by exact bthen BB.out b7); clear b7; have KEEP : Hid (w7.cell? ⟨w.heap.size, 0, none⟩ = some (.int .i64 N) ∧ w7.cell? ⟨w.heap.size, 1, none⟩ = some (.slice a0 es.length c0) ∧ w7.cell? ⟨X, 0, none⟩ = some (.slice (some ⟨g, 0, none⟩) (k + 1) cap) ∧ w7.cell? ⟨X, 1, none⟩ = some (.int .i64 x)) := ⟨kept BC.out P5.out.g0, kept BC.out P5.out.g1, kept BC.out Q5.out.cell.1, kept BC.out Q5.out.cell.2⟩)
       | fail)
    all_goals
      go_wp2_with fail
      go_ret
      exact ⟨rfl, bthen B5.out BC.out⟩

theorem walk (n s t : Int) (v : Value) (es : List E) (w : World) (hv : SlE w v es) (hlen : es.length ≤ 9223372036854775807) :
    Calls Try.prog 4 #[.agg #[.int .i64 n, v], .int .i64 s, .int .i64 t] w fun e w' => e = .returned (.bool true) ∧ Below w.heap.size w w' := by
  by_cases hc : lk n es [s, t] = 0
  · obtain ⟨h1, h2, h3⟩ := lk_cases2 hc
    obtain ⟨hg, hp, hn⟩ := pn_of h1
    obtain ⟨a, rfl, ha⟩ := plc_nat h2
    obtain ⟨b, rfl, hb⟩ := plc_nat h3
    rw [← hn] at h1 ha hb hg ⊢
    exact walk_yes n.toNat a b v es w hv h1 hp hg (by omega) (by omega)
  · exact walk_bad n s t v es w hv hlen hc
end Go.Proofs.Ytahijfljpjgdlaa.DWays
