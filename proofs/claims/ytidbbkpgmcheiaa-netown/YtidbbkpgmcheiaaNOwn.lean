/-
  The law fellkeep.NetOwn, walked.
-/
import Derived.Test.YtidbbkpgmcheiaaOS
import Derived.Test.YtidbbkpgmcheiaaOI
import Derived.Test.YtidbbkpgmcheiaaJC
import Derived.Test.YtidbbkpgmcheiaaSN
import Derived.Test.YtidbbkpgmcheiaaTW
import Derived.Deep.DeepCutAuto
namespace Go.Proofs.Ytidbbkpgmcheiaa
open Go.RowKit
open Nm Wm Dm Bm Jm

/-- What Turn answers, whatever is handed in. -/
structure Tb (w' : World) (base : Nat) (e : Ending) : Prop where
  is : ∃ n' k a m c l, e = .returned (.tuple #[.agg #[.int .i64 n', .slice a m c], .int .i64 k]) ∧ Es w' base (.slice a m c) l ∧ l.length ≤ 600
theorem turn_back (n : Int) (v : Value) (es : List E) (w : World) (hv : SlE w v es) (hlen : es.length ≤ 9223372036854775807) :
    Calls Try.prog 41 #[.agg #[.int .i64 n, v]] w fun e w' => Tb w' w.heap.size e ∧ Below w.heap.size w w' := by
  by_cases hc : nck n es = 0
  · refine (turn_yes n v es w hv (nck_zero.1 hc)).mono ?_
    rintro e w' ⟨u, rfl, hes, b⟩
    obtain ⟨a, c, rfl⟩ := hes.sl.val
    exact ⟨⟨n, 0, a, _, c, _, rfl, hes, by rw [List.length_map]; exact (nck_zero.1 hc).len⟩, b⟩
  · refine (turn_bad n v es w hv hlen hc).mono ?_
    rintro e w' ⟨rfl, b⟩
    exact ⟨⟨0, _, none, 0, 0, [], rfl, Es.nil _ _, by simp⟩, b⟩
/-- What Flat answers, whatever is handed in. -/
structure Fb (w' : World) (base : Nat) (e : Ending) : Prop where
  is : ∃ n' k a m c l, e = .returned (.tuple #[.agg #[.int .i64 n', .slice a m c], .int .i64 k]) ∧ Sx w' base (.slice a m c) l ∧ l.length ≤ 600
theorem flat_back (n : Int) (v u : Value) (es : List E) (hs : List Int) (w : World) (hv : SlE w v es) (hu : SlI w u hs) (hlen : es.length ≤ 9223372036854775807) :
    Calls Try.prog 25 #[.agg #[.int .i64 n, v], u] w fun e w' => Fb w' w.heap.size e ∧ Below w.heap.size w w' := by
  by_cases hc : nck n es = 0
  · obtain ⟨hb, hn⟩ := bn_of hc
    by_cases hh : (hs.length : Int) = n ∧ hgt hs = true
    · have := flat_any n.toNat v u es hs w hv hu hb (by omega) hh.2
      rw [hn] at this
      refine this.mono ?_
      rintro e w' ⟨⟨h⟩, b⟩
      rcases h with ⟨_, G, rfl, hG, r⟩ | ⟨_, rfl⟩
      · rw [hn]
        refine ⟨⟨n, 0, some ⟨G, 0, none⟩, es.length, es.length, es.map (lvl hs), rfl, ⟨.inr ⟨G, es.length, by rw [List.length_map], hG, ?_⟩⟩, by rw [List.length_map]; exact hb.len⟩, b⟩
        rw [List.length_map]
        exact r.congr (fun i hi => (at3_map _ hi).symm)
      · exact ⟨⟨0, _, none, 0, 0, [], rfl, ⟨.inl ⟨rfl, rfl⟩⟩, by simp⟩, b⟩
    · refine (flat_arg n v u es hs w hv hu hlen hc (nck_zero.1 hc).n64 hh).mono ?_
      rintro e w' ⟨rfl, b⟩
      exact ⟨⟨0, _, none, 0, 0, [], rfl, ⟨.inl ⟨rfl, rfl⟩⟩, by simp⟩, b⟩
  · refine (flat_net n v u es hs w hv hu hlen hc).mono ?_
    rintro e w' ⟨rfl, b⟩
    exact ⟨⟨0, _, none, 0, 0, [], rfl, ⟨.inl ⟨rfl, rfl⟩⟩, by simp⟩, b⟩
theorem gn_two : Gn 2 [(0, 1, 5)] := ⟨by omega, by omega, by simp, by simp⟩
theorem turn_two (v : Value) (w : World) (hv : SlE w v [(0, 1, 5)]) : Calls Try.prog 41 #[.agg #[.int .i64 2, v]] w fun e w' => ∃ a c, e = .returned (.tuple #[.agg #[.int .i64 2, .slice a 1 c], .int .i64 0]) ∧ Below w.heap.size w w' := by
  refine (turn_yes 2 v _ w hv gn_two).mono ?_
  rintro e w' ⟨u, rfl, hes, b⟩
  obtain ⟨a, c, rfl⟩ := hes.sl.val
  exact ⟨a, c, rfl, b⟩

theorem Rm3.other {w : World} {g k o : Nat} {l : List E} {r : List Value} {v : Value} (h : Rm3 w g l r) (hne : g ≠ k) : Rm3 (w.setCell ⟨k, o, none⟩ v) g l r := ⟨(Below.heap_setCell _ _ _ _ hne).trans h.at_, h.nine⟩
theorem Bn.put01 {w : World} {k : Nat} {a b : Value} (h : Bn w k a b) (u v : Value) : Bn ((w.setCell ⟨k, 0, none⟩ u).setCell ⟨k, 1, none⟩ v) k u v := ⟨(heap_setCell_same _ _ _ _ _ _ _ (heap_setCell_same _ _ _ _ _ _ _ h.at_)).trans rfl⟩
theorem Bn.grown {w w' : World} {k g : Nat} {a b : Value} (h : Bn w k a b) (hg : w.grownBy w' (some g)) (hne : g ≠ k) : Bn w' k a b := h.frame (hg.block k h.lt (fun e => by have := Option.some.inj e; omega))
theorem Es.lt {w : World} {base : Nat} {v : Value} {l : List E} (h : Es w base v l) : ∀ g, v.ownBlock = some g → g < w.heap.size := fun g hg => (ownBlock_lt h.own g hg).2
namespace NOwn
attribute [local go_sem ↓] Go.wp_at_zero Go.wp_at_succ
set_option maxRecDepth 100000 in
set_option maxHeartbeats 16000000 in
theorem walk (n : Int) (v u : Value) (es : List E) (hs : List Int) (w : World) (hv : SlE w v es) (hu : SlI w u hs) (hle : es.length ≤ 5864062014634) (hlh : hs.length ≤ 17592186043904) :
    Calls Try.prog 12 #[.agg #[.int .i64 n, v], u] w fun e w' => e = .returned (.bool true) ∧ Below w.heap.size w w' := by
  obtain ⟨a0, c0, rfl⟩ := hv.val
  obtain ⟨a1, c1, rfl⟩ := hu.val
  have HV : Hid _ := hv
  have HU : Hid _ := hu
  clear hv hu
  go_enter Try.func12, Try.ntmps12
  go_wp2_with fail
  have P0 : Hid _ := box2_new w n (.slice a0 es.length c0) 24
  have B0 : Hid (Below w.heap.size w (w.alloc (.cells #[.int .i64 n, .slice a0 es.length c0] 24))) := balloc (Below.refl _ _) _
  have hz0 : (w.alloc (.cells #[.int .i64 n, .slice a0 es.length c0] 24)).heap.size = w.heap.size + 1 := by simp
  generalize w.alloc (.cells #[.int .i64 n, .slice a0 es.length c0] 24) = W0 at *
  have M1 : Hid _ := box3_new W0 70 71 (.int .i64 72) 44
  rw [hz0] at M1
  have P1 : Hid _ := P0.out.below (balloc (Below.refl _ _) (.cells #[.int .i64 70, .int .i64 71, .int .i64 72] 44))
  have B1 : Hid (Below w.heap.size w (W0.alloc (.cells #[.int .i64 70, .int .i64 71, .int .i64 72] 44))) := balloc B0.out _
  generalize W0.alloc (.cells #[.int .i64 70, .int .i64 71, .int .i64 72] 44) = W1 at *
  clear hz0 B0 P0
  have V1 : Hid _ := HV.out.below B1.out
  go_cut [6] (fun v6 wc => ∃ (I X : Nat), v6 = .pointer (some ⟨I, 0, none⟩) ∧ Bn wc I (.int .i64 n) (.slice (some ⟨X, 0, none⟩) es.length (es.length + 3)) ∧ Rm3 wc X es (nin 70 71 72) ∧ X ≠ I ∧ W1.heap.size ≤ I ∧ W1.heap.size ≤ X ∧ Below W1.heap.size W1 wc)
  case first =>
    have KP : Hid (∀ w', Below W1.heap.size W1 w' → w'.cell? ⟨w.heap.size, 0, none⟩ = some (.int .i64 n) ∧ w'.cell? ⟨w.heap.size, 1, none⟩ = some (.slice a0 es.length c0) ∧ w'.cell? ⟨w.heap.size + 1, 0, none⟩ = some (.int .i64 70) ∧ w'.cell? ⟨w.heap.size + 1, 1, none⟩ = some (.int .i64 71) ∧ w'.cell? ⟨w.heap.size + 1, 2, none⟩ = some (.int .i64 72)) := fun w' hb => by
      obtain ⟨m0, m1, m2⟩ := M1.out
      exact ⟨kept hb P1.out.g0, kept hb P1.out.g1, kept hb m0, kept hb m1, kept hb m2⟩
    obtain ⟨p0, p1⟩ := P1.out
    obtain ⟨m0, m1, m2⟩ := M1.out
    go_region_held3 (fun w' => w'.cell? ⟨w.heap.size, 0, none⟩ = some (.int .i64 n) ∧ w'.cell? ⟨w.heap.size, 1, none⟩ = some (.slice a0 es.length c0) ∧ w'.cell? ⟨w.heap.size + 1, 0, none⟩ = some (.int .i64 70) ∧ w'.cell? ⟨w.heap.size + 1, 1, none⟩ = some (.int .i64 71) ∧ w'.cell? ⟨w.heap.size + 1, 2, none⟩ = some (.int .i64 72)) (first | go_keep | exact KP.out _ BB.out | exact KP.out _ (balloc BB.out _) | exact KP.out _ (Below.setCell (Below.setCell BB.out (by simp) _) (by simp) _))
      (first
       | (go_at_call 39; refine (roomy3_any 70 71 72 _ es _ ?_ hle).mono ?_; (first | exact V1.out.below (Below.drew (Below.refl _ _)) | exact V1.out.below (Below.drew (balloc (Below.refl _ _) _)) | exact V1.out.below (balloc (Below.drew (Below.refl _ _)) _)); rintro e w4 ⟨rfl, rm4, b4⟩; have RM : Hid _ := rm4; clear rm4; have BB : Hid (Below W1.heap.size W1 w4) := (by first | exact bthen (Below.drew (Below.refl _ _)) b4 | exact bthen (Below.drew (balloc (Below.refl _ _) _)) b4 | exact bthen (balloc (Below.drew (Below.refl _ _)) _) b4); (first | (have BN : Hid _ := (bn_new W1 (.int .i64 0) (.slice none 0 0)).below (bthen (Below.drew (Below.refl _ _)) b4); obtain ⟨e0, e1⟩ := BN.out.cell; obtain ⟨f0, f1⟩ := BN.out.frozen) | skip))
       | fail)
    all_goals
      go_wp2_with fail
      go_meet
      first
        | exact ⟨w4.heap.size, W1.heap.size + 1, rfl, bn_new _ _ _, RM.out.below (balloc (Below.refl _ _) _), by have h : W1.heap.size + 1 < w4.heap.size := RM.out.lt; omega, BB.out.size, by omega, balloc BB.out _⟩
        | exact ⟨W1.heap.size, W1.heap.size + 1 + 1, rfl, BN.out.put01 _ _, by
            have h : Rm3 w4 ((W1.alloc (.cells #[.int .i64 0, .slice none 0 0] 24)).heap.size + 1) es (nin 70 71 72) := RM.out
            rw [show (W1.alloc (.cells #[.int .i64 0, .slice none 0 0] 24)).heap.size = W1.heap.size + 1 by simp] at h
            exact (h.other (by omega)).other (by omega), by omega, Nat.le_refl _, by omega, Below.setCell (Below.setCell BB.out (by simp) _) (by simp) _⟩
  case rest =>
    obtain ⟨I, X, rfl, hin, hrx, hxi, hwi, hwx, hbc⟩ := hcut
    have IN0 : Hid _ := hin
    have RX0 : Hid _ := hrx
    have SW1 := B1.out.size
    have PP0 : Hid _ := P1.out.below hbc
    have MM0 : Hid _ := M1.out.below hbc
    have BW0 : Hid (Below w.heap.size w wc) := bthen B1.out hbc
    have hI0 := hin.lt
    have hX0 := hrx.lt
    clear hin hrx hbc P1 M1 B1 V1
    go_wp2_with fail
    refine (roomy_any 9 _ hs wc (HU.out.below BW0.out) hlh).mono ?_
    rintro e w1 ⟨rfl, rk, b1⟩
    have IN1 : Hid _ := IN0.out.below b1
    have RX1 : Hid _ := RX0.out.below b1
    have PP1 : Hid _ := PP0.out.below b1
    have MM1 : Hid _ := MM0.out.below b1
    have BW1 : Hid (Below w.heap.size w w1) := bthen BW0.out b1
    clear IN0 RX0 PP0 MM0 BW0
    have RK1 : Hid _ := rk
    have hs1 := b1.size
    clear rk b1
    obtain ⟨i0, i1⟩ := IN1.out.cell
    go_wp2_with fail
    clear i0 i1
    refine (turn_back n _ es w1 RX1.out.sl (by omega)).mono ?_
    rintro e w2 ⟨⟨na, ka, aa, ma, ca, la, rfl, ea, hla⟩, b2⟩
    have OA : Hid (∀ g, (Value.slice aa ma ca).ownBlock = some g → g < w2.heap.size) := ea.lt
    have IN2 : Hid _ := (IN1.out.below b2).below (balloc (Below.refl _ _) (.cells #[.int .i64 na, .slice aa ma ca] 24))
    have RX2 : Hid _ := (RX1.out.below b2).below (balloc (Below.refl _ _) (.cells #[.int .i64 na, .slice aa ma ca] 24))
    have PP2 : Hid _ := (PP1.out.below b2).below (balloc (Below.refl _ _) (.cells #[.int .i64 na, .slice aa ma ca] 24))
    have MM2 : Hid _ := (MM1.out.below b2).below (balloc (Below.refl _ _) (.cells #[.int .i64 na, .slice aa ma ca] 24))
    have RK2 : Hid _ := (RK1.out.below b2).below (balloc (Below.refl _ _) (.cells #[.int .i64 na, .slice aa ma ca] 24))
    have BW2 : Hid (Below w.heap.size w (w2.alloc (.cells #[.int .i64 na, .slice aa ma ca] 24))) := balloc (bthen BW1.out b2) _
    clear IN1 RX1 PP1 MM1 RK1 BW1
    have EA2 : Hid _ := ea.below (balloc (Below.refl _ _) (.cells #[.int .i64 na, .slice aa ma ca] 24))
    have AB2 : Hid _ := bn_new w2 (.int .i64 na) (.slice aa ma ca)
    have hs2 := b2.size
    have hz2 : (w2.alloc (.cells #[.int .i64 na, .slice aa ma ca] 24)).heap.size = w2.heap.size + 1 := by simp
    clear ea b2
    obtain ⟨i0, i1⟩ := IN2.out.cell
    go_wp2_with fail
    clear i0 i1
    generalize w2.alloc (.cells #[.int .i64 na, .slice aa ma ca] 24) = W2 at *
    refine (flat_back n _ _ es hs W2 RX2.out.sl RK2.out.sl (by omega)).mono ?_
    rintro e w3 ⟨⟨nb, kb, ab, mb, cb, lb, rfl, eb, hlb⟩, b3⟩
    have IN3 : Hid _ := (IN2.out.below b3).below (balloc (Below.refl _ _) (.cells #[.int .i64 nb, .slice ab mb cb] 24))
    have RX3 : Hid _ := (RX2.out.below b3).below (balloc (Below.refl _ _) (.cells #[.int .i64 nb, .slice ab mb cb] 24))
    have PP3 : Hid _ := (PP2.out.below b3).below (balloc (Below.refl _ _) (.cells #[.int .i64 nb, .slice ab mb cb] 24))
    have MM3 : Hid _ := (MM2.out.below b3).below (balloc (Below.refl _ _) (.cells #[.int .i64 nb, .slice ab mb cb] 24))
    have RK3 : Hid _ := (RK2.out.below b3).below (balloc (Below.refl _ _) (.cells #[.int .i64 nb, .slice ab mb cb] 24))
    have EA3 : Hid _ := (EA2.out.below b3).below (balloc (Below.refl _ _) (.cells #[.int .i64 nb, .slice ab mb cb] 24))
    have AB3 : Hid _ := (AB2.out.below b3).below (balloc (Below.refl _ _) (.cells #[.int .i64 nb, .slice ab mb cb] 24))
    have BW3 : Hid (Below w.heap.size w (w3.alloc (.cells #[.int .i64 nb, .slice ab mb cb] 24))) := balloc (bthen BW2.out b3) _
    clear IN2 RX2 PP2 MM2 RK2 EA2 AB2 BW2
    have SB3 : Hid _ := eb.below (balloc (Below.refl _ _) (.cells #[.int .i64 nb, .slice ab mb cb] 24))
    have BX3 : Hid _ := bn_new w3 (.int .i64 nb) (.slice ab mb cb)
    have hs3 := b3.size
    have hz3 : (w3.alloc (.cells #[.int .i64 nb, .slice ab mb cb] 24)).heap.size = w3.heap.size + 1 := by simp
    clear eb b3
    obtain ⟨i0, i1⟩ := IN3.out.cell
    obtain ⟨p0, p1⟩ := PP3.out
    go_wp2_with fail
    clear i0 i1 p0 p1
    generalize w3.alloc (.cells #[.int .i64 nb, .slice ab mb cb] 24) = W3 at *
    refine (sameNet_yes n _ _ es W3 RX3.out.sl (HV.out.below BW3.out) (by omega)).mono ?_
    rintro e w4 ⟨rfl, b4⟩
    have IN4 : Hid _ := IN3.out.below b4
    have RX4 : Hid _ := RX3.out.below b4
    have MM4 : Hid _ := MM3.out.below b4
    have RK4 : Hid _ := RK3.out.below b4
    have EA4 : Hid _ := EA3.out.below b4
    have AB4 : Hid _ := AB3.out.below b4
    have SB4 : Hid _ := SB3.out.below b4
    have BX4 : Hid _ := BX3.out.below b4
    have BW4 : Hid (Below w.heap.size w w4) := bthen BW3.out b4
    clear IN3 RX3 MM3 RK3 EA3 AB3 SB3 BX3 BW3
    have hs4 := b4.size
    clear b4
    obtain ⟨i0, i1⟩ := IN4.out.cell
    obtain ⟨m0, m1, m2⟩ := MM4.out
    go_wp2_with fail
    clear i0 i1 m0 m1 m2
    refine (filled3_any X es 70 71 72 w4 RX4.out hle).mono ?_
    rintro e w5 ⟨rfl, b5⟩
    have IN5 : Hid _ := IN4.out.below b5
    have RX5 : Hid _ := RX4.out.below b5
    have RK5 : Hid _ := RK4.out.below b5
    have EA5 : Hid _ := EA4.out.below b5
    have AB5 : Hid _ := AB4.out.below b5
    have SB5 : Hid _ := SB4.out.below b5
    have BX5 : Hid _ := BX4.out.below b5
    have BW5 : Hid (Below w.heap.size w w5) := bthen BW4.out b5
    clear IN4 RX4 RK4 EA4 AB4 SB4 BX4 BW4
    have hs5 := b5.size
    clear b5
    go_wp2_with fail
    refine (iequal_yes _ _ hs w5 RK5.out.sl (HU.out.below BW5.out) (by omega)).mono ?_
    rintro e w6 ⟨rfl, b6⟩
    have IN6 : Hid _ := IN5.out.below b6
    have RX6 : Hid _ := RX5.out.below b6
    have RK6 : Hid _ := RK5.out.below b6
    have EA6 : Hid _ := EA5.out.below b6
    have AB6 : Hid _ := AB5.out.below b6
    have SB6 : Hid _ := SB5.out.below b6
    have BX6 : Hid _ := BX5.out.below b6
    have BW6 : Hid (Below w.heap.size w w6) := bthen BW5.out b6
    clear IN5 RX5 RK5 EA5 AB5 SB5 BX5 BW5
    have hs6 := b6.size
    clear b6
    go_wp2_with fail
    refine (filled_any wc.heap.size hs 9 w6 RK6.out hlh).mono ?_
    rintro e w7 ⟨rfl, b7⟩
    have IN7 : Hid _ := IN6.out.below b7
    have RX7 : Hid _ := RX6.out.below b7
    have EA7 : Hid _ := EA6.out.below b7
    have AB7 : Hid _ := AB6.out.below b7
    have SB7 : Hid _ := SB6.out.below b7
    have BX7 : Hid _ := BX6.out.below b7
    have BW7 : Hid (Below w.heap.size w w7) := bthen BW6.out b7
    clear IN6 RX6 EA6 AB6 SB6 BX6 BW6
    have hs7 := b7.size
    clear b7
    obtain ⟨i0, i1⟩ := AB7.out.cell
    obtain ⟨j0, j1⟩ := BX7.out.cell
    go_wp2_with fail
    clear i0 j0
    obtain ⟨A2, hA2⟩ : ∃ A2, w2.heap.size = A2 := ⟨_, rfl⟩
    have HA2 : Hid _ := hA2
    obtain ⟨A3, hA3⟩ : ∃ A3, w3.heap.size = A3 := ⟨_, rfl⟩
    have HA3 : Hid _ := hA3
    rw [hA2] at i1 ⊢
    rw [hA3] at j1 ⊢
    clear hA2 hA3
    go_cut [12, 13] (fun v12 v13 wd => ∃ (ax : Option Addr) (cx : Nat) (ay : Option Addr) (cy : Nat), v12 = .slice ax la.length cx ∧ v13 = .slice ay lb.length cy ∧ Es wd w7.heap.size (.slice ax la.length cx) la ∧ Es wd w7.heap.size (.slice ay lb.length cy) lb ∧ Below w7.heap.size w7 wd)
    case first =>
      have KP : Hid (∀ w', Below w7.heap.size w7 w' → w'.cell? ⟨A2, 1, none⟩ = some (.slice aa ma ca) ∧ w'.cell? ⟨A3, 1, none⟩ = some (.slice ab mb cb)) := fun w' hb => ⟨kept hb i1, kept hb j1⟩
      go_region_held3 (fun w' => w'.cell? ⟨A2, 1, none⟩ = some (.slice aa ma ca) ∧ w'.cell? ⟨A3, 1, none⟩ = some (.slice ab mb cb)) (first | exact KP.out _ BB.out | go_keep)
        (first
         | (go_at_call 44; refine (eclone_any _ lb w8 (SB7.out.sl.below BB.out) (by omega)).mono ?_; rintro e w9 ⟨uy, rfl, ey, b9⟩; obtain ⟨ay, cy, rfl⟩ := ey.sl.val; have EX9 : Hid _ := EX8.out.below b9; have EY9 : Hid _ := ey.mono BB.out.size; have BB9 : Hid (Below w7.heap.size w7 w9) := bthen BB.out b9; have BB : Hid (Below w7.heap.size w7 w9) := BB9.out; clear ey b9)
         | (go_at_call 44; refine (eclone_any _ la w7.drew (EA7.out.sl.below (Below.drew (Below.refl _ _))) (by omega)).mono ?_; rintro e w8 ⟨ux, rfl, ex, b8⟩; obtain ⟨ax, cx, rfl⟩ := ex.sl.val; have EX8 : Hid _ := ex; have BB : Hid (Below w7.heap.size w7 w8) := (by exact bthen (Below.drew (Below.refl _ _)) b8); clear ex b8)
         | fail)
      all_goals
        go_wp2_with fail
        go_meet
        exact ⟨ax, cx, ay, cy, rfl, rfl, EX9.out, EY9.out, BB.out⟩
    case rest =>
      obtain ⟨ax, cx, ay, cy, rfl, rfl, hex, hey, hbd⟩ := hcut
      obtain ⟨w9, hw9⟩ : ∃ w9, w9 = wc := ⟨_, rfl⟩
      subst hw9
      have EX9 : Hid _ := hex
      have EY9 : Hid _ := hey
      have IN9 : Hid _ := IN7.out.below hbd
      have RX9 : Hid _ := RX7.out.below hbd
      have EA9 : Hid _ := EA7.out.below hbd
      have AB9 : Hid _ := AB7.out.below hbd
      rw [HA2.out] at AB9
      have SB9 : Hid _ := SB7.out.below hbd
      have BX9 : Hid _ := BX7.out.below hbd
      rw [HA3.out] at BX9
      have BW9 : Hid (Below w.heap.size w w9) := bthen BW7.out hbd
      have hs9 := hbd.size
      clear hex hey hbd IN7 RX7 EA7 AB7 SB7 BX7 BW7 i1 j1
      obtain ⟨i0, i1⟩ := IN9.out.cell
      go_wp2_with fail
      clear i0 i1
      refine (spoil3_rm X es _ w9 RX9.out hle).mono ?_
      rintro e w10 ⟨rfl, g10⟩
      have EA10 : Hid _ := EA9.out.grown g10 (by have := HA2.out; have := HA3.out; omega)
      have AB10 : Hid _ := AB9.out.grown g10 (by have := HA2.out; have := HA3.out; omega)
      have SB10 : Hid _ := SB9.out.grown g10 (by have := HA2.out; have := HA3.out; omega)
      have BX10 : Hid _ := BX9.out.grown g10 (by have := HA2.out; have := HA3.out; omega)
      have EX10 : Hid _ := EX9.out.grown g10 (by have := HA2.out; have := HA3.out; omega)
      have EY10 : Hid _ := EY9.out.grown g10 (by have := HA2.out; have := HA3.out; omega)
      have BW10 : Hid (Below w.heap.size w w10) := below_grown BW9.out g10 (by have := HA2.out; have := HA3.out; omega) BW9.out.size
      have hs10 := g10.size
      clear g10 IN9 RX9 EA9 AB9 SB9 BX9 EX9 EY9 BW9
      obtain ⟨i0, i1⟩ := AB10.out.cell
      go_wp2_with fail
      clear i0 i1
      refine (eequal_yes _ _ la w10 EA10.out.sl EX10.out.sl (by have := HA2.out; have := HA3.out; omega)).mono ?_
      rintro e w11 ⟨rfl, b11⟩
      have EA11 : Hid _ := EA10.out.below b11
      have AB11 : Hid _ := AB10.out.below b11
      have SB11 : Hid _ := SB10.out.below b11
      have BX11 : Hid _ := BX10.out.below b11
      have EY11 : Hid _ := EY10.out.below b11
      have BW11 : Hid (Below w.heap.size w w11) := bthen BW10.out b11
      clear EA10 AB10 SB10 BX10 EY10 BW10
      have hs11 := b11.size
      clear b11 EX10
      obtain ⟨i0, i1⟩ := BX11.out.cell
      go_wp2_with fail
      clear i0 i1
      refine (eequal_yes _ _ lb w11 SB11.out.sl EY11.out.sl (by have := HA2.out; have := HA3.out; omega)).mono ?_
      rintro e w12 ⟨rfl, b12⟩
      have EA12 : Hid _ := EA11.out.below b12
      have AB12 : Hid _ := AB11.out.below b12
      have SB12 : Hid _ := SB11.out.below b12
      have BX12 : Hid _ := BX11.out.below b12
      have EY12 : Hid _ := EY11.out.below b12
      have BW12 : Hid (Below w.heap.size w w12) := bthen BW11.out b12
      clear EA11 AB11 SB11 BX11 EY11 BW11
      have hs12 := b12.size
      clear b12
      obtain ⟨i0, i1⟩ := AB12.out.cell
      go_wp2_with fail
      clear i0 i1
      refine (spoil3_es _ w1.heap.size la w12 EA12.out).mono ?_
      rintro e w13 ⟨rfl, g13⟩
      have HH : Hid (Sx w13 W2.heap.size (.slice ab mb cb) lb ∧ Bn w13 A3 (.int .i64 nb) (.slice ab mb cb) ∧ Es w13 w7.heap.size (.slice ay lb.length cy) lb ∧ Below w.heap.size w w13) := by
        rcases g13 with b13 | ⟨g, hg, hbg, hgr⟩
        · exact ⟨SB12.out.below b13, BX12.out.below b13, EY12.out.below b13, bthen BW12.out b13⟩
        · have hg3 := OA.out g hg
          exact ⟨SB12.out.grown hgr (by have := HA2.out; have := HA3.out; omega), BX12.out.grown hgr (by have := HA2.out; have := HA3.out; omega), EY12.out.grown hgr (by have := HA2.out; have := HA3.out; omega), below_grown BW12.out hgr (by have := HA2.out; have := HA3.out; omega) BW12.out.size⟩
      have SB13 : Hid _ := HH.out.1
      have BX13 : Hid _ := HH.out.2.1
      have EY13 : Hid _ := HH.out.2.2.1
      have BW13 : Hid _ := HH.out.2.2.2
      clear g13 EA12 AB12 SB12 BX12 EY12 BW12 HH
      go_wp2_with fail
      refine (two_any w13).mono ?_
      rintro e w14 ⟨X14, rfl, e14, b14⟩
      have E14 : Hid _ := e14
      have SB14 : Hid _ := SB13.out.below b14
      have BX14 : Hid _ := BX13.out.below b14
      have EY14 : Hid _ := EY13.out.below b14
      have BW14 : Hid (Below w.heap.size w w14) := bthen BW13.out b14
      clear SB13 BX13 EY13 BW13
      clear b14 e14
      go_wp2_with fail
      refine (turn_two _ w14 E14.out).mono ?_
      rintro e w15 ⟨at15, ct15, rfl, b15⟩
      have SB15 : Hid _ := (SB14.out.below b15).below (balloc (Below.refl _ _) (.cells #[.int .i64 2, .slice at15 1 ct15] 24))
      have BX15 : Hid _ := (BX14.out.below b15).below (balloc (Below.refl _ _) (.cells #[.int .i64 2, .slice at15 1 ct15] 24))
      have EY15 : Hid _ := (EY14.out.below b15).below (balloc (Below.refl _ _) (.cells #[.int .i64 2, .slice at15 1 ct15] 24))
      have BW15 : Hid (Below w.heap.size w (w15.alloc (.cells #[.int .i64 2, .slice at15 1 ct15] 24))) := balloc (bthen BW14.out b15) _
      clear SB14 BX14 EY14 BW14
      have CB15 : Hid _ := bn_new w15 (.int .i64 2) (.slice at15 1 ct15)
      clear b15 E14
      obtain ⟨i0, i1⟩ := BX15.out.cell
      obtain ⟨j0, j1⟩ := CB15.out.cell
      go_wp2_with fail
      clear i0 i1 j0 j1
      generalize w15.alloc (.cells #[.int .i64 2, .slice at15 1 ct15] 24) = W15 at *
      refine (eequal_yes _ _ lb W15 SB15.out.sl EY15.out.sl (by have := HA2.out; have := HA3.out; omega)).mono ?_
      rintro e w16 ⟨rfl, b16⟩
      have BW16 : Hid (Below w.heap.size w w16) := bthen BW15.out b16
      obtain ⟨j0, j1⟩ := (CB15.out.below b16).cell
      clear b16
      go_wp2_with fail
      go_ret
      exact ⟨rfl, BW16.out⟩
end NOwn
end Go.Proofs.Ytidbbkpgmcheiaa
