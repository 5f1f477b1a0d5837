/-
  The law fellkeep.BellTight, walked.
-/
import Derived.Test.YtidbbkpgmcheiaaBD
import Derived.Test.YtidbbkpgmcheiaaBH
import Derived.Test.YtidbbkpgmcheiaaTm
import Derived.Deep.DeepCutAuto
namespace Go.Proofs.Ytidbbkpgmcheiaa.BTight
open Go.RowKit
open Nm Wm Dm Bm Tm
attribute [local go_sem ↓] Go.wp_at_zero Go.wp_at_succ

theorem rnt_bad : Rnt 1 [(0, 0, -1)] := ⟨by omega, by omega, by simp, by simp⟩
theorem bad_bad : (rns [(0, 0, -1)] (Dm.start 0) 1).s ≠ -1 := by decide
set_option maxRecDepth 100000 in
set_option maxHeartbeats 8000000 in
theorem walk_net (n s : Int) (v : Value) (es : List E) (w : World) (hv : SlE w v es) (hlen : es.length ≤ 9223372036854775807) (hc : nck n es ≠ 0) :
    Calls Try.prog 9 #[.agg #[.int .i64 n, v], .int .i64 s] w fun e w' => e = .returned (.bool true) ∧ Below w.heap.size w w' := by
  obtain ⟨a0, c0, rfl⟩ := hv.val
  have HV : Hid _ := hv
  have HC : Hid _ := hc
  have hz : (nck n es != 0) = true := by simp [hc]
  clear hv hc
  go_enter Try.func9, Try.ntmps9
  go_wp2_with fail
  have P0 : Hid _ := box2_new w (n : Int) (.slice a0 es.length c0) 24
  have B0 : Hid (Below w.heap.size w (w.alloc (.cells #[.int .i64 n, .slice a0 es.length c0] 24))) := balloc (Below.refl _ _) _
  have L0 : Hid _ := lit_edges (w.alloc (.cells #[.int .i64 n, .slice a0 es.length c0] 24)) [(0, 0, -1)] #[.int .i64 0, .int .i64 0, .int .i64 (-1)] 1 rfl rfl
  have e0 : (w.alloc (.cells #[.int .i64 n, .slice a0 es.length c0] 24)).heap.size = w.heap.size + 1 := by simp
  rw [e0] at L0
  clear e0
  generalize w.alloc (.cells #[.int .i64 n, .slice a0 es.length c0] 24) = W0 at *
  have P1 : Hid _ := P0.out.below (balloc (Below.refl _ _) (.cells #[.int .i64 0, .int .i64 0, .int .i64 (-1)] 44))
  have B1 : Hid (Below w.heap.size w (W0.alloc (.cells #[.int .i64 0, .int .i64 0, .int .i64 (-1)] 44))) := balloc B0.out _
  generalize W0.alloc (.cells #[.int .i64 0, .int .i64 0, .int .i64 (-1)] 44) = W1 at *
  refine (bdist_no 1 0 _ [(0, 0, -1)] W1 L0.out rnt_bad (by omega) bad_bad).mono ?_
  rintro e w2 ⟨rfl, b2⟩
  have P2 : Hid _ := P1.out.below b2
  have B2 : Hid (Below w.heap.size w w2) := bthen B1.out b2
  obtain ⟨p0, p1⟩ := P2.out
  clear b2 P0 P1 B0 B1 L0
  go_wp2_with fail
  clear p0 p1
  refine (bdist_net n s _ es w2 (HV.out.below B2.out) hlen HC.out).mono ?_
  rintro e w3 ⟨rfl, b3⟩
  have B3 : Hid (Below w.heap.size w w3) := bthen B2.out b3
  have l3 := cell_new w3 #[.slice none 0 0] 25 0 _ rfl
  clear b3
  generalize nck n es = k1 at *
  go_wp2_with fail
  go_ret
  exact ⟨rfl, balloc B3.out _⟩
set_option maxRecDepth 100000 in
set_option maxHeartbeats 8000000 in
theorem walk_arg (n s : Int) (v : Value) (es : List E) (w : World) (hv : SlE w v es) (hlen : es.length ≤ 9223372036854775807) (hc : nck n es = 0) (hp : plc n s = false) :
    Calls Try.prog 9 #[.agg #[.int .i64 n, v], .int .i64 s] w fun e w' => e = .returned (.bool true) ∧ Below w.heap.size w w' := by
  obtain ⟨a0, c0, rfl⟩ := hv.val
  have HV : Hid _ := hv
  have HC : Hid _ := hc
  have HP : Hid _ := hp
  clear hv hc hp
  go_enter Try.func9, Try.ntmps9
  go_wp2_with fail
  have P0 : Hid _ := box2_new w (n : Int) (.slice a0 es.length c0) 24
  have B0 : Hid (Below w.heap.size w (w.alloc (.cells #[.int .i64 n, .slice a0 es.length c0] 24))) := balloc (Below.refl _ _) _
  have L0 : Hid _ := lit_edges (w.alloc (.cells #[.int .i64 n, .slice a0 es.length c0] 24)) [(0, 0, -1)] #[.int .i64 0, .int .i64 0, .int .i64 (-1)] 1 rfl rfl
  have e0 : (w.alloc (.cells #[.int .i64 n, .slice a0 es.length c0] 24)).heap.size = w.heap.size + 1 := by simp
  rw [e0] at L0
  clear e0
  generalize w.alloc (.cells #[.int .i64 n, .slice a0 es.length c0] 24) = W0 at *
  have P1 : Hid _ := P0.out.below (balloc (Below.refl _ _) (.cells #[.int .i64 0, .int .i64 0, .int .i64 (-1)] 44))
  have B1 : Hid (Below w.heap.size w (W0.alloc (.cells #[.int .i64 0, .int .i64 0, .int .i64 (-1)] 44))) := balloc B0.out _
  generalize W0.alloc (.cells #[.int .i64 0, .int .i64 0, .int .i64 (-1)] 44) = W1 at *
  refine (bdist_no 1 0 _ [(0, 0, -1)] W1 L0.out rnt_bad (by omega) bad_bad).mono ?_
  rintro e w2 ⟨rfl, b2⟩
  have P2 : Hid _ := P1.out.below b2
  have B2 : Hid (Below w.heap.size w w2) := bthen B1.out b2
  obtain ⟨p0, p1⟩ := P2.out
  clear b2 P0 P1 B0 B1 L0
  go_wp2_with fail
  clear p0 p1
  refine (bdist_arg n s _ es w2 (HV.out.below B2.out) hlen HC.out HP.out).mono ?_
  rintro e w3 ⟨rfl, b3⟩
  have B3 : Hid (Below w.heap.size w w3) := bthen B2.out b3
  have l3 := cell_new w3 #[.slice none 0 0] 25 0 _ rfl
  clear b3
  go_wp2_with fail
  go_ret
  exact ⟨rfl, balloc B3.out _⟩
set_option maxRecDepth 100000 in
set_option maxHeartbeats 8000000 in
theorem walk_no (N s : Nat) (v : Value) (es : List E) (w : World) (hv : SlE w v es) (hb : Rnt N es) (hsN : s < N) (hs : (rns es (Dm.start s) N).s ≠ -1) :
    Calls Try.prog 9 #[.agg #[.int .i64 N, v], .int .i64 s] w fun e w' => e = .returned (.bool true) ∧ Below w.heap.size w w' := by
  obtain ⟨a0, c0, rfl⟩ := hv.val
  have HV : Hid _ := hv
  have HB : Hid _ := hb
  have HS : Hid _ := hs
  clear hv hb hs
  go_enter Try.func9, Try.ntmps9
  go_wp2_with fail
  have P0 : Hid _ := box2_new w (N : Int) (.slice a0 es.length c0) 24
  have B0 : Hid (Below w.heap.size w (w.alloc (.cells #[.int .i64 N, .slice a0 es.length c0] 24))) := balloc (Below.refl _ _) _
  have L0 : Hid _ := lit_edges (w.alloc (.cells #[.int .i64 N, .slice a0 es.length c0] 24)) [(0, 0, -1)] #[.int .i64 0, .int .i64 0, .int .i64 (-1)] 1 rfl rfl
  have e0 : (w.alloc (.cells #[.int .i64 N, .slice a0 es.length c0] 24)).heap.size = w.heap.size + 1 := by simp
  rw [e0] at L0
  clear e0
  generalize w.alloc (.cells #[.int .i64 N, .slice a0 es.length c0] 24) = W0 at *
  have P1 : Hid _ := P0.out.below (balloc (Below.refl _ _) (.cells #[.int .i64 0, .int .i64 0, .int .i64 (-1)] 44))
  have B1 : Hid (Below w.heap.size w (W0.alloc (.cells #[.int .i64 0, .int .i64 0, .int .i64 (-1)] 44))) := balloc B0.out _
  generalize W0.alloc (.cells #[.int .i64 0, .int .i64 0, .int .i64 (-1)] 44) = W1 at *
  refine (bdist_no 1 0 _ [(0, 0, -1)] W1 L0.out rnt_bad (by omega) bad_bad).mono ?_
  rintro e w2 ⟨rfl, b2⟩
  have P2 : Hid _ := P1.out.below b2
  have B2 : Hid (Below w.heap.size w w2) := bthen B1.out b2
  obtain ⟨p0, p1⟩ := P2.out
  clear b2 P0 P1 B0 B1 L0
  go_wp2_with fail
  clear p0 p1
  refine (bdist_no N s _ es w2 (HV.out.below B2.out) HB.out hsN HS.out).mono ?_
  rintro e w3 ⟨rfl, b3⟩
  have B3 : Hid (Below w.heap.size w w3) := bthen B2.out b3
  have l3 := cell_new w3 #[.slice none 0 0] 25 0 _ rfl
  clear b3
  go_wp2_with fail
  go_ret
  exact ⟨rfl, balloc B3.out _⟩
set_option maxRecDepth 100000 in
set_option maxHeartbeats 8000000 in
theorem walk_yes (N a : Nat) (v : Value) (es : List E) (w : World) (hv : SlE w v es) (hb : Rnt N es) (ha : a < N) (hs : (rns es (Dm.start a) N).s = -1) :
    Calls Try.prog 9 #[.agg #[.int .i64 N, v], .int .i64 a] w fun e w' => e = .returned (.bool true) ∧ Below w.heap.size w w' := by
  obtain ⟨a0, c0, rfl⟩ := hv.val
  have HV : Hid _ := hv
  have HP : Hid _ := hb
  have HS : Hid _ := hs
  have hlen := hb.len
  have hn64 := hb.n64
  clear hv hb hs
  go_enter Try.func9, Try.ntmps9
  go_wp2_with fail
  have P0 : Hid _ := box2_new w (N : Int) (.slice a0 es.length c0) 24
  have B0 : Hid (Below w.heap.size w (w.alloc (.cells #[.int .i64 N, .slice a0 es.length c0] 24))) := balloc (Below.refl _ _) _
  have L0 : Hid _ := lit_edges (w.alloc (.cells #[.int .i64 N, .slice a0 es.length c0] 24)) [(0, 0, -1)] #[.int .i64 0, .int .i64 0, .int .i64 (-1)] 1 rfl rfl
  have e0 : (w.alloc (.cells #[.int .i64 N, .slice a0 es.length c0] 24)).heap.size = w.heap.size + 1 := by simp
  rw [e0] at L0
  clear e0
  generalize w.alloc (.cells #[.int .i64 N, .slice a0 es.length c0] 24) = W0 at *
  have P1 : Hid _ := P0.out.below (balloc (Below.refl _ _) (.cells #[.int .i64 0, .int .i64 0, .int .i64 (-1)] 44))
  have B1 : Hid (Below w.heap.size w (W0.alloc (.cells #[.int .i64 0, .int .i64 0, .int .i64 (-1)] 44))) := balloc B0.out _
  generalize W0.alloc (.cells #[.int .i64 0, .int .i64 0, .int .i64 (-1)] 44) = W1 at *
  refine (bdist_no 1 0 _ [(0, 0, -1)] W1 L0.out rnt_bad (by omega) bad_bad).mono ?_
  rintro e w2 ⟨rfl, b2⟩
  have P2 : Hid _ := P1.out.below b2
  have B2 : Hid (Below w.heap.size w w2) := bthen B1.out b2
  obtain ⟨p0, p1⟩ := P2.out
  clear b2 P0 P1 B0 B1 L0
  go_wp2_with fail
  clear p0 p1
  refine (bdist_yes N a (.slice a0 es.length c0) es w2 (HV.out.below B2.out) HP.out ha HS.out).mono ?_
  rintro e w5 ⟨G5, rfl, _, ur5, b5⟩
  obtain ⟨d5, hdd5⟩ : ∃ d5, (rns es (Dm.start a) N).d = d5 := ⟨_, rfl⟩
  have hd5 : Tt N es a d5 := by rw [← hdd5]; exact ls_tight HP.out.inn ha (rns_yes HP.out (fun v hv => (start_zero N a v hv).2) HS.out)
  have LO : Hid (∀ v, v < N → -1000000000 ≤ d5 v) := by
    intro v hv
    have h1 := rns_low HP.out (fun v hv => (start_zero N a v hv).1) N v hv
    rw [hdd5] at h1
    omega
  rw [hdd5] at ur5
  clear hdd5
  have U5 : Hid _ := ur5
  have D5 : Hid _ := hd5
  have P5 : Hid _ := P2.out.below b5
  have B5 : Hid (Below w.heap.size w w5) := bthen B2.out b5
  have HA0 : Hid (d5 a = 0) := hd5.zero
  have HZ : Hid _ := ur5.cell a ha
  rw [HA0.out] at HZ
  clear ur5 hd5 b5 P2 B2
  have P6 : Hid _ := P5.out.below (balloc (Below.refl _ _) (.cells #[.slice (some ⟨G5, 0, none⟩) N N] 25))
  have U6 : Hid _ := U5.out.below (balloc (Below.refl _ _) (.cells #[.slice (some ⟨G5, 0, none⟩) N N] 25))
  have L6 : Hid _ := cell_new w5 #[.slice (some ⟨G5, 0, none⟩) N N] 25 0 _ rfl
  have B6 : Hid (Below w.heap.size w (w5.alloc (.cells #[.slice (some ⟨G5, 0, none⟩) N N] 25))) := balloc B5.out _
  have z6 := kept_alloc (x := .cells #[.slice (some ⟨G5, 0, none⟩) N N] 25) HZ.out.1
  have haN : (a : Int) < (N : Int) := by omega
  obtain ⟨p0, p1⟩ := P6.out
  have l6 := L6.out
  go_wp2_with fail
  clear p0 p1 l6 z6
  generalize w5.alloc (.cells #[.slice (some ⟨G5, 0, none⟩) N N] 25) = W6 at *
  obtain ⟨L, hL⟩ : ∃ L, w5.heap.size = L := ⟨_, rfl⟩
  rw [hL] at L6 ⊢
  clear hL P5 U5 B5
  go_loopw [48] (fun z wr => ∃ k : Nat, z = .int .i64 k ∧ k ≤ es.length ∧ Below W6.heap.size W6 wr) (fun z _ => es.length - (intOf z).toNat)
  case atStart => exact ⟨0, rfl, Nat.zero_le _, Below.refl _ _⟩
  case round =>
    obtain ⟨k, rfl, hk, hb⟩ := hrel
    have HB : Hid (Below W6.heap.size W6 wr) := hb
    clear hb
    by_cases hlt : k < es.length
    · have hki : (k : Int) < (es.length : Int) := by omega
      obtain ⟨b, off, cap, hveq, hc⟩ := ((HV.out.below B6.out).below HB.out).some' (by omega)
      simp only [Value.slice.injEq] at hveq
      obtain ⟨rfl, -, rfl⟩ := hveq
      obtain ⟨e0, e1, e2⟩ := hc k hlt
      clear hc
      have hok := HP.out.ok _ (mem_at hlt)
      have HREL : Hid _ := D5.out.rel _ (mem_at hlt)
      obtain ⟨p, hpe⟩ : ∃ p, at3 es k = p := ⟨_, rfl⟩
      rw [hpe] at e0 e1 e2 hok HREL
      clear hpe
      obtain ⟨x, y, c⟩ := p
      simp only at e0 e1 e2 hok HREL
      obtain ⟨ok1, ok2, ok3, ok4, ok5, ok6⟩ := hok
      obtain ⟨x, rfl⟩ := Int.eq_ofNat_of_zero_le ok1
      obtain ⟨y, rfl⟩ := Int.eq_ofNat_of_zero_le ok3
      simp only [Int.toNat_natCast] at HREL
      have hxN : x < N := by omega
      have hyN : y < N := by omega
      have U7 : Hid _ := (U6.out.below HB.out).below (balloc (Below.refl _ _) (.cells #[.int .i64 x, .int .i64 y, .int .i64 c] 44))
      have B7 : Hid (Below W6.heap.size W6 (wr.alloc (.cells #[.int .i64 x, .int .i64 y, .int .i64 c] 44))) := balloc HB.out _
      obtain ⟨y0, y1, y2⟩ := box3_new wr x y (.int .i64 c) 44
      have l7 := kept_alloc (x := .cells #[.int .i64 x, .int .i64 y, .int .i64 c] 44) (kept HB.out L6.out)
      obtain ⟨c1, _⟩ := U7.out.cell x hxN
      obtain ⟨c2, _⟩ := U7.out.cell y hyN
      have hx0 := LO.out x hxN
      have hy0 := LO.out y hyN
      have hx1 := D5.out.hi x hxN
      have hy1 := D5.out.hi y hyN
      go_wp2_with fail
      generalize wr.alloc (.cells #[.int .i64 x, .int .i64 y, .int .i64 c] 44) = W7 at *
      obtain ⟨Y, hY⟩ : ∃ Y, wr.heap.size = Y := ⟨_, rfl⟩
      rw [hY] at y0 y1 y2 ⊢
      clear hY e0 e1 e2
      by_cases hdx : d5 x < 1099511627776
      · have hle := HREL.out hdx
        generalize d5 x = dx at *
        generalize d5 y = dy at *
        have hdd : decide (dx < 1099511627776) = true := decide_eq_true hdx
        have hde : decide (dx + c < dy) = false := decide_eq_false (by omega)
        have hnl : ¬ dx + c < dy := by omega
        clear HREL
        go_quiet (fail)
        go_wp2_with fail
        go_roundw
        case rel => exact ⟨k + 1, by go_num, by omega, bdrewN B7.out _⟩
        case measure => simp [intOf]; omega
      · generalize d5 x = dx at *
        generalize d5 y = dy at *
        have hdd : decide (dx < 1099511627776) = false := decide_eq_false hdx
        clear HREL
        go_quiet (fail)
        go_wp2_with fail
        go_roundw
        case rel => exact ⟨k + 1, by go_num, by omega, bdrewN B7.out _⟩
        case measure => simp [intOf]; omega
    · have hke : k = es.length := by omega
      subst hke
      have l8 := kept HB.out L6.out
      simp only [List.getElem_toArray, List.getElem_cons_zero] at l8
      have L8 : Hid _ := l8
      obtain ⟨w8, hw8⟩ : ∃ x, x = wr := ⟨_, rfl⟩
      subst hw8
      have U8 : Hid _ := U6.out.below HB.out
      have P8 : Hid _ := P6.out.below HB.out
      have B8 : Hid (Below w.heap.size w w8) := bthen B6.out HB.out
      go_wp2_with fail
      clear l8 HB
      go_loopw [77] (fun z wr => ∃ i : Nat, z = .int .i64 i ∧ i ≤ N ∧ Below w8.heap.size w8 wr) (fun z _ => N - (intOf z).toNat)
      case atStart => exact ⟨0, rfl, Nat.zero_le _, Below.refl _ _⟩
      case round =>
        obtain ⟨i, rfl, hi, hb⟩ := hrel
        have HB : Hid (Below w8.heap.size w8 wr) := hb
        clear hb
        by_cases hiN : i < N
        · have hii : (i : Int) < (N : Int) := by omega
          obtain ⟨ci, _⟩ := (U8.out.below HB.out).cell i hiN
          have CIN : Hid (d5 i < 1099511627776 → i ≠ a → ∃ e ∈ es, e.2.1.toNat = i ∧ d5 e.1.toNat < 1099511627776 ∧ d5 e.1.toNat + e.2.2 = d5 i) := fun h1 h2 => D5.out.sup i hiN h2 h1
          have B9 : Hid (Below w8.heap.size w8 ((wr.alloc (.cells #[.int .i64 i] 3)).alloc (.cells #[.int .i64 (d5 i)] 3))) := balloc (balloc HB.out _) _
          have V9 : Hid (((wr.alloc (.cells #[.int .i64 i] 3)).alloc (.cells #[.int .i64 (d5 i)] 3)).cell? ⟨wr.heap.size, 0, none⟩ = some (.int .i64 i)) := kept_alloc (cell_new wr #[.int .i64 i] 3 0 _ rfl)
          have C9 : Hid (((wr.alloc (.cells #[.int .i64 i] 3)).alloc (.cells #[.int .i64 (d5 i)] 3)).cell? ⟨wr.heap.size + 1, 0, none⟩ = some (.int .i64 (d5 i))) := by
            have := cell_new (wr.alloc (.cells #[.int .i64 i] 3)) #[.int .i64 (d5 i)] 3 0 _ rfl
            have e : (wr.alloc (.cells #[.int .i64 i] 3)).heap.size = wr.heap.size + 1 := by simp
            rw [e] at this
            exact this
          by_cases hia : i = a
          · subst hia
            generalize d5 i = x at *
            go_wp2_with fail
            go_roundw
            case rel => exact ⟨i + 1, by go_num, by omega, B9.out⟩
            case measure => simp [intOf]; omega
          · have hib : ((i : Int) == (a : Int)) = false := by simp; omega
            have hib2 : ((i : Int) != (a : Int)) = true := by simp; omega
            have hib3 : ¬ (i : Int) = (a : Int) := by omega
            by_cases hdi : d5 i < 1099511627776
            · have hdb : (d5 i == 1099511627776) = false := by simp; omega
              have hne : ¬ d5 i = 1099511627776 := by omega
              obtain ⟨p0, p1⟩ := ((P8.out.below HB.out).below (balloc (Below.refl _ _) (.cells #[.int .i64 i] 3))).below (balloc (Below.refl _ _) (.cells #[.int .i64 (d5 i)] 3))
              have HEX : Hid _ := CIN.out hdi hia
              obtain ⟨x, hx⟩ : ∃ x, d5 i = x := ⟨_, rfl⟩
              rw [hx] at ci B9 V9 C9 hdb hne p0 p1 hdi HEX
              clear hx CIN hia
              have HCL : Hid (Cl ((wr.alloc (.cells #[.int .i64 i] 3)).alloc (.cells #[.int .i64 x] 3)) wr.heap.size L (wr.heap.size + 1) G5 N i x d5) := ⟨V9.out, kept_alloc (kept_alloc (kept HB.out L8.out)), C9.out, ((U8.out.below HB.out).below (balloc (Below.refl _ _) _)).below (balloc (Below.refl _ _) _)⟩
              have HCT : Hid _ := fun (_ : Unit) => conT_any (.slice a0 es.length c0) es wr.heap.size L (wr.heap.size + 1) G5 N i x d5 _ ((HV.out.below B8.out).below B9.out) HP.out HCL.out (fun j hj => ⟨LO.out j hj, D5.out.hi j hj⟩) HEX.out
              go_wp2_with fail
              refine (HCT.out ()).mono ?_
              rintro e w10 ⟨rfl, b10⟩
              have B10 : Hid (Below w8.heap.size w8 w10) := bthen B9.out b10
              clear b10
              go_wp2_with fail
              go_roundw
              case rel => exact ⟨i + 1, by go_num, by omega, B10.out⟩
              case measure => simp [intOf]; omega
            · have HE : Hid (d5 i = 1099511627776) := by have := D5.out.hi i hiN; unfold Hid; omega
              rw [HE.out] at ci B9 V9 C9
              clear hdi CIN
              go_wp2_with fail
              go_roundw
              case rel => exact ⟨i + 1, by go_num, by omega, B9.out⟩
              case measure => simp [intOf]; omega
        · have hie : i = N := by omega
          subst hie
          go_wp2_with fail
          go_ret
          exact ⟨rfl, bthen B8.out HB.out⟩

theorem walk (n s : Int) (v : Value) (es : List E) (w : World) (hv : SlE w v es) (hlen : es.length ≤ 9223372036854775807) :
    Calls Try.prog 9 #[.agg #[.int .i64 n, v], .int .i64 s] w fun e w' => e = .returned (.bool true) ∧ Below w.heap.size w w' := by
  by_cases hc : nck n es = 0
  · by_cases hp : plc n s = true
    · obtain ⟨hb, hn⟩ := bn_of hc
      have hp' := of_decide_eq_true hp
      obtain ⟨a, rfl⟩ := Int.eq_ofNat_of_zero_le hp'.1
      rw [← hn] at hp' ⊢
      have ha : a < n.toNat := by omega
      by_cases hs : (rns es (Dm.start a) n.toNat).s = -1
      · exact walk_yes n.toNat a v es w hv hb ha hs
      · exact walk_no n.toNat a v es w hv hb ha hs
    · exact walk_arg n s v es w hv hlen hc (by simpa using hp)
  · exact walk_net n s v es w hv hlen hc
end Go.Proofs.Ytidbbkpgmcheiaa.BTight
