/-
  The law fellkeep.BellEither, walked.
-/
import Derived.Test.YtidbbkpgmcheiaaBG
import Derived.Test.YtidbbkpgmcheiaaBI
import Derived.Test.YtidbbkpgmcheiaaWB
import Derived.Test.YtidbbkpgmcheiaaIE
namespace Go.Proofs.Ytidbbkpgmcheiaa.BEither
open Go.RowKit
open Nm Wm Dm Bm Ry
attribute [local go_sem ↓] Go.wp_at_zero Go.wp_at_succ

theorem rnt_bad : Rnt 1 [(0, 0, -1)] := ⟨by omega, by omega, by simp, by simp⟩
theorem bad_bad : (rns [(0, 0, -1)] (fun _ => 0) 1).s ≠ -1 := by decide
theorem bad_ring {l : List Int} (h : Rng 1 [(0, 0, -1)] l) : l = [0] := by
  have h1 := h.l1
  have h2 := h.lN
  match l, h1, h2, h with
  | [x], _, _, h =>
    have := h.in_ x (by simp)
    congr 1
    omega
theorem bad_cycle (v : Value) (w : World) (hv : SlE w v [(0, 0, -1)]) : Calls Try.prog 18 #[.agg #[.int .i64 1, v]] w fun e w' => ∃ g cap, e = .returned (.tuple #[.slice (some ⟨g, 0, none⟩) 1 cap, .int .i64 0]) ∧ SlI w' (.slice (some ⟨g, 0, none⟩) 1 cap) [0] ∧ Below w.heap.size w w' := by
  refine (cycle_yes 1 v [(0, 0, -1)] w hv rnt_bad bad_bad).mono ?_
  rintro e w' ⟨g, cap, l, hr, rfl, i, b⟩
  obtain rfl := bad_ring hr
  exact ⟨g, cap, rfl, i.sl, b⟩

set_option maxRecDepth 100000 in
set_option maxHeartbeats 16000000 in
theorem walk_net (n : Int) (v : Value) (es : List E) (w : World) (hv : SlE w v es) (hlen : es.length ≤ 9223372036854775807) (hc : nck n es ≠ 0) :
    Calls Try.prog 10 #[.agg #[.int .i64 n, v]] w fun e w' => e = .returned (.bool true) ∧ Below w.heap.size w w' := by
  obtain ⟨a0, c0, rfl⟩ := hv.val
  have HV : Hid _ := hv
  have HC : Hid _ := hc
  obtain ⟨k, hk⟩ : ∃ k, nck n es = k := ⟨_, rfl⟩
  have HK : Hid _ := hk
  have z1 : (k == 0) = false := by rw [← hk]; simp [hc]
  have z2 : (k != 0) = true := by rw [← hk]; simp [hc]
  have z3 : (k == k) = true := by simp
  clear hv hc hk
  go_enter Try.func10, Try.ntmps10
  go_wp2_with fail
  have P0 : Hid _ := box2_new w (n : Int) (.slice a0 es.length c0) 24
  have B0 : Hid (Below w.heap.size w (w.alloc (.cells #[.int .i64 n, .slice a0 es.length c0] 24))) := balloc (Below.refl _ _) _
  have L0 : Hid _ := lit_edges (w.alloc (.cells #[.int .i64 n, .slice a0 es.length c0] 24)) [(0, 0, -1)] #[.int .i64 0, .int .i64 0, .int .i64 (-1)] 1 rfl rfl
  have e0 : (w.alloc (.cells #[.int .i64 n, .slice a0 es.length c0] 24)).heap.size = w.heap.size + 1 := by simp
  rw [e0] at L0
  clear e0
  generalize w.alloc (.cells #[.int .i64 n, .slice a0 es.length c0] 24) = W0 at *
  have P1 : Hid _ := P0.out.below (balloc (Below.refl _ _) (.cells #[.int .i64 0, .int .i64 0, .int .i64 (-1)] 44))
  have B1 : Hid (Below w.heap.size w (W0.alloc (.cells #[.int .i64 0, .int .i64 0, .int .i64 (-1)] 44))) := balloc B0.out _
  generalize W0.alloc (.cells #[.int .i64 0, .int .i64 0, .int .i64 (-1)] 44) = W1 at *
  refine (bad_cycle _ W1 L0.out).mono ?_
  rintro e w2 ⟨g2, cap2, rfl, i2, b2⟩
  have I2 : Hid _ := i2
  have P2 : Hid _ := P1.out.below b2
  have B2 : Hid (Below w.heap.size w w2) := bthen B1.out b2
  clear i2 b2 P0 P1 B0 B1 L0
  go_wp2_with fail
  have L3 : Hid _ := lit_nums w2 [0] #[.int .i64 0] 1 rfl rfl
  have b3 : Below w2.heap.size w2 (w2.alloc (.cells #[.int .i64 0] 3)) := balloc (Below.refl _ _) _
  generalize w2.alloc (.cells #[.int .i64 0] 3) = W3 at *
  refine (iequal_yes _ _ [0] W3 (I2.out.below b3) L3.out (by simp)).mono ?_
  rintro e w4 ⟨rfl, b4⟩
  have P4 : Hid _ := (P2.out.below b3).below b4
  have B4 : Hid (Below w.heap.size w w4) := bthen (bthen B2.out b3) b4
  obtain ⟨p0, p1⟩ := P4.out
  clear b3 b4 P2 B2 I2 L3
  go_wp2_with fail
  clear p0 p1
  refine (cycle_net n _ es w4 (HV.out.below B4.out) hlen HC.out).mono ?_
  rintro e w5 ⟨rfl, b5⟩
  rw [HK.out]
  have P5 : Hid _ := P4.out.below b5
  have B5 : Hid (Below w.heap.size w w5) := bthen B4.out b5
  obtain ⟨p0, p1⟩ := P5.out
  clear b5 P4 B4
  go_wp2_with fail
  clear p0 p1
  refine (lift_net n _ es w5 (HV.out.below B5.out) hlen HC.out).mono ?_
  rintro e w6 ⟨rfl, b6⟩
  rw [HK.out]
  have P6 : Hid _ := (P5.out.below b6).below (balloc (Below.refl _ _) (.cells #[.slice none 0 0] 25))
  have B6 : Hid (Below w.heap.size w (w6.alloc (.cells #[.slice none 0 0] 25))) := balloc (bthen B5.out b6) _
  have l6 := cell_new w6 #[.slice none 0 0] 25 0 _ rfl
  obtain ⟨p0, p1⟩ := P6.out
  clear b6 P5 B5
  go_wp2_with fail
  clear p0 p1 l6
  generalize w6.alloc (.cells #[.slice none 0 0] 25) = W6 at *
  refine (ncheck_any n _ es W6 (HV.out.below B6.out) hlen).mono ?_
  rintro e w7 ⟨rfl, b7⟩
  rw [HK.out]
  have B7 : Hid (Below w.heap.size w w7) := bthen B6.out b7
  clear b7
  go_wp2_with fail
  go_ret
  exact ⟨rfl, B7.out⟩
set_option maxRecDepth 100000 in
set_option maxHeartbeats 16000000 in
theorem walk_none (N : Nat) (v : Value) (es : List E) (w : World) (hv : SlE w v es) (hb : Rnt N es) (hs : (rns es (fun _ => 0) N).s = -1) :
    Calls Try.prog 10 #[.agg #[.int .i64 N, v]] w fun e w' => e = .returned (.bool true) ∧ Below w.heap.size w w' := by
  obtain ⟨a0, c0, rfl⟩ := hv.val
  have HV : Hid _ := hv
  have HB : Hid _ := hb
  have HC : Hid _ := hb.nck
  have HSK : Hid _ := hs
  have hn1 := hb.n1
  have hn64 := hb.n64
  have hlen : es.length ≤ 9223372036854775807 := by have := hb.len; omega
  clear hv hb hs
  go_enter Try.func10, Try.ntmps10
  go_wp2_with fail
  have P0 : Hid _ := box2_new w (N : Int) (.slice a0 es.length c0) 24
  have B0 : Hid (Below w.heap.size w (w.alloc (.cells #[.int .i64 N, .slice a0 es.length c0] 24))) := balloc (Below.refl _ _) _
  have L0 : Hid _ := lit_edges (w.alloc (.cells #[.int .i64 N, .slice a0 es.length c0] 24)) [(0, 0, -1)] #[.int .i64 0, .int .i64 0, .int .i64 (-1)] 1 rfl rfl
  have e0 : (w.alloc (.cells #[.int .i64 N, .slice a0 es.length c0] 24)).heap.size = w.heap.size + 1 := by simp
  rw [e0] at L0
  clear e0
  generalize w.alloc (.cells #[.int .i64 N, .slice a0 es.length c0] 24) = W0 at *
  have P1 : Hid _ := P0.out.below (balloc (Below.refl _ _) (.cells #[.int .i64 0, .int .i64 0, .int .i64 (-1)] 44))
  have B1 : Hid (Below w.heap.size w (W0.alloc (.cells #[.int .i64 0, .int .i64 0, .int .i64 (-1)] 44))) := balloc B0.out _
  generalize W0.alloc (.cells #[.int .i64 0, .int .i64 0, .int .i64 (-1)] 44) = W1 at *
  refine (bad_cycle _ W1 L0.out).mono ?_
  rintro e w2 ⟨g2, cap2, rfl, i2, b2⟩
  have I2 : Hid _ := i2
  have P2 : Hid _ := P1.out.below b2
  have B2 : Hid (Below w.heap.size w w2) := bthen B1.out b2
  clear i2 b2 P0 P1 B0 B1 L0
  go_wp2_with fail
  have L3 : Hid _ := lit_nums w2 [0] #[.int .i64 0] 1 rfl rfl
  have b3 : Below w2.heap.size w2 (w2.alloc (.cells #[.int .i64 0] 3)) := balloc (Below.refl _ _) _
  generalize w2.alloc (.cells #[.int .i64 0] 3) = W3 at *
  refine (iequal_yes _ _ [0] W3 (I2.out.below b3) L3.out (by simp)).mono ?_
  rintro e w4 ⟨rfl, b4⟩
  have P4 : Hid _ := (P2.out.below b3).below b4
  have B4 : Hid (Below w.heap.size w w4) := bthen (bthen B2.out b3) b4
  obtain ⟨p0, p1⟩ := P4.out
  clear b3 b4 P2 B2 I2 L3
  go_wp2_with fail
  clear p0 p1
  refine (cycle_none N _ es w4 (HV.out.below B4.out) HB.out HSK.out).mono ?_
  rintro e w5 ⟨rfl, b5⟩
  have P5 : Hid _ := P4.out.below b5
  have B5 : Hid (Below w.heap.size w w5) := bthen B4.out b5
  obtain ⟨p0, p1⟩ := P5.out
  clear b5 P4 B4
  go_wp2_with fail
  clear p0 p1
  refine (lift_yes N _ es w5 (HV.out.below B5.out) HB.out HSK.out).mono ?_
  rintro e w6 ⟨G6, rfl, _, ur6, b6⟩
  obtain ⟨d6, hd6⟩ : ∃ d6, (rns es (fun _ => 0) N).d = d6 := ⟨_, rfl⟩
  have HD : Hid (∀ j, j < N → -1000000000 ≤ d6 j ∧ d6 j ≤ 1000000000) := by
    intro j hj
    have h1 := rns_low HB.out (fun v hv => (zero_zero N v hv).1) N j hj
    have h2 := rns_down es (fun _ => 0) N j
    rw [hd6] at h1 h2
    omega
  have HG : Hid (∀ e ∈ es, ¬ e.2.2 + d6 e.1.toNat - d6 e.2.1.toNat < 0) := by
    intro e he
    have h1 := rns_yes HB.out (fun v hv => (zero_zero N v hv).2) HSK.out
    rw [hd6] at h1
    have h2 := h1.rel e he (by have := (HD.out _ (HB.out.inn e he).1).2; have hF : far = 1099511627776 := rfl; omega)
    omega
  rw [hd6] at ur6
  have C6 : Hid (Ch (w6.alloc (.cells #[.slice (some ⟨G6, 0, none⟩) N N] 25)) w6.heap.size G6 N d6) := ⟨cell_new w6 #[.slice (some ⟨G6, 0, none⟩) N N] 25 0 _ rfl, ur6.below (balloc (Below.refl _ _) _)⟩
  have P6 : Hid _ := (P5.out.below b6).below (balloc (Below.refl _ _) (.cells #[.slice (some ⟨G6, 0, none⟩) N N] 25))
  have B6 : Hid (Below w.heap.size w (w6.alloc (.cells #[.slice (some ⟨G6, 0, none⟩) N N] 25))) := balloc (bthen B5.out b6) _
  obtain ⟨p0, p1⟩ := P6.out
  have l6 := C6.out.l
  clear b6 P5 B5 ur6 hd6
  go_wp2_with fail
  clear p0 p1 l6
  generalize w6.alloc (.cells #[.slice (some ⟨G6, 0, none⟩) N N] 25) = W6 at *
  refine (ncheck_any N _ es W6 (HV.out.below B6.out) hlen).mono ?_
  rintro e w7 ⟨rfl, b7⟩
  rw [HC.out]
  have B7 : Hid (Below w.heap.size w w7) := bthen B6.out b7
  have P7 : Hid _ := P6.out.below b7
  have C7 : Hid _ := C6.out.below b7
  obtain ⟨p0, p1⟩ := P7.out
  have l7 := C7.out.l
  clear b7
  have HCT : Hid _ := fun (_ : Unit) => conE_no (.slice a0 es.length c0) es w6.heap.size G6 N d6 w7 (HV.out.below B7.out) HB.out C7.out HD.out (fun e he => by have := HG.out e he; omega)
  go_wp2_with fail
  refine (HCT.out ()).mono ?_
  rintro e w8 ⟨rfl, b8⟩
  have B8 : Hid (Below w.heap.size w w8) := bthen B7.out b8
  clear b8
  go_wp2_with fail
  go_ret
  exact ⟨rfl, B8.out⟩
set_option maxRecDepth 100000 in
set_option maxHeartbeats 16000000 in
theorem walk_yes (N : Nat) (v : Value) (es : List E) (w : World) (hv : SlE w v es) (hb : Rnt N es) (hs : (rns es (fun _ => 0) N).s ≠ -1) :
    Calls Try.prog 10 #[.agg #[.int .i64 N, v]] w fun e w' => e = .returned (.bool true) ∧ Below w.heap.size w w' := by
  obtain ⟨a0, c0, rfl⟩ := hv.val
  have HV : Hid _ := hv
  have HB : Hid _ := hb
  have HC : Hid _ := hb.nck
  have HSK : Hid _ := hs
  have hn1 := hb.n1
  have hn64 := hb.n64
  have hlen : es.length ≤ 9223372036854775807 := by have := hb.len; omega
  clear hv hb hs
  go_enter Try.func10, Try.ntmps10
  go_wp2_with fail
  have P0 : Hid _ := box2_new w (N : Int) (.slice a0 es.length c0) 24
  have B0 : Hid (Below w.heap.size w (w.alloc (.cells #[.int .i64 N, .slice a0 es.length c0] 24))) := balloc (Below.refl _ _) _
  have L0 : Hid _ := lit_edges (w.alloc (.cells #[.int .i64 N, .slice a0 es.length c0] 24)) [(0, 0, -1)] #[.int .i64 0, .int .i64 0, .int .i64 (-1)] 1 rfl rfl
  have e0 : (w.alloc (.cells #[.int .i64 N, .slice a0 es.length c0] 24)).heap.size = w.heap.size + 1 := by simp
  rw [e0] at L0
  clear e0
  generalize w.alloc (.cells #[.int .i64 N, .slice a0 es.length c0] 24) = W0 at *
  have P1 : Hid _ := P0.out.below (balloc (Below.refl _ _) (.cells #[.int .i64 0, .int .i64 0, .int .i64 (-1)] 44))
  have B1 : Hid (Below w.heap.size w (W0.alloc (.cells #[.int .i64 0, .int .i64 0, .int .i64 (-1)] 44))) := balloc B0.out _
  generalize W0.alloc (.cells #[.int .i64 0, .int .i64 0, .int .i64 (-1)] 44) = W1 at *
  refine (bad_cycle _ W1 L0.out).mono ?_
  rintro e w2 ⟨g2, cap2, rfl, i2, b2⟩
  have I2 : Hid _ := i2
  have P2 : Hid _ := P1.out.below b2
  have B2 : Hid (Below w.heap.size w w2) := bthen B1.out b2
  clear i2 b2 P0 P1 B0 B1 L0
  go_wp2_with fail
  have L3 : Hid _ := lit_nums w2 [0] #[.int .i64 0] 1 rfl rfl
  have b3 : Below w2.heap.size w2 (w2.alloc (.cells #[.int .i64 0] 3)) := balloc (Below.refl _ _) _
  generalize w2.alloc (.cells #[.int .i64 0] 3) = W3 at *
  refine (iequal_yes _ _ [0] W3 (I2.out.below b3) L3.out (by simp)).mono ?_
  rintro e w4 ⟨rfl, b4⟩
  have P4 : Hid _ := (P2.out.below b3).below b4
  have B4 : Hid (Below w.heap.size w w4) := bthen (bthen B2.out b3) b4
  obtain ⟨p0, p1⟩ := P4.out
  clear b3 b4 P2 B2 I2 L3
  go_wp2_with fail
  clear p0 p1
  refine (cycle_yes N _ es w4 (HV.out.below B4.out) HB.out HSK.out).mono ?_
  rintro e w5 ⟨g, cap, l, rg, rfl, is5, b5⟩
  have I5 : Hid _ := is5.sl
  have RG : Hid _ := rg
  have hl1 := rg.l1
  have hlN := rg.lN
  have P5 : Hid _ := P4.out.below b5
  have B5 : Hid (Below w.heap.size w w5) := bthen B4.out b5
  obtain ⟨p0, p1⟩ := P5.out
  clear b5 P4 B4 is5 rg
  go_wp2_with fail
  clear p0 p1
  refine (lift_no N _ es w5 (HV.out.below B5.out) HB.out HSK.out).mono ?_
  rintro e w6 ⟨rfl, b6⟩
  have P6 : Hid _ := (P5.out.below b6).below (balloc (Below.refl _ _) (.cells #[.slice none 0 0] 25))
  have B6 : Hid (Below w.heap.size w (w6.alloc (.cells #[.slice none 0 0] 25))) := balloc (bthen B5.out b6) _
  have I6 : Hid _ := (I5.out.below b6).below (balloc (Below.refl _ _) (.cells #[.slice none 0 0] 25))
  have L6 : Hid ((w6.alloc (.cells #[.slice none 0 0] 25)).cell? ⟨w6.heap.size, 0, none⟩ = some (.slice none 0 0)) := cell_new w6 #[.slice none 0 0] 25 0 _ rfl
  have l6 := L6.out
  obtain ⟨p0, p1⟩ := P6.out
  clear b6 P5 B5 I5
  go_wp2_with fail
  clear p0 p1 l6
  generalize w6.alloc (.cells #[.slice none 0 0] 25) = W6 at *
  obtain ⟨L, hL⟩ : ∃ L, w6.heap.size = L := ⟨_, rfl⟩
  rw [hL] at L6 ⊢
  clear hL
  refine (ncheck_any N _ es W6 (HV.out.below B6.out) hlen).mono ?_
  rintro e wr ⟨rfl, b7⟩
  rw [HC.out]
  have BW : Hid (Below w.heap.size w wr) := bthen B6.out b7
  have PB : Hid _ := P6.out.below b7
  have I7 : Hid _ := I6.out.below b7
  have L7 : Hid _ := kept b7 L6.out
  clear b7 P6 B6 I6 L6
  have hlz' : (l.length : Int) ≠ 0 := by omega
  have hlz : ((l.length : Int) == 0) = false := beq_eq_false_iff_ne.2 hlz'
  obtain ⟨gx, ox, cpx, hsl, hcl, hcp⟩ := I7.out.some2 (by omega)
  simp only [Value.slice.injEq, Option.some.injEq, Addr.mk.injEq] at hsl
  obtain ⟨⟨rfl, rfl, -⟩, -, rfl⟩ := hsl
  have HS0 : Hid (∀ w', Below wr.heap.size wr w' → SlI w' (.slice (some ⟨g, 0, none⟩) l.length cap) l) := fun w' hb => I7.out.below hb
  have cz := hcl 0 (by omega)
  rw [Nat.zero_add] at cz
  obtain ⟨x, hx⟩ : ∃ x, l.getD 0 0 = x := ⟨_, rfl⟩
  rw [hx] at cz
  obtain ⟨c, hwc, hneg⟩ := RG.out.cost
  rw [hx] at hwc
  have HW : Hid (wcode N es (l ++ [x]) = (c, 0)) := by
    refine wcode_some HB.out.nck (by simp) (by simp; omega) ?_ hwc
    rw [List.all_eq_true]
    intro y hy
    have : y ∈ l := by
      rcases List.mem_append.1 hy with h | h
      · exact h
      · have := List.mem_singleton.1 h
        rw [this, ← hx, List.getD_eq_getElem?_getD, List.getElem?_eq_getElem (by omega)]
        exact List.getElem_mem _
    have := RG.out.in_ y this
    exact plc_yes this.1 this.2
  clear hx hwc hcl
  obtain ⟨i0, hi0, hz0, hz1, hz2⟩ := info3_parts
  have hl0 : (0 : Int) < (l.length : Int) := by omega
  have hl0' : 0 < l.length := hl1
  have CZ : Hid _ := cz
  obtain ⟨p0, p1⟩ := PB.out
  have l7 := L7.out
  go_wp2_with fail
  go_region_held3 (fun w' => w'.cell? ⟨w.heap.size, 0, none⟩ = some (.int .i64 N) ∧ w'.cell? ⟨w.heap.size, 1, none⟩ = some (.slice a0 es.length c0) ∧ w'.cell? ⟨g, 0, none⟩ = some (.int .i64 x)) (first | go_keep | exact ⟨kept BB.out PB.out.g0, kept BB.out PB.out.g1, kept BB.out CZ.out⟩)
    (first
     | (go_at_call 22; refine (iclone_any _ l _ (HS0.out _ (by first | exact Below.drew (Below.refl _ _) | exact balloc (Below.drew (Below.refl _ _)) _)) (by omega)).mono ?_; rintro e w4 ⟨v4, rfl, i4, b4⟩; have BB : Hid (Below wr.heap.size wr w4) := (by first | exact bthen (Below.drew (Below.refl _ _)) b4 | exact bthen (balloc (Below.drew (Below.refl _ _)) _) b4); have B4 : Hid _ := b4; have I4 : Hid _ := i4; clear b4 i4)
     | (go_at_call 37; refine (cost_any N _ _ es (l ++ [x]) w5 ((HV.out.below BW.out).below BB.out) IS5.out hlen (by simp; omega)).mono ?_; rintro e w6 ⟨rfl, b6⟩; rw [HW.out]; have BB : Hid (Below wr.heap.size wr w6) := (by exact bthen BB.out b6); clear b6; (try dsimp only))
     | (refine step_append_lies _ (by rfl) _ _ _ (by rfl) wr.heap.size 3 i0 _ 1 8 Try.underlying25 hi0 hz0 hz1 hz2 rfl (by omega) v4 l.length (l.map (fun z => .int .i64 z)) (by rfl) (I4.out.own.alloc _) ⟨w4.heap.size, 0, none⟩ 1 1 [.int .i64 x] (by rfl) rfl (World.news_of_block (cs := #[.int .i64 x]) (t := 3) (fr := (0, 0)) (heap_alloc_new _ _)) (by simp [Value.oneCell']) (by omega) (by unfold maxLen; omega) (by omega) (by have := BB.out.size; simp; omega) (w4.heap.size + 1) (by simp) ?_; intro gg cap' w5 hown5 hgrow hat hlt5; have BB : Hid (Below wr.heap.size wr w5) := (by exact (balloc BB.out _).grown hgrow (by have := BB.out.size; simp; omega) (fun k hk => (ownBlock_lt I4.out.own k hk).1)); have IS5 : Hid _ := (Is.next (m := l ++ [x]) rfl rfl hown5).sl; clear hown5 hgrow hat hlt5)
     | (refine step_append_lies _ (by rfl) _ _ _ (by rfl) wr.heap.size 3 i0 _ 1 8 Try.underlying25 hi0 hz0 hz1 hz2 rfl (by omega) v4 l.length (l.map (fun z => .int .i64 z)) (by rfl) ((I4.out.mono (b' := wr.heap.size) (by simp)).own) ⟨wr.heap.size, 0, none⟩ 1 1 [.int .i64 x] (by rfl) rfl (World.news_of_block (cs := #[.int .i64 x]) (t := 3) (fr := (0, 0)) ((B4.out.block _ (by simp)).trans (heap_alloc_new wr.drew _))) (by simp [Value.oneCell']) (by omega) (by unfold maxLen; omega) (by omega) BB.out.size w4.heap.size rfl ?_; intro gg cap' w5 hown5 hgrow hat hlt5; have BB : Hid (Below wr.heap.size wr w5) := (by exact BB.out.grown hgrow BB.out.size (fun k hk => (ownBlock_lt (I4.out.mono (b' := wr.heap.size) (by simp)).own k hk).1)); have IS5 : Hid _ := (Is.next (m := l ++ [x]) rfl rfl hown5).sl; clear hown5 hgrow hat hlt5)
     | fail)
  all_goals
    have l8 := kept BB.out L7.out
    go_wp2_with fail
    go_ret
    exact ⟨rfl, bthen BW.out BB.out⟩
theorem walk (n : Int) (v : Value) (es : List E) (w : World) (hv : SlE w v es) (hlen : es.length ≤ 9223372036854775807) :
    Calls Try.prog 10 #[.agg #[.int .i64 n, v]] w fun e w' => e = .returned (.bool true) ∧ Below w.heap.size w w' := by
  by_cases hc : nck n es = 0
  · obtain ⟨hb, hn⟩ := bn_of hc
    rw [← hn]
    by_cases hs : (rns es (fun _ => 0) n.toNat).s = -1
    · exact walk_none n.toNat v es w hv hb hs
    · exact walk_yes n.toNat v es w hv hb hs
  · exact walk_net n v es w hv hlen hc
end Go.Proofs.Ytidbbkpgmcheiaa.BEither
