/-
  Contract: the document's Reach, over edges that cost so much.
-/
import Derived.Test.YtlmichnnpameeaaRA
namespace Go.Proofs.Ytlmichnnpameeaa
open Go.RowKit
open Nm Wm Dm Bm Fm Fl
attribute [local go_sem ↓] Go.wp_at_zero Go.wp_at_succ

set_option maxRecDepth 100000 in
set_option maxHeartbeats 4000000 in
theorem rmuch_yes (B : Nat) (x y c a b t : Int) (w : World) (hx : Box3 w B a b (.int .i64 t)) (h : decide (t ≤ c) = true) : Calls Try.prog 37 #[.agg #[.int .i64 x, .int .i64 y, .int .i64 c], .pointer (some ⟨B, 0, none⟩)] w fun e w' => e = .returned (.bool true) ∧ Below w.heap.size w w' := by
  have h1 : ¬ c < t := Int.not_lt.2 (of_decide_eq_true h)
  have HX : Hid _ := hx.below (balloc (Below.refl _ _) (.cells #[.int .i64 x, .int .i64 y, .int .i64 c] 50))
  obtain ⟨x0, x1, x2⟩ := HX.out
  clear hx
  go_enter Try.func37, Try.ntmps37
  go_wp2_with fail
  go_ret
  exact ⟨rfl, balloc (Below.refl _ _) _⟩
set_option maxRecDepth 100000 in
set_option maxHeartbeats 4000000 in
theorem rmuch_no (B : Nat) (x y c a b t : Int) (w : World) (hx : Box3 w B a b (.int .i64 t)) (h : decide (t ≤ c) = false) : Calls Try.prog 37 #[.agg #[.int .i64 x, .int .i64 y, .int .i64 c], .pointer (some ⟨B, 0, none⟩)] w fun e w' => e = .returned (.bool false) ∧ Below w.heap.size w w' := by
  have h1 : c < t := Int.not_le.1 (of_decide_eq_false h)
  have HX : Hid _ := hx.below (balloc (Below.refl _ _) (.cells #[.int .i64 x, .int .i64 y, .int .i64 c] 50))
  obtain ⟨x0, x1, x2⟩ := HX.out
  clear hx
  go_enter Try.func37, Try.ntmps37
  go_wp2_with fail
  go_ret
  exact ⟨rfl, balloc (Below.refl _ _) _⟩
set_option maxRecDepth 100000 in
set_option maxHeartbeats 8000000 in
theorem rreach_w (N s B : Nat) (ta tb t : Int) (v : Value) (es : List E) (w : World) (hv : SlE w v es) (hb : Rnt N es) (hs : s < N) (hbx : Box3 w B ta tb (.int .i64 t)) :
    Calls Try.prog 18 #[.agg #[.int .i64 N, v], .int .i64 s, .func (.func 37) #[] #[.pointer (some ⟨B, 0, none⟩)]] w fun e w' => ∃ G, e = .returned (.slice (some ⟨G, 0, none⟩) N N) ∧ Uv 4 encb w' G N (rrd (fun e => decide (t ≤ e.2.2)) es (one s) N) ∧ Below w.heap.size w w' := by
  obtain ⟨a0, c0, rfl⟩ := hv.val
  have HV : Hid _ := hv
  have HB : Hid _ := hb
  have hn64 := hb.n64
  have hlen := hb.len
  have hmk := made_urb N hn64
  have hsi : (s : Int) < (N : Int) := by omega
  clear hv hb
  go_enter Try.func18, Try.ntmps18
  go_wp2_with fail
  have P0 : Hid _ := box2_new w (N : Int) (.slice a0 es.length c0) 24
  have B0 : Hid (Below w.heap.size w (w.alloc (.cells #[.int .i64 N, .slice a0 es.length c0] 24))) := balloc (Below.refl _ _) _
  have X0 : Hid (Box3 (w.alloc (.cells #[.int .i64 N, .slice a0 es.length c0] 24)) B ta tb (.int .i64 t)) := hbx.below (balloc (Below.refl _ _) _)
  clear hbx
  have hz0 : (w.alloc (.cells #[.int .i64 N, .slice a0 es.length c0] 24)).heap.size = w.heap.size + 1 := by simp
  generalize w.alloc (.cells #[.int .i64 N, .slice a0 es.length c0] 24) = W0 at *
  have U1 : Hid (Uv 4 encb (W0.alloc (.cells ((Array.ofFn (n := N) fun _ => encb false).setIfInBounds s (.bool true)) 4)) (w.heap.size + 1) N (one s)) := ⟨by rw [one_row N s, ← hz0]; exact heap_alloc_new W0 _⟩
  have B1 : Hid (Below W0.heap.size W0 (W0.alloc (.cells ((Array.ofFn (n := N) fun _ => encb false).setIfInBounds s (.bool true)) 4))) := balloc (Below.refl _ _) _
  have HZ : Hid _ := hz0
  clear hz0 hmk
  generalize W0.alloc (.cells ((Array.ofFn (n := N) fun _ => encb false).setIfInBounds s (.bool true)) 4) = W1 at *
  go_loopw [18] (fun z wr => ∃ r : Nat, z = .int .i64 r ∧ r ≤ N ∧ Uv 4 encb wr (w.heap.size + 1) N (rrd (fun e => decide (t ≤ e.2.2)) es (one s) r) ∧ Below W0.heap.size W0 wr) (fun z _ => N - (intOf z).toNat)
  case atStart => exact ⟨0, rfl, Nat.zero_le _, U1.out, B1.out⟩
  case round =>
    obtain ⟨r, rfl, hr, hu, hbr⟩ := hrel
    have UR : Hid _ := hu
    have BR : Hid (Below W0.heap.size W0 wr) := hbr
    clear hu hbr U1 B1
    by_cases hlt : r < N
    · have hri : (r : Int) < (N : Int) := by omega
      have HN1 : Hid (rrd (fun e => decide (t ≤ e.2.2)) es (one s) (r + 1) = rst (fun e => decide (t ≤ e.2.2)) es (rrd (fun e => decide (t ≤ e.2.2)) es (one s) r) es.length) := rfl
      obtain ⟨O, hO⟩ : ∃ O, rrd (fun e => decide (t ≤ e.2.2)) es (one s) r = O := ⟨_, rfl⟩
      rw [hO] at HN1 UR
      clear hO
      obtain ⟨p0, p1⟩ := P0.out.below BR.out
      go_wp2_with fail
      clear p0 p1
      go_loopw [23] (fun z wr => ∃ k : Nat, z = .int .i64 k ∧ k ≤ es.length ∧ Uv 4 encb wr (w.heap.size + 1) N (rst (fun e => decide (t ≤ e.2.2)) es O k) ∧ Below W0.heap.size W0 wr) (fun z _ => es.length - (intOf z).toNat)
      case atStart => exact ⟨0, rfl, Nat.zero_le _, UR.out, BR.out⟩
      case round =>
        obtain ⟨k, rfl, hk, hu, hbr⟩ := hrel
        clear UR BR
        have UR : Hid _ := hu
        have BR : Hid (Below W0.heap.size W0 wr) := hbr
        clear hu hbr
        by_cases hkl : k < es.length
        · have hki : (k : Int) < (es.length : Int) := by omega
          obtain ⟨b, off, cap, hveq, hc⟩ := ((HV.out.below B0.out).below BR.out).some' (by omega)
          simp only [Value.slice.injEq] at hveq
          obtain ⟨rfl, -, rfl⟩ := hveq
          obtain ⟨e0, e1, e2⟩ := hc k hkl
          clear hc
          have hok := HB.out.ok _ (mem_at hkl)
          obtain ⟨p, hpe⟩ : ∃ p, at3 es k = p := ⟨_, rfl⟩
          rw [hpe] at e0 e1 e2 hok
          obtain ⟨x, y, c⟩ := p
          simp only at e0 e1 e2 hok
          obtain ⟨ok1, ok2, ok3, ok4, ok5, ok6⟩ := hok
          obtain ⟨x, rfl⟩ := Int.eq_ofNat_of_zero_le ok1
          obtain ⟨y, rfl⟩ := Int.eq_ofNat_of_zero_le ok3
          have hxN : x < N := by omega
          have hyN : y < N := by omega
          have HS : Hid _ := rst_cons (p := (fun e => decide (t ≤ e.2.2))) (O := O) hpe
          clear hpe
          obtain ⟨OK, hOK⟩ : ∃ OK, rst (fun e => decide (t ≤ e.2.2)) es O k = OK := ⟨_, rfl⟩
          rw [hOK] at HS UR
          clear hOK
          have B7 : Hid (Below W0.heap.size W0 (wr.alloc (.cells #[.int .i64 x, .int .i64 y, .int .i64 c] 50))) := balloc BR.out _
          have U7 : Hid _ := UR.out.below (balloc (Below.refl _ _) (.cells #[.int .i64 x, .int .i64 y, .int .i64 c] 50))
          obtain ⟨y0, y1, y2⟩ := box3_new wr x y (.int .i64 c) 50
          obtain ⟨q0, -⟩ := U7.out.cell x hxN
          obtain ⟨v1, v2⟩ := U7.out.cell y hyN
          cases hox : OK x
          · rw [hox] at q0 HS
            clear hox v1 v2
            go_wp2_with fail
            go_roundw
            case rel => exact ⟨k + 1, by go_num, by omega, by rw [HS.out, if_neg (by simp)]; exact U7.out, B7.out⟩
            case measure => simp [intOf]; omega
          · rw [hox] at q0 HS
            clear hox v1 v2
            have YL : Hid (w.heap.size + 1 < wr.heap.size) := UR.out.lt
            have X7 : Hid _ := (X0.out.below BR.out).below (balloc (Below.refl _ _) (.cells #[.int .i64 x, .int .i64 y, .int .i64 c] 50))
            by_cases htc : t ≤ c
            · have HT : Hid (decide (t ≤ c) = true) := decide_eq_true htc
              clear htc
              go_wp2_with fail
              generalize wr.alloc (.cells #[.int .i64 x, .int .i64 y, .int .i64 c] 50) = W7 at *
              obtain ⟨Y, hY⟩ : ∃ Y, wr.heap.size = Y := ⟨_, rfl⟩
              rw [hY] at y0 y1 y2 ⊢
              clear hY e0 e1 e2 q0
              refine (rmuch_yes B x y c ta tb t W7 X7.out HT.out).mono ?_
              rintro e w8 ⟨rfl, b8⟩
              have B8 : Hid (Below W0.heap.size W0 w8) := bthen B7.out b8
              have U8 : Hid _ := U7.out.below b8
              have y1' := kept b8 y1
              obtain ⟨v1, v2⟩ := U8.out.cell y hyN
              clear b8 y0 y1 y2 U7 B7
              go_wp2_with fail
              go_roundw
              case rel =>
                refine ⟨k + 1, by go_num, by omega, ?_, Below.setCell B8.out (by have := HZ.out; simp; omega) _⟩
                rw [HS.out, if_pos (⟨trivial, HT.out⟩)]
                exact U8.out.put y true (if_pos rfl) (fun j _ hj => if_neg hj)
              case measure => simp [intOf]; omega
            · have HT : Hid (decide (t ≤ c) = false) := decide_eq_false htc
              clear htc
              go_wp2_with fail
              generalize wr.alloc (.cells #[.int .i64 x, .int .i64 y, .int .i64 c] 50) = W7 at *
              clear e0 e1 e2 q0 y0 y1 y2
              refine (rmuch_no B x y c ta tb t W7 X7.out HT.out).mono ?_
              rintro e w8 ⟨rfl, b8⟩
              have B8 : Hid (Below W0.heap.size W0 w8) := bthen B7.out b8
              have U8 : Hid _ := U7.out.below b8
              clear b8 U7 B7
              go_wp2_with fail
              go_roundw
              case rel =>
                refine ⟨k + 1, by go_num, by omega, ?_, B8.out⟩
                rw [HS.out, if_neg (fun h => by have := HT.out; rw [h.2] at this; cases this)]
                exact U8.out
              case measure => simp [intOf]; omega
        · obtain rfl : k = es.length := by omega
          go_wp2_with fail
          go_roundw
          case rel => exact ⟨r + 1, by go_num, by omega, by rw [HN1.out]; exact UR.out, BR.out⟩
          case measure => simp [intOf]; omega
    · obtain rfl : r = N := by omega
      go_wp2_with fail
      go_ret
      exact ⟨_, rfl, UR.out, bthen B0.out BR.out⟩
end Go.Proofs.Ytlmichnnpameeaa
