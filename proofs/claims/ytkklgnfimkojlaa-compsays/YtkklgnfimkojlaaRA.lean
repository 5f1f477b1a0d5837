/-
  Contract: the document's Reach.
-/
import Derived.Test.YtkklgnfimkojlaaFJ
import Derived.Test.YtkklgnfimkojlaaDN
namespace Go.Proofs.Ytkklgnfimkojlaa
open Go.RowKit
open Nm Wm Dm Bm Fm Fl
attribute [local go_sem ↓] Go.wp_at_zero Go.wp_at_succ

theorem made_urb (n : Nat) (hn : n ≤ 64) (w : World) : (Instr.makeSlice 41 (.int .i64 n) (.int .i64 n)).run Try.prog w = .ok (.slice (some ⟨w.heap.size, 0, none⟩) n n) (w.alloc (.cells (Array.ofFn (n := n) fun _ => encb false) 4)) := by
  rw [made_runb n hn w]
  congr 3
  apply Array.ext
  · simp
  · intro i h1 h2
    simp
set_option maxRecDepth 100000 in
set_option maxHeartbeats 4000000 in
theorem rany (x y c : Int) (w : World) : Calls Try.prog 40 #[.agg #[.int .i64 x, .int .i64 y, .int .i64 c]] w fun e w' => e = .returned (.bool true) ∧ Below w.heap.size w w' := by
  go_enter Try.func40, Try.ntmps40
  go_wp2_with fail
  go_ret
  exact ⟨rfl, balloc (Below.refl _ _) _⟩
theorem one_row (n s : Nat) : ((Array.ofFn (n := n) fun _ => encb false).setIfInBounds s (.bool true)) = Array.ofFn (n := n) fun i => encb (one s i) := by
  apply Array.ext_getElem?
  intro j
  rw [Array.getElem?_setIfInBounds]
  by_cases hj : j < n
  · by_cases e : s = j
    · subst e; simp [hj, one, encb]
    · have e2 : ¬ j = s := fun h => e h.symm
      simp [hj, e, one, encb, e2]
  · by_cases e : s = j
    · subst e; simp [hj]
    · simp [hj, e]
/-- An edge's places, as numbers. -/
theorem rst_cons {p : E → Bool} {es : List E} {O : Nat → Bool} {k x y : Nat} {c : Int} (he : at3 es k = ((x : Int), (y : Int), c)) : rst p es O (k + 1) = if rst p es O k x = true ∧ p ((x : Int), (y : Int), c) = true then fun i => if i = y then true else rst p es O k i else rst p es O k := by
  rw [rst, he]; simp
set_option maxRecDepth 100000 in
set_option maxHeartbeats 8000000 in
theorem rreach_any (N s : Nat) (v : Value) (es : List E) (w : World) (hv : SlE w v es) (hb : Rnt N es) (hs : s < N) :
    Calls Try.prog 39 #[.agg #[.int .i64 N, v], .int .i64 s, .func (.func 40) #[] #[]] w fun e w' => ∃ G, e = .returned (.slice (some ⟨G, 0, none⟩) N N) ∧ Uv 4 encb w' G N (rrd (fun _ => true) es (one s) N) ∧ Below w.heap.size w w' := by
  obtain ⟨a0, c0, rfl⟩ := hv.val
  have HV : Hid _ := hv
  have HB : Hid _ := hb
  have hn64 := hb.n64
  have hlen := hb.len
  have hmk := made_urb N hn64
  have hsi : (s : Int) < (N : Int) := by omega
  clear hv hb
  go_enter Try.func39, Try.ntmps39
  go_wp2_with fail
  have P0 : Hid _ := box2_new w (N : Int) (.slice a0 es.length c0) 24
  have B0 : Hid (Below w.heap.size w (w.alloc (.cells #[.int .i64 N, .slice a0 es.length c0] 24))) := balloc (Below.refl _ _) _
  have hz0 : (w.alloc (.cells #[.int .i64 N, .slice a0 es.length c0] 24)).heap.size = w.heap.size + 1 := by simp
  generalize w.alloc (.cells #[.int .i64 N, .slice a0 es.length c0] 24) = W0 at *
  have U1 : Hid (Uv 4 encb (W0.alloc (.cells ((Array.ofFn (n := N) fun _ => encb false).setIfInBounds s (.bool true)) 4)) (w.heap.size + 1) N (one s)) := ⟨by rw [one_row N s, ← hz0]; exact heap_alloc_new W0 _⟩
  have B1 : Hid (Below W0.heap.size W0 (W0.alloc (.cells ((Array.ofFn (n := N) fun _ => encb false).setIfInBounds s (.bool true)) 4))) := balloc (Below.refl _ _) _
  have HZ : Hid _ := hz0
  clear hz0 hmk
  generalize W0.alloc (.cells ((Array.ofFn (n := N) fun _ => encb false).setIfInBounds s (.bool true)) 4) = W1 at *
  go_loopw [18] (fun z wr => ∃ r : Nat, z = .int .i64 r ∧ r ≤ N ∧ Uv 4 encb wr (w.heap.size + 1) N (rrd (fun _ => true) es (one s) r) ∧ Below W0.heap.size W0 wr) (fun z _ => N - (intOf z).toNat)
  case atStart => exact ⟨0, rfl, Nat.zero_le _, U1.out, B1.out⟩
  case round =>
    obtain ⟨r, rfl, hr, hu, hbr⟩ := hrel
    have UR : Hid _ := hu
    have BR : Hid (Below W0.heap.size W0 wr) := hbr
    clear hu hbr U1 B1
    by_cases hlt : r < N
    · have hri : (r : Int) < (N : Int) := by omega
      have HN1 : Hid (rrd (fun _ => true) es (one s) (r + 1) = rst (fun _ => true) es (rrd (fun _ => true) es (one s) r) es.length) := rfl
      obtain ⟨O, hO⟩ : ∃ O, rrd (fun _ => true) es (one s) r = O := ⟨_, rfl⟩
      rw [hO] at HN1 UR
      clear hO
      obtain ⟨p0, p1⟩ := P0.out.below BR.out
      go_wp2_with fail
      clear p0 p1
      go_loopw [23] (fun z wr => ∃ k : Nat, z = .int .i64 k ∧ k ≤ es.length ∧ Uv 4 encb wr (w.heap.size + 1) N (rst (fun _ => true) es O k) ∧ Below W0.heap.size W0 wr) (fun z _ => es.length - (intOf z).toNat)
      case atStart => exact ⟨0, rfl, Nat.zero_le _, UR.out, BR.out⟩
      case round =>
        obtain ⟨k, rfl, hk, hu, hbr⟩ := hrel
        clear UR BR
        have UR : Hid _ := hu
        have BR : Hid (Below W0.heap.size W0 wr) := hbr
        clear hu hbr
        by_cases hkl : k < es.length
        · have hki : (k : Int) < (es.length : Int) := by omega
          obtain ⟨b, off, cap, hveq, hc⟩ := ((HV.out.below B0.out).below BR.out).some' (by omega)
          simp only [Value.slice.injEq] at hveq
          obtain ⟨rfl, -, rfl⟩ := hveq
          obtain ⟨e0, e1, e2⟩ := hc k hkl
          clear hc
          have hok := HB.out.ok _ (mem_at hkl)
          obtain ⟨p, hpe⟩ : ∃ p, at3 es k = p := ⟨_, rfl⟩
          rw [hpe] at e0 e1 e2 hok
          obtain ⟨x, y, c⟩ := p
          simp only at e0 e1 e2 hok
          obtain ⟨ok1, ok2, ok3, ok4, ok5, ok6⟩ := hok
          obtain ⟨x, rfl⟩ := Int.eq_ofNat_of_zero_le ok1
          obtain ⟨y, rfl⟩ := Int.eq_ofNat_of_zero_le ok3
          have hxN : x < N := by omega
          have hyN : y < N := by omega
          have HS : Hid _ := rst_cons (p := (fun _ => true)) (O := O) hpe
          clear hpe
          obtain ⟨OK, hOK⟩ : ∃ OK, rst (fun _ => true) es O k = OK := ⟨_, rfl⟩
          rw [hOK] at HS UR
          clear hOK
          have B7 : Hid (Below W0.heap.size W0 (wr.alloc (.cells #[.int .i64 x, .int .i64 y, .int .i64 c] 34))) := balloc BR.out _
          have U7 : Hid _ := UR.out.below (balloc (Below.refl _ _) (.cells #[.int .i64 x, .int .i64 y, .int .i64 c] 34))
          obtain ⟨y0, y1, y2⟩ := box3_new wr x y (.int .i64 c) 34
          obtain ⟨q0, -⟩ := U7.out.cell x hxN
          obtain ⟨v1, v2⟩ := U7.out.cell y hyN
          cases hox : OK x
          · rw [hox] at q0 HS
            clear hox v1 v2
            go_wp2_with fail
            go_roundw
            case rel => exact ⟨k + 1, by go_num, by omega, by rw [HS.out, if_neg (by simp)]; exact U7.out, B7.out⟩
            case measure => simp [intOf]; omega
          · rw [hox] at q0 HS
            clear hox v1 v2
            have YL : Hid (w.heap.size + 1 < wr.heap.size) := UR.out.lt
            go_wp2_with fail
            generalize wr.alloc (.cells #[.int .i64 x, .int .i64 y, .int .i64 c] 34) = W7 at *
            obtain ⟨Y, hY⟩ : ∃ Y, wr.heap.size = Y := ⟨_, rfl⟩
            rw [hY] at y0 y1 y2 ⊢
            clear hY e0 e1 e2 q0
            refine (rany x y c W7).mono ?_
            rintro e w8 ⟨rfl, b8⟩
            have B8 : Hid (Below W0.heap.size W0 w8) := bthen B7.out b8
            have U8 : Hid _ := U7.out.below b8
            have y1' := kept b8 y1
            obtain ⟨v1, v2⟩ := U8.out.cell y hyN
            clear b8 y0 y1 y2 U7 B7
            go_wp2_with fail
            go_roundw
            case rel =>
              refine ⟨k + 1, by go_num, by omega, ?_, Below.setCell B8.out (by have := HZ.out; simp; omega) _⟩
              rw [HS.out, if_pos (by simp)]
              exact U8.out.put y true (if_pos rfl) (fun j _ hj => if_neg hj)
            case measure => simp [intOf]; omega
        · obtain rfl : k = es.length := by omega
          go_wp2_with fail
          go_roundw
          case rel => exact ⟨r + 1, by go_num, by omega, by rw [HN1.out]; exact UR.out, BR.out⟩
          case measure => simp [intOf]; omega
    · obtain rfl : r = N := by omega
      go_wp2_with fail
      go_ret
      exact ⟨_, rfl, UR.out, bthen B0.out BR.out⟩
end Go.Proofs.Ytkklgnfimkojlaa
