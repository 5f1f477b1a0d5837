/-
  Contract: begin.
-/
import Derived.Test.YtefikbjjdldomaaPC
import Derived.Test.YtefikbjjdldomaaDN
import Derived.Test.YtefikbjjdldomaaRG
import Derived.Deep.DeepCutAuto
namespace Go.Proofs.Ytefikbjjdldomaa
open Go.RowKit
open _root_.Go.Proofs.Ytefikbjjdldomaa.Nm Wm Dm Sk
open Jp (T3)
attribute [local go_sem ↓] Go.wp_at_zero Go.wp_at_succ

/-- The blocks that begin makes. -/
structure Bf (z n : Nat) (w : World) (H C M L : Nat) : Prop where
  zh : z ≤ H
  zc : z ≤ C
  zm : z ≤ M
  zl : z ≤ L
  h : w.heap[H]? = some (.cells #[.func (.func 84) #[] #[], .slice none 0 0] 130 (0, 0))
  c : Ur w C n (fun _ => 1099511627776)
  m : Ur w M n (fun _ => 0)
  l : Lr w L n (fun _ => false)
theorem Bf.below {z n : Nat} {w w' : World} {H C M L : Nat} (h : Bf z n w H C M L) (hb : Below w.heap.size w w') : Bf z n w' H C M L :=
  ⟨h.zh, h.zc, h.zm, h.zl, (hb.block _ (heap_lt' h.h)).trans h.h, h.c.below hb, h.m.below hb, h.l.frame (hb.block _ h.l.lt)⟩
/-- What each operation of the first statement leaves. -/
def Bp (z n el hn kn N0 : Nat) (a0 a1 : Option Addr) (c0 c1 : Nat) (lb : Array Value) : Nat → Value → World → Prop
  | 0, v, _ => v = .agg #[.int .i64 n, .slice a0 el c0]
  | 1, v, _ => v = .slice a1 hn c1
  | 2, v, _ => v = .func (.func kn) #[] lb
  | 3, v, w => ∃ H, v = .pointer (some ⟨H, 0, none⟩) ∧ z ≤ H ∧ w.heap[H]? = some (.cells #[.func (.func 84) #[] #[], .slice none 0 0] 130 (0, 0))
  | 4, v, w => ∃ B, v = .slice (some ⟨B, 0, none⟩) 1 1 ∧ w.cell? ⟨B, 0, none⟩ = some (.int .i64 1099511627776)
  | 5, v, _ => v = .pointer (some ⟨N0, 0, none⟩)
  | 6, v, _ => v = .int .i64 n
  | 7, v, w => ∃ C, v = .slice (some ⟨C, 0, none⟩) n n ∧ z ≤ C ∧ Ur w C n (fun _ => 1099511627776)
  | 8, v, _ => v = .pointer (some ⟨N0, 0, none⟩)
  | 9, v, _ => v = .int .i64 n
  | 10, v, w => ∃ M, v = .slice (some ⟨M, 0, none⟩) n n ∧ z ≤ M ∧ Ur w M n (fun _ => 0)
  | 11, v, _ => v = .pointer (some ⟨N0, 0, none⟩)
  | 12, v, _ => v = .int .i64 n
  | 13, v, w => ∃ L, v = .slice (some ⟨L, 0, none⟩) n n ∧ z ≤ L ∧ Lr w L n (fun _ => false)
  | 14, v, w => ∃ H C M L, v = .agg #[.int .i64 n, .slice a0 el c0, .slice a1 hn c1, .func (.func kn) #[] lb, .pointer (some ⟨H, 0, none⟩), .slice (some ⟨C, 0, none⟩) n n, .slice (some ⟨M, 0, none⟩) n n, .slice (some ⟨L, 0, none⟩) n n, .slice none 0 0] ∧ Bf z n w H C M L
  | 15, v, w => ∃ P H C M L, v = .pointer (some ⟨P, 0, none⟩) ∧ z ≤ P ∧ w.heap[P]? = some (.cells #[.int .i64 n, .slice a0 el c0, .slice a1 hn c1, .func (.func kn) #[] lb, .pointer (some ⟨H, 0, none⟩), .slice (some ⟨C, 0, none⟩) n n, .slice (some ⟨M, 0, none⟩) n n, .slice (some ⟨L, 0, none⟩) n n, .slice none 0 0] 89 (0, 0)) ∧ Bf z n w H C M L
  | 16, v, w => ∃ P H C M L, v = .pointer (some ⟨P, 0, none⟩) ∧ z ≤ P ∧ w.heap[P]? = some (.cells #[.int .i64 n, .slice a0 el c0, .slice a1 hn c1, .func (.func kn) #[] lb, .pointer (some ⟨H, 0, none⟩), .slice (some ⟨C, 0, none⟩) n n, .slice (some ⟨M, 0, none⟩) n n, .slice (some ⟨L, 0, none⟩) n n, .slice none 0 0] 89 (0, 0)) ∧ Bf z n w H C M L
  | _, _, _ => True
theorem Bp.below {z n el hn kn N0 : Nat} {a0 a1 : Option Addr} {c0 c1 : Nat} {lb : Array Value} (j : Nat) {v : Value} {w w' : World} (h : Bp z n el hn kn N0 a0 a1 c0 c1 lb j v w) (hb : Below w.heap.size w w') : Bp z n el hn kn N0 a0 a1 c0 c1 lb j v w' := by
  match j, h with
  | 0, h => exact h
  | 1, h => exact h
  | 2, h => exact h
  | 3, ⟨H, e, hz, h⟩ => exact ⟨H, e, hz, (hb.block _ (heap_lt' h)).trans h⟩
  | 4, ⟨B, e, h⟩ => exact ⟨B, e, kept hb h⟩
  | 5, h => exact h
  | 6, h => exact h
  | 7, ⟨C, e, hz, h⟩ => exact ⟨C, e, hz, h.below hb⟩
  | 8, h => exact h
  | 9, h => exact h
  | 10, ⟨C, e, hz, h⟩ => exact ⟨C, e, hz, h.below hb⟩
  | 11, h => exact h
  | 12, h => exact h
  | 13, ⟨C, e, hz, h⟩ => exact ⟨C, e, hz, h.frame (hb.block _ h.lt)⟩
  | 14, ⟨H, C, M, L, e, h⟩ => exact ⟨H, C, M, L, e, h.below hb⟩
  | 15, ⟨P, H, C, M, L, e, hz, hp, h⟩ => exact ⟨P, H, C, M, L, e, hz, (hb.block _ (heap_lt' hp)).trans hp, h.below hb⟩
  | 16, ⟨P, H, C, M, L, e, hz, hp, h⟩ => exact ⟨P, H, C, M, L, e, hz, (hb.block _ (heap_lt' hp)).trans hp, h.below hb⟩
  | n + 17, _ => exact trivial
theorem sr_start {w W0 wc : World} {n el hn kn P H C M L : Nat} {a0 a1 : Option Addr} {c0 c1 : Nat} {lb : Array Value} (h0 : Below w.heap.size w W0) (hb : Below W0.heap.size W0 wc) (hn1 : 1 ≤ n) (zP : W0.heap.size ≤ P) (fP : wc.heap[P]? = some (.cells #[.int .i64 n, .slice a0 el c0, .slice a1 hn c1, .func (.func kn) #[] lb, .pointer (some ⟨H, 0, none⟩), .slice (some ⟨C, 0, none⟩) n n, .slice (some ⟨M, 0, none⟩) n n, .slice (some ⟨L, 0, none⟩) n n, .slice none 0 0] 89 (0, 0))) (hf : Bf W0.heap.size n wc H C M L) :
    Sr w ⟨P, C, M, L, H⟩ wc.heap.size ⟨n, .slice a0 el c0, .slice a1 hn c1, kn, lb⟩ (fun _ => 1099511627776) (fun _ => 0) (fun _ => false) [] (.slice none 0 0) [] (.slice none 0 0) wc := by
  have z0 := h0.size
  have tC := hf.c.block
  have tM := hf.m.block
  have tL := hf.l.block
  have tH := hf.h
  have zH := hf.zh
  have zC := hf.zc
  have zM := hf.zm
  have zL := hf.zl
  refine ⟨⟨⟨by simp only; omega, by simp only; omega, by simp only; omega, by simp only; omega, by simp only; omega⟩, ⟨heap_lt' fP, heap_lt' tC, heap_lt' tM, heap_lt' tL, heap_lt' tH⟩, ⟨⟨?_, ?_, ?_, ?_⟩, ⟨?_, ?_, ?_⟩, ⟨?_, ?_⟩, ?_⟩⟩, Nat.le_refl _, fP, hf.c, hf.m, hf.l, Is.nil _ _, hf.h, World.ownsRow_nil _ _ _ _, fun k hk => by simp [Value.ownBlock] at hk, fun i h0 hi => by simp at hi, bthen h0 hb⟩
  · intro e; simp only at e; rw [e, tC] at fP; simp at fP
  · intro e; simp only at e; rw [e, tM] at fP; simp at fP
  · intro e; simp only at e; rw [e, tL] at fP; simp at fP
  · intro e; simp only at e; rw [e, tH] at fP; simp at fP
  · intro e
    simp only at e
    have h1 := (hf.c.cell 0 hn1).1
    have h2 := (hf.m.cell 0 hn1).1
    rw [e, h2] at h1
    simp at h1
  · intro e; simp only at e; rw [e, tL] at tC; simp at tC
  · intro e; simp only at e; rw [e, tH] at tC; simp at tC
  · intro e; simp only at e; rw [e, tL] at tM; simp at tM
  · intro e; simp only at e; rw [e, tH] at tM; simp at tM
  · intro e; simp only at e; rw [e, tH] at tL; simp at tL
set_option maxRecDepth 100000 in
set_option maxHeartbeats 16000000 in
theorem begin_any {w : World} {f : Fix} {es : List E} {hl : List Int} {ax : Nat} {ky : Int → Int → Int} (hf : Fx w f es hl ax ky) :
    Calls Try.prog 55 #[.agg #[.int .i64 f.n, f.ve], .int .i64 ax, f.vh, .func (.func f.kn) #[] f.lb] w fun e w' => ∃ b T, e = .returned (.pointer (some ⟨b.P, 0, none⟩)) ∧ Sx w b T f hl ax ky (st0 (gf hl) ax) [] 1 w' := by
  obtain ⟨n, ve, vh, kn, lb⟩ := f
  obtain ⟨a0, c0, hve⟩ := hf.ed.val
  obtain ⟨a1, c1, hvh⟩ := hf.gs.val
  simp only at hve hvh
  subst hve hvh
  have hln := hf.len
  have hn64 := hf.net.n64
  have hn1 := hf.net.n1
  simp only at hln hn64 hn1
  have HF : Hid _ := hf
  have hmk := made_ur n hn64
  have hml := made_lr n hn64
  clear hf
  go_enter Try.func55, Try.ntmps55
  go_wp2_with fail
  have G0 : Hid (Box2 (w.alloc (.cells #[.int .i64 n, .slice a0 es.length c0] 24)) w.heap.size n (.slice a0 es.length c0)) := box2_new w n (.slice a0 es.length c0) 24
  have B0 : Hid (Below w.heap.size w (w.alloc (.cells #[.int .i64 n, .slice a0 es.length c0] 24))) := balloc (Below.refl _ _) _
  generalize w.alloc (.cells #[.int .i64 n, .slice a0 es.length c0] 24) = W0 at *
  obtain ⟨N0, hN0⟩ : ∃ N0, w.heap.size = N0 := ⟨_, rfl⟩
  rw [hN0] at G0 ⊢
  obtain ⟨el, hel⟩ : ∃ el, es.length = el := ⟨_, rfl⟩
  obtain ⟨hn, hhn⟩ : ∃ hn, hl.length = hn := ⟨_, rfl⟩
  rw [hel] at G0 ⊢
  rw [hhn] at hln ⊢
  have HLN : Hid _ := hln
  have HEL : Hid _ := hel
  have HHN : Hid _ := hhn
  have HN0 : Hid _ := hN0
  clear hln hel hhn hN0
  go_cut [9] (fun x wx => Below W0.heap.size W0 wx ∧ Bp W0.heap.size n el hn kn N0 a0 a1 c0 c1 lb 16 x wx)
  case first =>
    refine wp_region_inv (by kernel_rfl) ?_ (fun L a w' => ∃ v : Nat → Value, a = ⟨#[.agg #[.int .i64 n, .slice a0 el c0], .int .i64 (ax : Int), .slice a1 hn c1, .func (.func kn) #[] lb, .pointer (some ⟨N0, 0, none⟩), undef, undef, undef, .pointer none, v 16, v 0, v 1, v 2, v 3, v 4, v 5, v 6, v 7, v 8, v 9, v 10, v 11, v 12, v 13, v 14, v 15, undef, undef, undef, undef], []⟩ ∧ Below W0.heap.size W0 w' ∧ ∀ j, L j = true → Bp W0.heap.size n el hn kn N0 a0 a1 c0 c1 lb j (v j) w') ?_ ?_ ?_
    · exact back_of (by kernel_rfl)
    · exact ⟨fun _ => undef, rfl, Below.drew (Below.refl _ _), fun j hj => by cases hj⟩
    · intro i o hi L ac w1 hI _ hdep K hK
      obtain ⟨v, rfl, hb, hinv⟩ := hI
      obtain ⟨g0, g1⟩ := G0.out.below hb
      have hi17 : i < 17 := by
        rcases Nat.lt_or_ge i 17 with h | h
        · exact h
        · rw [Array.getElem?_eq_none (by simpa using h)] at hi; cases hi
      have hK' : ∀ (x : Value) (w' : World), Below w1.heap.size w1 w' → Bp W0.heap.size n el hn kn N0 a0 a1 c0 c1 lb i x w' → K ⟨#[.agg #[.int .i64 n, .slice a0 el c0], .int .i64 (ax : Int), .slice a1 hn c1, .func (.func kn) #[] lb, .pointer (some ⟨N0, 0, none⟩), undef, undef, undef, .pointer none, (if 16 = i then x else v 16), (if 0 = i then x else v 0), (if 1 = i then x else v 1), (if 2 = i then x else v 2), (if 3 = i then x else v 3), (if 4 = i then x else v 4), (if 5 = i then x else v 5), (if 6 = i then x else v 6), (if 7 = i then x else v 7), (if 8 = i then x else v 8), (if 9 = i then x else v 9), (if 10 = i then x else v 10), (if 11 = i then x else v 11), (if 12 = i then x else v 12), (if 13 = i then x else v 13), (if 14 = i then x else v 14), (if 15 = i then x else v 15), undef, undef, undef, undef], []⟩ w' := fun x w' hb' hx =>
        hK _ _ ⟨fun j => if j = i then x else v j, rfl, bthen hb hb', bset (p := Bp W0.heap.size n el hn kn N0 a0 a1 c0 c1 lb) (v := v) (L := L) (fun j _ _ _ h hb => Bp.below j h hb) hinv hb' i x hx⟩
      have hD : ∀ e ∈ o.after, Region.binds .any e = true → Bp W0.heap.size n el hn kn N0 a0 a1 c0 c1 lb e.on (v e.on) w1 := fun e hm hbd => hinv e.on (hdep _ hm hbd)
      clear hK hinv hdep
      obtain rfl | rfl | rfl | rfl | rfl | rfl | rfl | rfl | rfl | rfl | rfl | rfl | rfl | rfl | rfl | rfl | rfl : i = 0 ∨ i = 1 ∨ i = 2 ∨ i = 3 ∨ i = 4 ∨ i = 5 ∨ i = 6 ∨ i = 7 ∨ i = 8 ∨ i = 9 ∨ i = 10 ∨ i = 11 ∨ i = 12 ∨ i = 13 ∨ i = 14 ∨ i = 15 ∨ i = 16 := by omega
      all_goals
        simp only [List.getElem?_toArray, List.getElem?_cons_succ, List.getElem?_cons_zero, Option.some.injEq] at hi
        subst hi
        clear hi17
        simp only [Nat.reduceEqDiff, reduceIte] at hK'
      · go_simp
        exact hK' _ _ (Below.refl _ _) rfl
      · go_simp
        exact hK' _ _ (Below.refl _ _) rfl
      · go_simp
        exact hK' _ _ (Below.refl _ _) rfl
      · go_simp
        go_at_call 83
        refine (Jw.new_any _).mono ?_
        rintro e w2 ⟨rfl, rfl⟩
        exact hK' _ _ (balloc (Below.refl _ _) _) ⟨_, rfl, hb.size, heap_alloc_new _ _⟩
      · go_simp
        exact hK' _ _ (balloc (Below.refl _ _) _) ⟨_, rfl, cell_new _ _ _ 0 _ rfl⟩
      · go_simp
        exact hK' _ _ (Below.refl _ _) rfl
      · have q : v 5 = .pointer (some ⟨N0, 0, none⟩) := hD { on := 5, ground := .data } (by simp) rfl
        simp only [q] at hK'
        go_simp
        exact hK' _ _ (Below.refl _ _) rfl
      · obtain ⟨B, q4, cB⟩ := hD { on := 4, ground := .data } (by simp) rfl
        have q6 : v 6 = .int .i64 n := hD { on := 6, ground := .data } (by simp) rfl
        simp only [q4, q6] at hK'
        go_simp
        go_at_call 71
        refine (repeat_any B n 1099511627776 _ hn1 hn64 cB).mono ?_
        rintro e w2 ⟨rfl, ur, b2⟩
        exact hK' _ _ b2 ⟨_, rfl, hb.size, ur⟩
      · go_simp
        exact hK' _ _ (Below.refl _ _) rfl
      · have q : v 8 = .pointer (some ⟨N0, 0, none⟩) := hD { on := 8, ground := .data } (by simp) rfl
        simp only [q] at hK'
        go_simp
        exact hK' _ _ (Below.refl _ _) rfl
      · have q : v 9 = .int .i64 n := hD { on := 9, ground := .data } (by simp) rfl
        simp only [q] at hK'
        go_simp
        exact hK' _ _ (balloc (Below.refl _ _) _) ⟨_, rfl, hb.size, ⟨heap_alloc_new _ _⟩⟩
      · go_simp
        exact hK' _ _ (Below.refl _ _) rfl
      · have q : v 11 = .pointer (some ⟨N0, 0, none⟩) := hD { on := 11, ground := .data } (by simp) rfl
        simp only [q] at hK'
        go_simp
        exact hK' _ _ (Below.refl _ _) rfl
      · have q : v 12 = .int .i64 n := hD { on := 12, ground := .data } (by simp) rfl
        simp only [q] at hK'
        go_simp
        exact hK' _ _ (balloc (Below.refl _ _) _) ⟨_, rfl, hb.size, ⟨heap_alloc_new _ _⟩⟩
      · have q0 : v 0 = .agg #[.int .i64 n, .slice a0 el c0] := hD { on := 0, ground := .data } (by simp) rfl
        have q1 : v 1 = .slice a1 hn c1 := hD { on := 1, ground := .data } (by simp) rfl
        have q2 : v 2 = .func (.func kn) #[] lb := hD { on := 2, ground := .data } (by simp) rfl
        obtain ⟨H, q3, zH, fH⟩ := hD { on := 3, ground := .data } (by simp) rfl
        obtain ⟨C, q7, zC, fC⟩ := hD { on := 7, ground := .data } (by simp) rfl
        obtain ⟨M, q10, zM, fM⟩ := hD { on := 10, ground := .data } (by simp) rfl
        obtain ⟨L', q13, zL, fL⟩ := hD { on := 13, ground := .data } (by simp) rfl
        simp only [q0, q1, q2, q3, q7, q10, q13] at hK'
        go_simp
        exact hK' _ _ (Below.refl _ _) ⟨H, C, M, L', rfl, ⟨zH, zC, zM, zL, fH, fC, fM, fL⟩⟩
      · obtain ⟨H, C, M, L', q, hbf⟩ := hD { on := 14, ground := .data } (by simp) rfl
        simp only [q] at hK'
        go_simp
        exact hK' _ _ (balloc (Below.refl _ _) _) ⟨_, H, C, M, L', rfl, hb.size, heap_alloc_new _ _, hbf.below (balloc (Below.refl _ _) _)⟩
      · obtain ⟨P, H, C, M, L', q, zP, fP, hbf⟩ := hD { on := 15, ground := .data } (by simp) rfl
        simp only [q] at hK'
        go_simp
        exact hK' _ _ (Below.refl _ _) ⟨P, H, C, M, L', rfl, zP, fP, hbf⟩
    · intro L ac w1 hI hall
      obtain ⟨v, rfl, hb, hinv⟩ := hI
      have h16 := hinv 16 (hall 16 (by decide))
      go_wp2_with fail
      go_meet
      exact ⟨hb, h16⟩
  case rest =>
    obtain ⟨bW, P, H, C, M, L, rfl, zP, fP, hbf⟩ := hcut
    have BW : Hid _ := bW
    have ST : Hid _ := sr_start B0.out bW hn1 zP fP hbf
    clear bW zP fP hbf hmk hml
    go_wp2_with fail
    have hax := HF.out.a
    simp only at hax
    obtain ⟨g0, g1⟩ := HF.out.rng ax hax
    by_cases hfa : hl.getD ax 0 = 1099511627776
    · have HA : Hid _ := hfa
      have R : Hid _ := fun (_ : Unit) => reach_no ST.out (hl := hl) (by rw [← HHN.out]; exact HF.out.gs.below ST.out.below) HF.out.len hn64 ax hax (-1) 0 (.inl HA.out)
      clear hfa g0 g1
      refine (R.out ()).mono ?_
      rintro e w2 ⟨rfl, rfl⟩
      go_wp2_with fail
      go_ret
      have e1 : (st0 (gf hl) ax).c = fun _ => 1099511627776 := by
        funext i
        exact if_neg (fun h => h.2 HA.out)
      refine ⟨⟨P, C, M, L, H⟩, w2.heap.size, rfl, ⟨fun _ => 0, .slice none 0 0, [], .slice none 0 0, ?_, ⟨fun h => ?_, fun u _ _ h => ?_⟩, ⟨fun q hq => by simp at hq, fun v _ hw => ?_⟩, Nat.zero_le _⟩⟩
      · rw [e1, HEL.out, HHN.out]; exact ST.out
      · rw [e1] at h; exact absurd h (show ¬ (1099511627776 : Int) < 1099511627776 by decide)
      · rw [e1] at h; exact absurd h (show ¬ (1099511627776 : Int) < 1099511627776 by decide)
      · have := (wts_yes hw).1; rw [e1] at this; exact absurd this (show ¬ (1099511627776 : Int) < 1099511627776 by decide)
    · have HA : Hid _ := hfa
      have R : Hid _ := fun (_ : Unit) => reach_put (hl := hl) (ky := ky) ST.out (by rw [← HHN.out]; exact HF.out.gs) HF.out.len hn64 HF.out.key ax hax (-1) 0 HA.out rfl (by decide) (by omega) (by omega) g0 g1 (by simp)
      clear hfa g0 g1
      refine (R.out ()).mono ?_
      rintro e w2 ⟨rfl, vq, rs, s1, pm, _⟩
      have S1 : Hid _ := s1
      have PM : Hid _ := pm
      clear s1 pm
      go_wp2_with fail
      go_ret
      have e1 : (st0 (gf hl) ax).c = upd (fun _ => 1099511627776) ax 0 := by
        funext i
        by_cases h : i = ax
        · subst h; rw [upd_same]; exact if_pos ⟨rfl, HA.out⟩
        · rw [upd_other _ _ h]; exact if_neg (fun hh => h hh.1)
      refine ⟨⟨P, C, M, L, H⟩, wc.heap.size, rfl, ⟨upd (fun _ => 0) ax (-1), .slice none 0 0, rs, vq, ?_, ⟨fun h => ?_, fun u _ hu h => ?_⟩, ?_, by rw [PM.out.length_eq]; simp⟩⟩
      · rw [e1, HEL.out, HHN.out]; exact S1.out
      · exact upd_same _ _ _
      · rw [e1, upd_other _ _ hu] at h; exact absurd h (show ¬ (1099511627776 : Int) < 1099511627776 by decide)
      · have w0 : Wq n (gf hl) ky ⟨fun _ => 1099511627776, fun _ => 0⟩ [] [] := ⟨fun q hq => by simp at hq, fun v _ hw => by have := (wts_yes hw).1; simp only at this; exact absurd this (show ¬ (1099511627776 : Int) < 1099511627776 by decide)⟩
        have w1 := w0.put (p := (st0 (gf hl) ax).p) (x := 0) HF.out.mono hax (show (0 : Int) < 1099511627776 by decide) (by decide)
        have e2 : st0 (gf hl) ax = ⟨upd (fun _ => 1099511627776) ax 0, (st0 (gf hl) ax).p⟩ := by rw [← e1]
        rw [e2]
        exact w1.perm PM.out.symm
end Go.Proofs.Ytefikbjjdldomaa
