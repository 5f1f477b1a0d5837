/-
  Contract: straight of truth values.
-/
import Derived.Test.YtkklgnfimkojlaaFG
namespace Go.Proofs.Ytkklgnfimkojlaa
open Go.RowKit
open Nm Wm Dm Bm Fm Fl
attribute [local go_sem ↓] Go.wp_at_zero Go.wp_at_succ

theorem info36_parts : ∃ i, Try.prog.info? 41 = some i ∧ i.zero = some (.slice none 0 0) ∧ i.size = 1 ∧ i.bytes = 24 := by
  have h : (Try.prog.info? 41).map (fun i => (i.zero, i.size, i.bytes)) = some (some (.slice none 0 0), 1, 24) := by kernel_rfl
  cases e : Try.prog.info? 41 with
  | none => rw [e] at h; cases h
  | some i =>
    rw [e] at h
    simp only [Option.map_some, Option.some.injEq, Prod.mk.injEq] at h
    exact ⟨i, rfl, h.1, h.2.1, h.2.2⟩
theorem made_tblb (n : Nat) (hn : n ≤ 64) (w : World) : (Instr.makeSlice 35 (.int .i64 n) (.int .i64 n)).run Try.prog w = .ok (.slice (some ⟨w.heap.size, 0, none⟩) n n) (w.alloc (.cells (Array.ofFn (n := n) fun _ => .slice none 0 0) 41)) := by
  obtain ⟨i, hi, hz, hs, hb⟩ := info36_parts
  have := run_makeSlice (P := Try.prog) w 35 41 i (.slice none 0 0) Try.underlying35 hi hz .i64 .i64 n n (by omega) (by omega) (by rw [hs]; omega) (by rw [hb]; omega) (by omega)
  rw [hs] at this
  simp only [Int.toNat_natCast, Nat.mul_one] at this
  rw [this]
  have e : madeCells (Value.slice none 0 0).cells n = Array.ofFn (n := n) fun _ => Value.slice none 0 0 := by
    apply Array.ext
    · simp [madeCells]
    · intro i h1 h2
      simp [madeCells, Nat.mod_one, Value.cells]
  rw [e]

set_option maxRecDepth 100000 in
set_option maxHeartbeats 8000000 in
theorem straight_or (N J : Nat) (no stay : Bool) (v : Value) (es : List E) (w : World) (hv : SlE w v es) (hb : Rnt N es) :
    Calls Try.prog 64 #[.agg #[.int .i64 N, v], .agg #[.bool no, .bool stay, .func (.func 50) #[] #[], .func (.func J) #[] #[], .func (.func 52) #[] #[]]] w fun e w' => ∃ R Gs, e = .returned (.slice (some ⟨R, 0, none⟩) N N) ∧ Tb w' R N N Gs (sed or (fun _ => true) es (st no stay) es.length) ∧ (∀ i, i < N → w.heap.size ≤ Gs i) ∧ Below w.heap.size w w' := by
  obtain ⟨a0, c0, rfl⟩ := hv.val
  have HV : Hid _ := hv
  have HB : Hid _ := hb
  have hn64 := hb.n64
  have hlen := hb.len
  have hmk := made_tblb N hn64
  clear hv hb
  go_enter Try.func64, Try.ntmps64
  go_wp2_with fail
  have P0 : Hid _ := box2_new w (N : Int) (.slice a0 es.length c0) 24
  have B0 : Hid (Below w.heap.size w (w.alloc (.cells #[.int .i64 N, .slice a0 es.length c0] 24))) := balloc (Below.refl _ _) _
  have hz0 : (w.alloc (.cells #[.int .i64 N, .slice a0 es.length c0] 24)).heap.size = w.heap.size + 1 := by simp
  generalize w.alloc (.cells #[.int .i64 N, .slice a0 es.length c0] 24) = W0 at *
  have M1 : Hid _ := bm5_b W0 (.bool no) (.bool stay) (.func (.func 50) #[] #[]) (.func (.func J) #[] #[]) (.func (.func 52) #[] #[])
  have P1 : Hid _ := P0.out.below (balloc (Below.refl _ _) (.cells #[.bool no, .bool stay, .func (.func 50) #[] #[], .func (.func J) #[] #[], .func (.func 52) #[] #[]] 66))
  have B1 : Hid (Below w.heap.size w (W0.alloc (.cells #[.bool no, .bool stay, .func (.func 50) #[] #[], .func (.func J) #[] #[], .func (.func 52) #[] #[]] 66))) := balloc B0.out _
  have hz1 : (W0.alloc (.cells #[.bool no, .bool stay, .func (.func 50) #[] #[], .func (.func J) #[] #[], .func (.func 52) #[] #[]] 66)).heap.size = w.heap.size + 1 + 1 := by simp [hz0]
  rw [hz0] at M1
  clear hz0 P0 B0
  generalize W0.alloc (.cells #[.bool no, .bool stay, .func (.func 50) #[] #[], .func (.func J) #[] #[], .func (.func 52) #[] #[]] 66) = W1 at *
  have T2 : Hid (Tb (W1.alloc (.cells (Array.ofFn (n := N) fun _ => .slice none 0 0) 41)) W1.heap.size N 0 (fun _ => 0) (st no stay)) := tv_made encb W1 N (.slice none 0 0) (st no stay)
  have B2 : Hid (Below W1.heap.size W1 (W1.alloc (.cells (Array.ofFn (n := N) fun _ => .slice none 0 0) 41))) := balloc (Below.refl _ _) _
  rw [hz1] at T2
  have HZ : Hid _ := hz1
  clear hz1 hmk
  generalize W1.alloc (.cells (Array.ofFn (n := N) fun _ => .slice none 0 0) 41) = W2 at *
  go_loopw [14] (fun z wr => ∃ (k : Nat) (Gs : Nat → Nat), z = .int .i64 k ∧ k ≤ N ∧ Tb wr (w.heap.size + 1 + 1) N k Gs (st no stay) ∧ (∀ i, i < k → w.heap.size + 1 + 1 < Gs i) ∧ Below W1.heap.size W1 wr) (fun z _ => N - (intOf z).toNat)
  case atStart => exact ⟨0, _, rfl, Nat.zero_le _, T2.out, fun i hi => absurd hi (by omega), B2.out⟩
  case round =>
    obtain ⟨k, Gs, rfl, hk, ht, hgs, hbr⟩ := hrel
    have TR : Hid _ := ht
    have GS : Hid _ := hgs
    have BR : Hid (Below W1.heap.size W1 wr) := hbr
    clear ht hgs hbr T2 B2
    have PR : Hid _ := P1.out.below BR.out
    have MR : Hid _ := M1.out.below BR.out
    by_cases hlt : k < N
    · have hki : (k : Int) < (N : Int) := by omega
      obtain ⟨p0, p1⟩ := PR.out
      obtain ⟨m0, m1, m2, m3, m4⟩ := MR.out.cell
      have k0 := kept_alloc (x := .cells #[.bool no] 4) p0
      have LC : Hid ((wr.alloc (.cells #[.bool no] 4)).cell? ⟨wr.heap.size, 0, none⟩ = some (.bool no)) := cell_new wr _ _ 0 _ rfl
      have B3 : Hid (Below W1.heap.size W1 (wr.alloc (.cells #[.bool no] 4))) := balloc BR.out _
      have T3 : Hid _ := TR.out.below (balloc (Below.refl _ _) (.cells #[.bool no] 4))
      go_wp2_with fail
      clear p0 p1 m0 m1 m2 m3 m4 k0
      have W3S : Hid (wr.heap.size ≤ (wr.alloc (.cells #[.bool no] 4)).heap.size) := by unfold Hid; simp
      generalize wr.alloc (.cells #[.bool no] 4) = W3 at *
      refine (repeat_anyb _ N no W3 (by have := HB.out.n1; omega) hn64 LC.out).mono ?_
      rintro e w4 ⟨rfl, u4, b4⟩
      have U4 : Hid (Uv 4 encb w4 W3.heap.size N (fun _ => no)) := u4
      have B4 : Hid (Below W1.heap.size W1 w4) := bthen B3.out b4
      have T4 : Hid _ := T3.out.below b4
      have M4 : Hid _ := M1.out.below B4.out
      obtain ⟨G, hG⟩ : ∃ G, W3.heap.size = G := ⟨_, rfl⟩
      rw [hG] at U4 ⊢
      have HG : Hid _ := hG
      clear u4 b4 hG
      obtain ⟨⟨u0, s0⟩, s1⟩ := T4.out.slot k hlt
      have HW1 : Hid (W1.heap.size = w.heap.size + 1 + 1) := HZ.out
      have SW : Hid (W1.heap.size ≤ wr.heap.size) := BR.out.size
      have W3L : Hid (wr.heap.size ≤ G) := by have := HG.out; unfold Hid; rw [← this]; exact W3S.out
      have GR : Hid (G ≠ w.heap.size + 1 + 1) := by have := W3L.out; have := TR.out.lt; unfold Hid; omega
      have T5 : Hid (Tb (w4.setCell ⟨w.heap.size + 1 + 1, k, none⟩ (.slice (some ⟨G, 0, none⟩) N N)) (w.heap.size + 1 + 1) N (k + 1) (fun i => if i = k then G else Gs i) (fun i j => if i = k then no else st no stay i j)) := by
        refine Tv.add (T4.out.congr (fun i j hi _ => by rw [if_neg (by omega)])) hlt ?_ GR.out (fun i hi => ?_)
        · refine ⟨U4.out.block.trans ?_⟩
          simp
        · have := (TR.out.row i hi).lt; have := W3L.out; omega
      have B5 : Hid (Below W1.heap.size W1 (w4.setCell ⟨w.heap.size + 1 + 1, k, none⟩ (.slice (some ⟨G, 0, none⟩) N N))) := Below.setCell B4.out (by have := HW1.out; simp; omega) _
      go_wp2_with fail
      clear s0 s1
      generalize w4.setCell ⟨w.heap.size + 1 + 1, k, none⟩ (.slice (some ⟨G, 0, none⟩) N N) = W5 at *
      have hd := T5.out.head k (by omega)
      rw [if_pos rfl] at hd
      have hc := T5.out.row k (by omega)
      rw [if_pos rfl] at hc
      obtain ⟨e0, e1⟩ := hc.cell k hlt
      clear hc
      obtain ⟨m0, m1, m2, m3, m4⟩ := (M1.out.below B5.out).cell
      have GM : Hid (G ≠ w.heap.size + 1) := by have := W3L.out; have := TR.out.lt; unfold Hid; omega
      have KEEP : Hid ((W5.setCell ⟨G, k, none⟩ (.bool stay)).drew |> fun w' => w'.cell? ⟨w.heap.size + 1 + 1, k, none⟩ = some (.slice (some ⟨G, 0, none⟩) N N) ∧ w'.cell? ⟨w.heap.size + 1, 1, none⟩ = some (.bool stay)) := by
        have put : ∀ (b o : Nat) (u : Value), b ≠ G → W5.cell? ⟨b, o, none⟩ = some u → ((W5.setCell ⟨G, k, none⟩ (.bool stay)).drew).cell? ⟨b, o, none⟩ = some u := fun b o u hne h => by
          have : (W5.setCell ⟨G, k, none⟩ (.bool stay)).cell? ⟨b, o, none⟩ = some u := by
            unfold World.cell? at *; rw [Below.heap_setCell _ _ _ _ hne]; exact h
          exact this
        exact ⟨put _ _ _ GR.out.symm hd, put _ _ _ GM.out.symm m1⟩
      go_region_held3 (fun w' => w'.cell? ⟨w.heap.size + 1 + 1, k, none⟩ = some (.slice (some ⟨G, 0, none⟩) N N) ∧ w'.cell? ⟨w.heap.size + 1, 1, none⟩ = some (.bool stay)) (first | exact KEEP.out | go_keep)
        (fail)
      all_goals
        go_wp2_with fail
        go_roundw
        case rel =>
          refine ⟨k + 1, fun i => if i = k then G else Gs i, by go_num, by omega, ?_, ?_, ?_⟩
          · have h1 := (T5.out.put k k (by omega) stay).below (Below.drew (Below.refl _ _))
            rw [if_pos rfl] at h1
            refine h1.congr (fun i j hi hj => ?_)
            unfold upt st
            dsimp only
            by_cases e : i = k
            · subst e
              by_cases e2 : j = i
              · subst e2; rw [if_pos ⟨rfl, rfl⟩, if_pos rfl]
              · rw [if_neg (fun h => e2 h.2), if_pos rfl, if_neg (fun h => e2 h.symm)]
            · rw [if_neg (fun h => e h.1), if_neg e]
          · intro i hi
            dsimp only
            by_cases e : i = k
            · rw [if_pos e]; have := W3L.out; have := TR.out.lt; omega
            · rw [if_neg e]; exact GS.out i (by omega)
          · exact Below.drew (Below.setCell B5.out (by have := HW1.out; have := W3L.out; have := TR.out.lt; simp; omega) _)
        case measure => simp [intOf]; omega
    · obtain rfl : N = k := by omega
      obtain ⟨p0, p1⟩ := PR.out
      go_wp2_with fail
      clear p0 p1 PR MR
      have GL : Hid (∀ i, i < N → W1.heap.size ≤ Gs i) := fun i hi => by have := GS.out i hi; have := HZ.out; omega
      have TM : Hid _ := TR.out
      have BM : Hid (Below W1.heap.size W1 wr) := BR.out
      clear TR BR
      go_loopw [38] (fun z wr => ∃ (k : Nat), z = .int .i64 k ∧ k ≤ es.length ∧ Tb wr (w.heap.size + 1 + 1) N N Gs (sed or (fun _ => true) es (st no stay) k) ∧ Below W1.heap.size W1 wr) (fun z _ => es.length - (intOf z).toNat)
      case atStart => exact ⟨0, rfl, Nat.zero_le _, TM.out, BM.out⟩
      case round =>
        obtain ⟨k, rfl, hk, ht, hbr⟩ := hrel
        have TR : Hid _ := ht
        have BR : Hid (Below W1.heap.size W1 wr) := hbr
        clear ht hbr TM BM
        by_cases hlt : k < es.length
        · have hki : (k : Int) < (es.length : Int) := by omega
          obtain ⟨b, off, cap, hveq, hc⟩ := ((HV.out.below B1.out).below BR.out).some' (by omega)
          simp only [Value.slice.injEq] at hveq
          obtain ⟨rfl, -, rfl⟩ := hveq
          obtain ⟨e0, e1, e2⟩ := hc k hlt
          clear hc
          have hok := HB.out.ok _ (mem_at hlt)
          obtain ⟨p, hpe⟩ : ∃ p, at3 es k = p := ⟨_, rfl⟩
          have HPE : Hid _ := hpe
          rw [hpe] at e0 e1 e2 hok
          clear hpe
          obtain ⟨x, y, c⟩ := p
          simp only at e0 e1 e2 hok
          obtain ⟨ok1, ok2, ok3, ok4, ok5, ok6⟩ := hok
          obtain ⟨x, rfl⟩ := Int.eq_ofNat_of_zero_le ok1
          obtain ⟨y, rfl⟩ := Int.eq_ofNat_of_zero_le ok3
          have hxN : x < N := by omega
          have hyN : y < N := by omega
          have HS : Hid (sed or (fun _ => true) es (st no stay) (k + 1) = upt (sed or (fun _ => true) es (st no stay) k) x y (or (sed or (fun _ => true) es (st no stay) k x y) true)) := by
            unfold Hid; rw [sed_next, HPE.out]; simp
          obtain ⟨TK, hTK⟩ : ∃ TK, sed or (fun _ => true) es (st no stay) k = TK := ⟨_, rfl⟩
          rw [hTK] at HS TR
          clear hTK HPE
          have B7 : Hid (Below W1.heap.size W1 (wr.alloc (.cells #[.int .i64 x, .int .i64 y, .int .i64 c] 34))) := balloc BR.out _
          have T7 : Hid _ := TR.out.below (balloc (Below.refl _ _) (.cells #[.int .i64 x, .int .i64 y, .int .i64 c] 34))
          obtain ⟨y0, y1, y2⟩ := box3_new wr x y (.int .i64 c) 34
          have GY : Hid (Gs x < wr.heap.size) := (TR.out.row x hxN).lt
          go_wp2_with fail
          clear e0 e1 e2
          generalize wr.alloc (.cells #[.int .i64 x, .int .i64 y, .int .i64 c] 34) = W7 at *
          obtain ⟨Y, hY⟩ : ∃ Y, wr.heap.size = Y := ⟨_, rfl⟩
          rw [hY] at y0 y1 y2 GY ⊢
          clear hY
          obtain ⟨m0, m1, m2, m3, m4⟩ := (M1.out.below B7.out).cell
          have hd := T7.out.head x hxN
          obtain ⟨t0, t1⟩ := (T7.out.row x hxN).cell y hyN
          obtain ⟨z, hz⟩ : ∃ z, TK x y = z := ⟨_, rfl⟩
          rw [hz] at t0
          rw [hz] at HS
          clear hz
          refine wp_region_last_lit 25 rfl (by kernel_rfl) (by kernel_rfl) ?_
          simp only [List.take_succ_cons, List.take_zero]
          repeat (quiet_step (first
            | (go_at_call 50; exact Calls.quiet_of_same (falways c _))
            | (go_at_call 52; exact Calls.quiet_of_same (feither z true _))))
          refine wpQuiet_nil ?_
          intro w9 hw9
          obtain ⟨nq, rfl⟩ := hw9
          have T9 : Hid _ := T7.out.below (bdrewN (Below.refl _ _) nq)
          have B9 : Hid (Below W1.heap.size W1 (W7.drewN nq)) := bdrewN B7.out nq
          obtain ⟨q0, q1⟩ := (T9.out.row x hxN).cell y hyN
          refine wpOp_step rfl (fun K hK => ?_)
          go_simp
          refine hK _ _ ?_
          clear hK K
          go_wp2_with fail
          go_roundw
          case rel =>
            refine ⟨k + 1, by go_num, by omega, ?_, ?_⟩
            · rw [HS.out]; have h9 := T9.out.put x y hxN (or z true); simp only [Bool.or_true] at h9 ⊢; exact h9
            · exact Below.setCell B9.out (GL.out x hxN) _
          case measure => simp [intOf]; omega
        · obtain rfl : k = es.length := by omega
          go_wp2_with fail
          go_ret
          exact ⟨_, _, rfl, TR.out, fun i hi => by have := GL.out i hi; have := B1.out.size; omega, bthen B1.out BR.out⟩
end Go.Proofs.Ytkklgnfimkojlaa
