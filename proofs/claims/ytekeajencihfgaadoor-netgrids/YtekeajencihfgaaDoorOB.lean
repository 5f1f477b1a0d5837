/-
  Contract: the document's net of ground.
-/
import Derived.Test.YtekeajencihfgaaDoorOA
import Derived.Test.YtekeajencihfgaaDoorDE
namespace Go.Proofs.YtekeajencihfgaaDoor
open Go.RowKit
open Gm

/-- An append whose run is known, at a step of a region that draws its order. -/
theorem step_append_run {P : Program} {w w' : World} {ops : Array Oper} {o : Oper} {a : Act} {K : Act → World → Prop} {Q : Exit → Act → World → Prop} {E : Prop} (hgd : o.guard = none) (s x : Operand) (t : TypeId)
    (ho : o.op = .call { callee := .builtin .append, args := #[s, x], argTypes := #[t, t] }) (v u r : Value) (hs : a.eval s = v) (hx : a.eval x = u)
    (hr : (Builtin.append_ #[t, t] o.type #[v, u]).run P w = .ok r w') (h : K (a.put o.dst r) w') :
    if Region.wanted o (yielded ops a.tmps) = true then Oper.wp P o a w K Q else E := by
  have hw : Region.wanted o (yielded ops a.tmps) = true := by simp [Region.wanted, hgd]
  rw [if_pos hw]
  unfold Oper.wp execOp
  simp only [ho, resolve, invoke, builtin, Sem.run_bind, Sem.run_pure, Result.andThen_ok, List.map_toArray, List.map_cons, List.map_nil, hs, hx, hr]
  exact h

set_option maxRecDepth 100000 in
set_option maxHeartbeats 8000000 in
theorem rof_any (W H : Int) (v : Value) (cs : List Int) (w : World) (hv : SlI w v cs) (hgd : Gd W H cs) :
    Calls Tryd.prog 8 #[.agg #[.int .i64 W, .int .i64 H, v]] w fun e w' => ∃ u, e = .returned (.agg #[.int .i64 (W * H), u]) ∧ Es w' w.heap.size u (am cs W H cs.length) ∧ Below w.heap.size w w' := by
  obtain ⟨a0, c0, rfl⟩ := hv.val
  have HV : Hid _ := hv
  have HGD : Hid _ := hgd
  have hle := hgd.le
  obtain ⟨q1, q2⟩ := prod_le hgd.w1 hgd.w8 hgd.h1 hgd.h8
  clear hv hgd
  go_enter Tryd.func8, Tryd.ntmps8
  go_wp2_with fail
  obtain ⟨W0, hW0⟩ : ∃ W0, W0 = w.alloc (.cells #[.int .i64 W, .int .i64 H, .slice a0 cs.length c0] 24) := ⟨_, rfl⟩
  have P0 : Hid (Bg W0 w.heap.size W H (.slice a0 cs.length c0)) := by rw [hW0]; exact bg_new w W H (.slice a0 cs.length c0)
  have B0 : Hid (Below w.heap.size w W0) := by rw [hW0]; exact balloc (Below.refl _ _) _
  have hz0 : W0.heap.size = w.heap.size + 1 := by rw [hW0]; simp
  rw [← hW0]
  clear hW0
  obtain ⟨W1, hW1⟩ : ∃ W1, W1 = W0.alloc (.cells #[.int .i64 0, .slice none 0 0] 27) := ⟨_, rfl⟩
  have N1 : Hid (Bn W1 (w.heap.size + 1) (.int .i64 0) (.slice none 0 0)) := by rw [hW1, ← hz0]; exact bn_new W0 _ _
  have P1 : Hid (Bg W1 w.heap.size W H (.slice a0 cs.length c0)) := by rw [hW1]; exact P0.out.below (balloc (Below.refl _ _) _)
  have B1 : Hid (Below w.heap.size w W1) := by rw [hW1]; exact balloc B0.out _
  have hz1 : W1.heap.size = w.heap.size + 1 + 1 := by rw [hW1]; simp [hz0]
  rw [← hW1]
  clear hW1 hz0 P0 B0
  obtain ⟨W2, hW2⟩ : ∃ W2, W2 = W1.alloc (.cells #[.int .i64 (W * H), .slice none 0 0] 27) := ⟨_, rfl⟩
  have M2 : Hid (Bn W2 (w.heap.size + 1 + 1) (.int .i64 (W * H)) (.slice none 0 0)) := by rw [hW2, ← hz1]; exact bn_new W1 _ _
  have N2 : Hid (Bn W2 (w.heap.size + 1) (.int .i64 0) (.slice none 0 0)) := by rw [hW2]; exact N1.out.below (balloc (Below.refl _ _) _)
  have P2 : Hid (Bg W2 w.heap.size W H (.slice a0 cs.length c0)) := by rw [hW2]; exact P1.out.below (balloc (Below.refl _ _) _)
  have B2 : Hid (Below w.heap.size w W2) := by rw [hW2]; exact balloc B1.out _
  have hz2 : W2.heap.size = w.heap.size + 1 + 1 + 1 := by rw [hW2]; simp [hz1]
  rw [← hW2]
  clear hW2 hz1 N1 P1 B1
  have HZ2 : Hid _ := hz2
  clear hz2
  go_loopw [14] (fun z wr => ∃ (k : Nat) (out : Value), z = .int .i64 k ∧ k ≤ cs.length ∧ Bg wr w.heap.size W H (.slice a0 cs.length c0) ∧ Bn wr (w.heap.size + 1) (.int .i64 0) (.slice none 0 0) ∧ Bn wr (w.heap.size + 1 + 1) (.int .i64 (W * H)) out ∧ Es wr (w.heap.size + 1 + 1 + 1) out (am cs W H k) ∧ w.heap.size + 1 + 1 + 1 ≤ wr.heap.size ∧ Below w.heap.size w wr) (fun z _ => cs.length - (intOf z).toNat)
  case atStart => exact ⟨0, _, rfl, Nat.zero_le _, P2.out, N2.out, M2.out, Es.nil _ _, by have := HZ2.out; omega, B2.out⟩
  case round =>
    obtain ⟨k, out, rfl, hk, x0, y0, y1, o, hz, hb⟩ := hrel
    obtain ⟨ao, co, rfl⟩ := o.val
    clear P2 N2 M2 B2 HZ2
    have X0 : Hid _ := x0
    have Y0 : Hid _ := y0
    have Y1 : Hid _ := y1
    have O : Hid _ := o
    have HZ : Hid _ := hz
    have HB : Hid (Below w.heap.size w wr) := hb
    clear x0 y0 y1 o hz hb
    by_cases hlt : k < cs.length
    · have hki : (k : Int) < (cs.length : Int) := by omega
      have HMV : Hid _ := fun w' (hb : Below wr.heap.size wr w') => rmoves_xy W H _ _ k (.slice a0 cs.length c0) cs w' ((HV.out.below HB.out).below hb) HGD.out hlt rfl rfl
      have hml := moves_length (cl cs W H) W ((k : Int) % W) ((k : Int) / W)
      have hal := am_length cs W H k
      have HA : Hid (am cs W H (k + 1) = am cs W H k ++ moves (cl cs W H) W ((k : Int) % W) ((k : Int) / W)) := rfl
      generalize moves (cl cs W H) W ((k : Int) % W) ((k : Int) / W) = ms at *
      have KP : Hid (∀ w', Below wr.heap.size wr w' → w'.cell? ⟨w.heap.size, 0, none⟩ = some (.int .i64 W) ∧ w'.cell? ⟨w.heap.size, 1, none⟩ = some (.int .i64 H) ∧ w'.cell? ⟨w.heap.size, 2, none⟩ = some (.slice a0 cs.length c0)) := fun w' hb => ⟨kept hb X0.out.box.g0, kept hb X0.out.box.g1, kept hb X0.out.box.g2⟩
      obtain ⟨p0, p1, p2⟩ := X0.out.box
      obtain ⟨s0, s1⟩ := Y1.out.cell
      have ON : Hid _ := flat3_one ms
      have FL : Hid _ := flat3_length ms
      obtain ⟨i0, hi0, hz0, hz1, hz2⟩ := info32_parts
      by_cases hm0 : 0 < ms.length
      · go_wp2_with fail
        go_region_law (first
           | (go_simp; go_at_call 17; refine (HMV.out _ ?_).mono ?_; (exact Below.drew (Below.refl _ _)); rintro e w4 ⟨u, rfl, m4, b4⟩; obtain ⟨gm, cm, rfl, hnews⟩ := m4.news hm0; have NW : Hid _ := hnews; clear hnews m4; have BB : Hid (Below wr.heap.size wr w4) := (by exact bthen (Below.drew (Below.refl _ _)) b4); clear b4; have Z1 : Hid _ := Y1.out.below BB.out; obtain ⟨t0, t1⟩ := Z1.out.cell; have O4 : Hid _ := O.out.below BB.out; have hown := O4.out.own; have HZ4 : Hid (w.heap.size + 1 + 1 + 1 ≤ w4.heap.size) := Nat.le_trans HZ.out BB.out.size; have hzz := HZ4.out; obtain ⟨r0, r1, r2⟩ := (X0.out.below BB.out).box; (try dsimp only))
           | (refine step_append_lies _ (by rfl) _ _ _ (by rfl) (w.heap.size + 1 + 1 + 1) 39 i0 _ 3 24 Tryd.underlying25 hi0 hz0 hz1 hz2 rfl (by omega) (.slice ao (am cs W H k).length co) (am cs W H k).length (flat3 (am cs W H k)) (by rfl) hown ⟨gm, 0, none⟩ ms.length cm (flat3 ms) (by rfl) FL.out NW.out ON.out hm0 (by unfold maxLen; omega) (by omega) (by omega) w4.heap.size rfl ?_; intro gg cap' w5 hown5 hgrow hat hlt5; have FAR : Hid (∀ g, g < w.heap.size + 1 + 1 + 1 → w5.heap[g]? = w4.heap[g]?) := (by exact fun g hg => hgrow.block g (by omega) (fun e => by have := (ownBlock_lt hown g e.symm).1; omega)); have B5 : Hid (Below w.heap.size w w5) := (by exact (bthen HB.out BB.out).grown hgrow (by omega) (fun k hk => by have := (ownBlock_lt hown k hk).1; omega)); have HZ5 : Hid (w.heap.size + 1 + 1 + 1 ≤ w5.heap.size) := (by have := hgrow.size; unfold Hid; omega); have V0 : Hid _ := (Y0.out.below BB.out).frame (FAR.out _ (by omega)); have V1 : Hid _ := Z1.out.frame (FAR.out _ (by omega)); have VX : Hid _ := (X0.out.below BB.out).frame (FAR.out _ (by omega)); have KEEP : Hid (w5.cell? ⟨w.heap.size, 0, none⟩ = some (.int .i64 W) ∧ w5.cell? ⟨w.heap.size, 1, none⟩ = some (.int .i64 H) ∧ w5.cell? ⟨w.heap.size, 2, none⟩ = some (.slice a0 cs.length c0)) := (by exact ⟨VX.out.box.g0, VX.out.box.g1, VX.out.box.g2⟩); obtain ⟨v0, v1⟩ := V1.out.cell; obtain ⟨f0, f1⟩ := V1.out.frozen)
           | fail)
        all_goals
          go_wp2_with fail
          go_roundw
          case rel =>
            exact ⟨k + 1, .slice (some ⟨gg, 0, none⟩) ((am cs W H k).length + ms.length) cap', by go_num, by omega, VX.out.other (by omega), V0.out.other (by omega), V1.out.put1 _, (Es.cat HA.out hown5).other (by omega), by have := HZ5.out; simp [World.setCell]; omega, Below.setCell B5.out (by simp; omega) _⟩
          case measure => simp [intOf]; omega
      · obtain rfl : ms = [] := List.length_eq_zero_iff.1 (by omega)
        go_wp2_with fail
        go_region_law (first
           | (go_simp; go_at_call 17; refine (HMV.out _ ?_).mono ?_; (exact Below.drew (Below.refl _ _)); rintro e w4 ⟨u, rfl, m4, b4⟩; obtain ⟨a4, c4, rfl⟩ := m4.val; clear m4; have BB : Hid (Below wr.heap.size wr w4) := (by exact bthen (Below.drew (Below.refl _ _)) b4); clear b4; have Z1 : Hid _ := Y1.out.below BB.out; obtain ⟨t0, t1⟩ := Z1.out.cell; obtain ⟨f0, f1⟩ := Z1.out.frozen; have O4 : Hid _ := O.out.below BB.out; have HRN : Hid _ := fun ty => run_append_nothing (c := c4) O4.out.own ty a4; have HZ4 : Hid (w.heap.size + 1 + 1 + 1 ≤ w4.heap.size) := Nat.le_trans HZ.out BB.out.size; obtain ⟨r0, r1, r2⟩ := (X0.out.below BB.out).box; (try dsimp only))
           | (refine step_append_run (by rfl) _ _ _ (by rfl) _ _ _ (by rfl) (by rfl) (HRN.out _) ?_)
           | fail)
        all_goals
          go_wp2_with fail
          go_roundw
          case rel =>
            exact ⟨k + 1, .slice ao (am cs W H k).length co, by go_num, by omega, (X0.out.below BB.out).other (by omega), (Y0.out.below BB.out).other (by omega), Z1.out.put1 _, by rw [HA.out, List.append_nil]; exact O4.out.other (by omega), by have := HZ4.out; simp [World.setCell]; omega, Below.setCell (bthen HB.out BB.out) (by simp; omega) _⟩
          case measure => simp [intOf]; omega
    · have hke : k = cs.length := by omega
      subst hke
      obtain ⟨s0, s1⟩ := Y1.out.cell
      obtain ⟨g0, g1⟩ := Y0.out.cell
      obtain ⟨f0, f1⟩ := Y0.out.frozen
      go_wp2_with fail
      refine bodyPost_ret (v := .agg #[.int .i64 (W * H), .slice ao (am cs W H cs.length).length co]) ?_ rfl ?_
      · simp [results, Tryd.results8, go_sem, *]
      · exact ⟨_, rfl, ((O.out.other (by omega)).other (by omega)).mono (by omega), Below.setCell (Below.setCell HB.out (by simp) _) (by simp) _⟩
end Go.Proofs.YtekeajencihfgaaDoor
