/-
  Contract: the document's moves.
-/
import Derived.Test.YtekeajencihfgaaDoorDD
import Derived.Deep.DeepCutAuto
import Derived.Deep.LoopGhost
namespace Go.Proofs.YtekeajencihfgaaDoor
open Go.RowKit
open Gm

theorem cl_bounds {W H : Int} {cs : List Int} (hg : Gd W H cs) (x y : Int) : 0 ≤ cl cs W H x y ∧ cl cs W H x y ≤ 9 := by
  by_cases h : 0 ≤ x ∧ x < W ∧ 0 ≤ y ∧ y < H
  · rw [cl_at h]
    obtain ⟨k1, k2⟩ := idx h.1 h.2.1 h.2.2.1 h.2.2.2
    have := hg.len
    exact hg.cell _ (by omega)
  · rw [cl_out h]; omega

theorem wrp {n : Int} (h1 : -9223372036854775808 ≤ n) (h2 : n ≤ 9223372036854775807) : IntKind.i64.wrap n = n := by rw [IntKind.wrap_i64]; omega

/-- The moves of the first k steps; none from rock. -/
def rls (c : Int → Int → Int) (W x y : Int) (k : Nat) : List (Int × Int × Int) := if c x y = 0 then [] else mvs c W x y (steps.take k)
theorem rls_length (c : Int → Int → Int) (W x y : Int) (k : Nat) : (rls c W x y k).length ≤ 8 := by
  unfold rls; split
  · simp
  · exact mvs_length c W x y k
/-- The document's test. -/
def free (c : Int → Int → Int) (x y dx dy : Int) (aslant : Bool) : Bool := decide (0 < c x y) && (decide (0 < c (x + dx) (y + dy)) && (!aslant || (decide (0 < c (x + dx) y) && decide (0 < c x (y + dy)))))
theorem straight (k : Nat) (h : k < 8) (h2 : k % 2 ≠ 1) : ((st k).1 = 0 ∨ (st k).2.1 = 0) ∧ (st k).2.2 = 5 := by
  rcases (show k = 0 ∨ k = 1 ∨ k = 2 ∨ k = 3 ∨ k = 4 ∨ k = 5 ∨ k = 6 ∨ k = 7 by omega) with rfl | rfl | rfl | rfl | rfl | rfl | rfl | rfl <;> first | (exfalso; omega) | decide
theorem slanted (k : Nat) (h : k < 8) (h2 : k % 2 = 1) : (st k).2.2 = 7 := by
  rcases (show k = 0 ∨ k = 1 ∨ k = 2 ∨ k = 3 ∨ k = 4 ∨ k = 5 ∨ k = 6 ∨ k = 7 by omega) with rfl | rfl | rfl | rfl | rfl | rfl | rfl | rfl <;> first | (exfalso; omega) | decide
theorem free_opn {c : Int → Int → Int} (hc : ∀ x y, 0 ≤ c x y) {x y : Int} {k : Nat} (h : k < 8) : free c x y (st k).1 (st k).2.1 (k % 2 == 1) = (c x y != 0 && opn c x y (st k)) := by
  have p : ∀ u v, decide (0 < c u v) = (c u v != 0) := fun u v => by
    have := hc u v
    by_cases e : c u v = 0
    · rw [e]; rfl
    · have : 0 < c u v := by omega
      simp [e, this]
  unfold free opn
  simp only [p]
  by_cases h2 : k % 2 = 1
  · rw [h2]
    simp [Bool.and_assoc]
  · have h3 : (k % 2 == 1) = false := by simp [h2]
    rw [h3]
    rcases (straight k h h2).1 with e | e
    · rw [e]; simp only [Int.add_zero]
      cases (c x y != 0) <;> cases (c x (y + (st k).2.1) != 0) <;> rfl
    · rw [e]; simp only [Int.add_zero]
      cases (c x y != 0) <;> cases (c (x + (st k).1) y != 0) <;> rfl
theorem rls_yes {c : Int → Int → Int} (hc : ∀ x y, 0 ≤ c x y) {W x y : Int} {k : Nat} (h : k < 8) (hf : free c x y (st k).1 (st k).2.1 (k % 2 == 1) = true) : rls c W x y (k + 1) = rls c W x y k ++ [edge c W x y (st k)] ∧ c (x + (st k).1) (y + (st k).2.1) ≠ 0 ∧ c x y ≠ 0 := by
  rw [free_opn hc h, Bool.and_eq_true] at hf
  have h0 : c x y ≠ 0 := by simpa using hf.1
  unfold rls
  rw [if_neg h0, if_neg h0]
  exact ⟨mvs_yes h hf.2, (opn_iff.1 hf.2).1, h0⟩
theorem rls_no {c : Int → Int → Int} (hc : ∀ x y, 0 ≤ c x y) {W x y : Int} {k : Nat} (h : k < 8) (hf : free c x y (st k).1 (st k).2.1 (k % 2 == 1) = false) : rls c W x y (k + 1) = rls c W x y k := by
  rw [free_opn hc h] at hf
  unfold rls
  by_cases h0 : c x y = 0
  · rw [if_pos h0, if_pos h0]
  · rw [if_neg h0, if_neg h0]
    have : (c x y != 0) = true := by simp [h0]
    rw [this, Bool.true_and] at hf
    exact mvs_no h hf
/-- The turns of the document's walk round. -/
def sx (k : Nat) : Int := (st (k % 8)).1
def sy (k : Nat) : Int := (st (k % 8)).2.1
theorem sx_st {k : Nat} (h : k < 8) : sx k = (st k).1 ∧ sy k = (st k).2.1 := by unfold sx sy; rw [Nat.mod_eq_of_lt h]; exact ⟨rfl, rfl⟩
/-- An eighth on, clockwise. -/
theorem turn (k : Nat) (h : k < 8) : (sy k = -1 ∧ sx k < 1 ∧ sx (k + 1) = sx k + 1 ∧ sy (k + 1) = sy k) ∨ (sx k = 1 ∧ sy k < 1 ∧ sx (k + 1) = sx k ∧ sy (k + 1) = sy k + 1)
    ∨ (sy k = 1 ∧ -1 < sx k ∧ sx (k + 1) = sx k - 1 ∧ sy (k + 1) = sy k) ∨ (sx k = -1 ∧ -1 < sy k ∧ sx (k + 1) = sx k ∧ sy (k + 1) = sy k - 1) := by
  rcases (show k = 0 ∨ k = 1 ∨ k = 2 ∨ k = 3 ∨ k = 4 ∨ k = 5 ∨ k = 6 ∨ k = 7 by omega) with rfl | rfl | rfl | rfl | rfl | rfl | rfl | rfl <;> decide

set_option maxRecDepth 100000 in
set_option maxHeartbeats 8000000 in
theorem rmoves_xy (W H x y : Int) (n : Nat) (v : Value) (cs : List Int) (w : World) (hv : SlI w v cs) (hgd : Gd W H cs) (ha : n < cs.length) (hx : (n : Int) % W = x) (hy : (n : Int) / W = y) :
    Calls Tryd.prog 17 #[.agg #[.int .i64 W, .int .i64 H, v], .int .i64 n] w fun e w' => ∃ u, e = .returned u ∧ Es w' w.heap.size u (moves (cl cs W H) W x y) ∧ Below w.heap.size w w' := by
  obtain ⟨a0, c0, rfl⟩ := hv.val
  have HV : Hid _ := hv
  have hle := hgd.le
  have HGD : Hid _ := hgd
  obtain ⟨k0, k1, k2, k3, k4⟩ := coords hgd.w1 (show (0 : Int) ≤ n by omega) (show (n : Int) < W * H by rw [← hgd.len]; omega)
  rw [hx] at k0 k1 k4
  rw [hy] at k2 k3 k4
  have K4 : Hid _ := k4
  have hw1 := hgd.w1
  have hw8 := hgd.w8
  have hh8 := hgd.h8
  have hWz : (W == 0) = false := by simp; omega
  clear hv hgd k4
  go_enter Tryd.func17, Tryd.ntmps17
  go_wp2_with fail
  go_quiet (fail)
  go_wp2_with fail
  obtain ⟨w3, hw3⟩ : ∃ w3, w3 = (w.alloc (.cells #[.int .i64 W, .int .i64 H, .slice a0 cs.length c0] 24)).drewN nq := ⟨_, rfl⟩
  have B3 : Hid (Below w.heap.size w w3) := by rw [hw3]; exact bdrewN (balloc (Below.refl _ _) _) _
  have P3 : Hid (Box3 w3 w.heap.size W H (.slice a0 cs.length c0)) := by rw [hw3]; exact (box3_start w W H _).below (bdrewN (Below.refl _ _) _)
  rw [← hw3]
  try rw [hx]
  try rw [hy]
  clear hw3 hx hy
  go_loopw [24, 8, 9, 7] (fun z gx gy out wr => ∃ k : Nat, z = .int .i64 k ∧ k ≤ 8 ∧ gx = .int .i64 (sx k) ∧ gy = .int .i64 (sy k) ∧ Es wr w3.heap.size out (rls (cl cs W H) W x y k) ∧ Below w3.heap.size w3 wr) (fun z _ _ _ _ => 8 - (intOf z).toNat)
  case atStart => exact ⟨0, rfl, Nat.zero_le _, rfl, rfl, ⟨by unfold rls mvs; simp; exact World.ownsRow_nil _ _ _ _⟩, Below.refl _ _⟩
  case round =>
    obtain ⟨k, rfl, hk, rfl, rfl, ho, hb⟩ := hrel
    have HO : Hid _ := ho
    have HB : Hid (Below w3.heap.size w3 wr) := hb
    clear ho hb
    by_cases hlt : k < 8
    · have hki : (k : Int) < 8 := by omega
      have HT : Hid _ := turn k hlt
      have hbd := st_bounds k hlt
      rw [← (sx_st hlt).1, ← (sx_st hlt).2] at hbd
      obtain ⟨q1, q2, q3, q4, -⟩ := hbd
      go_upto_region 7 with fail
      have HSL : Hid (SlI wr (.slice a0 cs.length c0) cs) := (HV.out.below B3.out).below HB.out
      have KP : Hid (∀ w', Below wr.heap.size wr w' → w'.cell? ⟨w.heap.size, 0, none⟩ = some (.int .i64 W) ∧ w'.cell? ⟨w.heap.size, 1, none⟩ = some (.int .i64 H) ∧ w'.cell? ⟨w.heap.size, 2, none⟩ = some (.slice a0 cs.length c0)) := fun w' hb => ⟨kept hb (P3.out.below HB.out).g0, kept hb (P3.out.below HB.out).g1, kept hb (P3.out.below HB.out).g2⟩
      go_cut [11, 12] (fun va vb wc => va = .int .i64 (cl cs W H x y) ∧ vb = .int .i64 (cl cs W H (x + sx k) (y + sy k)) ∧ Below wr.heap.size wr wc)
      case first =>
        obtain ⟨p0, p1, p2⟩ := P3.out.below HB.out
        go_region_held3 (fun w' => w'.cell? ⟨w.heap.size, 0, none⟩ = some (.int .i64 W) ∧ w'.cell? ⟨w.heap.size, 1, none⟩ = some (.int .i64 H) ∧ w'.cell? ⟨w.heap.size, 2, none⟩ = some (.slice a0 cs.length c0)) (first | go_keep | exact KP.out _ BB.out)
          (first
           | (go_at_call 24; refine (cell_any W H _ cs _ _ _ ?_ HGD.out).mono ?_; (first | exact HSL.out.below (Below.drew (Below.refl _ _)) | exact HSL.out.below BB.out); rintro e w4 ⟨rfl, b4⟩; have BB : Hid (Below wr.heap.size wr w4) := (by first | exact bthen (Below.drew (Below.refl _ _)) b4 | exact bthen BB.out b4))
           | fail)
        all_goals
          go_wp2_with fail
          go_meet
          exact ⟨rfl, by rw [wrp (by omega) (by omega), wrp (by omega) (by omega)], BB.out⟩
      case rest =>
        obtain ⟨rfl, rfl, hbc⟩ := hcut
        have BC : Hid (Below w3.heap.size w3 wc) := bthen HB.out hbc
        have OC : Hid (Es wc w3.heap.size u7 (rls (cl cs W H) W x y k)) := HO.out.below hbc
        have SC : Hid (SlI wc (.slice a0 cs.length c0) cs) := HSL.out.below hbc
        have PC : Hid (Box3 wc w.heap.size W H (.slice a0 cs.length c0)) := (P3.out.below HB.out).below hbc
        clear hbc HO HB HSL KP
        go_upto_region 9 with fail
        obtain ⟨asl, hAS⟩ : ∃ asl, (k % 2 == 1) = asl := ⟨_, rfl⟩
        have hAI : ((k : Int) % 2 == 1) = asl := by
          rw [← hAS]
          by_cases e : k % 2 = 1
          · have : (k : Int) % 2 = 1 := by omega
            rw [e, this]; rfl
          · have h1 : ¬ ((k : Int) % 2 = 1) := by omega
            rw [show ((k : Int) % 2 == 1) = false from beq_eq_false_iff_ne.2 h1, show (k % 2 == 1) = false from beq_eq_false_iff_ne.2 e]
        have HAS : Hid _ := hAS
        rw [hAI]
        clear hAS hAI
        go_cut [14] (fun vf wd => vf = .bool (free (cl cs W H) x y (sx k) (sy k) asl) ∧ Below wc.heap.size wc wd)
        case first =>
          have FR : Hid (free (cl cs W H) x y (sx k) (sy k) asl = (decide (0 < cl cs W H x y) && (decide (0 < cl cs W H (x + sx k) (y + sy k)) && (!asl || (decide (0 < cl cs W H (x + sx k) y) && decide (0 < cl cs W H x (y + sy k))))))) := rfl
          by_cases za : 0 < cl cs W H x y
          · by_cases zb : 0 < cl cs W H (x + sx k) (y + sy k)
            · cases asl
              · have HF : Hid (free (cl cs W H) x y (sx k) (sy k) false = true) := by rw [FR.out, decide_eq_true za, decide_eq_true zb]; rfl
                go_wp2_with fail
                go_meet
                exact ⟨by rw [HF.out], Below.refl _ _⟩
              · obtain ⟨p0, p1, p2⟩ := PC.out
                go_wp2_with fail
                refine (cell_any W H _ cs _ _ wc SC.out HGD.out).mono ?_
                rintro e w6 ⟨rfl, b6⟩
                by_cases zc : 0 < cl cs W H (x + sx k) y
                · have S6 : Hid _ := SC.out.below b6
                  have B6 : Hid (Below wc.heap.size wc w6) := b6
                  obtain ⟨p0, p1, p2⟩ := PC.out.below b6
                  clear b6
                  go_wp2_with fail
                  refine (cell_any W H _ cs _ _ w6 S6.out HGD.out).mono ?_
                  rintro e w7 ⟨rfl, b7⟩
                  have HF : Hid (free (cl cs W H) x y (sx k) (sy k) true = decide (0 < cl cs W H x (y + sy k))) := by unfold Hid; rw [FR.out, decide_eq_true za, decide_eq_true zb, decide_eq_true zc]; rfl
                  go_wp2_with fail
                  go_meet
                  exact ⟨by rw [HF.out], bthen B6.out b7⟩
                · have HF : Hid (free (cl cs W H) x y (sx k) (sy k) true = false) := by rw [FR.out, decide_eq_true za, decide_eq_true zb, decide_eq_false zc]; rfl
                  go_wp2_with fail
                  go_meet
                  exact ⟨by rw [HF.out], b6⟩
            · have HF : Hid (free (cl cs W H) x y (sx k) (sy k) asl = false) := by rw [FR.out, decide_eq_true za, decide_eq_false zb]; rfl
              go_wp2_with fail
              go_meet
              exact ⟨by rw [HF.out], Below.refl _ _⟩
          · have HF : Hid (free (cl cs W H) x y (sx k) (sy k) asl = false) := by rw [FR.out, decide_eq_false za]; rfl
            go_wp2_with fail
            go_meet
            exact ⟨by rw [HF.out], Below.refl _ _⟩
        case rest =>
          obtain ⟨rfl, hbd⟩ := hcut
          have BD : Hid (Below w3.heap.size w3 wc) := bthen BC.out hbd
          have OD : Hid (Es wc w3.heap.size u7 (rls (cl cs W H) W x y k)) := OC.out.below hbd
          have PD : Hid (Box3 wc w.heap.size W H (.slice a0 cs.length c0)) := PC.out.below hbd
          clear hbd BC OC PC SC
          have hcb := cl_bounds HGD.out
          have HNN : Hid (∀ x y, 0 ≤ cl cs W H x y) := fun x y => (hcb x y).1
          have hca1 := hcb x y
          have hcb1 := hcb (x + sx k) (y + sy k)
          obtain ⟨fr, hfr⟩ : ∃ fr, free (cl cs W H) x y (sx k) (sy k) asl = fr := ⟨_, rfl⟩
          obtain ⟨ca, hca⟩ : ∃ z, cl cs W H x y = z := ⟨_, rfl⟩
          obtain ⟨cb, hcb2⟩ : ∃ z, cl cs W H (x + sx k) (y + sy k) = z := ⟨_, rfl⟩
          rw [hfr, hca, hcb2]
          rw [hca] at hca1
          rw [hcb2] at hcb1
          have HFR : Hid _ := hfr
          have HCA : Hid _ := hca
          have HCB : Hid _ := hcb2
          clear hcb hfr hca hcb2
          go_upto_if 70 with fail
          go_cut [7, 15] (fun out _ we => Es we w3.heap.size out (rls (cl cs W H) W x y (k + 1)) ∧ Below w3.heap.size w3 we)
          case first =>
            have HST : Hid _ := sx_st hlt
            cases fr
            · have HE : Hid (rls (cl cs W H) W x y (k + 1) = rls (cl cs W H) W x y k) := rls_no HNN.out hlt (by rw [← HST.out.1, ← HST.out.2, HAS.out]; exact HFR.out)
              go_wp2_with fail
              go_meet
              exact ⟨by rw [HE.out]; exact OD.out, BD.out⟩
            · obtain ⟨he, hne, hne0⟩ := rls_yes (W := W) HNN.out hlt (show free (cl cs W H) x y (st k).1 (st k).2.1 (k % 2 == 1) = true by rw [← HST.out.1, ← HST.out.2, HAS.out]; exact HFR.out)
              rw [← HST.out.1, ← HST.out.2] at hne
              have hin := cl_in hne
              obtain ⟨j1, j2⟩ := idx hin.1 hin.2.1 hin.2.2.1 hin.2.2.2
              obtain ⟨t, ht⟩ := Int.eq_ofNat_of_zero_le (show 0 ≤ (y + sy k) * W + (x + sx k) by omega)
              rw [← HGD.out.len, ht] at j2
              have hdist : (y + sy k) * W = y * W + sy k * W := Int.add_mul _ _ _
              have ht1 : (n : Int) + sx k + sy k * W = (t : Int) := by have := K4.out; omega
              have hyw : -8 ≤ sy k * W ∧ sy k * W ≤ 8 := by
                rcases (show sy k = -1 ∨ sy k = 0 ∨ sy k = 1 by omega) with e | e | e <;> rw [e] <;> omega
              have HED : Hid (edge (cl cs W H) W x y (st k) = ((n : Int), (t : Int), (st k).2.2 * (ca + cb))) := by
                unfold Hid edge
                rw [← HST.out.1, ← HST.out.2, K4.out, HCA.out, HCB.out, ← ht]
                refine Prod.ext rfl (Prod.ext ?_ rfl)
                show (y + sy k) * W + x + sx k = (y + sy k) * W + (x + sx k)
                omega
              rw [HED.out] at he
              have HE : Hid _ := he
              have hel := rls_length (cl cs W H) W x y k
              have hown := OD.out.own
              have hwz := BD.out.size
              obtain ⟨i0, hi0, hz0, hz1, hz2⟩ := info32_parts
              obtain ⟨p0, p1, p2⟩ := PD.out
              clear he hne hne0 hin j1 j2 ht hdist HED HFR
              generalize rls (cl cs W H) W x y k = es at *
              cases asl
              · have hm5 : (st k).2.2 = 5 := (straight k hlt (by have := HAS.out; simpa using this)).2
                rw [hm5] at HE
                clear hm5
                go_wp2_with (at_builtin; refine wpList_append_lies _ rfl _ _ _ rfl w3.heap.size 39 i0 _ 3 24 Tryd.underlying25 hi0 hz0 hz1 hz2 rfl (by omega) u7 es.length (flat3 es) rfl (hown.alloc _) ⟨wc.heap.size, 0, none⟩ 1 1 [.int .i64 n, .int .i64 t, .int .i64 (5 * (ca + cb))] rfl rfl (World.news_of_block (cs := #[.int .i64 n, .int .i64 t, .int .i64 (5 * (ca + cb))]) (t := 39) (fr := (0, 0)) (heap_alloc_new wc _)) (by simp [Value.oneCell']) (by omega) (by unfold maxLen; omega) (by omega) (by simp; omega) (wc.heap.size + 1) (by simp) ?_; intro gg cap' w8 hown8 hgrow hat hlt8)
                go_meet
                exact ⟨Es.next HE.out rfl hown8, (balloc BD.out _).grown hgrow (by simp; omega) (fun k hk => (ownBlock_lt hown k hk).1)⟩
              · have hm7 : (st k).2.2 = 7 := slanted k hlt (by have := HAS.out; simpa using this)
                rw [hm7] at HE
                clear hm7
                go_wp2_with (at_builtin; refine wpList_append_lies _ rfl _ _ _ rfl w3.heap.size 39 i0 _ 3 24 Tryd.underlying25 hi0 hz0 hz1 hz2 rfl (by omega) u7 es.length (flat3 es) rfl (hown.alloc _) ⟨wc.heap.size, 0, none⟩ 1 1 [.int .i64 n, .int .i64 t, .int .i64 (7 * (ca + cb))] rfl rfl (World.news_of_block (cs := #[.int .i64 n, .int .i64 t, .int .i64 (7 * (ca + cb))]) (t := 39) (fr := (0, 0)) (heap_alloc_new wc _)) (by simp [Value.oneCell']) (by omega) (by unfold maxLen; omega) (by omega) (by simp; omega) (wc.heap.size + 1) (by simp) ?_; intro gg cap' w8 hown8 hgrow hat hlt8)
                go_meet
                exact ⟨Es.next HE.out rfl hown8, (balloc BD.out _).grown hgrow (by simp; omega) (fun k hk => (ownBlock_lt hown k hk).1)⟩
          case rest =>
            obtain ⟨oe, be⟩ := hcut
            have OE : Hid _ := oe
            have BE : Hid (Below w3.heap.size w3 wc) := be
            clear oe be OD BD PD
            obtain ⟨X1, hX1⟩ : ∃ z, sx (k + 1) = z := ⟨_, rfl⟩
            obtain ⟨Y1, hY1⟩ : ∃ z, sy (k + 1) = z := ⟨_, rfl⟩
            have HX1 : Hid _ := hX1
            have HY1 : Hid _ := hY1
            have HT2 := HT.out
            rw [hX1, hY1] at HT2
            clear hX1 hY1 HCB HFR HAS
            generalize sx k = gx at *
            generalize sy k = gy at *
            rcases HT2 with ⟨rfl, e2, rfl, rfl⟩ | ⟨rfl, e2, rfl, rfl⟩ | ⟨rfl, e2, rfl, rfl⟩ | ⟨rfl, e2, rfl, rfl⟩
            · go_wp2_with fail
              go_roundw
              case rel => exact ⟨k + 1, by go_num, by omega, by rw [HX1.out]; try go_num, by rw [HY1.out]; try go_num, OE.out, BE.out⟩
              case measure => simp [intOf]; omega
            · have e5 : ¬ ((1 : Int) < 1) := by omega
              by_cases e6 : gy = -1
              · subst e6
                go_wp2_with fail
                go_roundw
                case rel => exact ⟨k + 1, by go_num, by omega, by rw [HX1.out]; try go_num, by rw [HY1.out]; try go_num, OE.out, BE.out⟩
                case measure => simp [intOf]; omega
              · have e7 : (gy == -1) = false := by simp [e6]
                go_wp2_with fail
                go_roundw
                case rel => exact ⟨k + 1, by go_num, by omega, by rw [HX1.out]; try go_num, by rw [HY1.out]; try go_num, OE.out, BE.out⟩
                case measure => simp [intOf]; omega
            · by_cases e6 : gx = 1
              · subst e6
                go_wp2_with fail
                go_roundw
                case rel => exact ⟨k + 1, by go_num, by omega, by rw [HX1.out]; try go_num, by rw [HY1.out]; try go_num, OE.out, BE.out⟩
                case measure => simp [intOf]; omega
              · have e7 : (gx == 1) = false := by simp [e6]
                go_wp2_with fail
                go_roundw
                case rel => exact ⟨k + 1, by go_num, by omega, by rw [HX1.out]; try go_num, by rw [HY1.out]; try go_num, OE.out, BE.out⟩
                case measure => simp [intOf]; omega
            · have e7 : (gy == -1) = false := by simp; omega
              by_cases e6 : gy = 1
              · subst e6
                go_wp2_with fail
                go_roundw
                case rel => exact ⟨k + 1, by go_num, by omega, by rw [HX1.out]; try go_num, by rw [HY1.out]; try go_num, OE.out, BE.out⟩
                case measure => simp [intOf]; omega
              · have e8 : (gy == 1) = false := by simp [e6]
                go_wp2_with fail
                go_roundw
                case rel => exact ⟨k + 1, by go_num, by omega, by rw [HX1.out]; try go_num, by rw [HY1.out]; try go_num, OE.out, BE.out⟩
                case measure => simp [intOf]; omega
    · have hke : k = 8 := by omega
      subst hke
      have HM : Hid (moves (cl cs W H) W x y = rls (cl cs W H) W x y 8) := rfl
      go_wp2_with fail
      go_ret
      exact ⟨_, rfl, by rw [HM.out]; exact HO.out.mono B3.out.size, bthen B3.out HB.out⟩
end Go.Proofs.YtekeajencihfgaaDoor
