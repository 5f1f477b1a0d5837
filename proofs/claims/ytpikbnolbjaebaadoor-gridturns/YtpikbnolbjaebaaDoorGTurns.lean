/-
  The walk of the law fellkeep.GridTurns: it returns true, and writes nothing that was there.
-/
import Derived.Test.YtpikbnolbjaebaaDoorDH
import Derived.Deep.DeepCutAuto
namespace Go.Proofs.YtpikbnolbjaebaaDoor.GTurns
open Go.RowKit
open Gm

/-- The ground that is made: its box, its cells; nothing that was there is turned. -/
structure Two (w3 wc : World) (Hb M n : Nat) (W H : Int) (U : Nat → Int) : Prop where
  box : Box3 wc Hb W H (.slice (some ⟨M, 0, none⟩) n n)
  row : Ur wc M n U
  ne : Hb ≠ M
  h1 : w3.heap.size ≤ Hb
  h2 : w3.heap.size ≤ M
  be : Below w3.heap.size w3 wc

theorem two_a (w3 : World) (n : Nat) (W H : Int) : Two w3 ((w3.alloc (.cells (Array.ofFn (n := n) fun _ => .int .i64 0) 3)).alloc (.cells #[.int .i64 W, .int .i64 H, .slice (some ⟨w3.heap.size, 0, none⟩) n n] 24)).drew (w3.heap.size + 1) w3.heap.size n W H (fun _ => 0) := by
  have hs : w3.heap.size + 1 = (w3.alloc (.cells (Array.ofFn (n := n) fun _ => .int .i64 0) 3)).heap.size := by simp
  have hb : Below (w3.alloc (.cells (Array.ofFn (n := n) fun _ => .int .i64 0) 3)).heap.size (w3.alloc (.cells (Array.ofFn (n := n) fun _ => .int .i64 0) 3)) ((w3.alloc (.cells (Array.ofFn (n := n) fun _ => .int .i64 0) 3)).alloc (.cells #[.int .i64 W, .int .i64 H, .slice (some ⟨w3.heap.size, 0, none⟩) n n] 24)).drew := Below.drew (balloc (Below.refl _ _) _)
  refine ⟨?_, Ur.below (w := w3.alloc _) ⟨by rw [heap_alloc_new]⟩ hb, by omega, by omega, Nat.le_refl _, Below.drew (balloc (balloc (Below.refl _ _) _) _)⟩
  rw [hs]
  exact (box3_new _ _ _ _ _).below (Below.drew (Below.refl _ _))
theorem two_b (w3 : World) (n : Nat) (W H : Int) : Two w3 ((w3.alloc (.cells #[.int .i64 W, .int .i64 H, .slice (some ⟨w3.heap.size + 1, 0, none⟩) n n] 24)).alloc (.cells (Array.ofFn (n := n) fun _ => .int .i64 0) 3)).drew w3.heap.size (w3.heap.size + 1) n W H (fun _ => 0) := by
  have hs : w3.heap.size + 1 = (w3.alloc (.cells #[.int .i64 W, .int .i64 H, .slice (some ⟨w3.heap.size + 1, 0, none⟩) n n] 24)).heap.size := by simp
  have hb : Below (w3.alloc (.cells #[.int .i64 W, .int .i64 H, .slice (some ⟨w3.heap.size + 1, 0, none⟩) n n] 24)).heap.size (w3.alloc (.cells #[.int .i64 W, .int .i64 H, .slice (some ⟨w3.heap.size + 1, 0, none⟩) n n] 24)) ((w3.alloc (.cells #[.int .i64 W, .int .i64 H, .slice (some ⟨w3.heap.size + 1, 0, none⟩) n n] 24)).alloc (.cells (Array.ofFn (n := n) fun _ => .int .i64 0) 3)).drew := Below.drew (balloc (Below.refl _ _) _)
  refine ⟨(box3_new w3 _ _ _ _).below hb, ⟨?_⟩, by omega, Nat.le_refl _, by omega, Below.drew (balloc (balloc (Below.refl _ _) _) _)⟩
  have := heap_alloc_new (w3.alloc (.cells #[.int .i64 W, .int .i64 H, .slice (some ⟨w3.heap.size + 1, 0, none⟩) n n] 24)) (.cells (Array.ofFn (n := n) fun _ => .int .i64 0) 3)
  rw [← hs] at this
  exact this

theorem Two.put {w3 wc : World} {Hb M n : Nat} {W H : Int} {U : Nat → Int} (h : Two w3 wc Hb M n W H U) (q t : Nat) (x : Int) : Two w3 ((wc.drewN q).setCell ⟨M, t, none⟩ (.int .i64 x)) Hb M n W H (updI U t x) := by
  have hb : Box3 (wc.drewN q) Hb W H (.slice (some ⟨M, 0, none⟩) n n) := ⟨h.box.g0, h.box.g1, h.box.g2⟩
  have far : ∀ i v, (wc.drewN q).cell? ⟨Hb, i, none⟩ = some v → ((wc.drewN q).setCell ⟨M, t, none⟩ (.int .i64 x)).cell? ⟨Hb, i, none⟩ = some v := fun i v hv => by
    unfold World.cell? at *
    simp only at *
    rw [Below.heap_setCell _ _ _ _ h.ne]
    exact hv
  exact ⟨⟨far _ _ hb.g0, far _ _ hb.g1, far _ _ hb.g2⟩, (h.row.drewN q).put t x, h.ne, h.h1, h.h2, Below.setCell (bdrewN h.be q) h.h2 _⟩
theorem filled {W H : Int} {cs : List Int} {U : Nat → Int} {k t : Nat} {x : Int} (hg : Gd W H cs) (hk : k < cs.length) (ht : over W k = (t : Int)) (hx : cs.getD k 0 = x) (hu : ∀ i : Nat, i < k → U (over W i).toNat = cs.getD i 0) :
    ∀ i : Nat, i < k + 1 → updI U t x (over W i).toNat = cs.getD i 0 := by
  intro i hi
  have hlen := hg.len
  obtain ⟨o1, o2, _⟩ := over_in (v := (i : Int)) hg.w1 (by omega) (show (i : Int) < W * H by omega)
  unfold updI
  by_cases e : i = k
  · subst e
    rw [ht, Int.toNat_natCast, if_pos rfl, hx]
  · rw [if_neg]
    · exact hu i (by omega)
    · intro e2
      have e3 : over W i = over W k := by rw [ht]; omega
      have h1 := over_over (v := (i : Int)) hg.w1 (by omega) (show (i : Int) < W * H by omega)
      have h2 := over_over (v := (k : Int)) hg.w1 (by omega) (show (k : Int) < W * H by omega)
      rw [e3, h2] at h1
      omega
theorem full {W H : Int} {cs : List Int} {U : Nat → Int} (hg : Gd W H cs) (hu : ∀ i : Nat, i < cs.length → U (over W i).toNat = cs.getD i 0) : ∀ i, i < cs.length → U i = (mirr W cs).getD i 0 := by
  intro i hi
  have hlen := hg.len
  obtain ⟨o1, o2, _⟩ := over_in (v := (i : Int)) hg.w1 (by omega) (show (i : Int) < W * H by omega)
  have h1 := over_over (v := (i : Int)) hg.w1 (by omega) (show (i : Int) < W * H by omega)
  obtain ⟨t, ht⟩ := Int.eq_ofNat_of_zero_le o1
  have := hu t (by omega)
  rw [← ht, h1, Int.toNat_natCast] at this
  rw [mirr_get W cs i hi, this, ht, Int.toNat_natCast]

set_option maxRecDepth 100000 in
set_option maxHeartbeats 8000000 in
theorem walk (W H n : Int) (v : Value) (cs : List Int) (w : World) (hv : SlI w v cs) (hlen : cs.length ≤ 9223372036854775807) (hs : Steps w) :
    Calls Tryd.prog 5 #[.agg #[.int .i64 W, .int .i64 H, v], .int .i64 n] w fun e w' => e = .returned (.bool true) ∧ Below w.heap.size w w' := by
  obtain ⟨a, c, rfl⟩ := hv.val
  have HV : Hid _ := hv
  have HS : Hid _ := hs
  clear hv hs
  go_enter Tryd.func5, Tryd.ntmps5
  go_wp2_with fail
  obtain ⟨W0, hW0⟩ : ∃ W0, W0 = w.alloc (.cells #[.int .i64 W, .int .i64 H, .slice a cs.length c] 24) := ⟨_, rfl⟩
  obtain ⟨X, hX⟩ : ∃ X, X = w.heap.size := ⟨_, rfl⟩
  have P0 : Hid (Box3 W0 X W H (.slice a cs.length c)) := by rw [hW0, hX]; exact box3_start w W H _
  have B0 : Hid (Below w.heap.size w W0) := by rw [hW0]; exact balloc (Below.refl _ _) _
  have hs0 : X + 1 = W0.heap.size := by rw [hW0, hX]; simp
  rw [← hW0, ← hX]
  clear hW0 hX
  refine (moves_ok 2 1 1 _ [1, 2] _ (lit_cells hs0) gd_two (by decide) (by decide) ((HS.out.below B0.out).below (balloc (Below.refl _ _) _))).mono ?_
  rintro e w1 ⟨u, rfl, es1, b1⟩
  rw [moves_two1] at es1
  have E1 : Hid _ := es1
  have BA : Hid (Below W0.heap.size W0 w1) := bthen (balloc (Below.refl _ _) _) b1
  have P1 : Hid _ := P0.out.below BA.out
  have B1 : Hid (Below w.heap.size w w1) := bthen B0.out BA.out
  obtain ⟨au, cu, rfl⟩ := es1.val
  clear es1 b1 P0 B0 BA hs0
  go_wp2_with fail
  refine (eequal_yes _ _ [(1, 0, 15)] _ (E1.out.below (balloc (Below.refl _ _) _)) (lit_edge rfl 1 0 15) (by decide)).mono ?_
  rintro e w2 ⟨rfl, q, rfl⟩
  have BB : Hid (Below w1.heap.size w1 ((w1.alloc (.cells #[.int .i64 1, .int .i64 0, .int .i64 15] 32)).drewN q)) := bdrewN (balloc (Below.refl _ _) _) q
  have P2 : Hid _ := P1.out.below BB.out
  have B2 : Hid (Below w.heap.size w ((w1.alloc (.cells #[.int .i64 1, .int .i64 0, .int .i64 15] 32)).drewN q)) := bthen B1.out BB.out
  generalize (w1.alloc (.cells #[.int .i64 1, .int .i64 0, .int .i64 15] 32)).drewN q = W2 at *
  obtain ⟨p0, p1, p2⟩ := P2.out
  clear E1 BB P1 B1
  go_wp2_with fail
  refine (moves_gen W H n _ cs W2 (HV.out.below B2.out) hlen (HS.out.below B2.out)).mono ?_
  rintro e w3 ⟨u3, z, rfl, an3, b3⟩
  have A3 : Hid (Ans w3 W H n cs u3 z) := an3
  have P3 : Hid _ := P2.out.below b3
  have B3 : Hid (Below w.heap.size w w3) := bthen B2.out b3
  clear an3 b3 P2 B2 p0 p1 p2
  rcases A3.out with ⟨hz, rfl⟩ | ⟨rfl, hg, hn0, hn1, hsl⟩
  · have hz1 : (z != 0) = true := by simp [hz]
    go_wp2_with fail
    go_ret
    exact ⟨rfl, B3.out⟩
  obtain ⟨a3, c3, rfl⟩ := hsl.val
  have hml := moves_length (cl cs W H) W (n % W) (n / W)
  have HTO : Hid _ := turned_of hg hn0 hn1
  have HG : Hid _ := hg
  have E3 : Hid _ := hsl
  have hle := hg.le
  clear A3 hg hsl
  generalize moves (cl cs W H) W (n % W) (n / W) = es at *
  obtain ⟨p0, p1, p2⟩ := P3.out
  have hmk := made_run cs.length (by omega)
  go_upto_region 8 with fail
  go_cut [10] (fun h10 wc => ∃ Hb M, h10 = .pointer (some ⟨Hb, 0, none⟩) ∧ Two w3 wc Hb M cs.length W H (fun _ => 0))
  case first =>
    go_region_held3 (fun w' => w'.cell? ⟨X, 0, none⟩ = some (.int .i64 W) ∧ w'.cell? ⟨X, 1, none⟩ = some (.int .i64 H) ∧ w'.cell? ⟨X, 2, none⟩ = some (.slice a cs.length c)) (go_keep) (fail)
    all_goals
      go_wp2_with fail
      go_meet
      first | exact ⟨_, _, rfl, two_a w3 cs.length W H⟩ | exact ⟨_, _, rfl, two_b w3 cs.length W H⟩
  case rest =>
    obtain ⟨Hb, M, rfl, htw⟩ := hcut
    have TW : Hid (Two w3 wc Hb M cs.length W H (fun _ => 0)) := htw
    clear htw hmk p0 p1 p2
    obtain ⟨p0, p1, p2⟩ := P3.out.below TW.out.be
    go_wp2_with fail
    clear p0 p1 p2
    go_loopw [55] (fun x wr => ∃ k : Nat, x = .int .i64 k ∧ k ≤ cs.length ∧ ∃ U, Two w3 wr Hb M cs.length W H U ∧ ∀ i, i < k → U (over W i).toNat = cs.getD i 0) (fun x _ => cs.length - (intOf x).toNat)
    case atStart => exact ⟨0, rfl, Nat.zero_le _, _, TW.out, fun i hi => absurd hi (by omega)⟩
    case round =>
      clear TW
      obtain ⟨k, rfl, hk, U, htw, hu⟩ := hrel
      have TW : Hid (Two w3 wr Hb M cs.length W H U) := htw
      have HU : Hid _ := hu
      clear htw hu
      by_cases hlt : k < cs.length
      · have hki : (k : Int) < (cs.length : Int) := by omega
        obtain ⟨b, off, cap, hveq, hc⟩ := ((HV.out.below B3.out).below TW.out.be).some' (by omega)
        simp only [Value.slice.injEq] at hveq
        obtain ⟨rfl, -, rfl⟩ := hveq
        have d0 := hc k hlt
        clear hc
        obtain ⟨x, hx⟩ : ∃ x, cs.getD k 0 = x := ⟨_, rfl⟩
        rw [hx] at d0
        have HX : Hid _ := hx
        clear hx
        obtain ⟨p0, p1, p2⟩ := P3.out.below TW.out.be
        obtain ⟨q0, q1, q2⟩ := TW.out.box
        obtain ⟨o1, o2, -⟩ := over_in (v := (k : Int)) HG.out.w1 (by omega) (show (k : Int) < W * H by rw [← HG.out.len]; omega)
        rw [← HG.out.len] at o2
        obtain ⟨t, ht⟩ := Int.eq_ofNat_of_zero_le o1
        have hw1 := HG.out.w1
        have hw8 := HG.out.w8
        have htl : t < cs.length := by omega
        have hti : (t : Int) < (cs.length : Int) := by omega
        obtain ⟨m0, f0⟩ := TW.out.row.cell t htl
        have HT : Hid _ := ht
        have hHM := TW.out.ne
        have hMH : M ≠ Hb := fun e => hHM e.symm
        clear ht
        go_wp2_with fail
        go_region_held3 (fun w' => w'.cell? ⟨Hb, 2, none⟩ = some (.slice (some ⟨M, 0, none⟩) cs.length cs.length)) (go_keep) (first | (go_at_call 12; refine (over_any W k X _ hw1 hw8 (by omega) (by omega) (by go_keep)).mono ?_; rintro e w5 ⟨rfl, q5, rfl⟩; rw [HT.out]) | fail)
        all_goals
          go_wp2_with fail
          go_roundw
          case rel => exact ⟨k + 1, by go_num, by omega, _, TW.out.put _ t x, filled HG.out hlt HT.out HX.out HU.out⟩
          case measure => simp [intOf]; omega
      · have hke : k = cs.length := by omega
        subst hke
        have S6 : Hid (SlI wr (.slice (some ⟨M, 0, none⟩) cs.length cs.length) (mirr W cs)) := TW.out.row.sl (mirr_length W cs) (full HG.out HU.out) _
        have BE : Hid (Below w.heap.size w wr) := bthen B3.out TW.out.be
        have E6 : Hid _ := E3.out.below TW.out.be
        have P6 : Hid _ := P3.out.below TW.out.be
        have Q6 : Hid _ := TW.out.box
        have hw1 := HG.out.w1
        have hw8 := HG.out.w8
        clear TW HU
        obtain ⟨p0, p1, p2⟩ := P6.out
        obtain ⟨q0, q1, q2⟩ := Q6.out
        obtain ⟨o1, o2, -⟩ := over_in (v := n) hw1 hn0 (show n < W * H by rw [← HG.out.len]; exact hn1)
        rw [← HG.out.len, ← mirr_length W cs] at o2
        obtain ⟨tl, tm⟩ := HTO.out
        have HTL : Hid _ := tl
        have HTM : Hid _ := tm
        have HG2 : Hid _ := mirr_gd HG.out
        have O2 : Hid _ := o2
        clear tl tm HTO o2
        go_upto_region 14 with fail
        go_cut [13, 8] (fun u13 u8 wd => ∃ mv, u13 = mv ∧ u8 = .int .i64 0 ∧ SlE wd mv (moves (cl (mirr W cs) W H) W (over W n % W) (over W n / W)) ∧ Below wr.heap.size wr wd)
        case first =>
          go_region_held3 (fun w' => w'.cell? ⟨Hb, 0, none⟩ = some (.int .i64 W) ∧ w'.cell? ⟨Hb, 1, none⟩ = some (.int .i64 H) ∧ w'.cell? ⟨Hb, 2, none⟩ = some (.slice (some ⟨M, 0, none⟩) cs.length cs.length)) (first | go_keep | exact KEEP.out)
            (first
             | (go_at_call 12; refine (over_any W n X _ hw1 hw8 hn0 (by omega) (by go_keep)).mono ?_; rintro e w5 ⟨rfl, q5, rfl⟩)
             | (go_at_call 6; refine (moves_ok W H (over W n) _ (mirr W cs) _ (S6.out.below (bdrewN (Below.refl _ _) _)) HG2.out o1 O2.out ((HS.out.below BE.out).below (bdrewN (Below.refl _ _) _))).mono ?_; rintro e w7 ⟨u7, rfl, es7, b7⟩; have B7 : Hid (Below wr.heap.size wr w7) := (by exact bthen (bdrewN (Below.refl _ _) _) b7); have KEEP : Hid (w7.cell? ⟨Hb, 0, none⟩ = some (.int .i64 W) ∧ w7.cell? ⟨Hb, 1, none⟩ = some (.int .i64 H) ∧ w7.cell? ⟨Hb, 2, none⟩ = some (.slice (some ⟨M, 0, none⟩) cs.length cs.length)) := (by exact ⟨kept B7.out Q6.out.g0, kept B7.out Q6.out.g1, kept B7.out Q6.out.g2⟩))
             | fail)
          all_goals
            go_wp2_with fail
            go_meet
            exact ⟨_, rfl, rfl, es7, B7.out⟩
        case rest =>
          obtain ⟨mv, rfl, rfl, es7, b7⟩ := hcut
          obtain ⟨a7, c7, rfl⟩ := es7.val
          have F7 : Hid _ := es7
          have B7 : Hid (Below w.heap.size w wc) := bthen BE.out b7
          have E7 : Hid _ := E6.out.below b7
          have P7 : Hid _ := P6.out.below b7
          clear es7 b7 E6 P6 Q6 S6 BE p0 p1 p2 q0 q1 q2
          have G7 : Hid (SlE wc (.slice a7 es.length c7) (moves (cl (mirr W cs) W H) W (over W n % W) (over W n / W))) := by rw [← HTL.out]; exact F7.out
          rw [HTL.out]
          clear F7
          have hmm : (moves (cl (mirr W cs) W H) W (over W n % W) (over W n / W)).length ≤ 64 := by have := HTL.out; omega
          have HMM : Hid _ := hmm
          clear hmm
          generalize moves (cl (mirr W cs) W H) W (over W n % W) (over W n / W) = fs at *
          go_wp2_with fail
          go_loopw [87] (fun x wr => ∃ k : Nat, x = .int .i64 k ∧ k ≤ es.length ∧ Below wc.heap.size wc wr) (fun x _ => es.length - (intOf x).toNat)
          case atStart => exact ⟨0, rfl, Nat.zero_le _, Below.refl _ _⟩
          case round =>
            obtain ⟨k, rfl, hk, hb⟩ := hrel
            have HB : Hid (Below wc.heap.size wc wr) := hb
            clear hb
            by_cases hlt : k < es.length
            · have hki : (k : Int) < (es.length : Int) := by omega
              obtain ⟨g, cap, hveq, hc⟩ := (E7.out.below HB.out).some' (by omega)
              simp only [Value.slice.injEq] at hveq
              obtain ⟨rfl, -, rfl⟩ := hveq
              obtain ⟨d0, d1, d2⟩ := hc k hlt
              have hmem := at3_mem es k hlt
              clear hc
              generalize at3 es k = p at *
              obtain ⟨f, t, cost⟩ := p
              simp only at d0 d1 d2
              obtain ⟨hfn, ht0, ht1, hbk⟩ := HTM.out f t cost hmem
              have HM : Hid _ := hbk
              have HFN : Hid _ := hfn
              clear hmem hbk hfn
              go_upto_region 20 with fail
              obtain ⟨W8, hW8⟩ : ∃ W8, W8 = wr.alloc (.cells #[.int .i64 f, .int .i64 t, .int .i64 cost] 32) := ⟨_, rfl⟩
              obtain ⟨Y, hY⟩ : ∃ Y, Y = wr.heap.size := ⟨_, rfl⟩
              have BA : Hid (Below wr.heap.size wr W8) := by rw [hW8]; exact balloc (Below.refl _ _) _
              have Q8 : Hid (Box3 W8 Y f t (.int .i64 cost)) := by rw [hW8, hY]; exact box3_new wr _ _ _ _
              have B8 : Hid (Below wc.heap.size wc W8) := bthen HB.out BA.out
              have P8 : Hid _ := (P7.out.below HB.out).below BA.out
              have G8 : Hid _ := G7.out.below B8.out
              rw [← hW8, ← hY]
              clear hW8 hY BA d0 d1 d2
              obtain ⟨p0, p1, p2⟩ := P8.out
              obtain ⟨q0, q1, q2⟩ := Q8.out
              have hf0 : 0 ≤ f := by rw [HFN.out]; exact hn0
              have hf1 : f < (cs.length : Int) := by rw [HFN.out]; exact hn1
              have HM2 : Hid ((over W f, over W t, cost) ∈ fs) := by rw [HFN.out]; exact HM.out
              go_cut [104] (fun vb wd => vb = .bool false ∧ Below W8.heap.size W8 wd)
              case first =>
                go_region_held3 (fun w' => w'.cell? ⟨Y, 0, none⟩ = some (.int .i64 f) ∧ w'.cell? ⟨Y, 1, none⟩ = some (.int .i64 t) ∧ w'.cell? ⟨Y, 2, none⟩ = some (.int .i64 cost)) (first | go_keep | exact KEEP.out)
                  (first
                   | (go_at_call 12; refine (over_any W _ X _ hw1 hw8 (by omega) (by omega) (by go_keep)).mono ?_; rintro e w5 ⟨rfl, q5, rfl⟩)
                   | (go_at_call 11; refine (contains_yes _ fs _ _ _ _ (G8.out.below (bdrewN (Below.refl _ _) _)) HMM.out HM2.out).mono ?_; rintro e w7 ⟨rfl, b7⟩; have B7 : Hid (Below W8.heap.size W8 w7) := (by exact bthen (bdrewN (Below.refl _ _) _) b7); have KEEP : Hid (w7.cell? ⟨Y, 0, none⟩ = some (.int .i64 f) ∧ w7.cell? ⟨Y, 1, none⟩ = some (.int .i64 t) ∧ w7.cell? ⟨Y, 2, none⟩ = some (.int .i64 cost)) := (by exact ⟨kept B7.out Q8.out.g0, kept B7.out Q8.out.g1, kept B7.out Q8.out.g2⟩))
                   | fail)
                all_goals
                  go_wp2_with fail
                  go_meet
                  exact ⟨rfl, B7.out⟩
              case rest =>
                obtain ⟨rfl, bd⟩ := hcut
                have BD : Hid _ := bthen B8.out bd
                clear bd
                go_wp2_with fail
                go_roundw
                case rel => exact ⟨k + 1, by go_num, by omega, BD.out⟩
                case measure => simp [intOf]; omega
            · have hke : k = es.length := by omega
              subst hke
              go_wp2_with fail
              go_ret
              exact ⟨rfl, bthen B7.out HB.out⟩
end Go.Proofs.YtpikbnolbjaebaaDoor.GTurns
