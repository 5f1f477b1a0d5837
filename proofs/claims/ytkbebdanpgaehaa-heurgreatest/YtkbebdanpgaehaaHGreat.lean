/-
  The law HeurGreatest.
-/
import Derived.Test.YtkbebdanpgaehaaEE
import Derived.Test.YtkbebdanpgaehaaOpenN
namespace Go.Proofs.Ytkbebdanpgaehaa.HGreat
open Go.RowKit Go.Deep
open Nm Wm Dm HChecks

theorem gus_two0 : gus 2 [(0, 1, 5)] 1 [5, 0] = 0 := by kernel_rfl
theorem gus_two1 : gus 2 [(0, 1, 5)] 1 [6, 0] = 7 := by kernel_rfl
theorem gus_lk {n t : Int} {es : List E} {h : List Int} (hg : gus n es t h = 0) : lk n es [t] = 0 := by
  by_cases hc : lk n es [t] = 0
  · exact hc
  · rw [gus_look h hc] at hg; exact hg

set_option maxRecDepth 100000 in
set_option maxHeartbeats 32000000 in
theorem walk (n t : Int) (v ua ub : Value) (es : List E) (a b : List Int) (w : World) (hv : SlE w v es) (hua : SlI w ua a) (hub : SlI w ub b) (hlen : es.length ≤ 9223372036854775807) (hla : a.length ≤ 9223372036854775807) (hlb : b.length ≤ 9223372036854775807) :
    Calls Try.prog 9 #[.agg #[.int .i64 n, v], .int .i64 t, ua, ub] w fun e w' => e = .returned (.bool true) ∧ Below w.heap.size w w' := by
  obtain ⟨a0, c0, rfl⟩ := hv.val
  obtain ⟨aa, ca, rfl⟩ := hua.val
  obtain ⟨ab, cb, rfl⟩ := hub.val
  have HV : Hid _ := hv
  have HA : Hid _ := hua
  have HB0 : Hid _ := hub
  clear hv hua hub
  go_enter Try.func9, Try.ntmps9
  have P0 : Hid _ := box2_new w n (.slice a0 es.length c0) 24
  have B0 : Hid (Below w.heap.size w (w.alloc (.cells #[.int .i64 n, .slice a0 es.length c0] 24))) := balloc (Below.refl _ _) _
  go_wp2_with fail
  generalize w.alloc (.cells #[.int .i64 n, .slice a0 es.length c0] 24) = W0 at *
  refine (two_any W0).mono ?_
  rintro e w1 ⟨X, rfl, e1, b1⟩
  have B1 : Hid (Below W0.heap.size W0 w1) := b1
  have E1 : Hid _ := e1.below (balloc (Below.refl _ _) (.cells #[.int .i64 5, .int .i64 0] 3))
  have L1 : Hid _ := lit_nums w1 [5, 0] #[.int .i64 5, .int .i64 0] 2 rfl rfl
  clear b1 e1
  go_wp2_with fail
  refine (hcheck_any 2 1 _ _ [(0, 1, 5)] [5, 0] _ E1.out L1.out (by simp) (by simp)).mono ?_
  rintro e w2 ⟨rfl, b2⟩
  rw [gus_two0]
  have B2 : Hid (Below W0.heap.size W0 w2) := bthen (balloc B1.out _) b2
  clear b2 E1 L1 B1
  go_wp2_with fail
  refine (two_any w2).mono ?_
  rintro e w3 ⟨X3, rfl, e3, b3⟩
  have B3 : Hid (Below W0.heap.size W0 w3) := bthen B2.out b3
  have E3 : Hid _ := e3.below (balloc (Below.refl _ _) (.cells #[.int .i64 6, .int .i64 0] 3))
  have L3 : Hid _ := lit_nums w3 [6, 0] #[.int .i64 6, .int .i64 0] 2 rfl rfl
  clear b3 e3 B2
  go_wp2_with fail
  refine (hcheck_any 2 1 _ _ [(0, 1, 5)] [6, 0] _ E3.out L3.out (by simp) (by simp)).mono ?_
  rintro e w4 ⟨rfl, b4⟩
  rw [gus_two1]
  have B4 : Hid (Below W0.heap.size W0 w4) := bthen (balloc B3.out _) b4
  have Z4 : Hid (Below w.heap.size w w4) := bthen B0.out B4.out
  have P4 : Hid _ := P0.out.below B4.out
  clear b4 E3 L3 B3 B4 P0 B0
  obtain ⟨p0, p1⟩ := P4.out
  go_wp2_with fail
  refine (hcheck_any n t _ _ es a _ (HV.out.below Z4.out) (HA.out.below Z4.out) hlen hla).mono ?_
  rintro e w5 ⟨rfl, b5⟩
  have P5 : Hid _ := P4.out.below b5
  have Z5 : Hid (Below w.heap.size w w5) := bthen Z4.out b5
  clear b5 p0 p1 P4 Z4
  obtain ⟨p0, p1⟩ := P5.out
  by_cases ga : gus n es t a = 0
  · have GA : Hid _ := ga
    rw [ga]
    clear ga
    go_wp2_with fail
    refine (hcheck_any n t _ _ es b _ (HV.out.below Z5.out) (HB0.out.below Z5.out) hlen hlb).mono ?_
    rintro e w6 ⟨rfl, b6⟩
    have P6 : Hid _ := P5.out.below b6
    have Z6 : Hid (Below w.heap.size w w6) := bthen Z5.out b6
    clear b6 p0 p1 P5 Z5
    obtain ⟨p0, p1⟩ := P6.out
    by_cases gb : gus n es t b = 0
    · have GB : Hid _ := gb
      rw [gb]
      clear gb
      obtain ⟨N, s, rfl, rfl, hs, hp⟩ := lk_gn (gus_lk GA.out)
      have HC : Hid (lk N es [(s : Int)] = 0) := gus_lk GA.out
      have AA : Hid _ := agr_of HC.out GA.out
      have AB : Hid _ := agr_of HC.out GB.out
      have HNP : Hid (nps N es = 0) := (lk_zero HC.out).1
      have HP : Hid _ := hp
      have hn64 := hp.n64
      have hel := hp.len
      have hel2 : es.length ≤ 9223372036854775807 := by omega
      have hsi : (s : Int) < (N : Int) := by omega
      clear hp GA GB
      go_wp2_with fail
      go_loopw [37, 9] (fun z o wr => ∃ k : Nat, z = .int .i64 k ∧ k ≤ N ∧ Is wr w6.heap.size o (gr a b k) ∧ Below w6.heap.size w6 wr) (fun z _ _ => N - (intOf z).toNat)
      case atStart => exact ⟨0, rfl, Nat.zero_le _, Is.nil _ _, Below.refl _ _⟩
      case round =>
        clear p0 p1
        obtain ⟨k, rfl, hk, hi, hb⟩ := hrel
        obtain ⟨ao, co, rfl⟩ := hi.sl.val
        have HI : Hid _ := hi
        have HB : Hid (Below w6.heap.size w6 wr) := hb
        clear hi hb
        by_cases hlt : k < N
        · have hki : (k : Int) < (N : Int) := by omega
          obtain ⟨p0, p1⟩ := P6.out.below HB.out
          go_wp2_with fail
          refine (dist_yes N k _ es _ ((HV.out.below Z6.out).below HB.out) HNP.out HP.out hlt).mono ?_
          rintro e w7 ⟨G, d, rfl, hG, ur, hd, b7⟩
          have UR : Hid _ := ur
          have HLE : Hid (a.getD k 0 ≤ d s) := AA.out.le HP.out hd hlt hs
          have HB7 : Hid (Below w6.heap.size w6 w7) := bthen HB.out b7
          have I7 : Hid _ := HI.out.below b7
          obtain ⟨f0, -⟩ := ur.cell s hs
          obtain ⟨oa, fa, ca', hveq, hca⟩ := ((HA.out.below Z6.out).below HB7.out).some' (by rw [AA.out.len]; omega)
          simp only [Value.slice.injEq] at hveq
          obtain ⟨rfl, -, rfl⟩ := hveq
          obtain ⟨ob, fb, cb', hveq, hcb⟩ := ((HB0.out.below Z6.out).below HB7.out).some' (by rw [AB.out.len]; omega)
          simp only [Value.slice.injEq] at hveq
          obtain ⟨rfl, -, rfl⟩ := hveq
          have l1 := hca k (by rw [AA.out.len]; omega)
          have l2 := hcb k (by rw [AB.out.len]; omega)
          have hka : (k : Int) < (a.length : Int) := by rw [AA.out.len]; omega
          have hkb : (k : Int) < (b.length : Int) := by rw [AB.out.len]; omega
          obtain ⟨g1, g2⟩ := AA.out.lo k hlt
          obtain ⟨g3, g4⟩ := AB.out.lo k hlt
          have g5 := hd.lo s hs
          have g6 := hd.hi s hs
          have HGN : Hid _ := gr_next a b k
          have HKA : Hid (∀ w', Below w6.heap.size w6 w' → w'.cell? ⟨oa, fa + k, none⟩ = some (.int .i64 (a.getD k 0))) := fun w' hb => by
            obtain ⟨oa', fa', ca', hva', hca'⟩ := ((HA.out.below Z6.out).below hb).some' (by rw [AA.out.len]; omega)
            simp only [Value.slice.injEq, Option.some.injEq, Addr.mk.injEq] at hva'
            obtain ⟨⟨rfl, rfl, -⟩, -, rfl⟩ := hva'
            exact hca' k (by rw [AA.out.len]; omega)
          have HKB : Hid (∀ w', Below w6.heap.size w6 w' → w'.cell? ⟨ob, fb + k, none⟩ = some (.int .i64 (b.getD k 0))) := fun w' hb => by
            obtain ⟨ob', fb', cb', hvb', hcb'⟩ := ((HB0.out.below Z6.out).below hb).some' (by rw [AB.out.len]; omega)
            simp only [Value.slice.injEq, Option.some.injEq, Addr.mk.injEq] at hvb'
            obtain ⟨⟨rfl, rfl, -⟩, -, rfl⟩ := hvb'
            exact hcb' k (by rw [AB.out.len]; omega)
          clear hca hcb b7 hd ur
          obtain ⟨p, hpe⟩ : ∃ p, a.getD k 0 = p := ⟨_, rfl⟩
          obtain ⟨q, hqe⟩ : ∃ q, b.getD k 0 = q := ⟨_, rfl⟩
          rw [hpe] at HLE HGN HKA g1 g2 l1
          rw [hqe] at HGN HKB g3 g4 l2
          obtain ⟨x, hxe⟩ : ∃ x, d s = x := ⟨_, rfl⟩
          rw [hxe] at HLE g5 g6 f0
          have hpx : ¬ x < p := by have := HLE.out; omega
          have hfar : far = 1099511627776 := rfl
          rw [hfar] at g6
          clear hpe hqe hxe hfar HLE
          go_wp2_with fail
          go_quiet (fail)
          go_wp2_with fail
          have HB8 : Hid (Below w6.heap.size w6 (w7.drewN nq)) := bdrewN HB7.out _
          have I8 : Hid _ := I7.out.below (bdrewN (Below.refl _ _) nq)
          have m1 := kept (bdrewN (Below.refl w7.heap.size w7) nq) l1
          have m2 := kept (bdrewN (Below.refl w7.heap.size w7) nq) l2
          clear l1 l2 f0 I7 HB7 hpx g5 g6 p0 p1
          generalize w7.drewN nq = W8 at *
          obtain ⟨i0, hi0, hz0, hz1, hz2⟩ := info3_parts
          have hown := I8.out.own
          have HLN : Hid ((gr a b k).length = k) := gr_length a b k
          have hz8 := HB8.out.size
          have KA : Hid (∀ w', Below w6.heap.size w6 w' → w'.cell? ⟨oa, fa + k, none⟩ = some (.int .i64 p)) := HKA.out
          have KB : Hid (∀ w', Below w6.heap.size w6 w' → w'.cell? ⟨ob, fb + k, none⟩ = some (.int .i64 q)) := HKB.out
          rcases (show p < q ∧ ¬ q < p ∨ q < p ∧ ¬ p < q ∨ p = q by omega) with ⟨hpq, hpq2⟩ | ⟨hpq, hpq2⟩ | hpq
          · skip
            have HM : Hid (max p q = q) := by unfold Hid; omega
            rw [HM.out] at HGN
            have HNW : Hid ((W8.alloc (.cells #[.int .i64 q] 3)).heap[W8.heap.size]? = some (.cells #[.int .i64 q] 3)) := heap_alloc_new _ _
            clear HM
            go_region_held3 (fun w' => w'.cell? ⟨oa, fa + k, none⟩ = some (.int .i64 p) ∧ w'.cell? ⟨ob, fb + k, none⟩ = some (.int .i64 q)) (first | exact KEEP.out | go_keep)
              (first
               | (refine step_append_lies _ (by rfl) _ _ _ (by rfl) w6.heap.size 3 i0 _ 1 8 Try.underlying25 hi0 hz0 hz1 hz2 rfl (by omega) (.slice ao (gr a b k).length co) (gr a b k).length ((gr a b k).map (fun z => .int .i64 z)) (by rfl) (hown.alloc _) ⟨W8.heap.size, 0, none⟩ 1 1 [.int .i64 q] (by rfl) (by rfl) (World.news_of_block (cs := #[.int .i64 q]) (t := 3) (fr := (0, 0)) HNW.out) (by simp [Value.oneCell']) (by omega) (by have := HLN.out; unfold maxLen; omega) (by have := HLN.out; omega) (by simp; omega) (W8.heap.size + 1) (by simp) ?_; intro gg cap' w9 hown9 hgrow hat hlt9; have B9 : Hid (Below w6.heap.size w6 w9) := (by exact (Below.drew (balloc HB8.out _)).grown hgrow (by simp; omega) (fun k hk => (ownBlock_lt hown k hk).1)); have KEEP : Hid (w9.cell? ⟨oa, fa + k, none⟩ = some (.int .i64 p) ∧ w9.cell? ⟨ob, fb + k, none⟩ = some (.int .i64 q)) := (by exact ⟨KA.out w9 B9.out, KB.out w9 B9.out⟩))
               | fail)
            all_goals
              go_wp2_with fail
              go_roundw
              case rel => exact ⟨k + 1, by go_num, by omega, by rw [HGN.out]; exact Is.next rfl (by first | rfl | exact HLN.out.symm) hown9, B9.out⟩
              case measure => simp [intOf]; omega
          · skip
            have HM : Hid (max p q = p) := by unfold Hid; omega
            rw [HM.out] at HGN
            have HNW : Hid ((W8.alloc (.cells #[.int .i64 p] 3)).heap[W8.heap.size]? = some (.cells #[.int .i64 p] 3)) := heap_alloc_new _ _
            clear HM
            go_region_held3 (fun w' => w'.cell? ⟨oa, fa + k, none⟩ = some (.int .i64 p) ∧ w'.cell? ⟨ob, fb + k, none⟩ = some (.int .i64 q)) (first | exact KEEP.out | go_keep)
              (first
               | (refine step_append_lies _ (by rfl) _ _ _ (by rfl) w6.heap.size 3 i0 _ 1 8 Try.underlying25 hi0 hz0 hz1 hz2 rfl (by omega) (.slice ao (gr a b k).length co) (gr a b k).length ((gr a b k).map (fun z => .int .i64 z)) (by rfl) (hown.alloc _) ⟨W8.heap.size, 0, none⟩ 1 1 [.int .i64 p] (by rfl) (by rfl) (World.news_of_block (cs := #[.int .i64 p]) (t := 3) (fr := (0, 0)) HNW.out) (by simp [Value.oneCell']) (by omega) (by have := HLN.out; unfold maxLen; omega) (by have := HLN.out; omega) (by simp; omega) (W8.heap.size + 1) (by simp) ?_; intro gg cap' w9 hown9 hgrow hat hlt9; have B9 : Hid (Below w6.heap.size w6 w9) := (by exact (Below.drew (balloc HB8.out _)).grown hgrow (by simp; omega) (fun k hk => (ownBlock_lt hown k hk).1)); have KEEP : Hid (w9.cell? ⟨oa, fa + k, none⟩ = some (.int .i64 p) ∧ w9.cell? ⟨ob, fb + k, none⟩ = some (.int .i64 q)) := (by exact ⟨KA.out w9 B9.out, KB.out w9 B9.out⟩))
               | fail)
            all_goals
              go_wp2_with fail
              go_roundw
              case rel => exact ⟨k + 1, by go_num, by omega, by rw [HGN.out]; exact Is.next rfl (by first | rfl | exact HLN.out.symm) hown9, B9.out⟩
              case measure => simp [intOf]; omega
          · subst hpq
            have HM : Hid (max p p = p) := by unfold Hid; omega
            rw [HM.out] at HGN
            have HNW : Hid ((W8.alloc (.cells #[.int .i64 p] 3)).heap[W8.heap.size]? = some (.cells #[.int .i64 p] 3)) := heap_alloc_new _ _
            clear HM
            go_region_held3 (fun w' => w'.cell? ⟨oa, fa + k, none⟩ = some (.int .i64 p) ∧ w'.cell? ⟨ob, fb + k, none⟩ = some (.int .i64 p)) (first | exact KEEP.out | go_keep)
              (first
               | (refine step_append_lies _ (by rfl) _ _ _ (by rfl) w6.heap.size 3 i0 _ 1 8 Try.underlying25 hi0 hz0 hz1 hz2 rfl (by omega) (.slice ao (gr a b k).length co) (gr a b k).length ((gr a b k).map (fun z => .int .i64 z)) (by rfl) (hown.alloc _) ⟨W8.heap.size, 0, none⟩ 1 1 [.int .i64 p] (by rfl) (by rfl) (World.news_of_block (cs := #[.int .i64 p]) (t := 3) (fr := (0, 0)) HNW.out) (by simp [Value.oneCell']) (by omega) (by have := HLN.out; unfold maxLen; omega) (by have := HLN.out; omega) (by simp; omega) (W8.heap.size + 1) (by simp) ?_; intro gg cap' w9 hown9 hgrow hat hlt9; have B9 : Hid (Below w6.heap.size w6 w9) := (by exact (Below.drew (balloc HB8.out _)).grown hgrow (by simp; omega) (fun k hk => (ownBlock_lt hown k hk).1)); have KEEP : Hid (w9.cell? ⟨oa, fa + k, none⟩ = some (.int .i64 p) ∧ w9.cell? ⟨ob, fb + k, none⟩ = some (.int .i64 p)) := (by exact ⟨KA.out w9 B9.out, KB.out w9 B9.out⟩))
               | fail)
            all_goals
              go_wp2_with fail
              go_roundw
              case rel => exact ⟨k + 1, by go_num, by omega, by rw [HGN.out]; exact Is.next rfl (by first | rfl | exact HLN.out.symm) hown9, B9.out⟩
              case measure => simp [intOf]; omega
        · obtain rfl : k = N := by omega
          obtain ⟨p0, p1⟩ := P6.out.below HB.out
          have I8 : Hid _ := HI.out
          have HLN : Hid ((gr a b k).length = k) := gr_length a b k
          have HF : Hid (gus k es s (gr a b k) = 0) := gus_of HC.out (AA.out.max AB.out HP.out hs)
          go_wp2_with fail
          refine (hcheck_any k s _ _ es (gr a b k) _ ((HV.out.below Z6.out).below HB.out) I8.out.sl hel2 (by have := HLN.out; omega)).mono ?_
          rintro e w9 ⟨rfl, b9⟩
          rw [HF.out]
          have B9 : Hid (Below w.heap.size w w9) := bthen (bthen Z6.out HB.out) b9
          clear b9
          go_wp2_with fail
          go_ret
          exact ⟨rfl, B9.out⟩
    · have hz : (gus n es t b != 0) = true := by simp [gb]
      clear gb
      go_wp2_with fail
      go_ret
      exact ⟨rfl, Z6.out⟩
  · have hz : (gus n es t a != 0) = true := by simp [ga]
    clear ga
    go_wp2_with fail
    go_ret
    exact ⟨rfl, Z5.out⟩
end Go.Proofs.Ytkbebdanpgaehaa.HGreat
