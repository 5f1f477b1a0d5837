/-
  Contract: the document's Marks.
-/
import Derived.Test.YtkbebdanpgaehaaEJ
import Derived.Test.YtkbebdanpgaehaaNB
import Derived.Test.YtkbebdanpgaehaaLK
namespace Go.Proofs.Ytkbebdanpgaehaa
open Go.RowKit
open Nm Wm Dm

theorem Is.valn {w : World} {base n : Nat} {v : Value} {l : List Int} (h : Is w base v l) (hn : l.length = n) : ∃ a c, v = .slice a n c := by
  obtain ⟨a, c, e⟩ := h.sl.val; rw [hn] at e; exact ⟨a, c, e⟩
theorem lst_next (n : Nat) (d : Nat → Int) : lst (n + 1) d = lst n d ++ [d n] := by simp [lst, List.range_succ]
set_option maxRecDepth 100000 in
set_option maxHeartbeats 32000000 in
theorem rmarks_net (n : Int) (v u : Value) (es : List E) (p : List Int) (w : World) (hv : SlE w v es) (hu : SlI w u p) (hlen : es.length ≤ 9223372036854775807) (hc : nps n es ≠ 0) :
    Calls Try.prog 13 #[.agg #[.int .i64 n, v], u] w fun e w' => e = .returned (.tuple #[.agg #[.slice none 0 0, .slice none 0 0], .int .i64 (mrk n es p)]) ∧ Below w.heap.size w w' := by
  obtain ⟨a0, c0, rfl⟩ := hv.val
  obtain ⟨a1, c1, rfl⟩ := hu.val
  have HV : Hid _ := hv
  have HU : Hid _ := hu
  have hz : (nps n es != 0) = true := by simp [hc]
  have HF : Hid (mrk n es p = nps n es) := mrk_net p hc
  clear hc
  clear hv hu
  go_enter Try.func13, Try.ntmps13
  go_wp2_with fail
  have P0 : Hid _ := (box2_new w n (.slice a0 es.length c0) 24).below (balloc (Below.refl _ _) (.cells #[.slice none 0 0, .slice none 0 0] 31))
  have R0 : Hid _ := bt_new (w.alloc (.cells #[.int .i64 n, .slice a0 es.length c0] 24)) (.slice none 0 0) (.slice none 0 0)
  have B0 : Hid (Below w.heap.size w ((w.alloc (.cells #[.int .i64 n, .slice a0 es.length c0] 24)).alloc (.cells #[.slice none 0 0, .slice none 0 0] 31))) := balloc (balloc (Below.refl _ _) _) _
  have hz0 : (w.alloc (.cells #[.int .i64 n, .slice a0 es.length c0] 24)).heap.size = w.heap.size + 1 := by simp
  rw [hz0] at R0
  clear hz0
  generalize (w.alloc (.cells #[.int .i64 n, .slice a0 es.length c0] 24)).alloc (.cells #[.slice none 0 0, .slice none 0 0] 31) = W0 at *
  refine (rpos_any n _ es W0 (HV.out.below B0.out) hlen).mono ?_
  rintro e w1 ⟨rfl, b1⟩
  have P1 : Hid _ := P0.out.below b1
  have R1 : Hid _ := R0.out.below b1
  have B1 : Hid (Below w.heap.size w w1) := bthen B0.out b1
  clear b1 P0 R0 B0
  obtain ⟨r0, r1⟩ := R1.out.cell
  obtain ⟨f0, f1⟩ := R1.out.frozen
  go_wp2_with fail
  refine bodyPost_ret (v := .tuple #[.agg #[.slice none 0 0, .slice none 0 0], .int .i64 (nps n es)]) ?_ rfl ?_
  · simp [results, Try.results13, go_sem, *]
  · exact ⟨by rw [HF.out], Below.setCell (Below.setCell B1.out (by simp) _) (by simp) _⟩
set_option maxRecDepth 100000 in
set_option maxHeartbeats 32000000 in
theorem rmarks_large (n : Int) (v u : Value) (es : List E) (p : List Int) (w : World) (hv : SlE w v es) (hu : SlI w u p) (hlen : es.length ≤ 9223372036854775807) (hl : p.length ≤ 9223372036854775807) (hc : nps n es = 0) (h4 : 4 < p.length) :
    Calls Try.prog 13 #[.agg #[.int .i64 n, v], u] w fun e w' => e = .returned (.tuple #[.agg #[.slice none 0 0, .slice none 0 0], .int .i64 (mrk n es p)]) ∧ Below w.heap.size w w' := by
  obtain ⟨a0, c0, rfl⟩ := hv.val
  obtain ⟨a1, c1, rfl⟩ := hu.val
  have HV : Hid _ := hv
  have HU : Hid _ := hu
  have HC : Hid _ := hc
  have HF : Hid (mrk n es p = 2) := mrk_large hc h4
  have h4i : (4 : Int) < (p.length : Int) := by omega
  clear hc h4
  clear hv hu
  go_enter Try.func13, Try.ntmps13
  go_wp2_with fail
  have P0 : Hid _ := (box2_new w n (.slice a0 es.length c0) 24).below (balloc (Below.refl _ _) (.cells #[.slice none 0 0, .slice none 0 0] 31))
  have R0 : Hid _ := bt_new (w.alloc (.cells #[.int .i64 n, .slice a0 es.length c0] 24)) (.slice none 0 0) (.slice none 0 0)
  have B0 : Hid (Below w.heap.size w ((w.alloc (.cells #[.int .i64 n, .slice a0 es.length c0] 24)).alloc (.cells #[.slice none 0 0, .slice none 0 0] 31))) := balloc (balloc (Below.refl _ _) _) _
  have hz0 : (w.alloc (.cells #[.int .i64 n, .slice a0 es.length c0] 24)).heap.size = w.heap.size + 1 := by simp
  rw [hz0] at R0
  clear hz0
  generalize (w.alloc (.cells #[.int .i64 n, .slice a0 es.length c0] 24)).alloc (.cells #[.slice none 0 0, .slice none 0 0] 31) = W0 at *
  refine (rpos_any n _ es W0 (HV.out.below B0.out) hlen).mono ?_
  rintro e w1 ⟨rfl, b1⟩
  have P1 : Hid _ := P0.out.below b1
  have R1 : Hid _ := R0.out.below b1
  have B1 : Hid (Below w.heap.size w w1) := bthen B0.out b1
  clear b1 P0 R0 B0
  rw [HC.out]
  obtain ⟨r0, r1⟩ := R1.out.cell
  obtain ⟨f0, f1⟩ := R1.out.frozen
  go_wp2_with fail
  refine bodyPost_ret (v := .tuple #[.agg #[.slice none 0 0, .slice none 0 0], .int .i64 2]) ?_ rfl ?_
  · simp [results, Try.results13, go_sem, *]
  · exact ⟨by rw [HF.out], Below.setCell (Below.setCell B1.out (by simp) _) (by simp) _⟩
set_option maxRecDepth 100000 in
set_option maxHeartbeats 32000000 in
theorem rmarks_look (n : Int) (v u : Value) (es : List E) (p : List Int) (w : World) (hv : SlE w v es) (hu : SlI w u p) (hlen : es.length ≤ 9223372036854775807) (hl : p.length ≤ 9223372036854775807) (hc : nps n es = 0) (h4 : ¬ 4 < p.length) (hk : lk n es p ≠ 0) :
    Calls Try.prog 13 #[.agg #[.int .i64 n, v], u] w fun e w' => e = .returned (.tuple #[.agg #[.slice none 0 0, .slice none 0 0], .int .i64 (mrk n es p)]) ∧ Below w.heap.size w w' := by
  obtain ⟨a0, c0, rfl⟩ := hv.val
  obtain ⟨a1, c1, rfl⟩ := hu.val
  have HV : Hid _ := hv
  have HU : Hid _ := hu
  have HC : Hid _ := hc
  have HF : Hid (mrk n es p = lk n es p) := mrk_small hc h4
  have h4i : ¬ (4 : Int) < (p.length : Int) := by omega
  have hz : (lk n es p != 0) = true := by simp [hk]
  clear hc hk
  clear hv hu
  go_enter Try.func13, Try.ntmps13
  go_wp2_with fail
  have P0 : Hid _ := (box2_new w n (.slice a0 es.length c0) 24).below (balloc (Below.refl _ _) (.cells #[.slice none 0 0, .slice none 0 0] 31))
  have R0 : Hid _ := bt_new (w.alloc (.cells #[.int .i64 n, .slice a0 es.length c0] 24)) (.slice none 0 0) (.slice none 0 0)
  have B0 : Hid (Below w.heap.size w ((w.alloc (.cells #[.int .i64 n, .slice a0 es.length c0] 24)).alloc (.cells #[.slice none 0 0, .slice none 0 0] 31))) := balloc (balloc (Below.refl _ _) _) _
  have hz0 : (w.alloc (.cells #[.int .i64 n, .slice a0 es.length c0] 24)).heap.size = w.heap.size + 1 := by simp
  rw [hz0] at R0
  clear hz0
  generalize (w.alloc (.cells #[.int .i64 n, .slice a0 es.length c0] 24)).alloc (.cells #[.slice none 0 0, .slice none 0 0] 31) = W0 at *
  refine (rpos_any n _ es W0 (HV.out.below B0.out) hlen).mono ?_
  rintro e w1 ⟨rfl, b1⟩
  have P1 : Hid _ := P0.out.below b1
  have R1 : Hid _ := R0.out.below b1
  have B1 : Hid (Below w.heap.size w w1) := bthen B0.out b1
  clear b1 P0 R0 B0
  rw [HC.out]
  obtain ⟨p0, p1⟩ := P1.out
  go_wp2_with fail
  clear p0 p1
  refine (rlook_any n _ _ es p w1 (HV.out.below B1.out) (HU.out.below B1.out) hlen (by omega)).mono ?_
  rintro e w2 ⟨rfl, b2⟩
  have R2 : Hid _ := R1.out.below b2
  have B2 : Hid (Below w.heap.size w w2) := bthen B1.out b2
  obtain ⟨r0, r1⟩ := R2.out.cell
  obtain ⟨f0, f1⟩ := R2.out.frozen
  clear b2 R1 B1
  go_wp2_with fail
  refine bodyPost_ret (v := .tuple #[.agg #[.slice none 0 0, .slice none 0 0], .int .i64 (lk n es p)]) ?_ rfl ?_
  · simp [results, Try.results13, go_sem, *]
  · exact ⟨by rw [HF.out], Below.setCell (Below.setCell B2.out (by simp) _) (by simp) _⟩
theorem rmarks_no (n : Int) (v u : Value) (es : List E) (p : List Int) (w : World) (hv : SlE w v es) (hu : SlI w u p) (hlen : es.length ≤ 9223372036854775807) (hl : p.length ≤ 9223372036854775807) (hc : mrk n es p ≠ 0) :
    Calls Try.prog 13 #[.agg #[.int .i64 n, v], u] w fun e w' => e = .returned (.tuple #[.agg #[.slice none 0 0, .slice none 0 0], .int .i64 (mrk n es p)]) ∧ Below w.heap.size w w' := by
  by_cases h1 : nps n es = 0
  · by_cases h4 : 4 < p.length
    · exact rmarks_large n v u es p w hv hu hlen hl h1 h4
    · exact rmarks_look n v u es p w hv hu hlen hl h1 h4 (by rw [← mrk_small h1 h4]; exact hc)
  · exact rmarks_net n v u es p w hv hu hlen h1
set_option maxRecDepth 100000 in
set_option maxHeartbeats 32000000 in
theorem rmarks_yes (N : Nat) (v u : Value) (es : List E) (p : List Int) (w : World) (hv : SlE w v es) (hu : SlI w u p) (hlen : es.length ≤ 9223372036854775807) (hl : p.length ≤ 9223372036854775807) (hc : mrk N es p = 0) :
    Calls Try.prog 13 #[.agg #[.int .i64 N, v], u] w fun e w' => ∃ vF vT, e = .returned (.tuple #[.agg #[vF, vT], .int .i64 0]) ∧ SlT w' vF (frw N es p) ∧ SlT w' vT (trw N es p) ∧ Below w.heap.size w w' := by
  obtain ⟨a0, c0, rfl⟩ := hv.val
  obtain ⟨a1, c1, rfl⟩ := hu.val
  have HV : Hid _ := hv
  have HU : Hid _ := hu
  obtain ⟨M, hM, hp, hnp, hp4, hpl⟩ := mrk_good hc
  obtain rfl : N = M := by omega
  have HC : Hid _ := hnp
  have HK : Hid (lk N es p = 0) := by rw [← mrk_small hnp (by omega)]; exact hc
  have HP : Hid _ := hp
  have HL : Hid _ := hpl
  have h4i : ¬ (4 : Int) < (p.length : Int) := by omega
  have hn64 := hp.n64
  have hn1 := hp.n1
  clear hc hM hp hnp hpl
  clear hv hu
  go_enter Try.func13, Try.ntmps13
  go_wp2_with fail
  have P0 : Hid _ := (box2_new w (N : Int) (.slice a0 es.length c0) 24).below (balloc (Below.refl _ _) (.cells #[.slice none 0 0, .slice none 0 0] 31))
  have R0 : Hid _ := bt_new (w.alloc (.cells #[.int .i64 N, .slice a0 es.length c0] 24)) (.slice none 0 0) (.slice none 0 0)
  have B0 : Hid (Below w.heap.size w ((w.alloc (.cells #[.int .i64 N, .slice a0 es.length c0] 24)).alloc (.cells #[.slice none 0 0, .slice none 0 0] 31))) := balloc (balloc (Below.refl _ _) _) _
  have hz0 : (w.alloc (.cells #[.int .i64 N, .slice a0 es.length c0] 24)).heap.size = w.heap.size + 1 := by simp
  rw [hz0] at R0
  clear hz0
  generalize (w.alloc (.cells #[.int .i64 N, .slice a0 es.length c0] 24)).alloc (.cells #[.slice none 0 0, .slice none 0 0] 31) = W0 at *
  refine (rpos_any N _ es W0 (HV.out.below B0.out) hlen).mono ?_
  rintro e w1 ⟨rfl, b1⟩
  have P1 : Hid _ := P0.out.below b1
  have R1 : Hid _ := R0.out.below b1
  have B1 : Hid (Below w.heap.size w w1) := bthen B0.out b1
  clear b1 P0 R0 B0
  rw [HC.out]
  obtain ⟨p0, p1⟩ := P1.out
  go_wp2_with fail
  clear p0 p1
  refine (rlook_any N _ _ es p w1 (HV.out.below B1.out) (HU.out.below B1.out) hlen (by omega)).mono ?_
  rintro e V ⟨rfl, b2⟩
  rw [HK.out]
  have P3 : Hid _ := P1.out.below b2
  have R3 : Hid _ := R1.out.below b2
  have V3 : Hid _ := (HV.out.below B1.out).below b2
  have U3 : Hid _ := (HU.out.below B1.out).below b2
  have B3 : Hid (Below w.heap.size w V) := bthen B1.out b2
  clear b2 P1 R1 B1
  go_wp2_with fail
  have HTV : Hid _ := bt_new V (.slice none 0 0) (.slice none 0 0)
  go_loopw [32] (fun z wr => ∃ (k : Nat) (vF vT : Value) (usF usT : List Value), z = .int .i64 k ∧ k ≤ p.length ∧ Bt wr V.heap.size vF vT ∧ Tg wr (V.heap.size + 1) vF (frw N es (p.take k)) usF ∧ Tg wr (V.heap.size + 1) vT (trw N es (p.take k)) usT ∧ (∀ g, vF.ownBlock = some g → vT.ownBlock ≠ some g) ∧ Below V.heap.size V wr ∧ V.heap.size + 1 ≤ wr.heap.size) (fun z _ => p.length - (intOf z).toNat)
  case atStart => exact ⟨0, _, _, [], [], rfl, Nat.zero_le _, HTV.out, Tg.nil _ _, Tg.nil _ _, (fun g h => absurd h (by simp [Value.ownBlock])), balloc (Below.refl _ _) _, by rw [World.size_alloc]; exact Nat.le_refl _⟩
  case round =>
    obtain ⟨k, vF, vT, usF, usT, rfl, hk, hbt, hf, ht, hne, hb, hsz⟩ := hrel
    have hlf : (frw N es (p.take k)).length = k := by rw [frw_length, List.length_take]; omega
    have hlt' : (trw N es (p.take k)).length = k := by rw [trw_length, List.length_take]; omega
    obtain ⟨aF, cF, rfl⟩ : ∃ a c, vF = .slice a k c := by obtain ⟨a, c, h⟩ := hf.val; rw [hlf] at h; exact ⟨a, c, h⟩
    obtain ⟨aT, cT, rfl⟩ : ∃ a c, vT = .slice a k c := by obtain ⟨a, c, h⟩ := ht.val; rw [hlt'] at h; exact ⟨a, c, h⟩
    have HB : Hid (Below V.heap.size V wr) := hb
    have TB : Hid _ := hbt
    have TF : Hid _ := hf
    have TT : Hid _ := ht
    have NE : Hid _ := hne
    have SZ : Hid _ := hsz
    clear hbt hf ht hne hb hsz HTV
    by_cases hlt : k < p.length
    · have hki : (k : Int) < (p.length : Int) := by omega
      obtain ⟨bu, ou, cu, hveq, hcl⟩ := (U3.out.below HB.out).some' (by omega)
      simp only [Value.slice.injEq] at hveq
      obtain ⟨rfl, -, rfl⟩ := hveq
      have d0 := hcl k hlt
      clear hcl
      obtain ⟨s, hs, hsN⟩ : ∃ s : Nat, p.getD k 0 = (s : Int) ∧ s < N := ⟨(p.getD k 0).toNat, by have := HL.out k hlt; omega, (HL.out k hlt).2⟩
      have HFN : Hid _ := frw_next (N := N) (es := es) hlt
      have HTN : Hid _ := trw_next (N := N) (es := es) hlt
      rw [hs] at d0 HFN HTN
      simp only [Int.toNat_natCast] at HFN HTN
      generalize frw N es (p.take k) = rF at *
      generalize trw N es (p.take k) = rT at *
      have HLF : Hid (rF.length = k) := hlf
      have HLT : Hid (rT.length = k) := hlt'
      clear hs hlf hlt'
      have hk4 : k ≤ 4 := by omega
      obtain ⟨p0, p1⟩ := P3.out.below HB.out
      obtain ⟨q0, q1⟩ := TB.out.cell
      obtain ⟨f0, f1⟩ := TB.out.frozen
      obtain ⟨i0, hi0, hz0, hz1, hz2⟩ := info25_parts
      go_wp2_with fail
      go_region_law (first
         | (go_simp; go_at_call 35; refine (rdist_any N s _ es _ ((V3.out.below HB.out).below (Below.drew (Below.refl _ _))) HP.out hsN).mono ?_; rintro e w4 ⟨G, cG, rfl, ur, b4⟩; have RW : Hid (Rw w4 G cG (lst N (cst N es s))) := ur; have BB : Hid (Below wr.heap.size wr w4) := (by exact bthen (Below.drew (Below.refl _ _)) b4); have T4 : Hid _ := TB.out.below BB.out; have X4 : Hid _ := TF.out.below BB.out; have Y4 : Hid _ := TT.out.below BB.out; obtain ⟨t0, t1⟩ := T4.out.cell; have hown : w4.ownsRow (V.heap.size + 1) 25 1 (.slice aF k cF) k usF := (by have := X4.out.own; rw [HLF.out] at this; exact this); have SZ4 : Hid (V.heap.size + 1 ≤ w4.heap.size) := (by exact Nat.le_trans SZ.out BB.out.size); have hsz4 := SZ4.out; have hlt4 : V.heap.size < w4.heap.size := (by omega); clear ur b4; (try dsimp only))
         | (refine step_append_lies _ (by rfl) _ _ _ (by rfl) (V.heap.size + 1) 25 i0 _ 1 24 Try.underlying29 hi0 hz0 hz1 hz2 rfl (by omega) (.slice aF k cF) k usF (by rfl) (hown.alloc _) ⟨w4.heap.size, 0, none⟩ 1 1 [.slice (some ⟨G, 0, none⟩) N cG] (by rfl) (by rfl) (World.news_of_block (cs := #[.slice (some ⟨G, 0, none⟩) N cG]) (t := 25) (fr := (0, 0)) (heap_alloc_new _ _)) (by simp [Value.oneCell']) (by omega) (by unfold maxLen; omega) (by omega) (by simp; omega) (w4.heap.size + 1) (by simp) ?_; intro gg cap' w5 hown5 hgrow hat hlt5; have T5 : Hid _ := (T4.out.below (balloc (Below.refl _ _) _)).frame (hgrow.block V.heap.size (by simp; omega) (fun e => by have := (ownBlock_lt hown _ e.symm).1; omega)); have X5 : Hid _ := (X4.out.below (balloc (Below.refl _ _) _)).next (RW.out.below (balloc (Below.refl _ _) _)) (lst_length _ _) HFN.out HLF.out hown5 hgrow; have Y5 : Hid _ := (Y4.out.below (balloc (Below.refl _ _) _)).keep (hown.alloc _) hgrow (fun g h1 h2 => NE.out g h2 h1); have B5 : Hid (Below V.heap.size V w5) := (by exact (balloc (bthen HB.out BB.out) _).grown hgrow (by simp; omega) (fun x hx => by have := (ownBlock_lt hown x hx).1; omega)); have NE5 : Hid (∀ g, Value.ownBlock (.slice (some ⟨gg, 0, none⟩) (k + 1) cap') = some g → (Value.slice aT k cT).ownBlock ≠ some g) := (by exact ne_grown NE.out Y4.out.own hat (Nat.le_succ _)); have SZ5 : Hid (V.heap.size + 1 ≤ w5.heap.size) := (by have := hgrow.size; simp at this; unfold Hid; omega); obtain ⟨v0, v1⟩ := T5.out.cell; obtain ⟨f0, f1⟩ := T5.out.frozen; clear hown5 hgrow)
         | fail)
      all_goals
        have T6 : Hid _ := T5.out.put0 (.slice (some ⟨gg, 0, none⟩) (k + 1) cap')
        have X6 : Hid _ := X5.out.other (o := 0) (x := .slice (some ⟨gg, 0, none⟩) (k + 1) cap') (Nat.lt_succ_self _) T5.out.at_ (by decide)
        have Y6 : Hid _ := Y5.out.other (o := 0) (x := .slice (some ⟨gg, 0, none⟩) (k + 1) cap') (Nat.lt_succ_self _) T5.out.at_ (by decide)
        have B6 : Hid (Below V.heap.size V (w5.setCell ⟨V.heap.size, 0, none⟩ (.slice (some ⟨gg, 0, none⟩) (k + 1) cap'))) := Below.setCell B5.out (Nat.le_refl _) _
        have SZ6 : Hid (V.heap.size + 1 ≤ (w5.setCell ⟨V.heap.size, 0, none⟩ (.slice (some ⟨gg, 0, none⟩) (k + 1) cap')).heap.size) := by unfold Hid; simp [World.setCell]; exact SZ5.out
        clear T5 X5 Y5 B5 SZ5 v0 v1 f0 f1 t0 t1 T4 X4 Y4 hown SZ4 hsz4 hlt4 BB RW hat hlt5 HFN HLF q0 q1 p0 p1 TB TF TT NE SZ HB
        generalize w5.setCell ⟨V.heap.size, 0, none⟩ (.slice (some ⟨gg, 0, none⟩) (k + 1) cap') = W6 at *
        obtain ⟨p0, p1⟩ := P3.out.below B6.out
        go_wp2_with fail
        clear p0 p1
        go_loopw [46, 11] (fun z o w2 => ∃ j : Nat, z = .int .i64 j ∧ j ≤ N ∧ Is w2 W6.heap.size o (lst j (fun v => cst N es v s)) ∧ Below W6.heap.size W6 w2) (fun z _ _ => N - (intOf z).toNat)
        case atStart => exact ⟨0, rfl, Nat.zero_le _, Is.nil _ _, Below.refl _ _⟩
        case round =>
          obtain ⟨j, rfl, hj, hi, hb⟩ := hrel
          have HI : Hid _ := hi
          have HB : Hid _ := hb
          clear hi hb
          have hjl : (lst j (fun v => cst N es v s)).length = j := lst_length _ _
          obtain ⟨ao, co, rfl⟩ := HI.out.valn hjl
          by_cases hjN : j < N
          · have hji : (j : Int) < (N : Int) := by omega
            obtain ⟨p0, p1⟩ := (P3.out.below B6.out).below HB.out
            have HJN : Hid (lst (j + 1) (fun v => cst N es v s) = lst j (fun v => cst N es v s) ++ [cst N es j s]) := lst_next _ _
            generalize lst j (fun v => cst N es v s) = L at *
            have HJL : Hid _ := hjl
            clear hjl
            go_wp2_with fail
            clear p0 p1
            refine (rdist_any N j _ es _ ((V3.out.below B6.out).below HB.out) HP.out hjN).mono ?_
            rintro e w7 ⟨b7, c7, rfl, r7, bb7⟩
            have I7 : Hid _ := HI.out.below bb7
            have B7 : Hid (Below W6.heap.size W6 w7) := bthen HB.out bb7
            obtain ⟨d7, -⟩ := r7.cell s (by rw [lst_length]; exact hsN)
            rw [lst_at hsN] at d7
            have d8 : w7.cell? ⟨b7, s, none⟩ = some (.int .i64 (cst N es j s)) := d7
            generalize cst N es j s = x at *
            clear d7 r7 bb7
            have hsi : (s : Int) < (N : Int) := by omega
            obtain ⟨i1, hi1, hy0, hy1, hy2⟩ := info3_parts
            have hown : w7.ownsRow W6.heap.size 3 1 (.slice ao j co) j (L.map (fun z => .int .i64 z)) := by have := I7.out.own; rw [HJL.out] at this; exact this
            have hsz := B7.out.size
            go_wp2_with (at_builtin; refine wpList_append_lies _ rfl _ _ _ rfl W6.heap.size 3 i1 _ 1 8 Try.underlying25 hi1 hy0 hy1 hy2 rfl (by omega) (.slice ao j co) j (L.map (fun z => .int .i64 z)) rfl (hown.alloc _) ⟨w7.heap.size, 0, none⟩ 1 1 [.int .i64 x] rfl rfl (World.news_of_block (cs := #[.int .i64 x]) (t := 3) (fr := (0, 0)) (heap_alloc_new _ _)) (by simp [Value.oneCell']) (by omega) (by unfold maxLen; omega) (by omega) (by simp; omega) (w7.heap.size + 1) (by simp) ?_; intro g8 cap8 w8 hown8 hgrow hat hlt8; have B8 : Hid (Below W6.heap.size W6 w8) := (by exact (balloc B7.out _).grown hgrow (by simp; omega) (fun x hx => (ownBlock_lt hown x hx).1)); have I8 : Hid _ := (Is.next HJN.out HJL.out.symm hown8); clear hown8 hgrow hat hlt8)
            go_roundw
            case rel => exact ⟨j + 1, by go_num, by omega, I8.out, B8.out⟩
            case measure => simp [intOf]; omega
          · obtain rfl : j = N := by omega
            obtain ⟨g9, c9, hv9, hg9, R9⟩ : ∃ g c, Value.slice ao j co = .slice (some ⟨g, 0, none⟩) j c ∧ W6.heap.size ≤ g ∧ Rw wr g c (lst j (fun v => cst j es v s)) := by
              rcases HI.out.rw with ⟨h, h0⟩ | ⟨g, c, h, hg, hr⟩
              · have := hjl; rw [h0] at this; simp at this; omega
              · rw [hjl] at h; exact ⟨g, c, h, hg, hr⟩
            simp only [Value.slice.injEq] at hv9
            obtain ⟨rfl, -, rfl⟩ := hv9
            have RW : Hid _ := R9
            have T9 : Hid _ := T6.out.below HB.out
            have X9 : Hid _ := X6.out.below HB.out
            have Y9 : Hid _ := Y6.out.below HB.out
            have SZ9 : Hid (V.heap.size + 1 ≤ wr.heap.size) := Nat.le_trans SZ6.out HB.out.size
            have B9 : Hid (Below V.heap.size V wr) := bthen B6.out HB.out
            clear R9 hjl HI T6 X6 Y6 SZ6
            obtain ⟨p0, p1⟩ := P3.out.below B9.out
            obtain ⟨q0, q1⟩ := T9.out.cell
            obtain ⟨f0, f1⟩ := T9.out.frozen
            have hown : wr.ownsRow (V.heap.size + 1) 25 1 (.slice aT k cT) k usT := by have := Y9.out.own; rw [HLT.out] at this; exact this
            have hsz9 := SZ9.out
            have hlt9 : V.heap.size < wr.heap.size := by omega
            go_wp2_with (at_builtin; refine wpList_append_lies _ rfl _ _ _ rfl (V.heap.size + 1) 25 i0 _ 1 24 Try.underlying29 hi0 hz0 hz1 hz2 rfl (by omega) (.slice aT k cT) k usT rfl (hown.alloc _) ⟨wr.heap.size, 0, none⟩ 1 1 [.slice (some ⟨g9, 0, none⟩) j co] rfl rfl (World.news_of_block (cs := #[.slice (some ⟨g9, 0, none⟩) j co]) (t := 25) (fr := (0, 0)) (heap_alloc_new _ _)) (by simp [Value.oneCell']) (by omega) (by unfold maxLen; omega) (by omega) (by simp; omega) (wr.heap.size + 1) (by simp) ?_; intro gt ct' w5' hown5 hgrow hat hlt5; have T5 : Hid _ := (T9.out.below (balloc (Below.refl _ _) _)).frame (hgrow.block V.heap.size (by simp; omega) (fun e => by have := (ownBlock_lt hown _ e.symm).1; omega)); have Y5 : Hid _ := (Y9.out.below (balloc (Below.refl _ _) _)).next (RW.out.below (balloc (Below.refl _ _) _)) (lst_length _ _) HTN.out HLT.out hown5 hgrow; have X5 : Hid _ := (X9.out.below (balloc (Below.refl _ _) _)).keep (hown.alloc _) hgrow (fun g h1 h2 => NE5.out g h1 h2); have B5 : Hid (Below V.heap.size V w5') := (by exact (balloc B9.out _).grown hgrow (by simp; omega) (fun x hx => by have := (ownBlock_lt hown x hx).1; omega)); have NE6 : Hid (∀ g, Value.ownBlock (.slice (some ⟨gt, 0, none⟩) (k + 1) ct') = some g → (Value.slice (some ⟨gg, 0, none⟩) (k + 1) cap').ownBlock ≠ some g) := (by exact ne_grown (fun g h1 h2 => NE5.out g h2 h1) X9.out.own hat (Nat.le_succ _)); have SZ5 : Hid (V.heap.size + 1 ≤ w5'.heap.size) := (by have := hgrow.size; simp at this; unfold Hid; omega); obtain ⟨v0, v1⟩ := T5.out.cell; obtain ⟨f0, f1⟩ := T5.out.frozen; clear hown5 hgrow)
            go_roundw
            case rel => exact ⟨k + 1, _, _, _, _, by go_num, by omega, T5.out.put1 _, X5.out.other (Nat.lt_succ_self _) T5.out.at_ (by decide), Y5.out.other (Nat.lt_succ_self _) T5.out.at_ (by decide), fun g h1 h2 => NE6.out g h2 h1, Below.setCell B5.out (Nat.le_refl _) _, by simp [World.setCell]; exact SZ5.out⟩
            case measure => simp [intOf]; omega
    · obtain rfl : k = p.length := by omega
      obtain ⟨r0, r1⟩ := (R3.out.below HB.out).cell
      obtain ⟨f0, f1⟩ := (R3.out.below HB.out).frozen
      obtain ⟨q0, q1⟩ := TB.out.cell
      have RR : Hid _ := R3.out.below HB.out
      have HRL : Hid (w.heap.size + 1 < V.heap.size + 1) := Nat.lt_succ_of_lt R3.out.lt
      rw [List.take_length] at TF TT
      go_wp2_with fail
      refine bodyPost_ret (v := .tuple #[.agg #[.slice aF p.length cF, .slice aT p.length cT], .int .i64 0]) ?_ rfl ?_
      · simp [results, Try.results13, go_sem, *]
      · refine ⟨_, _, rfl, ((TF.out.other HRL.out RR.out.at_ (by decide)).other HRL.out (RR.out.put0 _).at_ (by decide)).slt, ((TT.out.other HRL.out RR.out.at_ (by decide)).other HRL.out (RR.out.put0 _).at_ (by decide)).slt, Below.setCell (Below.setCell (bthen B3.out HB.out) (by simp) _) (by simp) _⟩
end Go.Proofs.Ytkbebdanpgaehaa
