/-
  Contract: heur.Marks.
-/
import Derived.Test.YtefikbjjdldomaaEI
import Derived.Test.YtefikbjjdldomaaEF
import Derived.Test.YtefikbjjdldomaaDK
import Derived.Test.YtefikbjjdldomaaTW
namespace Go.Proofs.Ytefikbjjdldomaa
open Go.RowKit
open Nm Wm Dm

theorem mrk_good {N : Int} {es : List E} {p : List Int} (h : mrk N es p = 0) : ∃ M : Nat, N = (M : Int) ∧ Pn M es ∧ nps M es = 0 ∧ p.length ≤ 4 ∧ ∀ k, k < p.length → 0 ≤ p.getD k 0 ∧ (p.getD k 0).toNat < M := by
  obtain ⟨h1, h2, h3⟩ := mrk_zero h
  obtain ⟨_, hp, hn⟩ := pn_of h1
  refine ⟨N.toNat, hn.symm, hp, by rw [hn]; exact h1, h2, fun k hk => ?_⟩
  have hm : p.getD k 0 ∈ p := by simp [List.getD_eq_getElem?_getD, hk]
  have hd := of_decide_eq_true (List.all_eq_true.1 h3 _ hm)
  omega
set_option maxRecDepth 100000 in
set_option maxHeartbeats 32000000 in
theorem marks_no (n : Int) (v u : Value) (es : List E) (p : List Int) (w : World) (hv : SlE w v es) (hu : SlI w u p) (hlen : es.length ≤ 9223372036854775807) (hl : p.length ≤ 9223372036854775807) (hc : mrk n es p ≠ 0) :
    Calls Try.prog 52 #[.agg #[.int .i64 n, v], u] w fun e w' => e = .returned (.tuple #[.agg #[.slice none 0 0, .slice none 0 0], .int .i64 (mrk n es p)]) ∧ Below w.heap.size w w' := by
  obtain ⟨a0, c0, rfl⟩ := hv.val
  obtain ⟨a1, c1, rfl⟩ := hu.val
  have HV : Hid _ := hv
  have HU : Hid _ := hu
  have hz : (mrk n es p != 0) = true := by simp [hc]
  clear hc
  clear hv hu
  go_enter Try.func52, Try.ntmps52
  go_wp2_with fail
  have P0 : Hid _ := (box2_new w n (.slice a0 es.length c0) 24).below (balloc (Below.refl _ _) (.cells #[.slice none 0 0, .slice none 0 0] 76))
  have R0 : Hid _ := bt_new (w.alloc (.cells #[.int .i64 n, .slice a0 es.length c0] 24)) (.slice none 0 0) (.slice none 0 0)
  have B0 : Hid (Below w.heap.size w ((w.alloc (.cells #[.int .i64 n, .slice a0 es.length c0] 24)).alloc (.cells #[.slice none 0 0, .slice none 0 0] 76))) := balloc (balloc (Below.refl _ _) _) _
  have hz0 : (w.alloc (.cells #[.int .i64 n, .slice a0 es.length c0] 24)).heap.size = w.heap.size + 1 := by simp
  rw [hz0] at R0
  clear hz0
  generalize (w.alloc (.cells #[.int .i64 n, .slice a0 es.length c0] 24)).alloc (.cells #[.slice none 0 0, .slice none 0 0] 76) = W0 at *
  refine (checkmarks_any n _ _ es p W0 (HV.out.below B0.out) (HU.out.below B0.out) hlen hl).mono ?_
  rintro e w1 ⟨rfl, b1⟩
  have P1 : Hid _ := P0.out.below b1
  have R1 : Hid _ := R0.out.below b1
  have B1 : Hid (Below w.heap.size w w1) := bthen B0.out b1
  clear b1 P0 R0 B0
  obtain ⟨r0, r1⟩ := R1.out.cell
  obtain ⟨f0, f1⟩ := R1.out.frozen
  go_wp2_with fail
  refine bodyPost_ret (v := .tuple #[.agg #[.slice none 0 0, .slice none 0 0], .int .i64 (mrk n es p)]) ?_ rfl ?_
  · simp [results, Try.results52, go_sem, *]
  · exact ⟨rfl, Below.setCell (Below.setCell B1.out (by simp) _) (by simp) _⟩
theorem isd_ex {N : Nat} {es : List E} (s : Nat) (v : Value) (w : World) (hv : SlE w v es) (hp : Pn N es) (hs : s < N) : IsD N es s (cst N es s) := by
  obtain ⟨e, w', fr, ⟨G, d, -, -, -, hd, -⟩, -⟩ := costs_any N s v es w hv hp hs []
  exact cst_is hp hd hs
theorem to_cst {N s v : Nat} {es fs : List E} {d : Nat → Int} (hp : Pn N es) (hf : es.map trn = fs) (he : ∀ v, v < N → IsD N es v (cst N es v)) (hs : s < N) (hd : IsD N fs s d) (hv : v < N) : d v = cst N es v s := by
  subst hf
  exact ((he v hv).turn hp hv hs hd).symm
theorem ne_grown {w : World} {base n k gg cap' H : Nat} {v : Value} {u : Value} {xs : List Value} (hne : ∀ g, v.ownBlock = some g → u.ownBlock ≠ some g) (hu : w.ownsRow base 25 1 u n xs) (hat : v.ownBlock = some gg ∨ gg = H) (hH : w.heap.size ≤ H) : ∀ g, Value.ownBlock (.slice (some ⟨gg, 0, none⟩) (k + 1) cap') = some g → u.ownBlock ≠ some g := by
  intro g h1 h2
  simp only [Value.ownBlock, Option.some.injEq] at h1
  subst h1
  rcases hat with h | h
  · exact hne _ h h2
  · have := (ownBlock_lt hu _ h2).2; omega
set_option maxRecDepth 100000 in
set_option maxHeartbeats 32000000 in
theorem marks_yes (N : Nat) (v u : Value) (es : List E) (p : List Int) (w : World) (hv : SlE w v es) (hu : SlI w u p) (hlen : es.length ≤ 9223372036854775807) (hl : p.length ≤ 9223372036854775807) (hc : mrk N es p = 0) :
    Calls Try.prog 52 #[.agg #[.int .i64 N, v], u] w fun e w' => ∃ vF vT, e = .returned (.tuple #[.agg #[vF, vT], .int .i64 0]) ∧ SlT w' vF (frw N es p) ∧ SlT w' vT (trw N es p) ∧ Below w.heap.size w w' := by
  obtain ⟨a0, c0, rfl⟩ := hv.val
  obtain ⟨a1, c1, rfl⟩ := hu.val
  have HV : Hid _ := hv
  have HU : Hid _ := hu
  have HC : Hid _ := hc
  obtain ⟨M, hM, hp, hnp, hp4, hpl⟩ := mrk_good hc
  obtain rfl : N = M := by omega
  have HP : Hid _ := hp
  have HL : Hid _ := hpl
  have GN : Hid (Gn N es) := (pn_of hnp).1
  have hn64 := hp.n64
  have hn1 := hp.n1
  clear hc hM hp hnp hpl
  clear hv hu
  go_enter Try.func52, Try.ntmps52
  go_wp2_with fail
  have P0 : Hid _ := (box2_new w (N : Int) (.slice a0 es.length c0) 24).below (balloc (Below.refl _ _) (.cells #[.slice none 0 0, .slice none 0 0] 76))
  have R0 : Hid _ := bt_new (w.alloc (.cells #[.int .i64 N, .slice a0 es.length c0] 24)) (.slice none 0 0) (.slice none 0 0)
  have B0 : Hid (Below w.heap.size w ((w.alloc (.cells #[.int .i64 N, .slice a0 es.length c0] 24)).alloc (.cells #[.slice none 0 0, .slice none 0 0] 76))) := balloc (balloc (Below.refl _ _) _) _
  have hz0 : (w.alloc (.cells #[.int .i64 N, .slice a0 es.length c0] 24)).heap.size = w.heap.size + 1 := by simp
  rw [hz0] at R0
  clear hz0
  generalize (w.alloc (.cells #[.int .i64 N, .slice a0 es.length c0] 24)).alloc (.cells #[.slice none 0 0, .slice none 0 0] 76) = W0 at *
  refine (checkmarks_any N _ _ es p W0 (HV.out.below B0.out) (HU.out.below B0.out) hlen hl).mono ?_
  rintro e w1 ⟨rfl, b1⟩
  have P1 : Hid _ := P0.out.below b1
  have R1 : Hid _ := R0.out.below b1
  have B1 : Hid (Below w.heap.size w w1) := bthen B0.out b1
  clear b1 P0 R0 B0
  rw [HC.out]
  obtain ⟨p0, p1⟩ := P1.out
  go_wp2_with fail
  refine (turn_yes N _ es w1 (HV.out.below B1.out) GN.out).mono ?_
  rintro e w2 ⟨ut, rfl, hes, b2⟩
  obtain ⟨fs, hfs⟩ : ∃ fs, es.map trn = fs := ⟨_, rfl⟩
  have HPF : Hid (Pn N fs) := by rw [← hfs]; exact pn_turn HP.out
  have HFS : Hid _ := hfs
  rw [hfs] at hes
  obtain ⟨at_, ct, rfl⟩ := hes.sl.val
  have B2 : Hid (Below w.heap.size w w2) := bthen B1.out b2
  have D3 : Hid (Below w2.heap.size w2 (w2.alloc (.cells #[.int .i64 N, .slice at_ fs.length ct] 24))) := balloc (Below.refl _ _) _
  have P3 : Hid _ := (P1.out.below b2).below D3.out
  have R3 : Hid _ := (R1.out.below b2).below D3.out
  have V3 : Hid _ := ((HV.out.below B1.out).below b2).below D3.out
  have U3 : Hid _ := ((HU.out.below B1.out).below b2).below D3.out
  have F3 : Hid _ := hes.sl.below D3.out
  have B3 : Hid _ := bthen B2.out D3.out
  have Q3 : Hid _ := box2_new w2 (N : Int) (.slice at_ fs.length ct) 24
  have hz2 : (w2.alloc (.cells #[.int .i64 N, .slice at_ fs.length ct] 24)).heap.size = w2.heap.size + 1 := by simp
  clear p0 p1 hfs hes
  go_wp2_with fail
  rw [← hz2]
  generalize w2.alloc (.cells #[.int .i64 N, .slice at_ fs.length ct] 24) = V at *
  have HZ : Hid _ := hz2
  clear D3 P1 R1 B2 b2 hz2
  obtain ⟨QB, hqb⟩ : ∃ q, w2.heap.size = q := ⟨_, rfl⟩
  rw [hqb] at Q3 HZ ⊢
  clear hqb
  have HTV : Hid _ := bt_new V (.slice none 0 0) (.slice none 0 0)
  go_loopw [30] (fun z wr => ∃ (k : Nat) (vF vT : Value) (usF usT : List Value), z = .int .i64 k ∧ k ≤ p.length ∧ Bt wr V.heap.size vF vT ∧ Tg wr (V.heap.size + 1) vF (frw N es (p.take k)) usF ∧ Tg wr (V.heap.size + 1) vT (trw N es (p.take k)) usT ∧ (∀ g, vF.ownBlock = some g → vT.ownBlock ≠ some g) ∧ Below V.heap.size V wr ∧ V.heap.size + 1 ≤ wr.heap.size) (fun z _ => p.length - (intOf z).toNat)
  case atStart => exact ⟨0, _, _, [], [], rfl, Nat.zero_le _, HTV.out, Tg.nil _ _, Tg.nil _ _, (fun g h => absurd h (by simp [Value.ownBlock])), balloc (Below.refl _ _) _, by rw [World.size_alloc]; exact Nat.le_refl _⟩
  case round =>
    obtain ⟨k, vF, vT, usF, usT, rfl, hk, hbt, hf, ht, hne, hb, hsz⟩ := hrel
    have hlf : (frw N es (p.take k)).length = k := by rw [frw_length, List.length_take]; omega
    have hlt' : (trw N es (p.take k)).length = k := by rw [trw_length, List.length_take]; omega
    obtain ⟨aF, cF, rfl⟩ : ∃ a c, vF = .slice a k c := by obtain ⟨a, c, h⟩ := hf.val; rw [hlf] at h; exact ⟨a, c, h⟩
    obtain ⟨aT, cT, rfl⟩ : ∃ a c, vT = .slice a k c := by obtain ⟨a, c, h⟩ := ht.val; rw [hlt'] at h; exact ⟨a, c, h⟩
    have HB : Hid (Below V.heap.size V wr) := hb
    have TB : Hid _ := hbt
    have TF : Hid _ := hf
    have TT : Hid _ := ht
    have NE : Hid _ := hne
    have SZ : Hid _ := hsz
    clear hbt hf ht hne hb hsz HTV
    by_cases hlt : k < p.length
    · have hki : (k : Int) < (p.length : Int) := by omega
      obtain ⟨bu, ou, cu, hveq, hcl⟩ := (U3.out.below HB.out).some' (by omega)
      simp only [Value.slice.injEq] at hveq
      obtain ⟨rfl, -, rfl⟩ := hveq
      have d0 := hcl k hlt
      clear hcl
      obtain ⟨s, hs, hsN⟩ : ∃ s : Nat, p.getD k 0 = (s : Int) ∧ s < N := ⟨(p.getD k 0).toNat, by have := HL.out k hlt; omega, (HL.out k hlt).2⟩
      have HFN : Hid _ := frw_next (N := N) (es := es) hlt
      have HTN : Hid _ := trw_next (N := N) (es := es) hlt
      rw [hs] at d0 HFN HTN
      simp only [Int.toNat_natCast] at HFN HTN
      generalize frw N es (p.take k) = rF at *
      generalize trw N es (p.take k) = rT at *
      have HLF : Hid (rF.length = k) := hlf
      have HLT : Hid (rT.length = k) := hlt'
      have HES : Hid (∀ v, v < N → IsD N es v (cst N es v)) := fun v hv => isd_ex v _ _ (V3.out.below HB.out) HP.out hv
      clear hs hlf hlt'
      have hk4 : k ≤ 4 := by omega
      obtain ⟨p0, p1⟩ := P3.out.below HB.out
      obtain ⟨q0, q1⟩ := TB.out.cell
      obtain ⟨f0, f1⟩ := TB.out.frozen
      obtain ⟨i0, hi0, hz0, hz1, hz2⟩ := info25_parts
      go_wp2_with fail
      go_region_law (first
         | (go_simp; go_at_call 47; refine (costs_any N s _ es _ ((V3.out.below HB.out).below (Below.drew (Below.refl _ _))) HP.out hsN).mono ?_; rintro e w4 ⟨G, d, rfl, hG, ur, hd, b4⟩; have RW : Hid _ := (ur.toCst HP.out hd).rw hn64; have BB : Hid (Below wr.heap.size wr w4) := (by exact bthen (Below.drew (Below.refl _ _)) b4); have T4 : Hid _ := TB.out.below BB.out; have X4 : Hid _ := TF.out.below BB.out; have Y4 : Hid _ := TT.out.below BB.out; obtain ⟨t0, t1⟩ := T4.out.cell; have hown : w4.ownsRow (V.heap.size + 1) 25 1 (.slice aF k cF) k usF := (by have := X4.out.own; rw [HLF.out] at this; exact this); have SZ4 : Hid (V.heap.size + 1 ≤ w4.heap.size) := (by exact Nat.le_trans SZ.out BB.out.size); have hsz4 := SZ4.out; have hlt4 : V.heap.size < w4.heap.size := (by omega); clear ur hd b4 hG; (try dsimp only))
         | (refine step_append_lies _ (by rfl) _ _ _ (by rfl) (V.heap.size + 1) 25 i0 _ 1 24 Try.underlying74 hi0 hz0 hz1 hz2 rfl (by omega) (.slice aF k cF) k usF (by rfl) (hown.alloc _) ⟨w4.heap.size, 0, none⟩ 1 1 [.slice (some ⟨G, 0, none⟩) N N] (by rfl) (by rfl) (World.news_of_block (cs := #[.slice (some ⟨G, 0, none⟩) N N]) (t := 25) (fr := (0, 0)) (heap_alloc_new _ _)) (by simp [Value.oneCell']) (by omega) (by unfold maxLen; omega) (by omega) (by simp; omega) (w4.heap.size + 1) (by simp) ?_; intro gg cap' w5 hown5 hgrow hat hlt5; have T5 : Hid _ := (T4.out.below (balloc (Below.refl _ _) _)).frame (hgrow.block V.heap.size (by simp; omega) (fun e => by have := (ownBlock_lt hown _ e.symm).1; omega)); have X5 : Hid _ := (X4.out.below (balloc (Below.refl _ _) _)).next (RW.out.below (balloc (Below.refl _ _) _)) (lst_length _ _) HFN.out HLF.out hown5 hgrow; have Y5 : Hid _ := (Y4.out.below (balloc (Below.refl _ _) _)).keep (hown.alloc _) hgrow (fun g h1 h2 => NE.out g h2 h1); have B5 : Hid (Below V.heap.size V w5) := (by exact (balloc (bthen HB.out BB.out) _).grown hgrow (by simp; omega) (fun x hx => by have := (ownBlock_lt hown x hx).1; omega)); have NE5 : Hid (∀ g, Value.ownBlock (.slice (some ⟨gg, 0, none⟩) (k + 1) cap') = some g → (Value.slice aT k cT).ownBlock ≠ some g) := (by exact ne_grown NE.out Y4.out.own hat (Nat.le_succ _)); have SZ5 : Hid (V.heap.size + 1 ≤ w5.heap.size) := (by have := hgrow.size; simp at this; unfold Hid; omega); obtain ⟨v0, v1⟩ := T5.out.cell; obtain ⟨f0, f1⟩ := T5.out.frozen; clear hown5 hgrow)
         | fail)
      all_goals
        have T6 : Hid _ := T5.out.put0 (.slice (some ⟨gg, 0, none⟩) (k + 1) cap')
        have X6 : Hid _ := X5.out.other (o := 0) (x := .slice (some ⟨gg, 0, none⟩) (k + 1) cap') (Nat.lt_succ_self _) T5.out.at_ (by decide)
        have Y6 : Hid _ := Y5.out.other (o := 0) (x := .slice (some ⟨gg, 0, none⟩) (k + 1) cap') (Nat.lt_succ_self _) T5.out.at_ (by decide)
        have B6 : Hid (Below V.heap.size V (w5.setCell ⟨V.heap.size, 0, none⟩ (.slice (some ⟨gg, 0, none⟩) (k + 1) cap'))) := Below.setCell B5.out (Nat.le_refl _) _
        have SZ6 : Hid (V.heap.size + 1 ≤ (w5.setCell ⟨V.heap.size, 0, none⟩ (.slice (some ⟨gg, 0, none⟩) (k + 1) cap')).heap.size) := by unfold Hid; simp [World.setCell]; exact SZ5.out
        clear T5 X5 Y5 B5 SZ5 v0 v1 f0 f1 t0 t1 T4 X4 Y4 hown SZ4 hsz4 hlt4 BB RW hat hlt5 HFN HLF q0 q1 p0 p1 TB TF TT NE SZ HB
        generalize w5.setCell ⟨V.heap.size, 0, none⟩ (.slice (some ⟨gg, 0, none⟩) (k + 1) cap') = W6 at *
        obtain ⟨p0, p1⟩ := Q3.out.below B6.out
        obtain ⟨q0, q1⟩ := T6.out.cell
        obtain ⟨f0, f1⟩ := T6.out.frozen
        go_wp2_with fail
        go_region_law (first
         | (go_simp; go_at_call 47; refine (costs_any N s _ fs _ ((F3.out.below B6.out).below (Below.drew (Below.refl _ _))) HPF.out hsN).mono ?_; rintro e w4 ⟨G', d, rfl, hG, ur, hd, b4⟩; have RW : Hid _ := (Ur.congr ur (fun v hv => (to_cst HP.out HFS.out HES.out hsN hd hv))).rw hn64; have BB : Hid (Below W6.heap.size W6 w4) := (by exact bthen (Below.drew (Below.refl _ _)) b4); have T4 : Hid _ := T6.out.below BB.out; have X4 : Hid _ := X6.out.below BB.out; have Y4 : Hid _ := Y6.out.below BB.out; obtain ⟨t0, t1⟩ := T4.out.cell; have hown : w4.ownsRow (V.heap.size + 1) 25 1 (.slice aT k cT) k usT := (by have := Y4.out.own; rw [HLT.out] at this; exact this); have SZ4 : Hid (V.heap.size + 1 ≤ w4.heap.size) := (by exact Nat.le_trans SZ6.out BB.out.size); have hsz4 := SZ4.out; have hlt4 : V.heap.size < w4.heap.size := (by omega); clear ur hd b4 hG; (try dsimp only))
         | (refine step_append_lies _ (by rfl) _ _ _ (by rfl) (V.heap.size + 1) 25 i0 _ 1 24 Try.underlying74 hi0 hz0 hz1 hz2 rfl (by omega) (.slice aT k cT) k usT (by rfl) (hown.alloc _) ⟨w4.heap.size, 0, none⟩ 1 1 [.slice (some ⟨G', 0, none⟩) N N] (by rfl) (by rfl) (World.news_of_block (cs := #[.slice (some ⟨G', 0, none⟩) N N]) (t := 25) (fr := (0, 0)) (heap_alloc_new _ _)) (by simp [Value.oneCell']) (by omega) (by unfold maxLen; omega) (by omega) (by simp; omega) (w4.heap.size + 1) (by simp) ?_; intro gt ct' w5' hown5 hgrow hat hlt5; have T5 : Hid _ := (T4.out.below (balloc (Below.refl _ _) _)).frame (hgrow.block V.heap.size (by simp; omega) (fun e => by have := (ownBlock_lt hown _ e.symm).1; omega)); have Y5 : Hid _ := (Y4.out.below (balloc (Below.refl _ _) _)).next (RW.out.below (balloc (Below.refl _ _) _)) (lst_length _ _) HTN.out HLT.out hown5 hgrow; have X5 : Hid _ := (X4.out.below (balloc (Below.refl _ _) _)).keep (hown.alloc _) hgrow (fun g h1 h2 => NE5.out g h1 h2); have B5 : Hid (Below V.heap.size V w5') := (by exact (balloc (bthen B6.out BB.out) _).grown hgrow (by simp; omega) (fun x hx => by have := (ownBlock_lt hown x hx).1; omega)); have NE6 : Hid (∀ g, Value.ownBlock (.slice (some ⟨gt, 0, none⟩) (k + 1) ct') = some g → (Value.slice (some ⟨gg, 0, none⟩) (k + 1) cap').ownBlock ≠ some g) := (by exact ne_grown (fun g h1 h2 => NE5.out g h2 h1) X4.out.own hat (Nat.le_succ _)); have SZ5 : Hid (V.heap.size + 1 ≤ w5'.heap.size) := (by have := hgrow.size; simp at this; unfold Hid; omega); obtain ⟨v0, v1⟩ := T5.out.cell; obtain ⟨f0, f1⟩ := T5.out.frozen; clear hown5 hgrow)
         | fail)
        all_goals
          go_wp2_with fail
          go_roundw
          case rel => exact ⟨k + 1, _, _, _, _, by go_num, by omega, T5.out.put1 _, X5.out.other (Nat.lt_succ_self _) T5.out.at_ (by decide), Y5.out.other (Nat.lt_succ_self _) T5.out.at_ (by decide), fun g h1 h2 => NE6.out g h2 h1, Below.setCell B5.out (Nat.le_refl _) _, by simp [World.setCell]; exact SZ5.out⟩
          case measure => simp [intOf]; omega
    · obtain rfl : k = p.length := by omega
      obtain ⟨r0, r1⟩ := (R3.out.below HB.out).cell
      obtain ⟨f0, f1⟩ := (R3.out.below HB.out).frozen
      obtain ⟨q0, q1⟩ := TB.out.cell
      have RR : Hid _ := R3.out.below HB.out
      have HRL : Hid (w.heap.size + 1 < V.heap.size + 1) := Nat.lt_succ_of_lt R3.out.lt
      rw [List.take_length] at TF TT
      go_wp2_with fail
      refine bodyPost_ret (v := .tuple #[.agg #[.slice aF p.length cF, .slice aT p.length cT], .int .i64 0]) ?_ rfl ?_
      · simp [results, Try.results52, go_sem, *]
      · refine ⟨_, _, rfl, ((TF.out.other HRL.out RR.out.at_ (by decide)).other HRL.out (RR.out.put0 _).at_ (by decide)).slt, ((TT.out.other HRL.out RR.out.at_ (by decide)).other HRL.out (RR.out.put0 _).at_ (by decide)).slt, Below.setCell (Below.setCell (bthen B3.out HB.out) (by simp) _) (by simp) _⟩
end Go.Proofs.Ytefikbjjdldomaa
