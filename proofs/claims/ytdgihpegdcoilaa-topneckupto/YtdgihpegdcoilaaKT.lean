/-
  Contract: span.take, where Tree calls it.
-/
import Derived.Test.YtdgihpegdcoilaaKO
import Derived.Test.YtdgihpegdcoilaaHeapF
namespace Go.Proofs.Ytdgihpegdcoilaa
open Go.RowKit
open Nm Kk

def ints (l : List Nat) : List Int := l.map (fun i : Nat => (i : Int))
theorem ints_snoc (l : List Nat) (i : Nat) : ints (l ++ [i]) = ints l ++ [(i : Int)] := by simp [ints]
theorem ints_length (l : List Nat) : (ints l).length = l.length := by simp [ints]

theorem is_grown {a b : World} {base g : Nat} {v : Value} {l : List Int} (h : Is a base v l) (hg : a.grownBy b (some g)) (hlt : g < base) : Is b base v l := by
  obtain ⟨h1, h2⟩ := h.own
  refine ⟨⟨h1, ?_⟩⟩
  rcases h2 with h2 | ⟨g', cap, cur, h3, h4, h5, h6⟩
  · exact .inl h2
  · refine .inr ⟨g', cap, cur, h3, h4, ?_, h6⟩
    have hl : g' < a.heap.size := by
      rcases Nat.lt_or_ge g' a.heap.size with hlt | hge
      · exact hlt
      · rw [Array.getElem?_eq_none hge] at h5; cases h5
    rw [hg.block g' hl (fun e => by have := Option.some.inj e; omega)]; exact h5
theorem grp_next {es : List E} {l l' : List Nat} {i x y : Nat} (h : l' = l ++ [i]) (he : en es i = ((x : Int), (y : Int))) : Un.Uf.grp (pl es l') = Un.Uf.jn (Un.Uf.grp (pl es l)) x y := by
  rw [h, pl_snoc, Un.Uf.grp_snoc, he]; rfl
theorem kru_yes {es : List E} {l l' : List Nat} {i x y : Nat} (h : l' = l ++ [i]) (he : en es i = ((x : Int), (y : Int))) (hd : decide (Un.Uf.grp (pl es l) x ≠ Un.Uf.grp (pl es l) y) = true) : kru es l' = kru es l ++ [i] := by
  rw [h, kru_snoc]; unfold kst
  rw [he, kru_grp]
  exact if_pos (of_decide_eq_true hd)
theorem kru_no {es : List E} {l l' : List Nat} {i x y : Nat} (h : l' = l ++ [i]) (he : en es i = ((x : Int), (y : Int))) (hd : decide (Un.Uf.grp (pl es l) x ≠ Un.Uf.grp (pl es l) y) = false) : kru es l' = kru es l := by
  rw [h, kru_snoc]; unfold kst
  rw [he, kru_grp]
  exact if_neg (of_decide_eq_false hd)

set_option maxRecDepth 100000 in
set_option maxHeartbeats 8000000 in
theorem take_tree (n H g B : Nat) (v : Value) (es : List E) (w0 w : World) (hv : SlE w0 v es) (hg : Gn n es) (h0 : Below w0.heap.size w0 w) (hH : w.cell? ⟨H, 0, none⟩ = some (.slice (some ⟨g, 0, none⟩) n n)) (hU : Un.Ur w g n id) (hB : Vb w B (.slice none 0 0) 23)
    (hHg : H ≠ g) (hHB : H ≠ B) (hgB : g ≠ B) (kg : w0.heap.size ≤ g) (kB : w0.heap.size ≤ B) :
    Calls Try.prog 38 #[.agg #[.int .i64 n, v], .pointer (some ⟨H, 0, none⟩), .func (.func 39) #[] #[.pointer (some ⟨B, 0, none⟩)]] w fun e w' => e = .returned (.tuple #[]) ∧ (∃ u, Vb w' B u 23 ∧ Is w' w.heap.size u (ints (tree es))) ∧ Below w0.heap.size w0 w' := by
  obtain ⟨a0, c0, rfl⟩ := hv.val
  have HV : Hid _ := hv
  have hl := hg.len
  have HG : Hid _ := hg
  have H0 : Hid (Below w0.heap.size w0 w) := h0
  have HH : Hid _ := hH
  have HU : Hid _ := hU
  have HB : Hid _ := hB
  have NE : Hid (H ≠ g ∧ H ≠ B ∧ g ≠ B) := ⟨hHg, hHB, hgB⟩
  have hHl := World.block_lt_of_cell? w ⟨H, 0, none⟩ hH
  have hgl := hU.lt
  have hBl := hB.lt
  clear hv hg h0 hH hU hB hHg hHB hgB
  go_enter Try.func38, Try.ntmps38
  go_wp2_with fail
  have P0 : Hid _ := box2_new w (n : Int) (.slice a0 es.length c0) 35
  have B0 : Hid (Below w.heap.size w (w.alloc (.cells #[.int .i64 (n : Int), .slice a0 es.length c0] 35))) := balloc (Below.refl _ _) _
  generalize w.alloc (.cells #[.int .i64 (n : Int), .slice a0 es.length c0] 35) = W0 at *
  refine (priced_any n _ es W0 (HV.out.below (H0.out.trans (B0.out.mono H0.out.size))) hl).mono ?_
  rintro e w1 ⟨o1, rfl, ho1, p1, b1⟩
  have HS : Hid (So.SlR w1 (.slice (some ⟨o1, 0, none⟩) es.length es.length) (prc es)) := by
    have := p1.row.slr; rw [prc_length] at this; exact this
  have P1 : Hid _ := P0.out.below b1
  have B1 : Hid (Below w.heap.size w w1) := bthen B0.out b1
  clear p1 b1 P0
  go_wp2_with fail
  refine (So.sort_any _ (prc es) w1 HS.out (by rw [prc_length]; omega)).mono ?_
  rintro e w2 ⟨o, cp, rfl, ho, r2, b2⟩
  rw [prc_length]
  have R2 : Hid (Pr w2 o cp (So.Hq.srt (prc es))) := ⟨r2⟩
  have P2 : Hid _ := P1.out.below b2
  have B2 : Hid (Below w.heap.size w w2) := bthen B1.out b2
  have ow : w.heap.size ≤ o := by have := B1.out.size; omega
  have hol := r2.lt
  have NO : Hid (o ≠ g ∧ o ≠ B) := ⟨fun e => by omega, fun e => by omega⟩
  have NB : Hid (w.heap.size ≠ g ∧ w.heap.size ≠ B) := ⟨fun e => by omega, fun e => by omega⟩
  have hw2 : w.heap.size < w2.heap.size := by have := World.block_lt_of_cell? w2 _ P2.out.g0; exact this
  clear r2 b2 B1 P1 HS ho ho1 B0
  have U2 : Hid _ := HU.out.below B2.out
  have VB2 : Hid _ := HB.out.below B2.out
  have H2 : Hid _ := kept B2.out HH.out
  have Z2 : Hid (Below w0.heap.size w0 w2) := H0.out.trans (B2.out.mono H0.out.size)
  have bz := B2.out.size
  have z0 := H0.out.size
  go_wp2_with fail
  go_loopw [13] (fun z wr => ∃ (k : Nat) (u : Value) (U : Nat → Nat), z = .int .i64 k ∧ k ≤ es.length ∧ Un.Ur wr g n U ∧ Un.Uf.Inv n U (Un.Uf.grp (pl es ((ids es).take k))) ∧ Vb wr B u 23 ∧ Is wr w2.heap.size u (ints (kru es ((ids es).take k))) ∧ Off w2.heap.size w2 wr g B) (fun z _ => es.length - (intOf z).toNat)
  case atStart => exact ⟨0, _, _, rfl, Nat.zero_le _, U2.out, Un.Uf.inv_id n, VB2.out, Is.nil _ _, Off.refl _ _ _ _⟩
  case round =>
    obtain ⟨k, u, U, rfl, hk, hu, hi, hvb, his, hoff⟩ := hrel
    have XU : Hid _ := hu
    have XI : Hid _ := hi
    have XV : Hid _ := hvb
    have XS : Hid _ := his
    have XO : Hid _ := hoff
    clear hu hi hvb his hoff
    by_cases hlt : k < es.length
    · have hki : (k : Int) < (es.length : Int) := by omega
      obtain ⟨e1, e2⟩ := srt_at es k hlt
      have HT : Hid _ := ids_take es k hlt
      obtain ⟨i, hi⟩ : ∃ i, (ids es).getD k 0 = i := ⟨_, rfl⟩
      rw [hi] at e1 e2 HT
      clear hi
      have RW : Hid (Pr wr o cp (So.Hq.srt (prc es))) := R2.out.frame (XO.out.block o hol NO.out.1 NO.out.2)
      have hln : k < (So.Hq.srt (prc es)).length := by rw [So.Hq.srt_length, prc_length]; exact hlt
      obtain ⟨r0, r1, -, -⟩ := RW.out.row.cell k hln
      rw [e1] at r0 r1
      simp only at r0 r1
      have ZW : Hid (Below w0.heap.size w0 wr) := XO.out.below Z2.out kg kB (by omega)
      obtain ⟨b, off, cap, hveq, hc⟩ := (HV.out.below ZW.out).some' (by omega)
      simp only [Value.slice.injEq] at hveq
      obtain ⟨rfl, -, rfl⟩ := hveq
      have hen := gn_en HG.out e2
      obtain ⟨d0, d1, d2⟩ := hc i e2
      have p1 := XO.out.cell hw2 NB.out.1 NB.out.2 P2.out.g1
      have hii : (i : Int) < (es.length : Int) := by omega
      have HE : Hid (en es i = ((at3 es i).1, (at3 es i).2.1)) := rfl
      have HC9 : Hid (cs es i = (at3 es i).2.2) := rfl
      clear hc e1 hln
      obtain ⟨p, hp⟩ : ∃ p, at3 es i = p := ⟨_, rfl⟩
      rw [hp] at d0 d1 d2 HE HC9
      clear hp
      obtain ⟨x, y, c⟩ := p
      simp only at d0 d1 d2 HE HC9
      rw [HE.out] at hen
      simp only at hen
      obtain ⟨x, rfl⟩ := Int.eq_ofNat_of_zero_le hen.1
      obtain ⟨y, rfl⟩ := Int.eq_ofNat_of_zero_le hen.2.2.1
      have hxn : x < n := by omega
      have hyn : y < n := by omega
      rw [HC9.out] at r0
      clear hen
      have r0' := kept_alloc (x := .cells #[.int .i64 c, .int .i64 (i : Int)] 68) d0
      have r1' := kept_alloc (x := .cells #[.int .i64 c, .int .i64 (i : Int)] 68) d1
      have r2' := kept_alloc (x := .cells #[.int .i64 c, .int .i64 (i : Int)] 68) d2
      have p1' := kept_alloc (x := .cells #[.int .i64 c, .int .i64 (i : Int)] 68) p1
      go_wp2_with fail
      clear r0 r1 r0' r1' r2' p1' p1 d0 d1 d2
      have BA1 : Hid (Below wr.heap.size wr (wr.alloc (.cells #[.int .i64 c, .int .i64 (i : Int)] 68))) := balloc (Below.refl _ _) _
      have HA1 := cell_new wr #[.int .i64 c, .int .i64 (i : Int)] 68 1 _ rfl
      generalize wr.alloc (.cells #[.int .i64 c, .int .i64 (i : Int)] 68) = Wa at *
      have BA2 : Hid (Below wr.heap.size wr (Wa.alloc (.cells #[.int .i64 (x : Int), .int .i64 (y : Int), .int .i64 c] 50))) := balloc BA1.out _
      have HA2 : Hid _ := kept_alloc (x := .cells #[.int .i64 (x : Int), .int .i64 (y : Int), .int .i64 c] 50) HA1
      generalize Wa.alloc (.cells #[.int .i64 (x : Int), .int .i64 (y : Int), .int .i64 c] 50) = Wb at *
      clear HA1 BA1
      have YU : Hid _ := XU.out.below BA2.out
      have YV : Hid _ := XV.out.below BA2.out
      have YS : Hid _ := XS.out.below BA2.out
      have YH : Hid _ := kept BA2.out (XO.out.cell (by omega) NE.out.1 NE.out.2.1 H2.out)
      have hws := XO.out.size
      have YO : Hid (Off w2.heap.size w2 Wb g B) := XO.out.trans (Off.of_below BA2.out hws)
      have HG9 : Hid _ := grp_next HT.out HE.out
      obtain ⟨D, hD⟩ : ∃ D : Bool, decide (Un.Uf.grp (pl es ((ids es).take k)) x ≠ Un.Uf.grp (pl es ((ids es).take k)) y) = D := ⟨_, rfl⟩
      have HD : Hid _ := hD
      clear hD
      have hbs := BA2.out.size
      refine (Un.join_any H g n x y U _ Wb YH.out NE.out.1 YU.out XI.out hxn hyn).mono ?_
      rintro e w8 ⟨rfl, ⟨U', u8, i8⟩, g8⟩
      rw [HD.out]
      have ZI : Hid (Un.Uf.Inv n U' (Un.Uf.grp (pl es ((ids es).take (k + 1))))) := by rw [HG9.out]; exact i8
      have ZU : Hid _ := u8
      have ZG : Hid _ := g8
      have ZS : Hid _ := is_grown YS.out g8 (by omega)
      have ZV : Hid (Vb w8 B u 23) := YV.out.frame (g8.block B (YV.out.lt) (fun e => NE.out.2.2 (Option.some.inj e).symm))
      have ZO : Hid (Off w2.heap.size w2 w8 g B) := YO.out.trans (Off.of_grown g8 (by omega))
      have p8 := Un.gcell g8 (show wr.heap.size ≠ g by omega) HA2.out
      have h8 := g8.size
      clear u8 i8 g8
      cases D
      · have KN : Hid _ := kru_no HT.out HE.out HD.out
        go_wp2_with fail
        go_roundw
        case rel => exact ⟨k + 1, u, U', by go_num, by omega, ZU.out, ZI.out, ZV.out, by rw [KN.out]; exact ZS.out, ZO.out⟩
        case measure => simp [intOf]; omega
      · have KY : Hid _ := kru_yes HT.out HE.out HD.out
        have hlen : (ints (kru es ((ids es).take k))).length ≤ 600 := by
          rw [ints_length]
          have := kru_length es ((ids es).take k)
          rw [List.length_take] at this
          omega
        go_wp2_with fail
        refine (more_tree B w2.heap.size i u _ w8 ZV.out (by omega) (by omega) ZS.out hlen).mono ?_
        rintro e w9 ⟨rfl, ⟨u', v9, s9⟩, o9⟩
        have QV : Hid _ := v9
        have QS : Hid (Is w9 w2.heap.size u' (ints (kru es ((ids es).take (k + 1))))) := by rw [KY.out, ints_snoc]; exact s9
        have QO : Hid (Off w2.heap.size w2 w9 g B) := ZO.out.trans (o9 g)
        have QU : Hid (Un.Ur w9 g n U') := ZU.out.frame ((o9 w9.heap.size).block g (by omega) (fun e => by have := (o9 g).size; omega) NE.out.2.2)
        clear v9 s9 o9
        go_wp2_with fail
        go_roundw
        case rel => exact ⟨k + 1, u', U', by go_num, by omega, QU.out, ZI.out, QV.out, QS.out, QO.out⟩
        case measure => simp [intOf]; omega
    · obtain rfl : k = es.length := by omega
      rw [List.take_of_length_le (by rw [ids_length]; exact Nat.le_refl _)] at XS
      go_wp2_with fail
      go_end0
      exact ⟨rfl, ⟨u, XV.out, XS.out.mono bz⟩, XO.out.below Z2.out kg kB (by omega)⟩
end Go.Proofs.Ytdgihpegdcoilaa
