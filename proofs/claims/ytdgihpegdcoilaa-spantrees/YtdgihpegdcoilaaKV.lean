/-
  Contract: the document's tree.
-/
import Derived.Test.YtdgihpegdcoilaaKI
import Derived.Test.YtdgihpegdcoilaaInsF
import Derived.Deep.DeepCutAuto
namespace Go.Proofs.Ytdgihpegdcoilaa
open Go.RowKit
open Nm Kk

/-- Pops that the calls made for themselves. -/
structure Qs (w : World) (base : Nat) (v : Value) (l : List (Int × Int)) : Prop where
  own : w.ownsRow base 68 2 v l.length (So.flat l)
theorem Qs.below {w w' : World} {base : Nat} {v : Value} {l : List (Int × Int)} (h : Qs w base v l) (hb : Below w.heap.size w w') : Qs w' base v l := ⟨owns_below h.own hb⟩
theorem Qs.nil (w : World) (base : Nat) : Qs w base (.slice none 0 0) [] := ⟨World.ownsRow_nil _ _ _ _⟩
theorem Qs.val {w : World} {base : Nat} {v : Value} {l : List (Int × Int)} (h : Qs w base v l) : ∃ a c, v = .slice a l.length c := So.owns_val h.own
theorem Qs.sl {w : World} {base : Nat} {v : Value} {l : List (Int × Int)} (h : Qs w base v l) : So.SlR w v l := by
  rcases Nat.eq_zero_or_pos l.length with h0 | h0
  · obtain ⟨a, c, rfl⟩ := h.val
    have e := List.length_eq_zero_iff.1 h0
    rw [h0]
    exact .inl ⟨a, c, rfl, e⟩
  · obtain ⟨g, c, rfl⟩ := So.owns_some h.own h0
    exact (So.Row.of_owns rfl h.own).1.slr
theorem Qs.row {w : World} {base : Nat} {v : Value} {l : List (Int × Int)} (h : Qs w base v l) (h0 : 0 < l.length) : ∃ g c, v = .slice (some ⟨g, 0, none⟩) l.length c ∧ Pr w g c l ∧ base ≤ g := by
  obtain ⟨g, c, rfl⟩ := So.owns_some h.own h0
  obtain ⟨h1, h2⟩ := So.Row.of_owns rfl h.own
  exact ⟨g, c, rfl, ⟨h1⟩, h2⟩
theorem Qs.next {w : World} {b n cap gg : Nat} {xs ys : List (Int × Int)} {x y : Int} (hx : ys = xs ++ [(x, y)]) (hn : n = xs.length) (h : w.ownsRow b 68 2 (.slice (some ⟨gg, 0, none⟩) (n + 1) cap) (n + 1) (So.flat xs ++ [.int .i64 x, .int .i64 y])) : Qs w b (.slice (some ⟨gg, 0, none⟩) (n + 1) cap) ys := by
  subst hx hn
  refine ⟨?_⟩
  rw [So.flat_append, List.length_append]
  exact h
theorem prc_next (es : List E) (k : Nat) (h : k < es.length) : (prc es).take (k + 1) = (prc es).take k ++ [(cs es k, (k : Int))] := by
  have hl : k < (prc es).length := by rw [prc_length]; exact h
  rw [List.take_add_one, List.getElem?_eq_getElem hl]
  simp [prc]

theorem joined_at (n a b : Nat) (D : Bool) (v ev : Value) (es : List E) (L : List Nat) (w : World) (h : decide (Un.Uf.grp (pl es L) a = Un.Uf.grp (pl es L) b) = D) (hv : SlE w v es) (hL : SlI w ev (ints L)) (hlt : ∀ x, x ∈ L → x < es.length) (hll : L.length ≤ 600) (hg : Gn n es) (ha : a < n) (hb : b < n) :
    Calls Try.prog 41 #[.agg #[.int .i64 n, v], ev, .int .i64 a, .int .i64 b] w fun e w' => e = .returned (.bool D) ∧ Below w.heap.size w w' := by
  have := joined_any n a b v ev es L w hv hL hlt hll hg ha hb
  rw [h] at this; exact this
theorem kru_joined {es : List E} {l l' : List Nat} {i x y : Nat} (h : l' = l ++ [i]) (he : en es i = ((x : Int), (y : Int))) : (decide (Un.Uf.grp (pl es (kru es l)) x = Un.Uf.grp (pl es (kru es l)) y) = true → kru es l' = kru es l) ∧ (decide (Un.Uf.grp (pl es (kru es l)) x = Un.Uf.grp (pl es (kru es l)) y) = false → kru es l' = kru es l ++ [i]) := by
  rw [kru_grp]
  constructor
  · intro hd
    exact kru_no h he (decide_eq_false (fun k => k (of_decide_eq_true hd)))
  · intro hd
    exact kru_yes h he (decide_eq_true (of_decide_eq_false hd))

set_option maxRecDepth 100000 in
set_option maxHeartbeats 8000000 in
theorem rtree_any (n : Nat) (v : Value) (es : List E) (w : World) (hv : SlE w v es) (hg : Gn n es) :
    Calls Try.prog 19 #[.agg #[.int .i64 n, v]] w fun e w' => ∃ u, e = .returned u ∧ Is w' w.heap.size u (ints (tree es)) ∧ Below w.heap.size w w' := by
  obtain ⟨a0, c0, rfl⟩ := hv.val
  have HV : Hid _ := hv
  have hl := hg.len
  have HG : Hid _ := hg
  clear hv hg
  go_enter Try.func19, Try.ntmps19
  go_wp2_with fail
  have P0 : Hid _ := box2_new w (n : Int) (.slice a0 es.length c0) 35
  have B0 : Hid (Below w.heap.size w (w.alloc (.cells #[.int .i64 (n : Int), .slice a0 es.length c0] 35))) := balloc (Below.refl _ _) _
  generalize w.alloc (.cells #[.int .i64 (n : Int), .slice a0 es.length c0] 35) = W0 at *
  go_loopw [12, 3] (fun z out wr => ∃ k : Nat, z = .int .i64 k ∧ k ≤ es.length ∧ Qs wr W0.heap.size out ((prc es).take k) ∧ Below W0.heap.size W0 wr) (fun z _ _ => es.length - (intOf z).toNat)
  case atStart => exact ⟨0, rfl, Nat.zero_le _, Qs.nil _ _, Below.refl _ _⟩
  case round =>
    obtain ⟨k, rfl, hk, ho, hb⟩ := hrel
    obtain ⟨ao, co, rfl⟩ := ho.val
    have HO : Hid _ := ho
    have HB : Hid (Below W0.heap.size W0 wr) := hb
    clear ho hb
    have hpl : ((prc es).take k).length = k := by rw [List.length_take, prc_length]; omega
    by_cases hlt : k < es.length
    · have hki : (k : Int) < (es.length : Int) := by omega
      obtain ⟨b, off, cap, hveq, hc⟩ := (HV.out.below (bthen B0.out HB.out)).some' (by omega)
      simp only [Value.slice.injEq] at hveq
      obtain ⟨rfl, -, rfl⟩ := hveq
      obtain ⟨d0, d1, d2⟩ := hc k hlt
      clear hc
      have HN : Hid _ := prc_next es k hlt
      have HC9 : Hid (cs es k = (at3 es k).2.2) := rfl
      obtain ⟨p, hp⟩ : ∃ p, at3 es k = p := ⟨_, rfl⟩
      rw [hp] at d0 d1 d2 HC9
      clear hp
      obtain ⟨x, y, c⟩ := p
      simp only at d0 d1 d2 HC9
      rw [HC9.out] at HN
      obtain ⟨i0, hi0, hz0, hz1, hz2⟩ := info_parts So.info32
      have hown := HO.out.own
      rw [hpl] at hown ⊢
      have HPL : Hid _ := hpl
      clear hpl
      generalize (prc es).take k = l at *
      have hwz := HB.out.size
      have HNW : Hid (((wr.alloc (.cells #[.int .i64 x, .int .i64 y, .int .i64 c] 50)).alloc (.cells #[.int .i64 c, .int .i64 (k : Int)] 68)).heap[wr.heap.size + 1]? = some (.cells #[.int .i64 c, .int .i64 (k : Int)] 68)) := new_at _ _ (by simp)
      go_wp2_with (at_builtin; refine wpList_append_lies _ rfl _ _ _ rfl W0.heap.size 68 i0 _ 2 16 Try.underlying66 hi0 hz0 hz1 hz2 rfl (by omega) (.slice ao k co) k (So.flat l) rfl ((hown.alloc _).alloc _) ⟨wr.heap.size + 1, 0, none⟩ 1 1 [.int .i64 c, .int .i64 (k : Int)] rfl rfl (World.news_of_block (cs := #[.int .i64 c, .int .i64 (k : Int)]) (t := 68) (fr := (0, 0)) HNW.out) (by simp [Value.oneCell']) (by omega) (by unfold maxLen; omega) (by omega) (by simp; omega) (wr.heap.size + 1 + 1) (by simp) ?_; intro gg cap' w4 hown4 hgrow hat hlt4; have B4 : Hid (Below W0.heap.size W0 w4) := (by exact (balloc (balloc HB.out _) _).grown hgrow (by simp; omega) (fun k hk => (ownBlock_lt hown k hk).1)))
      go_roundw
      case rel => exact ⟨k + 1, by go_num, by omega, Qs.next HN.out HPL.out.symm hown4, B4.out⟩
      case measure => simp [intOf]; omega
    · obtain rfl : k = es.length := by omega
      rw [hpl] at HO ⊢
      rw [List.take_of_length_le (by rw [prc_length]; exact Nat.le_refl _)] at HO
      go_wp2_with fail
      refine (So.sorted_any _ (prc es) wr HO.out.sl (by rw [prc_length]; omega)).mono ?_
      rintro e w5 ⟨u, rfl, h5, b5⟩
      rw [prc_length] at h5
      have Q5 : Hid (Qs w5 wr.heap.size u (So.Hq.srt (prc es))) := ⟨by rw [So.Hq.srt_length, prc_length]; exact h5⟩
      have B5 : Hid (Below W0.heap.size W0 w5) := bthen HB.out b5
      obtain ⟨au, cu, rfl⟩ := Q5.out.val
      rw [So.Hq.srt_length, prc_length] at Q5 ⊢
      clear h5 b5
      go_wp2_with fail
      have P5 : Hid _ := P0.out.below B5.out
      have Z5 : Hid (Below w.heap.size w w5) := bthen B0.out B5.out
      have hbx : w.heap.size < w5.heap.size := by have := World.block_lt_of_cell? w5 _ P5.out.g0; exact this
      clear HO HB P0 B5
      go_loopw [28, 6] (fun z out wr => ∃ k : Nat, z = .int .i64 k ∧ k ≤ es.length ∧ Is wr w5.heap.size out (ints (kru es ((ids es).take k))) ∧ Below w5.heap.size w5 wr) (fun z _ _ => es.length - (intOf z).toNat)
      case atStart => exact ⟨0, rfl, Nat.zero_le _, Is.nil _ _, Below.refl _ _⟩
      case round =>
        obtain ⟨k, rfl, hk, ho, hb⟩ := hrel
        obtain ⟨a6, c6, rfl⟩ := ho.sl.val
        have HO : Hid _ := ho
        have HB : Hid (Below w5.heap.size w5 wr) := hb
        clear ho hb
        rw [ints_length] at HO ⊢
        by_cases hlt : k < es.length
        · have hki : (k : Int) < (es.length : Int) := by omega
          obtain ⟨e1, e2⟩ := srt_at es k hlt
          have HT : Hid _ := ids_take es k hlt
          obtain ⟨i, hi⟩ : ∃ i, (ids es).getD k 0 = i := ⟨_, rfl⟩
          rw [hi] at e1 e2 HT
          clear hi
          have hln : k < (So.Hq.srt (prc es)).length := by rw [So.Hq.srt_length, prc_length]; exact hlt
          obtain ⟨g5, c5, hve, hpr, -⟩ := (Q5.out.below HB.out).row (by omega)
          rw [So.Hq.srt_length, prc_length] at hve
          simp only [Value.slice.injEq] at hve
          obtain ⟨rfl, -, rfl⟩ := hve
          obtain ⟨r0, r1, -, -⟩ := hpr.row.cell k hln
          rw [e1] at r0 r1
          simp only at r0 r1
          clear hpr e1 hln
          obtain ⟨b, off, cap, hveq, hc⟩ := (HV.out.below (bthen Z5.out HB.out)).some' (by omega)
          simp only [Value.slice.injEq] at hveq
          obtain ⟨rfl, -, rfl⟩ := hveq
          have hen := gn_en HG.out e2
          obtain ⟨d0, d1, d2⟩ := hc i e2
          have hii : (i : Int) < (es.length : Int) := by omega
          have HE : Hid (en es i = ((at3 es i).1, (at3 es i).2.1)) := rfl
          have HC9 : Hid (cs es i = (at3 es i).2.2) := rfl
          clear hc
          obtain ⟨p, hp⟩ : ∃ p, at3 es i = p := ⟨_, rfl⟩
          rw [hp] at d0 d1 d2 HE HC9
          clear hp
          obtain ⟨x, y, c⟩ := p
          simp only at d0 d1 d2 HE HC9
          rw [HE.out] at hen
          simp only at hen
          obtain ⟨x, rfl⟩ := Int.eq_ofNat_of_zero_le hen.1
          obtain ⟨y, rfl⟩ := Int.eq_ofNat_of_zero_le hen.2.2.1
          have hxn : x < n := by omega
          have hyn : y < n := by omega
          rw [HC9.out] at r0
          clear hen d2
          have PW : Hid _ := P5.out.below HB.out
          go_upto_region 11 with fail
          have BA : Hid (Below wr.heap.size wr (wr.alloc (.cells #[.int .i64 c, .int .i64 (i : Int)] 68))) := balloc (Below.refl _ _) _
          have a1 := cell_new wr #[.int .i64 c, .int .i64 (i : Int)] 68 1 _ rfl
          obtain ⟨X, hX⟩ : ∃ X, wr.heap.size = X := ⟨_, rfl⟩
          have hXA : X < (wr.alloc (.cells #[.int .i64 c, .int .i64 (i : Int)] 68)).heap.size := by simp [hX]
          have f0 := kept_alloc (x := .cells #[.int .i64 c, .int .i64 (i : Int)] 68) d0
          have f1 := kept_alloc (x := .cells #[.int .i64 c, .int .i64 (i : Int)] 68) d1
          have q0 := kept_alloc (x := .cells #[.int .i64 c, .int .i64 (i : Int)] 68) PW.out.g0
          have q1 := kept_alloc (x := .cells #[.int .i64 c, .int .i64 (i : Int)] 68) PW.out.g1
          clear d0 d1 r0 r1
          rw [hX] at a1 ⊢
          generalize wr.alloc (.cells #[.int .i64 c, .int .i64 (i : Int)] 68) = Wa at *
          have KJ : Hid _ := kru_joined HT.out HE.out
          have hLL : (kru es ((ids es).take k)).length ≤ 600 := by
            have := kru_length es ((ids es).take k)
            rw [List.length_take] at this
            omega
          have hLm : ∀ x, x ∈ kru es ((ids es).take k) → x < es.length := fun x hx => (ids_mem es x).1 (List.mem_of_mem_take (kru_mem es _ x hx))
          generalize kru es ((ids es).take k) = L at *
          have HLm : Hid _ := hLm
          clear hLm HT
          have VA : Hid (SlE Wa (.slice (some ⟨b, off, none⟩) es.length c0) es) := (HV.out.below (bthen Z5.out HB.out)).below BA.out
          have SA : Hid (SlI Wa (.slice a6 L.length c6) (ints L)) := HO.out.sl.below BA.out
          have IA : Hid (Is Wa w5.heap.size (.slice a6 L.length c6) (ints L)) := HO.out.below BA.out
          have BW : Hid (Below w5.heap.size w5 Wa) := bthen HB.out BA.out
          have hn0 : IntKind.i64.wrap (n : Int) = (n : Int) := by have := HG.out.n64; rw [IntKind.wrap_i64]; omega
          obtain ⟨i0, hi0, hz0, hz1, hz2⟩ := info3_parts
          cases hD : decide (Un.Uf.grp (pl es L) x = Un.Uf.grp (pl es L) y)
          · have KY : Hid _ := KJ.out.2 hD
            have HD : Hid _ := hD
            clear hD KJ
            go_region_held3 (fun w' => w'.cell? ⟨w.heap.size, 0, none⟩ = some (.int .i64 n) ∧ w'.cell? ⟨w.heap.size, 1, none⟩ = some (.slice (some ⟨b, off, none⟩) es.length c0) ∧ w'.cell? ⟨X, 1, none⟩ = some (.int .i64 (i : Int)) ∧ w'.cell? ⟨b, off + i * 3, none⟩ = some (.int .i64 (x : Int)) ∧ w'.cell? ⟨b, off + i * 3 + 1, none⟩ = some (.int .i64 (y : Int))) (first | exact KEEP.out | go_keep)
              ((go_at_call 41; refine (joined_at n x y false _ _ es L _ HD.out (by first | exact VA.out.below (bdrewN (Below.refl _ _) _) | exact VA.out.below (Below.drew (Below.refl _ _)) | exact VA.out) (by first | exact SA.out.below (Below.drew (Below.refl _ _)) | exact SA.out.below (bdrewN (Below.refl _ _) _)) HLm.out hLL HG.out hxn hyn).mono ?_; rintro e w7 ⟨rfl, b7⟩; have B7 : Hid (Below Wa.heap.size Wa w7) := (by first | exact bthen (Below.drew (Below.refl _ _)) b7 | exact b7); have KEEP : Hid (w7.cell? ⟨w.heap.size, 0, none⟩ = some (.int .i64 n) ∧ w7.cell? ⟨w.heap.size, 1, none⟩ = some (.slice (some ⟨b, off, none⟩) es.length c0) ∧ w7.cell? ⟨X, 1, none⟩ = some (.int .i64 (i : Int)) ∧ w7.cell? ⟨b, off + i * 3, none⟩ = some (.int .i64 (x : Int)) ∧ w7.cell? ⟨b, off + i * 3 + 1, none⟩ = some (.int .i64 (y : Int))) := (by exact ⟨kept B7.out q0, kept B7.out q1, kept B7.out a1, kept B7.out f0, kept B7.out f1⟩)))
            have I7 : Hid (Is w7 w5.heap.size (.slice a6 L.length c6) (ints L)) := IA.out.below B7.out
            have BW7 : Hid (Below w5.heap.size w5 w7) := bthen BW.out B7.out
            have a7 := KEEP.out.2.2.1
            have hown := I7.out.own
            rw [ints_length] at hown
            have HNW : Hid ((w7.alloc (.cells #[.int .i64 (i : Int)] 3)).heap[w7.heap.size]? = some (.cells #[.int .i64 (i : Int)] 3)) := heap_alloc_new _ _
            have hw57 := BW7.out.size
            go_wp2_with (at_builtin; refine wpList_append_lies _ rfl _ _ _ rfl w5.heap.size 3 i0 _ 1 8 Try.underlying23 hi0 hz0 hz1 hz2 rfl (by omega) (.slice a6 L.length c6) L.length _ rfl (hown.alloc _) ⟨w7.heap.size, 0, none⟩ 1 1 [.int .i64 (i : Int)] rfl rfl (World.news_of_block (cs := #[.int .i64 (i : Int)]) (t := 3) (fr := (0, 0)) HNW.out) (by simp [Value.oneCell']) (by omega) (by unfold maxLen; omega) (by omega) (by simp; omega) (w7.heap.size + 1) (by simp) ?_; intro gg cap' w8 hown8 hgrow hat hlt8; have B8 : Hid (Below w5.heap.size w5 w8) := (by exact (balloc BW7.out _).grown hgrow (by simp; omega) (fun k hk => (ownBlock_lt hown k hk).1)))
            go_roundw
            case rel => exact ⟨k + 1, by go_num, by omega, by rw [KY.out, ints_snoc]; exact Is.next rfl (by rw [ints_length]) hown8, B8.out⟩
            case measure => simp [intOf]; omega
          · have KY : Hid _ := KJ.out.1 hD
            have HD : Hid _ := hD
            clear hD KJ
            go_region_held3 (fun w' => w'.cell? ⟨w.heap.size, 0, none⟩ = some (.int .i64 n) ∧ w'.cell? ⟨w.heap.size, 1, none⟩ = some (.slice (some ⟨b, off, none⟩) es.length c0) ∧ w'.cell? ⟨X, 1, none⟩ = some (.int .i64 (i : Int)) ∧ w'.cell? ⟨b, off + i * 3, none⟩ = some (.int .i64 (x : Int)) ∧ w'.cell? ⟨b, off + i * 3 + 1, none⟩ = some (.int .i64 (y : Int))) (first | exact KEEP.out | go_keep)
              ((go_at_call 41; refine (joined_at n x y true _ _ es L _ HD.out (by first | exact VA.out.below (bdrewN (Below.refl _ _) _) | exact VA.out.below (Below.drew (Below.refl _ _)) | exact VA.out) (by first | exact SA.out.below (Below.drew (Below.refl _ _)) | exact SA.out.below (bdrewN (Below.refl _ _) _)) HLm.out hLL HG.out hxn hyn).mono ?_; rintro e w7 ⟨rfl, b7⟩; have B7 : Hid (Below Wa.heap.size Wa w7) := (by first | exact bthen (Below.drew (Below.refl _ _)) b7 | exact b7); have KEEP : Hid (w7.cell? ⟨w.heap.size, 0, none⟩ = some (.int .i64 n) ∧ w7.cell? ⟨w.heap.size, 1, none⟩ = some (.slice (some ⟨b, off, none⟩) es.length c0) ∧ w7.cell? ⟨X, 1, none⟩ = some (.int .i64 (i : Int)) ∧ w7.cell? ⟨b, off + i * 3, none⟩ = some (.int .i64 (x : Int)) ∧ w7.cell? ⟨b, off + i * 3 + 1, none⟩ = some (.int .i64 (y : Int))) := (by exact ⟨kept B7.out q0, kept B7.out q1, kept B7.out a1, kept B7.out f0, kept B7.out f1⟩)))
            have I7 : Hid (Is w7 w5.heap.size (.slice a6 L.length c6) (ints L)) := IA.out.below B7.out
            have BW7 : Hid (Below w5.heap.size w5 w7) := bthen BW.out B7.out
            go_wp2_with fail
            go_roundw
            case rel => exact ⟨k + 1, by go_num, by omega, by rw [KY.out]; exact I7.out, BW7.out⟩
            case measure => simp [intOf]; omega
        · obtain rfl : k = es.length := by omega
          rw [List.take_of_length_le (by rw [ids_length]; exact Nat.le_refl _)] at HO ⊢
          go_wp2_with fail
          go_ret
          exact ⟨_, rfl, HO.out.mono Z5.out.size, bthen Z5.out HB.out⟩
end Go.Proofs.Ytdgihpegdcoilaa
