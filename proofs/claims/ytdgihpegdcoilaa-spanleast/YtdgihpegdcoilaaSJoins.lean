/-
  The law fellkeep.SpanJoins, walked.
-/
import Derived.Test.YtdgihpegdcoilaaAl
import Derived.Test.YtdgihpegdcoilaaCa
import Derived.Deep.DeepCutAuto
namespace Go.Proofs.Ytdgihpegdcoilaa.SJoins
open Go.RowKit
open Nm Kk
attribute [local go_sem ↓] Go.wp_at_zero Go.wp_at_succ

theorem chk_pl {n : Nat} {es : List E} {L : List Nat} (hg : Gn n es) (hL : ∀ x, x ∈ L → x < es.length) (hl : L.length ≤ 600) : Un.chk n (pl es L) = 0 := by
  have h1 := hg.n1
  have h2 := hg.n64
  refine Un.chk_good (by omega) (by rw [pl_length]; omega) (fun k hk => ?_)
  have hm := Un.at_mem _ k hk
  obtain ⟨x, hx, he⟩ := List.mem_map.1 hm
  rw [← he]
  have := gn_en hg (hL x hx)
  exact Un.inp_mk this
theorem kru_nodup (es : List E) (l : List Nat) (h : l.Nodup) : (kru es l).Nodup := by
  induction l using rev_ind with
  | h0 => exact List.nodup_nil
  | h1 l a ih =>
    rw [List.nodup_append] at h
    have h1 := ih h.1
    rw [kru_snoc]; unfold kst; split
    · rw [List.nodup_append]
      refine ⟨h1, by simp, fun x hx y hy => h.2.2 x (kru_mem es _ x hx) y hy⟩
    · exact h1
theorem tree_nodup (es : List E) : (tree es).Nodup := kru_nodup es _ ((ids_perm es).nodup_iff.2 List.nodup_range)
theorem tree_length_le (es : List E) : (tree es).length ≤ es.length := by
  have := kru_length es (ids es)
  rw [ids_length] at this; exact this
theorem not_ahead {l : List Nat} (h : l.Nodup) {k : Nat} (hk : k < l.length) : decide (l.getD k 0 ∈ l.take k) = false := by
  refine decide_eq_false (fun hm => ?_)
  have e : l = l.take k ++ l.getD k 0 :: l.drop (k + 1) := by
    conv => lhs; rw [← List.take_append_drop k l, List.drop_eq_getElem_cons hk]
    simp [List.getD_eq_getElem?_getD, hk]
  rw [e, List.nodup_append] at h
  exact h.2.2 _ hm _ (by simp) rfl

theorem sl_take {w : World} {a : Option Addr} {c n i : Nat} {T : List Nat} (h : SlI w (.slice a n c) (ints T)) (hn : n = T.length) (hi : i ≤ n) : SlI w (.slice a i c) (ints (T.take i)) := by
  subst hn
  rcases Nat.eq_zero_or_pos i with rfl | h0
  · exact .no a c rfl (by simp [ints])
  · obtain ⟨b, off, cap, hv, hc, hle⟩ := h.some2 (by rw [ints_length]; omega)
    rw [ints_length] at hv hc hle
    simp only [Value.slice.injEq] at hv
    obtain ⟨rfl, -, rfl⟩ := hv
    have hl : (ints (T.take i)).length = i := by rw [ints_length, List.length_take]; omega
    refine .row b off c (by rw [hl]) (fun k hk => ?_) (by rw [hl]; omega)
    rw [hl] at hk
    have h1 := hc k (by omega)
    rw [ints_at T k (by omega)] at h1
    rw [ints_at (T.take i) k (by rw [List.length_take]; omega), h1]
    congr 3
    simp [List.getD_eq_getElem?_getD, List.getElem?_take_of_lt hk]

theorem contains_at (v : Value) (l : List Nat) (a : Nat) (D : Bool) (w : World) (h : decide (a ∈ l) = D) (hv : SlI w v (ints l)) (hlen : l.length ≤ 9223372036854775806) :
    Calls Try.prog 24 #[v, .int .i64 ((a : Nat) : Int)] w fun e w' => e = .returned (.bool D) ∧ w' = w := by
  have := contains_any v l a w hv hlen
  rw [h] at this; exact this

set_option maxRecDepth 100000 in
set_option maxHeartbeats 8000000 in
theorem walk_net (n : Int) (v : Value) (es : List E) (w : World) (hv : SlE w v es) (hlen : es.length ≤ 9223372036854775807) (hc : nck n es ≠ 0) :
    Calls Try.prog 8 #[.agg #[.int .i64 n, v]] w fun e w' => e = .returned (.bool true) ∧ Below w.heap.size w w' := by
  obtain ⟨a0, c0, rfl⟩ := hv.val
  have HV : Hid _ := hv
  obtain ⟨k1, hk1⟩ : ∃ k, nck n es = k := ⟨_, rfl⟩
  have HK : Hid _ := hk1
  have HD : Hid (∀ W, SlE W (.slice a0 es.length c0) es → Calls Try.prog 17 #[.agg #[.int .i64 n, .slice a0 es.length c0]] W fun e w' => e = .returned (.tuple #[.slice none 0 0, .int .i64 k1]) ∧ Below W.heap.size W w') := fun W hW => by rw [← hk1]; exact tree_no n _ es W hW hlen hc
  have hk0 : k1 ≠ 0 := by rw [← hk1]; exact hc
  have z4 : (k1 != 0) = true := by simp [hk0]
  have z5 : (k1 == 0) = false := by simp [hk0]
  clear hv hc hk1 hk0
  go_enter Try.func8, Try.ntmps8
  go_wp2_with fail
  have P0 : Hid _ := box2_new w n (.slice a0 es.length c0) 35
  have B0 : Hid (Below w.heap.size w (w.alloc (.cells #[.int .i64 n, .slice a0 es.length c0] 35))) := balloc (Below.refl _ _) _
  generalize w.alloc (.cells #[.int .i64 n, .slice a0 es.length c0] 35) = W0 at *
  refine (two_any W0).mono ?_
  rintro e w1 ⟨X, rfl, s1, b1⟩
  have S1 : Hid _ := s1
  have B1 : Hid (Below w.heap.size w w1) := bthen B0.out b1
  have P1 : Hid _ := P0.out.below b1
  clear s1 b1 P0 B0
  go_wp2_with fail
  refine (tree_yes 2 _ [(0, 1, 5)] w1 S1.out two_gn).mono ?_
  rintro e w2 ⟨u2, rfl, s2, b2⟩
  rw [two_tree] at s2
  have S2 : Hid _ := s2
  have B2 : Hid (Below w.heap.size w w2) := bthen B1.out b2
  have P2 : Hid _ := P1.out.below b2
  clear s2 b2 S1 P1 B1
  go_wp2_with fail
  refine (iequal_yes _ _ (ints [0]) _ (S2.out.sl.below (balloc (Below.refl _ _) _)) (lit_nums w2 _ #[.int .i64 0] 1 rfl rfl) (by simp [ints])).mono ?_
  rintro e w3 ⟨rfl, b3⟩
  have B3 : Hid (Below w.heap.size w w3) := bthen (balloc B2.out _) b3
  have P3 : Hid _ := (P2.out.below (balloc (Below.refl _ _) _)).below b3
  obtain ⟨p0, p1⟩ := P3.out
  clear b3 P2 B2 S2
  go_wp2_with fail
  clear p0 p1
  refine (HD.out w3 (HV.out.below B3.out)).mono ?_
  rintro e w4 ⟨rfl, b4⟩
  have B4 : Hid (Below w.heap.size w w4) := bthen B3.out b4
  clear b4
  go_wp2_with fail
  go_ret
  exact ⟨rfl, B4.out⟩
set_option maxRecDepth 100000 in
set_option maxHeartbeats 8000000 in
theorem walk_yes (n : Nat) (v : Value) (es : List E) (w : World) (hv : SlE w v es) (hg : Gn n es) :
    Calls Try.prog 8 #[.agg #[.int .i64 n, v]] w fun e w' => e = .returned (.bool true) ∧ Below w.heap.size w w' := by
  obtain ⟨a0, c0, rfl⟩ := hv.val
  have HV : Hid _ := hv
  have HG : Hid _ := hg
  have hl := hg.len
  have hn64 := hg.n64
  have hTl := tree_length_le es
  have HTm : Hid _ := tree_lt es
  have HTn : Hid _ := tree_nodup es
  have HTg : Hid _ := tree_grp es
  have HMany : Hid (Un.Uf.many n (Un.Uf.grp (pl es (tree es))) + (tree es).length = n) := by
    have := ind_many (n := (n : Int).toNat) (gn_ok hg (tree_lt es)) (kru_ind es _)
    rw [Int.toNat_natCast, pl_length] at this; exact this
  have HC1 : Hid (Un.chk n (pl es (tree es)) = 0) := chk_pl hg (tree_lt es) (by omega)
  have HC2 : Hid (Un.chk n (pl es (List.range es.length)) = 0) := chk_pl hg (fun x hx => by simpa using hx) (by simpa using hl)
  clear hv hg
  go_enter Try.func8, Try.ntmps8
  go_wp2_with fail
  have P0 : Hid _ := box2_new w (n : Int) (.slice a0 es.length c0) 35
  have B0 : Hid (Below w.heap.size w (w.alloc (.cells #[.int .i64 (n : Int), .slice a0 es.length c0] 35))) := balloc (Below.refl _ _) _
  generalize w.alloc (.cells #[.int .i64 (n : Int), .slice a0 es.length c0] 35) = W0 at *
  refine (two_any W0).mono ?_
  rintro e w1 ⟨X, rfl, s1, b1⟩
  have S1 : Hid _ := s1
  have B1 : Hid (Below w.heap.size w w1) := bthen B0.out b1
  have P1 : Hid _ := P0.out.below b1
  clear s1 b1 P0 B0
  go_wp2_with fail
  refine (tree_yes 2 _ [(0, 1, 5)] w1 S1.out two_gn).mono ?_
  rintro e w2 ⟨u2, rfl, s2, b2⟩
  rw [two_tree] at s2
  have S2 : Hid _ := s2
  have B2 : Hid (Below w.heap.size w w2) := bthen B1.out b2
  have P2 : Hid _ := P1.out.below b2
  clear s2 b2 S1 P1 B1
  go_wp2_with fail
  refine (iequal_yes _ _ (ints [0]) _ (S2.out.sl.below (balloc (Below.refl _ _) _)) (lit_nums w2 _ #[.int .i64 0] 1 rfl rfl) (by simp [ints])).mono ?_
  rintro e w3 ⟨rfl, b3⟩
  have B3 : Hid (Below w.heap.size w w3) := bthen (balloc B2.out _) b3
  have P3 : Hid _ := (P2.out.below (balloc (Below.refl _ _) _)).below b3
  obtain ⟨p0, p1⟩ := P3.out
  clear b3 P2 B2 S2
  go_wp2_with fail
  clear p0 p1
  refine (tree_yes n _ es w3 (HV.out.below B3.out) HG.out).mono ?_
  rintro e w4 ⟨u4, rfl, s4, b4⟩
  have B4 : Hid (Below w.heap.size w w4) := bthen B3.out b4
  have P4 : Hid _ := P3.out.below b4
  obtain ⟨a4, c4, rfl⟩ := s4.sl.val
  rw [ints_length] at s4 ⊢
  have S4 : Hid (SlI w4 (.slice a4 (tree es).length c4) (ints (tree es))) := s4.sl
  clear s4 b4 P3 B3
  generalize tree es = T at *
  go_wp2_with fail
  go_loopw [39] (fun z wr => ∃ k : Nat, z = .int .i64 k ∧ k ≤ T.length ∧ Below w4.heap.size w4 wr) (fun z _ => T.length - (intOf z).toNat)
  case atStart => exact ⟨0, rfl, Nat.zero_le _, Below.refl _ _⟩
  case round =>
    obtain ⟨k, rfl, hk, hb⟩ := hrel
    have HB : Hid (Below w4.heap.size w4 wr) := hb
    clear hb
    by_cases hlt : k < T.length
    · have hki : (k : Int) < (T.length : Int) := by omega
      obtain ⟨b1, off1, cap1, hveq, hc⟩ := (S4.out.below HB.out).some2 (by rw [ints_length]; omega)
      rw [ints_length] at hveq hc
      simp only [Value.slice.injEq] at hveq
      obtain ⟨rfl, -, rfl⟩ := hveq
      have l0 := hc.1 k hlt
      rw [ints_at T k hlt] at l0
      have hkc : k ≤ c4 := by have := hc.2; omega
      have hkci : (k : Int) ≤ (c4 : Int) := by omega
      have hm := HTm.out _ (getD_mem T k hlt)
      have HNA : Hid _ := not_ahead HTn.out hlt
      have HST : Hid _ := sl_take (S4.out.below HB.out) rfl (show k ≤ T.length by omega)
      clear hc
      obtain ⟨i, hi⟩ : ∃ i, T.getD k 0 = i := ⟨_, rfl⟩
      rw [hi] at l0 hm HNA
      clear hi
      have hmi : (i : Int) < (es.length : Int) := by omega
      have hm2 : ¬ ((es.length : Int) ≤ (i : Int)) := by omega
      obtain ⟨p0, p1⟩ := P4.out.below HB.out
      have hkw : IntKind.i64.wrap (k : Int) = (k : Int) := by rw [IntKind.wrap_i64]; omega
      go_upto_region 10 with fail
      clear l0
      by_cases hk0 : k = 0
      · subst hk0
        go_wp2_with fail
        refine (contains_at _ _ i false wr HNA.out HST.out (by rw [List.length_take]; omega)).mono ?_
        rintro e w5 ⟨rfl, hw5⟩
        have H5 : Hid (Below w4.heap.size w4 w5) := by rw [hw5]; exact HB.out
        clear hw5
        go_wp2_with fail
        go_roundw
        case rel => exact ⟨0 + 1, by go_num, by omega, H5.out⟩
        case measure => simp [intOf]; omega
      · go_wp2_with fail
        refine (contains_at _ _ i false wr HNA.out HST.out (by rw [List.length_take]; omega)).mono ?_
        rintro e w5 ⟨rfl, hw5⟩
        have H5 : Hid (Below w4.heap.size w4 w5) := by rw [hw5]; exact HB.out
        clear hw5
        go_wp2_with fail
        go_roundw
        case rel => exact ⟨k + 1, by go_num, by omega, H5.out⟩
        case measure => simp [intOf]; omega
    · obtain rfl : k = T.length := by omega
      obtain ⟨p0, p1⟩ := P4.out.below HB.out
      have VV : Hid _ := (HV.out.below B4.out).below HB.out
      have TT : Hid _ := S4.out.below HB.out
      go_wp2_with fail
      go_region_held3 (fun w' => w'.cell? ⟨w.heap.size, 0, none⟩ = some (.int .i64 n) ∧ w'.cell? ⟨w.heap.size, 1, none⟩ = some (.slice a0 es.length c0)) (first | exact KEEP.out | go_keep)
        (first
         | (go_at_call 25; refine (pairs_any n _ _ es T _ (by first | exact VV.out | exact VV.out.below (Below.drew (Below.refl _ _)) | exact VV.out.below (Below.drew (Below.drew (Below.refl _ _))) | exact VV.out.below (Below.drew (Below.drew (Below.drew (Below.refl _ _))))) (by first | exact TT.out | exact TT.out.below (Below.drew (Below.refl _ _)) | exact TT.out.below (Below.drew (Below.drew (Below.refl _ _))) | exact TT.out.below (Below.drew (Below.drew (Below.drew (Below.refl _ _))))) HTm.out (by omega)).mono ?_; rintro e w5 ⟨u5, rfl, q5, b5⟩; have B5 : Hid (Below wr.heap.size wr w5) := (by first | exact b5 | exact bthen (Below.drew (Below.refl _ _)) b5 | exact bthen (Below.drew (Below.drew (Below.refl _ _))) b5 | exact bthen (Below.drew (Below.drew (Below.drew (Below.refl _ _)))) b5); have KEEP : Hid (w5.cell? ⟨w.heap.size, 0, none⟩ = some (.int .i64 n) ∧ w5.cell? ⟨w.heap.size, 1, none⟩ = some (.slice a0 es.length c0)) := (by exact ⟨kept B5.out p0, kept B5.out p1⟩))
         | (go_at_call 12; refine (Un.of_yes n _ (pl es T) _ (by first | exact q5.sl | exact q5.sl.below (Below.drew (Below.refl _ _)) | exact q5.sl.below (Below.drew (Below.drew (Below.refl _ _)))) HC1.out).mono ?_; rintro e w6 ⟨ga, rfl, hga, ua, b6⟩; have B6 : Hid (Below wr.heap.size wr w6) := (by first | exact bthen B5.out b6 | exact bthen (Below.drew B5.out) b6 | exact bthen (Below.drew (Below.drew B5.out)) b6); have KEEP : Hid (w6.cell? ⟨w.heap.size, 0, none⟩ = some (.int .i64 n) ∧ w6.cell? ⟨w.heap.size, 1, none⟩ = some (.slice a0 es.length c0)) := (by exact ⟨kept B6.out p0, kept B6.out p1⟩))
         | fail)
      have P6 : Hid (Box2 w6 w.heap.size n (.slice a0 es.length c0)) := (P4.out.below HB.out).below B6.out
      have V6 : Hid _ := VV.out.below B6.out
      have T6 : Hid _ := TT.out.below B6.out
      have A6 : Hid (Un.Ur w6 ga n (Un.Uf.grp (pl es T))) := ua
      have Z6 : Hid (Below w.heap.size w w6) := bthen (bthen B4.out HB.out) B6.out
      clear ua q5 b5 b6 hga VV TT KEEP p0 p1
      obtain ⟨p0, p1⟩ := P6.out
      go_wp2_with fail
      go_region_held3 (fun w' => w'.cell? ⟨w.heap.size, 0, none⟩ = some (.int .i64 n) ∧ w'.cell? ⟨w.heap.size, 1, none⟩ = some (.slice a0 es.length c0)) (first | exact KEEP.out | go_keep)
        (first
         | (go_at_call 26; refine (all_any n _ es _ (by first | exact V6.out | exact V6.out.below (Below.drew (Below.refl _ _)) | exact V6.out.below (Below.drew (Below.drew (Below.refl _ _))) | exact V6.out.below (Below.drew (Below.drew (Below.drew (Below.refl _ _))))) hl).mono ?_; rintro e w7 ⟨u7, rfl, s7, b7⟩; have B7 : Hid (Below w6.heap.size w6 w7) := (by first | exact bthen (Below.refl w6.heap.size w6) b7 | exact bthen (Below.drew (Below.refl w6.heap.size w6)) b7 | exact bthen (Below.drew (Below.drew (Below.refl w6.heap.size w6))) b7 | exact bthen (Below.drew (Below.drew (Below.drew (Below.refl w6.heap.size w6)))) b7); have KEEP : Hid (w7.cell? ⟨w.heap.size, 0, none⟩ = some (.int .i64 n) ∧ w7.cell? ⟨w.heap.size, 1, none⟩ = some (.slice a0 es.length c0)) := (by exact ⟨kept B7.out p0, kept B7.out p1⟩))
         | (go_at_call 25; refine (pairs_any n _ _ es (List.range es.length) _ (by first | exact V6.out.below B7.out | exact V6.out.below (Below.drew B7.out) | exact V6.out.below (Below.drew (Below.drew B7.out))) (by first | exact s7.sl | exact s7.sl.below (Below.drew (Below.refl _ _)) | exact s7.sl.below (Below.drew (Below.drew (Below.refl _ _))) | exact s7.sl.below (Below.drew (Below.drew (Below.drew (Below.refl _ _))))) (fun x hx => by simpa using hx) (by simpa using hl)).mono ?_; rintro e w8 ⟨u8, rfl, q8, b8⟩; have B8 : Hid (Below w6.heap.size w6 w8) := (by first | exact bthen (B7.out) b8 | exact bthen (Below.drew (B7.out)) b8 | exact bthen (Below.drew (Below.drew (B7.out))) b8 | exact bthen (Below.drew (Below.drew (Below.drew (B7.out)))) b8); have KEEP : Hid (w8.cell? ⟨w.heap.size, 0, none⟩ = some (.int .i64 n) ∧ w8.cell? ⟨w.heap.size, 1, none⟩ = some (.slice a0 es.length c0)) := (by exact ⟨kept B8.out p0, kept B8.out p1⟩))
         | (go_at_call 12; refine (Un.of_yes n _ (pl es (List.range es.length)) _ (by first | exact q8.sl | exact q8.sl.below (Below.drew (Below.refl _ _)) | exact q8.sl.below (Below.drew (Below.drew (Below.refl _ _))) | exact q8.sl.below (Below.drew (Below.drew (Below.drew (Below.refl _ _))))) HC2.out).mono ?_; rintro e w9 ⟨gb, rfl, hgb, ub, b9⟩; have B9 : Hid (Below w6.heap.size w6 w9) := (by first | exact bthen (B8.out) b9 | exact bthen (Below.drew (B8.out)) b9 | exact bthen (Below.drew (Below.drew (B8.out))) b9 | exact bthen (Below.drew (Below.drew (Below.drew (B8.out)))) b9); have KEEP : Hid (w9.cell? ⟨w.heap.size, 0, none⟩ = some (.int .i64 n) ∧ w9.cell? ⟨w.heap.size, 1, none⟩ = some (.slice a0 es.length c0)) := (by exact ⟨kept B9.out p0, kept B9.out p1⟩))
         | fail)
      have P9 : Hid (Box2 w9 w.heap.size n (.slice a0 es.length c0)) := P6.out.below B9.out
      have V9 : Hid _ := V6.out.below B9.out
      have T9 : Hid _ := T6.out.below B9.out
      have A9 : Hid _ := A6.out.below B9.out
      have UB9 : Hid (Un.Ur w9 gb n (Un.Uf.grp (pl es (List.range es.length)))) := ub
      have Z9 : Hid (Below w.heap.size w w9) := bthen Z6.out B9.out
      clear ub q8 s7 b7 b8 b9 hgb KEEP p0 p1 A6 V6 T6 P6 Z6
      obtain ⟨p0, p1⟩ := P9.out
      go_wp2_with fail
      go_region_held3 (fun w' => w'.cell? ⟨w.heap.size, 0, none⟩ = some (.int .i64 n) ∧ w'.cell? ⟨w.heap.size, 1, none⟩ = some (.slice a0 es.length c0)) (first | exact KEEP.out | go_keep)
        (first
         | (go_at_call 25; refine (pairs_any n _ _ es T _ (by first | exact V9.out | exact V9.out.below (Below.drew (Below.refl _ _)) | exact V9.out.below (Below.drew (Below.drew (Below.refl _ _))) | exact V9.out.below (Below.drew (Below.drew (Below.drew (Below.refl _ _))))) (by first | exact T9.out | exact T9.out.below (Below.drew (Below.refl _ _)) | exact T9.out.below (Below.drew (Below.drew (Below.refl _ _))) | exact T9.out.below (Below.drew (Below.drew (Below.drew (Below.refl _ _))))) HTm.out (by omega)).mono ?_; rintro e w10 ⟨u10, rfl, q10, b10⟩; have B10 : Hid (Below w9.heap.size w9 w10) := (by first | exact bthen (Below.refl w9.heap.size w9) b10 | exact bthen (Below.drew (Below.refl w9.heap.size w9)) b10 | exact bthen (Below.drew (Below.drew (Below.refl w9.heap.size w9))) b10 | exact bthen (Below.drew (Below.drew (Below.drew (Below.refl w9.heap.size w9)))) b10); have KEEP : Hid (w10.cell? ⟨w.heap.size, 0, none⟩ = some (.int .i64 n) ∧ w10.cell? ⟨w.heap.size, 1, none⟩ = some (.slice a0 es.length c0)) := (by exact ⟨kept B10.out p0, kept B10.out p1⟩))
         | (go_at_call 13; refine (Un.many_yes n _ (pl es T) _ (by first | exact q10.sl | exact q10.sl.below (Below.drew (Below.refl _ _)) | exact q10.sl.below (Below.drew (Below.drew (Below.refl _ _))) | exact q10.sl.below (Below.drew (Below.drew (Below.drew (Below.refl _ _))))) HC1.out).mono ?_; rintro e w11 ⟨rfl, b11⟩; have B11 : Hid (Below w9.heap.size w9 w11) := (by first | exact bthen (B10.out) b11 | exact bthen (Below.drew (B10.out)) b11 | exact bthen (Below.drew (Below.drew (B10.out))) b11 | exact bthen (Below.drew (Below.drew (Below.drew (B10.out)))) b11); have KEEP : Hid (w11.cell? ⟨w.heap.size, 0, none⟩ = some (.int .i64 n) ∧ w11.cell? ⟨w.heap.size, 1, none⟩ = some (.slice a0 es.length c0)) := (by exact ⟨kept B11.out p0, kept B11.out p1⟩))
         | fail)
      have P11 : Hid (Box2 w11 w.heap.size n (.slice a0 es.length c0)) := P9.out.below B11.out
      have A11 : Hid _ := A9.out.below B11.out
      have UB11 : Hid _ := UB9.out.below B11.out
      have Z11 : Hid (Below w.heap.size w w11) := bthen Z9.out B11.out
      clear q10 b10 b11 KEEP p0 p1 A9 V9 T9 P9 Z9 UB9
      obtain ⟨p0, p1⟩ := P11.out
      generalize Un.Uf.many n (Un.Uf.grp (pl es T)) = m at *
      go_wp2_with fail
      refine (Un.equal_yes ga gb n n n _ _ w11 A11.out UB11.out (by omega) (fun x _ => by rw [HTg.out])).mono ?_
      rintro e w12 ⟨rfl, q, rfl⟩
      have P12 : Hid (Box2 (w11.drewN q) w.heap.size n (.slice a0 es.length c0)) := P11.out.below (bdrewN (Below.refl _ _) q)
      have Z12 : Hid (Below w.heap.size w (w11.drewN q)) := bdrewN Z11.out q
      clear p0 p1 P11 A11 UB11 Z11
      generalize w11.drewN q = w12 at *
      obtain ⟨p0, p1⟩ := P12.out
      have hwn : IntKind.i64.wrap ((n : Int) - (T.length : Int)) = (n : Int) - (T.length : Int) := by rw [IntKind.wrap_i64]; omega
      have hmm : (m : Int) = (n : Int) - (T.length : Int) := by have := HMany.out; omega
      have HEQ : Hid (((m : Int) == (n : Int) - (T.length : Int)) = true) := by unfold Hid; rw [hmm]; simp
      have heq := HEQ.out
      clear hmm
      go_wp2_with fail
      go_ret
      exact ⟨rfl, Z12.out⟩
theorem walk (n : Int) (v : Value) (es : List E) (w : World) (hv : SlE w v es) (hlen : es.length ≤ 9223372036854775807) :
    Calls Try.prog 8 #[.agg #[.int .i64 n, v]] w fun e w' => e = .returned (.bool true) ∧ Below w.heap.size w w' := by
  by_cases hc : nck n es = 0
  · have hg := nck_zero.1 hc
    obtain ⟨m, rfl⟩ := Int.eq_ofNat_of_zero_le (show 0 ≤ n by have := hg.n1; omega)
    exact walk_yes m v es w hv hg
  · exact walk_net n v es w hv hlen hc
end Go.Proofs.Ytdgihpegdcoilaa.SJoins
