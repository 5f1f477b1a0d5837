/-
  The walk of the law fellkeep.UnionOne: it returns true, and writes nothing that was there.
-/
import Derived.Test.YtdgihpegdcoilaaUI
import Derived.Test.YtdgihpegdcoilaaUG
import Derived.ProofKit
import Derived.OpenShut
import Derived.Lib.SmallJoins
import Derived.Deep.RegionWith
import Derived.Deep.DeepCutAuto
namespace Go.Proofs.Ytdgihpegdcoilaa.Un.UOne
open Go.ChangeShapes Go.WideShapes Go.ChangeAt Go.RowKit Go.Joins
open Uf
attribute [local go_sem ↓] Go.wp_at_zero Go.wp_at_succ

/-- What Of answers, whatever it is given. -/
def Ans (w : World) (n : Int) (va : Value) (ls : List (Int × Int)) : Prop :=
  (chk n ls ≠ 0 ∧ va = .slice none 0 0) ∨ (chk n ls = 0 ∧ ∃ g m : Nat, n = m ∧ va = .slice (some ⟨g, 0, none⟩) m m ∧ Ur w g m (grp ls))
theorem Ans.below {w w' : World} {n : Int} {va : Value} {ls : List (Int × Int)} (h : Ans w n va ls) (hb : Below w.heap.size w w') : Ans w' n va ls := by
  rcases h with h | ⟨h1, g, m, h2, h3, h4⟩
  · exact .inl h
  · exact .inr ⟨h1, g, m, h2, h3, h4.below hb⟩
theorem of_gen (n : Int) (v : Value) (ls : List (Int × Int)) (w : World) (hv : SlR w v ls) (hlen : ls.length ≤ 8796093022208) :
    Calls Try.prog 12 #[.int .i64 n, v] w fun e w' => ∃ va, e = .returned (.tuple #[va, .int .i64 (chk n ls)]) ∧ Ans w' n va ls ∧ Below w.heap.size w w' := by
  by_cases hc : chk n ls = 0
  · obtain ⟨m, rfl⟩ := Int.eq_ofNat_of_zero_le (chk_zero hc).1
    refine (of_yes m v ls w hv hc).mono ?_
    rintro e w' ⟨g, rfl, h1, h2, h3⟩
    exact ⟨_, by rw [hc], .inr ⟨hc, g, m, rfl, rfl, h2⟩, h3⟩
  · refine (of_no n v ls w hv hlen hc).mono ?_
    rintro e w' ⟨rfl, h3⟩
    exact ⟨_, rfl, .inl ⟨hc, rfl⟩, h3⟩
/-- How many groups, whatever is given. -/
def mny (n : Int) (ls : List (Int × Int)) : Nat := if chk n ls = 0 then many n.toNat (grp ls) else 0
theorem many_gen (n : Int) (v : Value) (ls : List (Int × Int)) (w : World) (hv : SlR w v ls) (hlen : ls.length ≤ 8796093022208) :
    Calls Try.prog 13 #[.int .i64 n, v] w fun e w' => e = .returned (.tuple #[.int .i64 (mny n ls), .int .i64 (chk n ls)]) ∧ Below w.heap.size w w' := by
  unfold mny
  by_cases hc : chk n ls = 0
  · rw [if_pos hc]
    obtain ⟨m, rfl⟩ := Int.eq_ofNat_of_zero_le (chk_zero hc).1
    refine (many_yes m v ls w hv hc).mono ?_
    rintro e w' ⟨rfl, h3⟩
    exact ⟨by rw [hc, Int.toNat_natCast], h3⟩
  · rw [if_neg hc]
    exact many_no n v ls w hv hlen hc

theorem snoc_slr {w : World} {b n cap gg : Nat} {ls : List (Int × Int)} {x y : Int} (hn : n = ls.length) (h : w.ownsRow b 43 2 (.slice (some ⟨gg, 0, none⟩) (n + 1) cap) (n + 1) (flat ls ++ [.int .i64 x, .int .i64 y])) : SlR w (.slice (some ⟨gg, 0, none⟩) (n + 1) cap) (ls ++ [(x, y)]) := by
  have e : flat ls ++ [.int .i64 x, .int .i64 y] = flat (ls ++ [(x, y)]) := by rw [flat_append]; rfl
  rw [e] at h
  exact owns_slr (by simp [hn]) h

theorem lit_at {w : World} {B : Nat} (hB : B = w.heap.size) (x y : Int) : SlR (w.alloc (.cells #[.int .i64 x, .int .i64 y] 43)) (.slice (some ⟨B, 0, none⟩) 1 1) [(x, y)] := by subst hB; exact lit_one w x y

theorem owns_mono {w : World} {b b' n : Nat} {v : Value} {xs : List Value} (hb : b' ≤ b) (h : w.ownsRow b 43 2 v n xs) : w.ownsRow b' 43 2 v n xs := by
  obtain ⟨h1, h2⟩ := h
  refine ⟨h1, ?_⟩
  rcases h2 with h2 | ⟨g, cap, cur, h3, h4, h5⟩
  · exact .inl h2
  · exact .inr ⟨g, cap, cur, h3, Nat.le_trans hb h4, h5⟩
theorem bcell {W w1 : World} (hb : Below W.heap.size W w1) : (∀ b o, b < W.heap.size → w1.cell? ⟨b, o, none⟩ = W.cell? ⟨b, o, none⟩) ∧ (∀ b o, b < W.heap.size → w1.frozen? ⟨b, o, none⟩ = W.frozen? ⟨b, o, none⟩) :=
  ⟨fun b o h => hb.cell (p := ⟨b, o, none⟩) h, fun b o h => hb.frozen (p := ⟨b, o, none⟩) h⟩

/-- The state ahead of the pair: its box, and the list. -/
structure St (w W : World) (X : Nat) (x y : Int) (v : Value) (ls : List (Int × Int)) : Prop where
  c0 : W.cell? ⟨X, 0, none⟩ = some (.int .i64 x)
  c1 : W.cell? ⟨X, 1, none⟩ = some (.int .i64 y)
  sl : SlR W v ls
  be : Below w.heap.size w W
theorem St.below {w W W' : World} {X : Nat} {x y : Int} {v : Value} {ls : List (Int × Int)} (h : St w W X x y v ls) (hb : Below W.heap.size W W') : St w W' X x y v ls :=
  ⟨kept hb h.c0, kept hb h.c1, h.sl.below hb, bthen h.be hb⟩
theorem st_start (w : World) (x y : Int) (v : Value) (ls : List (Int × Int)) (hv : SlR w v ls) : St w (w.alloc (.cells #[.int .i64 x, .int .i64 y] 43)) w.heap.size x y v ls := by
  have hn := heap_alloc_new w (.cells #[.int .i64 x, .int .i64 y] 43)
  have hb : Below w.heap.size w (w.alloc (.cells #[.int .i64 x, .int .i64 y] 43)) := balloc (Below.refl _ _) _
  exact ⟨by unfold World.cell?; rw [hn]; rfl, by unfold World.cell?; rw [hn]; rfl, hv.below hb, hb⟩

set_option maxRecDepth 100000 in
set_option maxHeartbeats 8000000 in
theorem walk (n : Int) (v : Value) (ls : List (Int × Int)) (x y : Int) (w : World) (hv : SlR w v ls) (hlen : ls.length ≤ 8796093021952) :
    Calls Try.prog 6 #[.int .i64 n, v, .agg #[.int .i64 x, .int .i64 y]] w fun e w' => e = .returned (.bool true) ∧ Below w.heap.size w w' := by
  obtain ⟨a, c, rfl⟩ := hv.val
  have HV : Hid _ := hv
  clear hv
  go_enter Try.func6, Try.ntmps6
  go_wp2_with fail
  obtain ⟨W0, hW0⟩ : ∃ W, W = w.alloc (.cells #[.int .i64 x, .int .i64 y] 43) := ⟨_, rfl⟩
  obtain ⟨X, hX⟩ : ∃ X, X = w.heap.size := ⟨_, rfl⟩
  rw [← hW0, ← hX]
  have hs0 : W0.heap.size = X + 1 := by rw [hW0, hX]; simp
  have S0 : Hid (St w W0 X x y (.slice a ls.length c) ls) := by rw [hW0, hX]; exact st_start w x y _ ls HV.out
  clear hW0 hX HV
  refine (of_three _ _ (lit_at hs0.symm 2 1)).mono ?_
  rintro e w1 ⟨g, rfl, hg, r1, b1⟩
  have HU1 : Hid _ := r1
  have S1 : Hid (St w w1 X x y (.slice a ls.length c) ls) := S0.out.below (bthen (balloc (Below.refl _ _) _) b1)
  clear b1 r1 hg S0 hs0
  go_wp2_with fail
  refine (equal_yes g w1.heap.size 3 3 3 _ _ _ (HU1.out.below (balloc (Below.refl _ _) _)) (lit_three w1) (by omega) (fun _ _ => rfl)).mono ?_
  rintro e w2 ⟨rfl, q, rfl⟩
  have S2 : Hid (St w ((w1.alloc (.cells #[.int .i64 0, .int .i64 1, .int .i64 1] 3)).drewN q) X x y (.slice a ls.length c) ls) := S1.out.below (bdrewN (balloc (Below.refl _ _) _) q)
  generalize (w1.alloc (.cells #[.int .i64 0, .int .i64 1, .int .i64 1] 3)).drewN q = W2 at *
  clear S1 HU1
  go_wp2_with fail
  refine (of_gen n _ ls W2 S2.out.sl (by omega)).mono ?_
  rintro e w3 ⟨va, rfl, an3, b3⟩
  have S3 : Hid (St w w3 X x y (.slice a ls.length c) ls) := S2.out.below b3
  have A3 : Hid (Ans w3 n va ls) := an3
  clear an3 b3 S2
  go_upto_region 5 with fail
  go_cut [11, 12] (fun vb fb wc => ∃ z : Int, fb = .int .i64 z ∧ z = chk n (ls ++ [(x, y)]) ∧ Ans wc n vb (ls ++ [(x, y)]) ∧ Below w3.heap.size w3 wc)
  case first =>
    have hXlt : X < w3.heap.size := World.block_lt_of_cell? w3 ⟨X, 0, none⟩ S3.out.c0
    obtain ⟨i0, hi0, hz0, hz1, hz2⟩ := info34_parts
    have s0 := S3.out.c0
    have s1 := S3.out.c1
    go_region_held3 (fun w' => w'.cell? ⟨X, 0, none⟩ = some (.int .i64 x) ∧ w'.cell? ⟨X, 1, none⟩ = some (.int .i64 y)) (first | go_keep | (refine ⟨?_, ?_⟩ <;> rw [hcc _ _ (by simp; omega)] <;> go_keep))
      (first
       | (go_at_call 22; refine (clone_any _ ls _ ?_ (by omega)).mono ?_; (first | exact S3.out.sl.below (Below.drew (Below.refl _ _)) | exact S3.out.sl.below (Below.drew (balloc (Below.refl _ _) _)) | exact S3.out.sl.below (balloc (Below.drew (Below.refl _ _)) _)); rintro e w4 ⟨vv, rfl, hown0, hb0⟩; obtain ⟨hcc, hff⟩ := bcell hb0; have hown := owns_mono (b' := w3.heap.size) (by simp) hown0; have HB4 : Hid (Below w3.heap.size w3 w4) := (by first | exact bthen (Below.drew (Below.refl _ _)) hb0 | exact bthen (Below.drew (balloc (Below.refl _ _) _)) hb0 | exact bthen (balloc (Below.drew (Below.refl _ _)) _) hb0))
       | (refine step_append_lies _ (by rfl) _ _ _ (by rfl) w3.heap.size 43 i0 _ 2 16 Try.underlying22 hi0 hz0 hz1 hz2 rfl (by omega) vv ls.length (flat ls) (by rfl) (hown.alloc _)
            ⟨w4.heap.size, 0, none⟩ 1 1 [.int .i64 x, .int .i64 y] (by rfl) (by rfl) (World.news_of_block (cs := #[.int .i64 x, .int .i64 y]) (t := 43) (fr := (0, 0)) (heap_alloc_new w4 _)) (by simp [Value.oneCell'])
            (by omega) (by unfold maxLen; omega) (by omega) (by have := HB4.out.size; simp; omega) (w4.heap.size + 1) (by simp) ?_; intro gg cap' w5 hown5 hgrow hat hlt5; have HB5 : Hid (Below w3.heap.size w3 w5) := ((balloc HB4.out _).grown hgrow (balloc HB4.out _).size (fun k hk => (ownBlock_lt hown k hk).1)); obtain ⟨hcc, hff⟩ := bcell HB5.out)
       | (refine step_append_lies _ (by rfl) _ _ _ (by rfl) w3.heap.size 43 i0 _ 2 16 Try.underlying22 hi0 hz0 hz1 hz2 rfl (by omega) vv ls.length (flat ls) (by rfl) hown
            ⟨w3.heap.size, 0, none⟩ 1 1 [.int .i64 x, .int .i64 y] (by rfl) (by rfl) (World.news_of_block (cs := #[.int .i64 x, .int .i64 y]) (t := 43) (fr := (0, 0)) ((hb0.block _ (by simp)).trans (heap_alloc_new w3 _))) (by simp [Value.oneCell'])
            (by omega) (by unfold maxLen; omega) (by omega) HB4.out.size w4.heap.size rfl ?_; intro gg cap' w5 hown5 hgrow hat hlt5; have HB5 : Hid (Below w3.heap.size w3 w5) := (HB4.out.grown hgrow HB4.out.size (fun k hk => (ownBlock_lt hown k hk).1)); obtain ⟨hcc, hff⟩ := bcell HB5.out)
       | (go_at_call 12; refine (of_gen n _ (ls ++ [(x, y)]) w5 (snoc_slr rfl hown5) (by simp; omega)).mono ?_; rintro e w6 ⟨vb, rfl, an6, b6⟩; obtain ⟨hcc, hff⟩ := bcell (bthen HB5.out b6))
       | fail)
    all_goals
      go_wp2_with fail
      go_meet
      exact ⟨_, rfl, rfl, an6, bthen HB5.out b6⟩
  case rest =>
    obtain ⟨z, rfl, hz, an, hb⟩ := hcut
    have A6 : Hid (Ans wc n u11 (ls ++ [(x, y)])) := an
    have A7 : Hid (Ans wc n va ls) := A3.out.below hb
    have S7 : Hid (St w wc X x y (.slice a ls.length c) ls) := S3.out.below hb
    have HZ : Hid _ := hz
    clear an hb hz A3 S3
    go_wp2_with fail
    refine (many_gen n _ ls wc S7.out.sl (by omega)).mono ?_
    rintro e w8 ⟨rfl, b8⟩
    have A8 : Hid (Ans w8 n u11 (ls ++ [(x, y)])) := A6.out.below b8
    have A9 : Hid (Ans w8 n va ls) := A7.out.below b8
    have S8 : Hid (St w w8 X x y (.slice a ls.length c) ls) := S7.out.below b8
    clear A6 A7 S7 b8
    go_upto_region 7 with fail
    go_cut [15, 16] (fun vb fb wd => vb = .int .i64 (mny n (ls ++ [(x, y)])) ∧ fb = .int .i64 (chk n (ls ++ [(x, y)])) ∧ Below w8.heap.size w8 wd)
    case first =>
      have hXlt : X < w8.heap.size := World.block_lt_of_cell? w8 ⟨X, 0, none⟩ S8.out.c0
      obtain ⟨i0, hi0, hz0, hz1, hz2⟩ := info34_parts
      have s0 := S8.out.c0
      have s1 := S8.out.c1
      go_region_held3 (fun w' => w'.cell? ⟨X, 0, none⟩ = some (.int .i64 x) ∧ w'.cell? ⟨X, 1, none⟩ = some (.int .i64 y)) (first | go_keep | (refine ⟨?_, ?_⟩ <;> rw [hcc _ _ (by simp; omega)] <;> go_keep))
        (first
         | (go_at_call 22; refine (clone_any _ ls _ ?_ (by omega)).mono ?_; (first | exact S8.out.sl.below (Below.drew (Below.refl _ _)) | exact S8.out.sl.below (Below.drew (balloc (Below.refl _ _) _)) | exact S8.out.sl.below (balloc (Below.drew (Below.refl _ _)) _)); rintro e w4 ⟨vv, rfl, hown0, hb0⟩; obtain ⟨hcc, hff⟩ := bcell hb0; have hown := owns_mono (b' := w8.heap.size) (by simp) hown0; have HB4 : Hid (Below w8.heap.size w8 w4) := (by first | exact bthen (Below.drew (Below.refl _ _)) hb0 | exact bthen (Below.drew (balloc (Below.refl _ _) _)) hb0 | exact bthen (balloc (Below.drew (Below.refl _ _)) _) hb0))
         | (refine step_append_lies _ (by rfl) _ _ _ (by rfl) w8.heap.size 43 i0 _ 2 16 Try.underlying22 hi0 hz0 hz1 hz2 rfl (by omega) vv ls.length (flat ls) (by rfl) (hown.alloc _)
              ⟨w4.heap.size, 0, none⟩ 1 1 [.int .i64 x, .int .i64 y] (by rfl) (by rfl) (World.news_of_block (cs := #[.int .i64 x, .int .i64 y]) (t := 43) (fr := (0, 0)) (heap_alloc_new w4 _)) (by simp [Value.oneCell'])
              (by omega) (by unfold maxLen; omega) (by omega) (by have := HB4.out.size; simp; omega) (w4.heap.size + 1) (by simp) ?_; intro gg cap' w5 hown5 hgrow hat hlt5; have HB5 : Hid (Below w8.heap.size w8 w5) := ((balloc HB4.out _).grown hgrow (balloc HB4.out _).size (fun k hk => (ownBlock_lt hown k hk).1)); obtain ⟨hcc, hff⟩ := bcell HB5.out)
         | (refine step_append_lies _ (by rfl) _ _ _ (by rfl) w8.heap.size 43 i0 _ 2 16 Try.underlying22 hi0 hz0 hz1 hz2 rfl (by omega) vv ls.length (flat ls) (by rfl) hown
              ⟨w8.heap.size, 0, none⟩ 1 1 [.int .i64 x, .int .i64 y] (by rfl) (by rfl) (World.news_of_block (cs := #[.int .i64 x, .int .i64 y]) (t := 43) (fr := (0, 0)) ((hb0.block _ (by simp)).trans (heap_alloc_new w8 _))) (by simp [Value.oneCell'])
              (by omega) (by unfold maxLen; omega) (by omega) HB4.out.size w4.heap.size rfl ?_; intro gg cap' w5 hown5 hgrow hat hlt5; have HB5 : Hid (Below w8.heap.size w8 w5) := (HB4.out.grown hgrow HB4.out.size (fun k hk => (ownBlock_lt hown k hk).1)); obtain ⟨hcc, hff⟩ := bcell HB5.out)
         | (go_at_call 13; refine (many_gen n _ (ls ++ [(x, y)]) w5 (snoc_slr rfl hown5) (by simp; omega)).mono ?_; rintro e w6 ⟨rfl, b6⟩; obtain ⟨hcc, hff⟩ := bcell (bthen HB5.out b6))
         | fail)
      all_goals
        go_wp2_with fail
        go_meet
        exact ⟨rfl, rfl, bthen HB5.out b6⟩
    case rest =>
      obtain ⟨rfl, rfl, hb9⟩ := hcut
      have A10 : Hid (Ans wc n u11 (ls ++ [(x, y)])) := A8.out.below hb9
      have A11 : Hid (Ans wc n va ls) := A9.out.below hb9
      have S10 : Hid (St w wc X x y (.slice a ls.length c) ls) := S8.out.below hb9
      obtain rfl : z = chk n (ls ++ [(x, y)]) := HZ.out
      clear hb9 A8 A9 S8 HZ
      by_cases h1 : chk n ls = 0
      · by_cases h2 : chk n (ls ++ [(x, y)]) = 0
        · rcases A11.out with ⟨h, _⟩ | ⟨_, ga, m, rfl, rfl, ua⟩
          · exact absurd h1 h
          rcases A10.out with ⟨h, _⟩ | ⟨_, gb, m', hm', rfl, ub⟩
          · exact absurd h2 h
          obtain rfl : m = m' := by omega
          obtain ⟨-, hn, hl, hok⟩ := chk_zero h2
          rw [Int.toNat_natCast] at hok
          obtain ⟨o1, o2, o3, o4⟩ := hok (x, y) (by simp)
          simp only at o1 o2 o3 o4
          obtain ⟨i, rfl⟩ := Int.eq_ofNat_of_zero_le o1
          obtain ⟨j, rfl⟩ := Int.eq_ofNat_of_zero_le o3
          have hi : i < m := by omega
          have hj : j < m := by omega
          have M1 : mny m ls = many m (grp ls) := by unfold mny; rw [if_pos h1, Int.toNat_natCast]
          have hgs : grp (ls ++ [((i : Int), (j : Int))]) = jn (grp ls) i j := by rw [grp_snoc, Int.toNat_natCast, Int.toNat_natCast]
          have M2 : mny m (ls ++ [((i : Int), (j : Int))]) = many m (jn (grp ls) i j) := by unfold mny; rw [if_pos h2, Int.toNat_natCast, hgs]
          rw [hgs] at ub
          rw [h1, h2, M1, M2]
          have HSame : Hid (grp ls i = grp ls j → many m (jn (grp ls) i j) = many m (grp ls) ∧ ∀ k, k < m → grp ls k = jn (grp ls) i j k) := fun e => by
            have : ∀ k, jn (grp ls) i j k = grp ls k := fun k => jn_same _ i j k e
            refine ⟨?_, fun k _ => (this k).symm⟩
            unfold many
            exact cnt_congr (fun k _ => by rw [this k])
          have HLess : Hid (grp ls i ≠ grp ls j → many m (jn (grp ls) i j) + 1 = many m (grp ls)) := fun e => many_less (good_grp ls).le (good_grp ls).idem hi hj e
          have UA : Hid _ := ua
          have UB : Hid _ := ub
          have hmle := many_le m (grp ls)
          have hmle2 := many_le m (jn (grp ls) i j)
          obtain ⟨ca, -⟩ := ua.cell i hi
          obtain ⟨cb, -⟩ := ua.cell j hj
          obtain ⟨cc, -⟩ := ub.cell i hi
          obtain ⟨cd, -⟩ := ub.cell j hj
          rw [← jn_both] at cd
          generalize jn (grp ls) i j i = r at *
          obtain ⟨ba, bb, -, -⟩ := S10.out
          have hii : (i : Int) < (m : Int) := by omega
          have hjj : (j : Int) < (m : Int) := by omega
          have hm64 : m ≤ 64 := by omega
          have hmm : Hid (m = m) := rfl
          clear h1 h2 M1 M2 hgs hm' ua ub hok A10 A11 o1 o2 o3 o4 hn hl hlen
          generalize many m (jn (grp ls) i j) = m2 at *
          generalize many m (grp ls) = m1 at *
          by_cases hp : grp ls i = grp ls j
          · obtain ⟨rfl, heq⟩ := HSame.out hp
            rw [← hp] at cb
            generalize grp ls i = p at *
            have HEQ : Hid _ := heq
            clear heq hp HSame HLess
            go_wp2_with fail
            go_quiet (fail)
            go_wp2_with fail
            go_quiet (fail)
            go_wp2_with fail
            refine (equal_yes ga gb m m m _ _ _ (UA.out.drewN _) (UB.out.drewN _) hm64 HEQ.out).mono ?_
            rintro e w11 ⟨rfl, q11, rfl⟩
            go_wp2_with fail
            go_ret
            exact ⟨rfl, bdrewN S10.out.be _⟩
          · have hless := HLess.out hp
            have e1 : ((grp ls i : Int) == (grp ls j : Int)) = false := by simp; omega
            generalize grp ls i = p at *
            generalize grp ls j = p' at *
            clear hp HSame HLess
            obtain rfl : m1 = m2 + 1 := by omega
            clear hless
            have e2 : ((m2 : Int) == ((m2 + 1 : Nat) : Int) - 1) = true := by simp
            go_wp2_with fail
            go_quiet (fail)
            go_wp2_with fail
            go_quiet (fail)
            go_wp2_with fail
            go_ret
            exact ⟨rfl, bdrewN S10.out.be _⟩
        · have hz : (chk n (ls ++ [(x, y)]) != 0) = true := by simp [h2]
          rw [h1]
          go_wp2_with fail
          go_ret
          exact ⟨rfl, S10.out.be⟩
      · have hz : (chk n ls != 0) = true := by simp [h1]
        have hz' : (chk n ls == 0) = false := by simp [h1]
        rcases A11.out with ⟨_, rfl⟩ | ⟨h, _⟩
        · go_wp2_with fail
          go_ret
          exact ⟨rfl, S10.out.be⟩
        · exact absurd h h1
end Go.Proofs.Ytdgihpegdcoilaa.Un.UOne
