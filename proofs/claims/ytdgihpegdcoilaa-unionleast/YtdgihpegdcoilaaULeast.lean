/-
  The walk of the law fellkeep.UnionLeast: it returns true, and writes nothing that was there.
-/
import Derived.Test.YtdgihpegdcoilaaUH
import Derived.Test.YtdgihpegdcoilaaUG
import Derived.ProofKit
import Derived.OpenShut
import Derived.Lib.SmallJoins
namespace Go.Proofs.Ytdgihpegdcoilaa.Un.ULeast
open Go.ChangeShapes Go.WideShapes Go.ChangeAt Go.RowKit Go.Joins
open Uf

theorem turned_drop (ls : List (Int × Int)) (k : Nat) (h : k < ls.length) : turned (ls.drop k) = turned (ls.drop (k + 1)) ++ [((at' ls k).2, (at' ls k).1)] := by
  have : ls.drop k = at' ls k :: ls.drop (k + 1) := by
    rw [List.drop_eq_getElem_cons h]
    simp [at', List.getD_eq_getElem?_getD, List.getElem?_eq_getElem h]
  rw [this]
  simp [turned]
theorem turned_length (ls : List (Int × Int)) : (turned ls).length = ls.length := by simp [turned]
theorem chk_turned (n : Int) (ls : List (Int × Int)) : chk n (turned ls) = chk n ls := by
  have h : (turned ls).all (inp n) = ls.all (inp n) := by
    unfold turned
    rw [List.all_reverse, List.all_map]
    congr 1
    funext p
    simp [inp, Bool.and_comm]
  unfold chk
  rw [turned_length, h]

theorem next {w : World} {b n m : Nat} {xs ys : List (Int × Int)} {x y : Int} (hx : ys = xs ++ [(x, y)]) (hn : n + 1 = m) {cap gg : Nat} (h : w.ownsRow b 43 2 (.slice (some ⟨gg, 0, none⟩) (n + 1) cap) (n + 1) (flat xs ++ [.int .i64 x, .int .i64 y])) : w.ownsRow b 43 2 (.slice (some ⟨gg, 0, none⟩) (n + 1) cap) m (flat ys) := by
  subst hx hn
  rw [flat_append]
  exact h

set_option maxRecDepth 100000 in
set_option maxHeartbeats 8000000 in
theorem walk_no (n : Int) (v : Value) (ls : List (Int × Int)) (w : World) (hv : SlR w v ls) (hlen : ls.length ≤ 8796093022208) (hc : chk n ls ≠ 0) :
    Calls Try.prog 7 #[.int .i64 n, v] w fun e w' => e = .returned (.bool true) ∧ Below w.heap.size w w' := by
  obtain ⟨a, c, rfl⟩ := hv.val
  have HV : Hid _ := hv
  clear hv
  have hz : (chk n ls != 0) = true := by simp [hc]
  have HC : Hid (chk n ls ≠ 0) := hc
  clear hc
  go_enter Try.func7, Try.ntmps7
  go_wp2_with fail
  refine (of_two _ _ (lit_one w 1 0)).mono ?_
  rintro e w1 ⟨g, rfl, hg, r1, b1⟩
  have HU1 : Hid _ := r1
  have HB1 : Hid (Below w.heap.size w w1) := bthen (balloc (Below.refl _ _) _) b1
  clear b1 r1
  go_wp2_with fail
  refine (equal_yes g w1.heap.size 2 2 2 _ _ _ (HU1.out.below (balloc (Below.refl _ _) _)) (lit_two w1) (by omega) (fun _ _ => rfl)).mono ?_
  rintro e w2 ⟨rfl, q, rfl⟩
  have HB2 : Hid (Below w.heap.size w ((w1.alloc (.cells #[.int .i64 0, .int .i64 0] 3)).drewN q)) := bdrewN (balloc HB1.out _) q
  generalize (w1.alloc (.cells #[.int .i64 0, .int .i64 0] 3)).drewN q = W2 at *
  go_wp2_with fail
  refine (of_no n _ ls W2 (HV.out.below HB2.out) hlen HC.out).mono ?_
  rintro e w3 ⟨rfl, b3⟩
  have HB3 : Hid (Below w.heap.size w w3) := bthen HB2.out b3
  clear b3
  go_wp2_with fail
  go_ret
  exact ⟨rfl, HB3.out⟩

set_option maxRecDepth 100000 in
set_option maxHeartbeats 8000000 in
theorem walk_yes (n : Nat) (v : Value) (ls : List (Int × Int)) (w : World) (hv : SlR w v ls) (hc : chk n ls = 0) :
    Calls Try.prog 7 #[.int .i64 n, v] w fun e w' => e = .returned (.bool true) ∧ Below w.heap.size w w' := by
  obtain ⟨a, c, rfl⟩ := hv.val
  have HV : Hid _ := hv
  clear hv
  obtain ⟨-, hn, hl, hok⟩ := chk_zero hc
  have hn' : n ≤ 64 := by omega
  have HC : Hid (chk n ls = 0) := hc
  clear hc hok
  go_enter Try.func7, Try.ntmps7
  go_wp2_with fail
  refine (of_two _ _ (lit_one w 1 0)).mono ?_
  rintro e w1 ⟨g, rfl, hg, r1, b1⟩
  have HU1 : Hid _ := r1
  have HB1 : Hid (Below w.heap.size w w1) := bthen (balloc (Below.refl _ _) _) b1
  clear b1 r1 hg
  go_wp2_with fail
  refine (equal_yes g w1.heap.size 2 2 2 _ _ _ (HU1.out.below (balloc (Below.refl _ _) _)) (lit_two w1) (by omega) (fun _ _ => rfl)).mono ?_
  rintro e w2 ⟨rfl, q, rfl⟩
  have HB2 : Hid (Below w.heap.size w ((w1.alloc (.cells #[.int .i64 0, .int .i64 0] 3)).drewN q)) := bdrewN (balloc HB1.out _) q
  generalize (w1.alloc (.cells #[.int .i64 0, .int .i64 0] 3)).drewN q = W2 at *
  go_wp2_with fail
  refine (of_yes n _ ls W2 (HV.out.below HB2.out) HC.out).mono ?_
  rintro e w3 ⟨g3, rfl, hg3, r3, b3⟩
  have HU3 : Hid _ := r3
  have HB3 : Hid (Below w.heap.size w w3) := bthen HB2.out b3
  have HV3 : Hid _ := HV.out.below HB3.out
  clear b3 r3 HB1 HB2 HU1 HV
  obtain ⟨i0, hi0, hz0, hz1, hz2⟩ := info34_parts
  go_wp2_with fail
  go_loopw [10, 9] (fun x out wr => ∃ k : Nat, x = .int .i64 ((k : Int) - 1) ∧ k ≤ ls.length ∧ wr.ownsRow w3.heap.size 43 2 out (ls.length - k) (flat (turned (ls.drop k))) ∧ Below w3.heap.size w3 wr) (fun x _ _ => (intOf x + 1).toNat)
  case atStart => exact ⟨ls.length, rfl, Nat.le_refl _, by rw [Nat.sub_self, List.drop_length]; exact World.ownsRow_nil _ _ _ _, Below.refl _ _⟩
  case round =>
    obtain ⟨k, rfl, hk, ho, hb⟩ := hrel
    cases k with
    | zero =>
      have e0 : (((0 : Nat) : Int) - 1) = -1 := rfl
      rw [e0]
      clear e0
      rw [List.drop_zero, Nat.sub_zero] at ho
      have HS : Hid (SlR wr u9 (turned ls)) := owns_slr (turned_length ls).symm ho
      obtain ⟨a9, c9, rfl⟩ := owns_val ho
      have HB : Hid (Below w3.heap.size w3 wr) := hb
      have HU4 : Hid _ := HU3.out.below hb
      clear hb ho HU3 HV3
      go_wp2_with fail
      refine (of_yes n _ (turned ls) wr HS.out (by rw [chk_turned]; exact HC.out)).mono ?_
      rintro e w5 ⟨g5, rfl, hg5, r5, b5⟩
      have HU5 : Hid (Ur w5 g5 n (grp ls)) := r5.congr (fun x _ => grp_turned ls x)
      have HU6 : Hid _ := HU4.out.below b5
      have HB5 : Hid (Below w.heap.size w w5) := bthen (bthen HB3.out HB.out) b5
      clear b5 r5 HU4 HB HB3 HS
      go_wp2_with fail
      refine (equal_yes g3 g5 n n n _ _ w5 HU6.out HU5.out hn' (fun _ _ => rfl)).mono ?_
      rintro e w6 ⟨rfl, q6, rfl⟩
      have HU7 : Hid (Ur (w5.drewN q6) g3 n (grp ls)) := HU6.out.drewN q6
      have HB7 : Hid (Below w.heap.size w (w5.drewN q6)) := bdrewN HB5.out q6
      generalize w5.drewN q6 = W7 at *
      clear HU5 HU6 HB5
      have HL : Hid (∀ x, grp ls x ≤ x) := (good_grp ls).le
      have HD : Hid (∀ x, grp ls (grp ls x) = grp ls x) := (good_grp ls).idem
      go_wp2_with fail
      go_loopw [77] (fun x wr => ∃ k : Nat, x = .int .i64 k ∧ k ≤ n ∧ wr = W7) (fun x _ => n - (intOf x).toNat)
      case atStart => exact ⟨0, rfl, Nat.zero_le _, rfl⟩
      case round =>
        obtain ⟨k, rfl, hk, rfl⟩ := hrel
        by_cases hlt : k < n
        · have hki : (k : Int) < (n : Int) := by omega
          have hle := HL.out k
          have hid := HD.out k
          obtain ⟨c0, -⟩ := HU7.out.cell k hlt
          obtain ⟨c1, -⟩ := HU7.out.cell (grp ls k) (by omega)
          rw [hid] at c1
          clear hid
          generalize grp ls k = p at *
          have h1 : ¬ ((p : Int) < 0) := by omega
          have h2 : ¬ ((k : Int) < (p : Int)) := by omega
          have h3 : (p : Int) < (n : Int) := by omega
          go_wp2_with fail
          go_roundw
          case rel => exact ⟨k + 1, by go_num, by omega, trivial⟩
          case measure => simp [intOf]; omega
        · have hke : k = n := by omega
          subst hke
          go_wp2_with fail
          go_ret
          exact ⟨rfl, HB7.out⟩
    | succ k =>
      have e0 : (((k + 1 : Nat) : Int) - 1) = (k : Int) := by omega
      rw [e0]
      clear e0
      have hlt : k < ls.length := by omega
      have hki : (k : Int) < (ls.length : Int) := by omega
      have HT : Hid _ := turned_drop ls k hlt
      obtain ⟨b, off, cap, hveq, hc⟩ := (HV3.out.below hb).some' (by omega)
      simp only [Value.slice.injEq] at hveq
      obtain ⟨rfl, -, rfl⟩ := hveq
      obtain ⟨d0, d1⟩ := hc k hlt
      clear hc
      obtain ⟨p, hp⟩ : ∃ x, at' ls k = x := ⟨_, rfl⟩
      rw [hp] at d0 d1 HT
      obtain ⟨x, y⟩ := p
      simp only at d0 d1 HT
      clear hp
      have hnew : (wr.alloc (.cells #[.int .i64 y, .int .i64 x] 43)).drew.heap[wr.heap.size]? = some (.cells #[.int .i64 y, .int .i64 x] 43) := heap_alloc_new wr _
      have HN : Hid _ := hnew
      have hwz := hb.size
      have HB : Hid (Below w3.heap.size w3 wr) := hb
      clear hnew hb
      go_wp2_with fail
      go_region_law
        ((refine step_append_lies _ (by rfl) _ _ _ (by rfl) w3.heap.size 43 i0 _ 2 16 Try.underlying22 hi0 hz0 hz1 hz2 rfl (by omega) _ (ls.length - (k + 1)) (flat (turned (ls.drop (k + 1)))) (by rfl) ((ho.alloc _).drew)
            ⟨wr.heap.size, 0, none⟩ 1 1 [.int .i64 y, .int .i64 x] (by rfl) (by rfl) (World.news_of_block (cs := #[.int .i64 y, .int .i64 x]) (t := 43) (fr := (0, 0)) HN.out) (by simp [Value.oneCell'])
            (by omega) (by unfold maxLen; omega) (by omega) (by simp; omega) (wr.heap.size + 1) (by simp) ?_; intro gg cap' w4 hown4 hgrow hat hlt4))
      all_goals
        go_wp2_with fail
        go_roundw
        case rel => exact ⟨k, rfl, by omega, next HT.out (by omega) hown4, (Below.drew (Below.alloc HB.out hwz _)).grown hgrow (by show _ ≤ (wr.alloc _).heap.size; simp; omega) (fun k hk => (ownBlock_lt ho k hk).1)⟩
        case measure => simp [intOf]
theorem walk (n : Int) (v : Value) (ls : List (Int × Int)) (w : World) (hv : SlR w v ls) (hlen : ls.length ≤ 8796093022208) :
    Calls Try.prog 7 #[.int .i64 n, v] w fun e w' => e = .returned (.bool true) ∧ Below w.heap.size w w' := by
  by_cases hc : chk n ls = 0
  · obtain ⟨m, rfl⟩ := Int.eq_ofNat_of_zero_le (chk_zero hc).1
    exact walk_yes m v ls w hv hc
  · exact walk_no n v ls w hv hlen hc

end Go.Proofs.Ytdgihpegdcoilaa.Un.ULeast
