/-
  Contracts: Make and its twin; Floor and Ceil.
-/
import Derived.Test.YtihicidfpfkknaaWalkC
namespace Go.Proofs.Ytihicidfpfkknaa
open Go.RowKit
open Pl

def mkN (n d : Int) : Int := if inb n d = true then ln n d else 0
def mkD (n d : Int) : Int := if inb n d = true then ld n d else 0
def mkE (n d : Int) : Int := if inb n d = true then 0 else 1
theorem mk_yes {n d : Int} (h : inb n d = true) : mkN n d = ln n d ∧ mkD n d = ld n d ∧ mkE n d = 0 := by
  unfold mkN mkD mkE; simp [h]
theorem mk_no {n d : Int} (h : inb n d = false) : mkN n d = 0 ∧ mkD n d = 0 ∧ mkE n d = 1 := by
  unfold mkN mkD mkE; simp [h]

set_option maxHeartbeats 1000000 in
theorem make_any (n d : Int) (w : World) :
    Calls Try.prog 9 #[.int .i64 n, .int .i64 d] w fun e w' => e = .returned (.tuple #[.agg #[.int .i64 (mkN n d), .int .i64 (mkD n d)], .int .i64 (mkE n d)]) ∧ Below w.heap.size w w' := by
  cases hi : inb n d
  · obtain ⟨e1, e2, e3⟩ := mk_no hi
    rw [e1, e2, e3]
    have HI : Hid (inb n d = false) := hi
    clear hi e1 e2 e3
    go_enter Try.func9, Try.ntmps9
    go_wp2_with fail
    refine (inb_no n d _ HI.out).mono ?_
    rintro e w' ⟨rfl, rfl⟩
    go_wp2
    exact bodyPost_ret (v := .tuple #[.agg #[.int .i64 0, .int .i64 0], .int .i64 1]) (by simp [results, Try.results9, go_sem]) rfl ⟨rfl, by repeat (first | exact Below.refl _ _ | refine Below.setCell ?_ (by simp) _ | refine below_drewN ?_ _ | refine Below.alloc ?_ (by simp) _ )⟩
  · obtain ⟨e1, e2, e3⟩ := mk_yes hi
    rw [e1, e2, e3]
    obtain ⟨h1, h2, h3, h4⟩ := inb_true hi
    have HI : Hid (inb n d = true) := hi
    clear hi e1 e2 e3
    go_enter Try.func9, Try.ntmps9
    go_wp2_with fail
    refine (inb_yes n d _ HI.out).mono ?_
    rintro e w' ⟨rfl, rfl⟩
    go_wp2_with fail
    refine (lowest_any n d _ (by omega) (by omega) (by omega) (by omega)).mono ?_
    rintro e w' ⟨rfl, hb⟩
    obtain ⟨hcc, hff⟩ := bcell hb
    go_wp2
    exact bodyPost_ret (v := .tuple #[.agg #[.int .i64 (ln n d), .int .i64 (ld n d)], .int .i64 0]) (by simp [results, Try.results9, go_sem, hcc]) rfl ⟨rfl, by repeat (first | exact Below.refl _ _ | refine bthen ?_ hb | refine Below.setCell ?_ (by simp) _ | refine below_drewN ?_ _ | refine Below.alloc ?_ (by simp) _ )⟩

set_option maxHeartbeats 1000000 in
theorem made_any (n d : Int) (w : World) :
    Calls Try.prog 10 #[.int .i64 n, .int .i64 d] w fun e w' => e = .returned (.tuple #[.agg #[.int .i64 (mkN n d), .int .i64 (mkD n d)], .int .i64 (mkE n d)]) ∧ Below w.heap.size w w' := by
  by_cases h1 : d < 1
  · obtain ⟨e1, e2, e3⟩ := mk_no (n := n) (d := d) (inb_not (by omega))
    rw [e1, e2, e3]
    clear e1 e2 e3
    go_enter Try.func10, Try.ntmps10
    go_wp2_with fail
    exact bodyPost_ret (v := .tuple #[.agg #[.int .i64 0, .int .i64 0], .int .i64 1]) (by simp [results, Try.results10, go_sem]) rfl ⟨rfl, by repeat (first | exact Below.refl _ _ | refine Below.setCell ?_ (by simp) _ | refine below_drewN ?_ _ | refine Below.alloc ?_ (by simp) _ )⟩
  cases hn : prt n
  · obtain ⟨e1, e2, e3⟩ := mk_no (n := n) (d := d) (inb_not (by have := prt_false hn; omega))
    rw [e1, e2, e3]
    have HN : Hid (prt n = false) := hn
    clear e1 e2 e3 hn
    go_enter Try.func10, Try.ntmps10
    go_wp2_with fail
    refine (part_no n _ HN.out).mono ?_
    rintro e w' ⟨rfl, rfl⟩
    go_wp2_with fail
    exact bodyPost_ret (v := .tuple #[.agg #[.int .i64 0, .int .i64 0], .int .i64 1]) (by simp [results, Try.results10, go_sem]) rfl ⟨rfl, by repeat (first | exact Below.refl _ _ | refine Below.setCell ?_ (by simp) _ | refine below_drewN ?_ _ | refine Below.alloc ?_ (by simp) _ )⟩
  cases hd : prt d
  · obtain ⟨e1, e2, e3⟩ := mk_no (n := n) (d := d) (inb_not (by have := prt_false hd; omega))
    rw [e1, e2, e3]
    have HN : Hid (prt n = true) := hn
    have HD : Hid (prt d = false) := hd
    clear e1 e2 e3 hn hd
    go_enter Try.func10, Try.ntmps10
    go_wp2_with fail
    refine (part_yes n _ HN.out).mono ?_
    rintro e w' ⟨rfl, rfl⟩
    go_wp2_with fail
    refine (part_no d _ HD.out).mono ?_
    rintro e w' ⟨rfl, rfl⟩
    go_wp2_with fail
    exact bodyPost_ret (v := .tuple #[.agg #[.int .i64 0, .int .i64 0], .int .i64 1]) (by simp [results, Try.results10, go_sem]) rfl ⟨rfl, by repeat (first | exact Below.refl _ _ | refine Below.setCell ?_ (by simp) _ | refine below_drewN ?_ _ | refine Below.alloc ?_ (by simp) _ )⟩
  · have b1 := prt_true hn
    have b2 := prt_true hd
    obtain ⟨e1, e2, e3⟩ := mk_yes (n := n) (d := d) (decide_eq_true (by omega))
    rw [e1, e2, e3]
    have HN : Hid (prt n = true) := hn
    have HD : Hid (prt d = true) := hd
    clear e1 e2 e3 hn hd
    go_enter Try.func10, Try.ntmps10
    go_wp2_with fail
    refine (part_yes n _ HN.out).mono ?_
    rintro e w' ⟨rfl, rfl⟩
    go_wp2_with fail
    refine (part_yes d _ HD.out).mono ?_
    rintro e w' ⟨rfl, rfl⟩
    go_wp2_with fail
    refine (least_any n d _ (by omega) (by omega) (by omega) (by omega)).mono ?_
    rintro e w' ⟨rfl, hb⟩
    obtain ⟨hcc, hff⟩ := bcell hb
    go_wp2
    exact bodyPost_ret (v := .tuple #[.agg #[.int .i64 (ln n d), .int .i64 (ld n d)], .int .i64 0]) (by simp [results, Try.results10, go_sem, hcc]) rfl ⟨rfl, by repeat (first | exact Below.refl _ _ | refine bthen ?_ hb | refine Below.setCell ?_ (by simp) _ | refine below_drewN ?_ _ | refine Below.alloc ?_ (by simp) _ )⟩

def flo (n d : Int) : Int := if isr n d = true then n / d else 0
def cei (n d : Int) : Int := if isr n d = true then -((-n) / d) else 0

theorem neg_floor (n d : Int) (hd : 0 < d) (h : (-n) % d ≠ 0) : n / d = -((-n) / d) - 1 := by
  have h1 := Int.mul_ediv_add_emod (-n) d
  have h2 := Int.emod_nonneg (-n) (b := d) (by omega)
  have h3 := Int.emod_lt_of_pos (-n) hd
  have h4 : d * (-((-n) / d) - 1) = -(d * ((-n) / d)) - d := by rw [Int.mul_sub, Int.mul_neg]; omega
  exact ((Int.ediv_emod_unique (a := n) (b := d) (r := d - (-n) % d) (q := -((-n) / d) - 1) hd).2 ⟨by omega, by omega, by omega⟩).1
theorem neg_floor0 (n d : Int) (hd : 0 < d) (h : (-n) % d = 0) : n / d = -((-n) / d) := by
  have h1 := Int.mul_ediv_add_emod (-n) d
  have h4 : d * (-((-n) / d)) = -(d * ((-n) / d)) := by rw [Int.mul_neg]
  exact ((Int.ediv_emod_unique (a := n) (b := d) (r := 0) (q := -((-n) / d)) hd).2 ⟨by omega, by omega, by omega⟩).1
theorem tmod_neg' (n d : Int) (h : n < 0) : n.tmod d = -((-n) % d) := by
  have : n = -(-n) := by omega
  rw [this, Int.neg_tmod, Int.tmod_eq_emod_of_nonneg (by omega)]; simp
theorem tdiv_neg' (n d : Int) (h : n < 0) : n.tdiv d = -((-n) / d) := by
  have : n = -(-n) := by omega
  rw [this, Int.neg_tdiv, Int.tdiv_eq_ediv_of_nonneg (by omega)]; simp

theorem ret_two {a b c d : Int} (h : a = b) (h' : c = d) : Ending.returned (.tuple #[.int .i64 a, .int .i64 c]) = .returned (.tuple #[.int .i64 b, .int .i64 d]) := by rw [h, h']

theorem neg_bounds (n d : Int) (hs : n < 0) (h1 : -1000000 ≤ n) (h3 : 1 ≤ d) : -1000000 ≤ n.tdiv d ∧ n.tdiv d ≤ 0 := by
  rw [tdiv_neg' n d hs]
  have a1 := Int.ediv_nonneg (a := -n) (b := d) (by omega) (by omega)
  have a2 := Int.ediv_le_self (a := -n) d (by omega)
  omega

set_option maxHeartbeats 1000000 in
theorem floor_any (n d : Int) (w : World) :
    Calls Try.prog 18 #[.agg #[.int .i64 n, .int .i64 d]] w fun e w' => e = .returned (.tuple #[.int .i64 (flo n d), .int .i64 (chk n d)]) ∧ Below w.heap.size w w' := by
  cases hi : isr n d
  · have e1 : flo n d = 0 := by unfold flo; simp [hi]
    rw [e1]
    have hk : (chk n d == 0) = false := by rw [chk_no hi]; rfl
    have hk' : (chk n d != 0) = true := by rw [chk_no hi]; rfl
    clear e1 hi
    go_enter Try.func18, Try.ntmps18
    go_wp2_with fail
    refine (check_any n d _).mono ?_
    rintro e w' ⟨rfl, hb⟩
    go_wp2
    go_ret2
    exact ⟨rfl, by repeat (first | exact Below.refl _ _ | refine bthen ?_ hb | refine Below.setCell ?_ (by simp) _ | refine below_drewN ?_ _ | refine Below.alloc ?_ (by simp) _ )⟩
  · have e1 : flo n d = n / d := by unfold flo; simp [hi]
    rw [e1, chk_ok hi]
    have HC : Hid (chk n d = 0) := chk_ok hi
    obtain ⟨⟨h1, h2, h3, h4⟩, _⟩ := isr_true hi
    clear e1 hi
    have b2 : n < 0 → _ := fun hs => neg_bounds n d hs h1 h3
    go_enter Try.func18, Try.ntmps18
    go_wp2_with fail
    refine (check_any n d _).mono ?_
    rw [HC.out]
    rintro e w' ⟨rfl, hb⟩
    obtain ⟨hcc, hff⟩ := bcell hb
    by_cases hs : n < 0
    · obtain ⟨b3, b4⟩ := b2 hs
      have H5 : Hid _ := tdiv_neg' n d hs
      have H6 : Hid _ := tmod_neg' n d hs
      have m1 := Int.emod_nonneg (-n) (b := d) (by omega)
      have H7 : Hid (0 ≤ (-n) % d) := m1
      clear m1 b2
      by_cases hr : n.tmod d < 0
      · go_wp2
        go_ret2
        exact ⟨ret_two (by rw [neg_floor n d (by omega) (by rw [H6.out] at hr; omega), ← H5.out]) rfl, by repeat (first | exact Below.refl _ _ | refine bthen ?_ hb | refine Below.setCell ?_ (by simp) _ | refine below_drewN ?_ _ | refine Below.alloc ?_ (by simp) _ )⟩
      · go_wp2
        go_ret2
        exact ⟨ret_two (by rw [neg_floor0 n d (by omega) (by rw [H6.out] at hr; have := H7.out; omega), ← H5.out]) rfl, by repeat (first | exact Below.refl _ _ | refine bthen ?_ hb | refine Below.setCell ?_ (by simp) _ | refine below_drewN ?_ _ | refine Below.alloc ?_ (by simp) _ )⟩
    · clear b2
      have hm := Int.emod_nonneg n (b := d) (by omega)
      go_wp2
      go_ret2
      exact ⟨rfl, by repeat (first | exact Below.refl _ _ | refine bthen ?_ hb | refine Below.setCell ?_ (by simp) _ | refine below_drewN ?_ _ | refine Below.alloc ?_ (by simp) _ )⟩

theorem pos_ceil (n d : Int) (hd : 0 < d) (h : n % d ≠ 0) : -((-n) / d) = n / d + 1 := by
  have := neg_floor (-n) d hd (by rwa [Int.neg_neg])
  rw [Int.neg_neg] at this; omega
theorem pos_ceil0 (n d : Int) (hd : 0 < d) (h : n % d = 0) : -((-n) / d) = n / d := by
  have := neg_floor0 (-n) d hd (by rwa [Int.neg_neg])
  rw [Int.neg_neg] at this; omega

set_option maxHeartbeats 1000000 in
theorem ceil_any (n d : Int) (w : World) :
    Calls Try.prog 19 #[.agg #[.int .i64 n, .int .i64 d]] w fun e w' => e = .returned (.tuple #[.int .i64 (cei n d), .int .i64 (chk n d)]) ∧ Below w.heap.size w w' := by
  cases hi : isr n d
  · have e1 : cei n d = 0 := by unfold cei; simp [hi]
    rw [e1]
    have hk : (chk n d == 0) = false := by rw [chk_no hi]; rfl
    have hk' : (chk n d != 0) = true := by rw [chk_no hi]; rfl
    clear e1 hi
    go_enter Try.func19, Try.ntmps19
    go_wp2_with fail
    refine (check_any n d _).mono ?_
    rintro e w' ⟨rfl, hb⟩
    go_wp2
    go_ret2
    exact ⟨rfl, by repeat (first | exact Below.refl _ _ | refine bthen ?_ hb | refine Below.setCell ?_ (by simp) _ | refine below_drewN ?_ _ | refine Below.alloc ?_ (by simp) _ )⟩
  · have e1 : cei n d = -((-n) / d) := by unfold cei; simp [hi]
    rw [e1, chk_ok hi]
    have HC : Hid (chk n d = 0) := chk_ok hi
    obtain ⟨⟨h1, h2, h3, h4⟩, _⟩ := isr_true hi
    clear e1 hi
    have b2 : n < 0 → _ := fun hs => neg_bounds n d hs h1 h3
    go_enter Try.func19, Try.ntmps19
    go_wp2_with fail
    refine (check_any n d _).mono ?_
    rw [HC.out]
    rintro e w' ⟨rfl, hb⟩
    obtain ⟨hcc, hff⟩ := bcell hb
    by_cases hs : n < 0
    · obtain ⟨b3, b4⟩ := b2 hs
      have H5 : Hid _ := tdiv_neg' n d hs
      have H6 : Hid _ := tmod_neg' n d hs
      have m1 := Int.emod_nonneg (-n) (b := d) (by omega)
      have H7 : Hid (0 ≤ (-n) % d) := m1
      clear m1 b2
      have hr : ¬ (0 < n.tmod d) := by rw [H6.out]; have := H7.out; omega
      go_wp2
      go_ret2
      exact ⟨ret_two (by rw [← H5.out]) rfl, by repeat (first | exact Below.refl _ _ | refine bthen ?_ hb | refine Below.setCell ?_ (by simp) _ | refine below_drewN ?_ _ | refine Below.alloc ?_ (by simp) _ )⟩
    · clear b2
      have hm := Int.emod_nonneg n (b := d) (by omega)
      have bq := Int.ediv_le_self (a := n) d (by omega)
      have bq0 := Int.ediv_nonneg (a := n) (b := d) (by omega) (by omega)
      by_cases hr : 0 < n % d
      · go_wp2
        go_ret2
        exact ⟨ret_two (by rw [pos_ceil n d (by omega) (by omega)]) rfl, by repeat (first | exact Below.refl _ _ | refine bthen ?_ hb | refine Below.setCell ?_ (by simp) _ | refine below_drewN ?_ _ | refine Below.alloc ?_ (by simp) _ )⟩
      · go_wp2
        go_ret2
        exact ⟨ret_two (by rw [pos_ceil0 n d (by omega) (by omega)]) rfl, by repeat (first | exact Below.refl _ _ | refine bthen ?_ hb | refine Below.setCell ?_ (by simp) _ | refine below_drewN ?_ _ | refine Below.alloc ?_ (by simp) _ )⟩

end Go.Proofs.Ytihicidfpfkknaa
