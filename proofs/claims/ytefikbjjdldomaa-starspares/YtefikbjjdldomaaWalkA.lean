/-
  Contracts of the leaves: what each small function of package ratio, and of the document's answer, returns.
-/
import Derived.Test.YtefikbjjdldomaaRows
import Derived.Test.YtefikbjjdldomaaGcd
import Derived.WalkKit
import Derived.Deep.QuietTactic
import Derived.BigQuiet
import Derived.WalkSmall
namespace Go.Proofs.Ytefikbjjdldomaa.Ra
open Go.RowKit
open Pl

theorem ret_int {k : IntKind} {a b : Int} (h : a = b) : Ending.returned (.int k a) = .returned (.int k b) := by rw [h]

set_option maxHeartbeats 400000 in
theorem gcd_any (a b : Int) (w : World) (ha : 0 ≤ a) (ha' : a ≤ 9223372036854775807) (hb : 0 ≤ b) (hb' : b ≤ 9223372036854775807) :
    Calls Try.prog 91 #[.int .i64 a, .int .i64 b] w fun e w' => e = .returned (.int .i64 (gc a b)) ∧ ∃ n, w' = w.drewN n := by
  go_enter Try.func91, Try.ntmps91
  go_wp2
  go_loopw [0, 1] (fun x y wr => ∃ p q : Int, 0 ≤ p ∧ p ≤ 9223372036854775807 ∧ 0 ≤ q ∧ q ≤ 9223372036854775807 ∧ x = .int .i64 p ∧ y = .int .i64 q ∧ gc p q = gc a b ∧ ∃ n, wr = w.drewN n) (fun _ y _ => (intOf y).toNat)
  case atStart => exact ⟨a, b, ha, ha', hb, hb', rfl, rfl, rfl, 0, rfl⟩
  case round =>
    obtain ⟨p, q, hp, hp', hq, hq', rfl, rfl, hg, n, rfl⟩ := hrel
    have HG : Hid (gc p q = gc a b) := hg
    clear hg
    by_cases hz : q = 0
    · subst hz
      go_wp2
      go_ret
      exact ⟨ret_int (by rw [← HG.out, gc_zero p hp]), n, rfl⟩
    · have h0 : (q != 0) = true := by simp [hz]
      have h1 : (q == 0) = false := by simp [hz]
      go_wp2
      go_quiet (fail)
      go_wp2
      go_roundw
      case rel =>
        have m1 : 0 ≤ p % q := Int.emod_nonneg p (by omega)
        have m2 : p % q < q := Int.emod_lt_of_pos p (by omega)
        exact ⟨q, p % q, hq, hq', m1, by omega, rfl, rfl, by rw [gc_step, HG.out], n + nq, World.drewN_drewN _ _ _⟩
      case measure =>
        have m1 : 0 ≤ p % q := Int.emod_nonneg p (by omega)
        have m2 : p % q < q := Int.emod_lt_of_pos p (by omega)
        simp [intOf]; omega

/-- Its twin in the document's answer: by recursion. -/
theorem common_any (b : Nat) : ∀ (a : Int) (w : World), 0 ≤ a → a ≤ 9223372036854775807 → (b : Int) ≤ 9223372036854775807 →
    Calls Try.prog 69 #[.int .i64 a, .int .i64 (b : Int)] w fun e w' => e = .returned (.int .i64 (gc a b)) ∧ w' = w := by
  induction b using Nat.strongRecOn with
  | ind b ih =>
    intro a w ha ha' hb'
    by_cases hz : b = 0
    · subst hz
      go_enter Try.func69, Try.ntmps69
      go_wp2
      go_ret
      exact ⟨ret_int (by rw [show ((0 : Nat) : Int) = 0 from rfl, gc_zero a ha]), rfl⟩
    · have h1 : ((b : Int) == 0) = false := by simp; omega
      have hpos : (0 : Int) < b := by omega
      have IH : Hid _ := ih (a % b).toNat (by have := Int.emod_lt_of_pos a hpos; have := Int.emod_nonneg a (b := (b : Int)) (by omega); omega)
      clear ih
      have m1 : 0 ≤ a % b := Int.emod_nonneg a (by omega)
      have m2 : a % b < b := Int.emod_lt_of_pos a hpos
      go_enter Try.func69, Try.ntmps69
      go_wp2_with fail
      have hc : (((a % b).toNat : Nat) : Int) = a % b := by omega
      have IH2 := IH.out b w (by omega) (by omega) (by omega)
      rw [hc] at IH2
      refine IH2.mono ?_
      rintro e w' ⟨rfl, rfl⟩
      go_wp2
      go_ret
      exact ⟨ret_int (by rw [gc_step]), rfl⟩

theorem common_int (a b : Int) (w : World) (ha : 0 ≤ a) (ha' : a ≤ 9223372036854775807) (hb : 0 ≤ b) (hb' : b ≤ 9223372036854775807) :
    Calls Try.prog 69 #[.int .i64 a, .int .i64 b] w fun e w' => e = .returned (.int .i64 (gc a b)) ∧ w' = w := by
  obtain ⟨k, rfl⟩ := Int.eq_ofNat_of_zero_le hb
  exact common_any k a w ha ha' hb'

def absI (a : Int) : Int := if a < 0 then -a else a

theorem gc_absI (a b : Int) : gc (absI a) b = gc a b := by
  unfold absI; split
  · exact gc_neg a b
  · rfl

theorem size_any (a : Int) (w : World) (h1 : -9223372036854775807 ≤ a) (h2 : a ≤ 9223372036854775807) :
    Calls Try.prog 70 #[.int .i64 a] w fun e w' => e = .returned (.int .i64 (absI a)) ∧ w' = w := by
  by_cases h : a < 0
  · go_enter Try.func70, Try.ntmps70
    go_wp2
    go_ret
    exact ⟨ret_int (by unfold absI; rw [if_pos h]), rfl⟩
  · go_enter Try.func70, Try.ntmps70
    go_wp2
    go_ret
    exact ⟨ret_int (by unfold absI; rw [if_neg (by omega)]), rfl⟩

theorem ret_bool {a b : Bool} (h : a = b) : Ending.returned (.bool a) = .returned (.bool b) := by rw [h]

def prt (n : Int) : Bool := decide (-1000000 ≤ n ∧ n ≤ 1000000)

theorem part_any (n : Int) (w : World) :
    Calls Try.prog 68 #[.int .i64 n] w fun e w' => e = .returned (.bool (prt n)) ∧ w' = w := by
  by_cases h1 : -1000000 ≤ n
  · by_cases h2 : n ≤ 1000000
    · go_enter Try.func68, Try.ntmps68
      go_wp2
      go_ret
      exact ⟨ret_bool (by unfold prt; first | (rw [eq_comm, decide_eq_true_iff]; omega) | (rw [eq_comm, decide_eq_false_iff_not]; omega)), rfl⟩
    · go_enter Try.func68, Try.ntmps68
      go_wp2
      go_ret
      exact ⟨ret_bool (by unfold prt; first | (rw [eq_comm, decide_eq_true_iff]; omega) | (rw [eq_comm, decide_eq_false_iff_not]; omega)), rfl⟩
  · go_enter Try.func68, Try.ntmps68
    go_wp2
    go_ret
    exact ⟨ret_bool (by unfold prt; first | (rw [eq_comm, decide_eq_true_iff]; omega) | (rw [eq_comm, decide_eq_false_iff_not]; omega)), rfl⟩

theorem inb_any (n d : Int) (w : World) :
    Calls Try.prog 66 #[.int .i64 n, .int .i64 d] w fun e w' => e = .returned (.bool (inb n d)) ∧ w' = w := by
  by_cases h1 : -1000000 ≤ n
  · by_cases h2 : n ≤ 1000000
    · by_cases h3 : 1 ≤ d
      · by_cases h4 : d ≤ 1000000
        · go_enter Try.func66, Try.ntmps66
          go_wp2
          go_ret
          exact ⟨ret_bool (by unfold inb; first | (rw [eq_comm, decide_eq_true_iff]; omega) | (rw [eq_comm, decide_eq_false_iff_not]; omega)), rfl⟩
        · go_enter Try.func66, Try.ntmps66
          go_wp2
          go_ret
          exact ⟨ret_bool (by unfold inb; first | (rw [eq_comm, decide_eq_true_iff]; omega) | (rw [eq_comm, decide_eq_false_iff_not]; omega)), rfl⟩
      · go_enter Try.func66, Try.ntmps66
        go_wp2
        go_ret
        exact ⟨ret_bool (by unfold inb; first | (rw [eq_comm, decide_eq_true_iff]; omega) | (rw [eq_comm, decide_eq_false_iff_not]; omega)), rfl⟩
    · go_enter Try.func66, Try.ntmps66
      go_wp2
      go_ret
      exact ⟨ret_bool (by unfold inb; first | (rw [eq_comm, decide_eq_true_iff]; omega) | (rw [eq_comm, decide_eq_false_iff_not]; omega)), rfl⟩
  · go_enter Try.func66, Try.ntmps66
    go_wp2
    go_ret
    exact ⟨ret_bool (by unfold inb; first | (rw [eq_comm, decide_eq_true_iff]; omega) | (rw [eq_comm, decide_eq_false_iff_not]; omega)), rfl⟩


/-- Behind a call that made memory: all old cells and marks read as before. -/
theorem bcell {W w1 : World} (hb : Below W.heap.size W w1) : (∀ b o, b < W.heap.size → w1.cell? ⟨b, o, none⟩ = W.cell? ⟨b, o, none⟩) ∧ (∀ b o, b < W.heap.size → w1.frozen? ⟨b, o, none⟩ = W.frozen? ⟨b, o, none⟩) :=
  ⟨fun b o h => hb.cell (p := ⟨b, o, none⟩) h, fun b o h => hb.frozen (p := ⟨b, o, none⟩) h⟩

theorem gc_max (a b : Int) : gc (max a (-a)) b = gc a b := by
  rcases Int.le_total a (-a) with h | h
  · rw [Int.max_eq_right h, gc_neg]
  · rw [Int.max_eq_left h]



set_option maxHeartbeats 400000 in
theorem lowest_any (n d : Int) (w : World) (hn : -9223372036854775807 ≤ n) (hn' : n ≤ 9223372036854775807) (hd : 1 ≤ d) (hd' : d ≤ 9223372036854775807) :
    Calls Try.prog 67 #[.int .i64 n, .int .i64 d] w fun e w' => e = .returned (.agg #[.int .i64 (ln n d), .int .i64 (ld n d)]) ∧ Below w.heap.size w w' := by
  have H1 : Hid (n.tdiv (gc n d) = ln n d) := tdiv_left n d
  have H2 : Hid (d / gc n d = ld n d) := rfl
  have H3 : Hid (gc (-n) d = gc n d) := gc_neg n d
  have H4 : Hid (n / gc n d = ln n d) := rfl
  have hp := gc_pos n d (by omega)
  have hz : (gc n d == 0) = false := by simp; omega
  by_cases h : n < 0
  · go_enter Try.func67, Try.ntmps67
    go_wp2_with fail
    refine (gcd_any (-n) d _ (by omega) (by omega) (by omega) (by omega)).mono ?_
    rintro e w' ⟨rfl, k, rfl⟩
    rw [H3.out]
    go_wp2
    go_region
    go_wp2
    rw [H1.out, H2.out]
    exact bodyPost_ret (v := .agg #[.int .i64 (ln n d), .int .i64 (ld n d)]) (by simp [results, Try.results67, go_sem]) rfl ⟨rfl, by repeat (first | exact Below.refl _ _ | refine Below.setCell ?_ (by simp) _ | refine below_drewN ?_ _ | refine Below.alloc ?_ (by simp) _ )⟩
  · go_enter Try.func67, Try.ntmps67
    go_wp2_with fail
    refine (gcd_any n d _ (by omega) (by omega) (by omega) (by omega)).mono ?_
    rintro e w' ⟨rfl, k, rfl⟩
    go_wp2
    go_region
    go_wp2
    rw [H4.out, H2.out]
    exact bodyPost_ret (v := .agg #[.int .i64 (ln n d), .int .i64 (ld n d)]) (by simp [results, Try.results67, go_sem]) rfl ⟨rfl, by repeat (first | exact Below.refl _ _ | refine Below.setCell ?_ (by simp) _ | refine below_drewN ?_ _ | refine Below.alloc ?_ (by simp) _ )⟩

end Go.Proofs.Ytefikbjjdldomaa.Ra
