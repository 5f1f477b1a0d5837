/-
  Contract: the law's own count of what is the same.
-/
import Derived.Test.YtihicidfpfkknabHeapG
namespace Go.Proofs.Ytihicidfpfkknab
open Go.RowKit
open Hp

theorem count_snoc (l : List (Int × Int)) (k : Nat) (h : k < l.length) (p : Int × Int) : (l.take (k + 1)).count p = (l.take k).count p + if at' l k = p then 1 else 0 := by
  rw [take_succ_at l k h, List.count_append, List.count_singleton]
  by_cases e : at' l k = p
  · simp [e]
  · simp [e]

set_option maxRecDepth 100000 in
set_option maxHeartbeats 4000000 in
theorem count_some (b off c : Nat) (ls : List (Int × Int)) (p1 p2 : Int) (w : World) (hlen : ls.length ≤ 17592186044416)
    (h1 : ∀ i, i < ls.length → w.cell? ⟨b, off + i * 2, none⟩ = some (.int .i64 (at' ls i).1) ∧ w.cell? ⟨b, off + i * 2 + 1, none⟩ = some (.int .i64 (at' ls i).2)) :
    Calls Try.prog 11 #[.slice (some ⟨b, off, none⟩) ls.length c, .agg #[.int .i64 p1, .int .i64 p2]] w fun e w' => e = .returned (.int .i64 (ls.count (p1, p2))) ∧ Below w.heap.size w w' := by
  have H1 : Hid _ := h1
  clear h1
  have bw : Below w.heap.size w (w.alloc (.cells #[.int .i64 p1, .int .i64 p2] 32)) := balloc (Below.refl _ _) _
  have x0 : Box (w.alloc (.cells #[.int .i64 p1, .int .i64 p2] 32)) w.heap.size (p1, p2) := heap_alloc_new _ _
  have HB : Hid _ := bw
  have HX0 : Hid (Box (w.alloc (.cells #[.int .i64 p1, .int .i64 p2] 32)) w.heap.size (p1, p2)) := x0
  clear bw x0
  go_enter Try.func11, Try.ntmps11
  go_wp2_with fail
  generalize (w.alloc (.cells #[.int .i64 p1, .int .i64 p2] 32)) = W0 at *
  go_loopw [10, 5] (fun x n wr => ∃ k : Nat, x = .int .i64 k ∧ k ≤ ls.length ∧ n = .int .i64 ((ls.take k).count (p1, p2)) ∧ Below W0.heap.size W0 wr) (fun x _ _ => ls.length - (intOf x).toNat)
  case atStart => exact ⟨0, rfl, Nat.zero_le _, rfl, Below.refl _ _⟩
  case round =>
    obtain ⟨k, rfl, hk, rfl, hbl⟩ := hrel
    have xr := HX0.out.frame (hbl.block _ HX0.out.lt)
    obtain ⟨a0, a1, _, _⟩ := xr.cell
    simp only at a0 a1
    have e0 := fun o => kept_alloc (x := o) a0
    have e1 := fun o => kept_alloc (x := o) a1
    by_cases hlt : k < ls.length
    · have hki : (k : Int) < (ls.length : Int) := by omega
      obtain ⟨c0, c1⟩ := H1.out k hlt
      have d0 := kept hbl (kept HB.out c0)
      have d1 := kept hbl (kept HB.out c1)
      have HS : Hid _ := count_snoc ls k hlt (p1, p2)
      have hcl : (ls.take k).count (p1, p2) ≤ 17592186044416 := by
        have := List.count_le_length (l := ls.take k) (a := (p1, p2))
        simp at this
        omega
      obtain ⟨x, hx⟩ : ∃ x, (at' ls k).1 = x := ⟨_, rfl⟩
      obtain ⟨y, hy⟩ : ∃ x, (at' ls k).2 = x := ⟨_, rfl⟩
      rw [hx] at d0
      rw [hy] at d1
      have HX : Hid _ := hx
      have HY : Hid _ := hy
      clear hx hy c0 c1
      generalize hcv : (ls.take k).count (p1, p2) = cv at *
      have HC : Hid _ := hcv
      clear hcv
      by_cases hq : p1 = x ∧ p2 = y
      · obtain ⟨rfl, rfl⟩ := hq
        go_wp2
        go_roundw
        case rel =>
          refine ⟨k + 1, by go_num, by omega, ?_, balloc hbl _⟩
          rw [HS.out, if_pos (Prod.ext HX.out HY.out)]
          go_num
        case measure => simp [intOf]; omega
      · cases f1 : (p1 == x)
        all_goals
          cases f2 : (p2 == y)
        all_goals first
          | exact absurd ⟨by simpa using f1, by simpa using f2⟩ hq
          | skip
        all_goals
          have HF : Hid (¬ at' ls k = (p1, p2)) := fun e => hq ⟨by rw [← HX.out, e], by rw [← HY.out, e]⟩
          clear hq
          go_wp2
          go_roundw
          case rel =>
            refine ⟨k + 1, by go_num, by omega, ?_, balloc hbl _⟩
            rw [HS.out, if_neg HF.out]
            rfl
          case measure => simp [intOf]; omega
    · have hke : k = ls.length := by omega
      subst hke
      rw [List.take_of_length_le (Nat.le_refl _)]
      go_wp2
      go_ret
      exact ⟨rfl, bthen HB.out hbl⟩

set_option maxRecDepth 100000 in
set_option maxHeartbeats 4000000 in
theorem count_nil (a : Option Addr) (c : Nat) (p1 p2 : Int) (w : World) :
    Calls Try.prog 11 #[.slice a 0 c, .agg #[.int .i64 p1, .int .i64 p2]] w fun e w' => e = .returned (.int .i64 0) ∧ Below w.heap.size w w' := by
  go_enter Try.func11, Try.ntmps11
  go_wp2_with fail
  go_loopw [10, 5] (fun x n wr => x = .int .i64 0 ∧ n = .int .i64 0 ∧ Below w.heap.size w wr) (fun _ _ _ => 0)
  case atStart => exact ⟨rfl, rfl, balloc (Below.refl _ _) _⟩
  case round =>
    obtain ⟨rfl, rfl, hbl⟩ := hrel
    go_wp2
    go_ret
    exact ⟨rfl, hbl⟩

theorem count_any (v : Value) (ls : List (Int × Int)) (p1 p2 : Int) (w : World) (hv : SlR w v ls) (hlen : ls.length ≤ 17592186044416) :
    Calls Try.prog 11 #[v, .agg #[.int .i64 p1, .int .i64 p2]] w fun e w' => e = .returned (.int .i64 (ls.count (p1, p2))) ∧ Below w.heap.size w w' := by
  rcases hv with ⟨a, c, rfl, rfl⟩ | ⟨b, off, cap, rfl, hc⟩
  · exact count_nil a c p1 p2 w
  · exact count_some b off cap ls p1 p2 w hlen hc

end Go.Proofs.Ytihicidfpfkknab
