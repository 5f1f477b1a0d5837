/-
  Contracts: the document's Start, Spread and Dist.
-/
import Derived.Test.YtefikbjjdldomaaRP
import Derived.Test.YtefikbjjdldomaaRV
namespace Go.Proofs.Ytefikbjjdldomaa
open Go.RowKit
open Nm Wm Dm
attribute [local go_sem ↓] Go.wp_at_zero Go.wp_at_succ

theorem made_ur (n : Nat) (hn : n ≤ 64) (w : World) : (Instr.makeSlice 25 (.int .i64 n) (.int .i64 n)).run Try.prog w = .ok (.slice (some ⟨w.heap.size, 0, none⟩) n n) (w.alloc (.cells (Array.ofFn (n := n) fun _ => .int .i64 0) 3)) := by
  rw [made_run n hn w]
  have e : (List.replicate n (Value.int .i64 0)).toArray = Array.ofFn (n := n) fun _ => Value.int .i64 0 := by
    apply Array.ext
    · simp
    · intro i h1 h2
      simp
  rw [e]
theorem lst_set {n : Nat} {d : Nat → Int} {y : Nat} {x : Int} : (lst n d).set y x = lst n (upd d y x) := by
  unfold lst
  apply List.ext_getElem
  · simp
  · intro i h1 h2
    rw [List.getElem_set]
    simp at h1 h2 ⊢
    by_cases e : y = i
    · subst e; simp [upd_same]
    · simp [e, upd_other d x (fun e' => e e'.symm)]
theorem Ur.rw {w : World} {g n : Nat} {d : Nat → Int} (h : Ur w g n d) (hn : n ≤ 64) : Rw w g n (lst n d) := by
  refine ⟨_, h.block, by rw [lst_length]; exact Nat.le_refl _, by unfold maxLen; omega, by simp, ?_⟩
  rw [lst_length]
  apply List.ext_getElem
  · simp [lst]
  · intro i h1 h2
    simp [lst]

/-- The first k are far. -/
def fil (k : Nat) : Nat → Int := fun i => if i < k then 1099511627776 else 0
theorem fil_next (k x : Nat) : upd (fil k) k 1099511627776 x = fil (k + 1) x := by
  unfold upd fil
  by_cases e : x = k
  · rw [if_pos e, if_pos (by omega)]
  · rw [if_neg e]
    by_cases h : x < k
    · rw [if_pos h, if_pos (by omega)]
    · rw [if_neg h, if_neg (by omega)]
theorem fil_end {N s x : Nat} (hx : x < N) : upd (fil N) s 0 x = Dm.start s x := by
  unfold upd Dm.start fil
  by_cases e : x = s
  · rw [if_pos e, if_pos e]
  · rw [if_neg e, if_neg e, if_pos hx]

end Go.Proofs.Ytefikbjjdldomaa
