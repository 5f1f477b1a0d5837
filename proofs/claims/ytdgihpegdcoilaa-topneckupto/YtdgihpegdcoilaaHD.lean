/-
  Contract: Push.
-/
import Derived.Test.YtdgihpegdcoilaaHB
namespace Go.Proofs.Ytdgihpegdcoilaa
open Go.RowKit
open Hp
attribute [local go_sem ↓] Go.wp_at_zero Go.wp_at_succ
attribute [local simp] Go.RowKit.frozen?_alloc_cells

theorem info32 : (Try.prog.info? 68).map (fun i => (i.zero, i.size, i.bytes)) = some (some (.agg #[.int .i64 0, .int .i64 0]), 2, 16) := by kernel_rfl
theorem at_append_left (ps : List (Int × Int)) (p : Int × Int) (i : Nat) (h : i < ps.length) : at' (ps ++ [p]) i = at' ps i := by
  unfold at'; simp [List.getD_eq_getElem?_getD, List.getElem?_append_left h]
theorem up_push {ps : List (Int × Int)} (h : IsHeap ps) (p : Int × Int) : UpAt (ps ++ [p]) ps.length := by
  refine ⟨fun i h0 hi hne => ?_, fun _ i h0 hi hp => ?_⟩
  · have hi' : i < ps.length := by simp at hi; omega
    rw [at_append_left _ _ _ hi', at_append_left _ _ _ (by omega)]
    exact h i h0 hi'
  · simp at hi; omega
theorem keptF_alloc0 {W : World} {b o : Nat} (c : Array Value) (t : TypeId) (hf : W.frozen? ⟨b, o, none⟩ = false) : (W.alloc (.cells c t)).frozen? ⟨b, o, none⟩ = false := by
  rw [frozen?_alloc_cells]; exact hf
/-- Behind the append: the heap's object holds one pop more. -/
theorem push_state {base H : Nat} {v : Value} {ps : List (Int × Int)} {a b : Int} {w w1 : World} {o1 o2 : Obj} {gg cap : Nat}
    (hd : w.heap[H]? = some (.cells #[.func (.func 65) #[] #[], v] 105 (0, 0))) (lH : H < w.heap.size) (hne : v.ownBlock ≠ some H) (hlen : ps.length + 1 ≤ 8796093022208)
    (hown1 : w1.ownsRow base 68 2 (.slice (some ⟨gg, 0, none⟩) (ps.length + 1) cap) (ps.length + 1) (flat ps ++ [.int .i64 a, .int .i64 b]))
    (hgrow : ((w.alloc o1).alloc o2).drew.grownBy w1 v.ownBlock) (hat : v.ownBlock = some gg ∨ gg = w.heap.size + 1 + 1) :
    HeapIs (w1.setCell ⟨H, 1, none⟩ (.slice (some ⟨gg, 0, none⟩) (ps.length + 1) cap)) H gg cap (ps ++ [(a, b)]) ∧ base ≤ gg := by
  have hl : (ps ++ [(a, b)]).length = ps.length + 1 := by simp
  have hf : flat ps ++ [.int .i64 a, .int .i64 b] = flat (ps ++ [(a, b)]) := by rw [flat_append]; rfl
  rw [hf] at hown1
  obtain ⟨hr, hb⟩ := Row.of_owns hl.symm hown1
  have hHg : H ≠ gg := by
    rcases hat with h | h
    · intro e; subst e; exact hne h
    · omega
  have h1 : w1.heap[H]? = some (.cells #[.func (.func 65) #[] #[], v] 105 (0, 0)) := by
    rw [hgrow.block H (by show H < ((w.alloc o1).alloc o2).heap.size; simp; omega) (Ne.symm hne)]
    show ((w.alloc o1).alloc o2).heap[H]? = _
    rw [Below.heap_alloc _ _ _ (by simp; omega), Below.heap_alloc _ _ _ lH]
    exact hd
  refine ⟨⟨?_, hr.frame (Below.heap_setCell _ _ _ _ (Ne.symm hHg)), hHg, by omega⟩, hb⟩
  rw [heap_setCell_same _ _ _ _ _ _ _ h1, hl]
  rfl
theorem push_below {base H gg cap n : Nat} {v : Value} {w w1 : World} {o1 o2 : Obj} (hH : base ≤ H) (lH : H < w.heap.size) (hv : ∀ g, v.ownBlock = some g → base ≤ g ∧ g < w.heap.size)
    (hgrow : ((w.alloc o1).alloc o2).drew.grownBy w1 v.ownBlock) : Below base w (w1.setCell ⟨H, 1, none⟩ (.slice (some ⟨gg, 0, none⟩) n cap)) := by
  have h1 : Below base w ((w.alloc o1).alloc o2).drew := Below.drew (Below.alloc (Below.alloc (Below.refl _ _) (by omega) _) (by simp; omega) _)
  refine Below.setCell (h1.grown hgrow (by show base ≤ ((w.alloc o1).alloc o2).heap.size; simp; omega) (fun k hk => (hv k hk).1)) hH _
set_option maxRecDepth 100000 in
set_option maxHeartbeats 4000000 in
theorem push_any (base H : Nat) (v : Value) (ps : List (Int × Int)) (a b : Int) (w : World)
    (hd : w.heap[H]? = some (.cells #[.func (.func 65) #[] #[], v] 105 (0, 0))) (hown : w.ownsRow base 68 2 v ps.length (flat ps)) (hne : v.ownBlock ≠ some H) (hbH : base ≤ H) (hlen : ps.length + 1 ≤ 8796093022208) (hheap : IsHeap ps) :
    Calls Try.prog 66 #[.pointer (some ⟨H, 0, none⟩), .agg #[.int .i64 a, .int .i64 b]] w fun e w' => e = .returned (.tuple #[]) ∧ ∃ g cap qs, HeapIs w' H g cap qs ∧ base ≤ g ∧ qs.Perm (ps ++ [(a, b)]) ∧ IsHeap qs ∧ Below base w w' ∧ (∀ k, k < w.heap.size → k ≠ H → v.ownBlock ≠ some k → w'.heap[k]? = w.heap[k]?) ∧ (v.ownBlock = some g ∨ w.heap.size ≤ g) := by
  obtain ⟨i0, hi0, hz0, hz1, hz2⟩ := info_parts info32
  have lH : H < w.heap.size := by
    rcases Nat.lt_or_ge H w.heap.size with hlt | hge
    · exact hlt
    · rw [Array.getElem?_eq_none hge] at hd; cases hd
  have c1 : w.cell? ⟨H, 1, none⟩ = some v := by simp [World.cell?, hd]
  have f1 : w.frozen? ⟨H, 1, none⟩ = false := by simp [World.frozen?, hd]
  have HUP : Hid _ := up_push hheap (a, b)
  clear hheap
  have hn63 : ps.length + 1 ≤ maxLen := by unfold maxLen; omega
  have d1 := kept_alloc (x := .cells #[.int .i64 a, .int .i64 b] 68) c1
  have e1 := keptF_alloc0 #[.int .i64 a, .int .i64 b] 68 f1
  have hnb : some w.heap.size ≠ v.ownBlock := fun e => by have := (ownBlock_lt hown _ e.symm).2; omega
  have hnew : ((w.alloc (.cells #[.int .i64 a, .int .i64 b] 68)).alloc (.cells #[.int .i64 a, .int .i64 b] 68)).drew.heap[w.heap.size + 1]? = some (.cells #[.int .i64 a, .int .i64 b] 68) := by
    have := heap_alloc_new (w.alloc (.cells #[.int .i64 a, .int .i64 b] 68)) (.cells #[.int .i64 a, .int .i64 b] 68)
    show ((w.alloc (.cells #[.int .i64 a, .int .i64 b] 68)).alloc (.cells #[.int .i64 a, .int .i64 b] 68)).heap[w.heap.size + 1]? = _
    simpa using this
  have HN : Hid _ := hnew
  clear hnew
  go_enter Try.func66, Try.ntmps66
  go_wp2_with fail
  go_region_law
    ((refine step_append_lies _ (by rfl) _ _ _ (by rfl) base 68 i0 _ 2 16 Try.underlying66 hi0 hz0 hz1 hz2 rfl (by omega) v ps.length (flat ps) (by rfl) (((hown.alloc _).alloc _).drew)
        ⟨w.heap.size + 1, 0, none⟩ 1 1 [.int .i64 a, .int .i64 b] (by rfl) (by rfl) (World.news_of_block (cs := #[.int .i64 a, .int .i64 b]) (t := 68) (fr := (0, 0)) HN.out) (by simp [Value.oneCell'])
        (by omega) hn63 (by omega) (by simp; omega) (w.heap.size + 1 + 1) (by simp) ?_; intro gg cap w1 hown1 hgrow hat hlt; have q1 : w1.cell? ⟨H, 1, none⟩ = some v := (by rw [hgrow.cell_far _ (by simp; omega) (Ne.symm hne)]; go_simp); have q2 : w1.frozen? ⟨H, 1, none⟩ = false := (by rw [hgrow.frozen_far _ (by simp; omega) (Ne.symm hne)]; simp [f1])))
  all_goals
    obtain ⟨hst, hbg⟩ := push_state hd lH hne hlen hown1 hgrow hat
    have hbl : Below base w (w1.setCell ⟨H, 1, none⟩ (.slice (some ⟨gg, 0, none⟩) (ps.length + 1) cap)) := push_below hbH lH (ownBlock_lt hown) hgrow
    obtain ⟨k0, k1, k2⟩ := hst.cell
    have hl : (ps ++ [(a, b)]).length = ps.length + 1 := by simp
    rw [hl] at k1
    have FAR : Hid (∀ k, k < w.heap.size → k ≠ H → v.ownBlock ≠ some k → (w1.setCell ⟨H, 1, none⟩ (.slice (some ⟨gg, 0, none⟩) (ps.length + 1) cap)).heap[k]? = w.heap[k]?) := fun k hk h1 h2 => by
      rw [Below.heap_setCell _ _ _ _ h1, hgrow.block k (by show k < ((w.alloc _).alloc _).heap.size; simp; omega) (Ne.symm h2)]
      show ((w.alloc _).alloc _).heap[k]? = _
      rw [Below.heap_alloc _ _ _ (by simp; omega), Below.heap_alloc _ _ _ hk]
    have AT : Hid (v.ownBlock = some gg ∨ w.heap.size ≤ gg) := hat.imp_right (fun h => by omega)
    generalize hW : w1.setCell ⟨H, 1, none⟩ (.slice (some ⟨gg, 0, none⟩) (ps.length + 1) cap) = W at *
    clear hW hown1 hgrow hlt q1 q2
    go_wp2_with fail
    refine (rise_any H gg ps.length cap (ps ++ [(a, b)]) W (by omega) hst HUP.out).mono ?_
    rintro e w2 ⟨rfl, qs, s1, s2, s3, s4⟩
    go_wp2
    go_end0
    exact ⟨rfl, gg, cap, qs, s1, hbg, s2, s3, hbl.grown s4 (by have := hst.ltH; omega) (fun k hk => by cases hk; exact hbg), fun k hk h1 h2 => by
      have hkg : k ≠ gg := by
        rcases AT.out with h | h
        · intro e; subst e; exact h2 h
        · omega
      have hkW : k < W.heap.size := by
        have h9 := FAR.out k hk h1 h2
        rcases Nat.lt_or_ge k W.heap.size with h | h
        · exact h
        · rw [Array.getElem?_eq_none h, Array.getElem?_eq_getElem hk] at h9; cases h9
      rw [s4.block k hkW (by simpa using hkg)]; exact FAR.out k hk h1 h2, AT.out⟩
end Go.Proofs.Ytdgihpegdcoilaa
