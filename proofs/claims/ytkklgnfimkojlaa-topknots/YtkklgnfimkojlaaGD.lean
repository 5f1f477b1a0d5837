/-
  Contract: Push, of numbers.
-/
import Derived.Test.YtkklgnfimkojlaaGB
namespace Go.Proofs.Ytkklgnfimkojlaa.Gi
open Go.RowKit
open Hi
attribute [local go_sem ↓] Go.wp_at_zero Go.wp_at_succ
attribute [local simp] Go.RowKit.frozen?_alloc_cells

theorem info3 : (Try.prog.info? 3).map (fun i => (i.zero, i.size, i.bytes)) = some (some (.int .i64 0), 1, 8) := by kernel_rfl
theorem at_append_left (ps : List Nat) (p : Nat) (i : Nat) (h : i < ps.length) : at' (ps ++ [p]) i = at' ps i := by
  unfold at'; simp [List.getD_eq_getElem?_getD, List.getElem?_append_left h]
theorem up_push {ps : List Nat} (h : IsHeap ps) (p : Nat) : UpAt (ps ++ [p]) ps.length := by
  refine ⟨fun i h0 hi hne => ?_, fun _ i h0 hi hp => ?_⟩
  · have hi' : i < ps.length := by simp at hi; omega
    rw [at_append_left _ _ _ hi', at_append_left _ _ _ (by omega)]
    exact h i h0 hi'
  · simp at hi; omega
theorem keptF_alloc0 {W : World} {b o : Nat} (c : Array Value) (t : TypeId) (hf : W.frozen? ⟨b, o, none⟩ = false) : (W.alloc (.cells c t)).frozen? ⟨b, o, none⟩ = false := by
  rw [frozen?_alloc_cells]; exact hf
/-- Behind the append: the heap's object holds one pop more. -/
theorem push_state {base H : Nat} {v : Value} {ps : List Nat} {a : Nat} {w w1 : World} {o1 : Obj} {gg cap : Nat}
    (hd : w.heap[H]? = some (.cells #[.func (.func 35) #[] #[], v] 74 (0, 0))) (lH : H < w.heap.size) (hne : v.ownBlock ≠ some H) (hlen : ps.length + 1 ≤ 8796093022208)
    (hown1 : w1.ownsRow base 3 1 (.slice (some ⟨gg, 0, none⟩) (ps.length + 1) cap) (ps.length + 1) (flat ps ++ [.int .i64 ((a : Nat) : Int)]))
    (hgrow : (w.alloc o1).grownBy w1 v.ownBlock) (hat : v.ownBlock = some gg ∨ gg = w.heap.size + 1) :
    HeapIs (w1.setCell ⟨H, 1, none⟩ (.slice (some ⟨gg, 0, none⟩) (ps.length + 1) cap)) H gg cap (ps ++ [a]) ∧ base ≤ gg := by
  have hl : (ps ++ [a]).length = ps.length + 1 := by simp
  have hf : flat ps ++ [.int .i64 ((a : Nat) : Int)] = flat (ps ++ [a]) := by rw [flat_append]; rfl
  rw [hf] at hown1
  obtain ⟨hr, hb⟩ := Row.of_owns hl.symm hown1
  have hHg : H ≠ gg := by
    rcases hat with h | h
    · intro e; subst e; exact hne h
    · omega
  have h1 : w1.heap[H]? = some (.cells #[.func (.func 35) #[] #[], v] 74 (0, 0)) := by
    rw [hgrow.block H (by simp; omega) (Ne.symm hne)]
    rw [Below.heap_alloc _ _ _ lH]
    exact hd
  refine ⟨⟨?_, hr.frame (Below.heap_setCell _ _ _ _ (Ne.symm hHg)), hHg, by omega⟩, hb⟩
  rw [heap_setCell_same _ _ _ _ _ _ _ h1, hl]
  rfl
theorem push_below {base H gg cap n : Nat} {v : Value} {w w1 : World} {o1 : Obj} (hH : base ≤ H) (lH : H < w.heap.size) (hv : ∀ g, v.ownBlock = some g → base ≤ g ∧ g < w.heap.size)
    (hgrow : (w.alloc o1).grownBy w1 v.ownBlock) : Below base w (w1.setCell ⟨H, 1, none⟩ (.slice (some ⟨gg, 0, none⟩) n cap)) := by
  have h1 : Below base w (w.alloc o1) := Below.alloc (Below.refl _ _) (by omega) _
  refine Below.setCell (h1.grown hgrow (by simp; omega) (fun k hk => (hv k hk).1)) hH _
theorem own_val {w : World} {base ty k n : Nat} {v : Value} {vs : List Value} (h : w.ownsRow base ty k v n vs) : ∃ ao co, v = .slice ao n co := by
  obtain ⟨_, h | ⟨g, cap, cur, hv, _⟩⟩ := h
  · obtain ⟨h1, h2⟩ := h; subst h1; subst h2; exact ⟨none, 0, rfl⟩
  · exact ⟨_, _, hv⟩
set_option maxRecDepth 100000 in
set_option maxHeartbeats 4000000 in
theorem push_any (base H : Nat) (v : Value) (ps : List Nat) (a : Nat) (w : World)
    (hd : w.heap[H]? = some (.cells #[.func (.func 35) #[] #[], v] 74 (0, 0))) (hown : w.ownsRow base 3 1 v ps.length (flat ps)) (hne : v.ownBlock ≠ some H) (hbH : base ≤ H) (hlen : ps.length + 1 ≤ 8796093022208) (hheap : IsHeap ps) :
    Calls Try.prog 36 #[.pointer (some ⟨H, 0, none⟩), .int .i64 ((a : Nat) : Int)] w fun e w' => e = .returned (.tuple #[]) ∧ ∃ g cap qs, HeapIs w' H g cap qs ∧ base ≤ g ∧ qs.Perm (ps ++ [a]) ∧ IsHeap qs ∧ Below base w w' ∧ (∀ k, k < w.heap.size → k ≠ H → v.ownBlock ≠ some k → w'.heap[k]? = w.heap[k]?) ∧ (v.ownBlock = some g ∨ w.heap.size ≤ g) := by
  obtain ⟨i0, hi0, hz0, hz1, hz2⟩ := info_parts info3
  have lH : H < w.heap.size := by
    rcases Nat.lt_or_ge H w.heap.size with hlt | hge
    · exact hlt
    · rw [Array.getElem?_eq_none hge] at hd; cases hd
  obtain ⟨ao, co, rfl⟩ := own_val hown
  have c1 : w.cell? ⟨H, 1, none⟩ = some (.slice ao ps.length co) := by simp [World.cell?, hd]
  have f1 : w.frozen? ⟨H, 1, none⟩ = false := by simp [World.frozen?, hd]
  have HUP : Hid _ := up_push hheap a
  clear hheap
  have hn63 : ps.length + 1 ≤ maxLen := by unfold maxLen; omega
  have HN : Hid ((w.alloc (.cells #[.int .i64 ((a : Nat) : Int)] 3)).heap[w.heap.size]? = some (.cells #[.int .i64 ((a : Nat) : Int)] 3)) := heap_alloc_new w _
  have HNE : Hid _ := hne
  have HD : Hid _ := hd
  clear hne hd
  have HL : Hid ((ps ++ [a]).length = ps.length + 1) := by unfold Hid; simp
  go_enter Try.func36, Try.ntmps36
  go_wp2_with (at_builtin; refine wpList_append_lies _ rfl _ _ _ rfl base 3 i0 _ 1 8 Try.underlying25 hi0 hz0 hz1 hz2 rfl (by omega) (.slice ao ps.length co) ps.length (flat ps) rfl (hown.alloc _) ⟨w.heap.size, 0, none⟩ 1 1 [.int .i64 ((a : Nat) : Int)] rfl rfl (World.news_of_block (cs := #[.int .i64 ((a : Nat) : Int)]) (t := 3) (fr := (0, 0)) HN.out) (by simp [Value.oneCell']) (by omega) hn63 (by omega) (by simp; omega) (w.heap.size + 1) (by simp) ?_; intro gg cap w1 hown1 hgrow hat hlt; have q1 : w1.cell? ⟨H, 1, none⟩ = some (.slice ao ps.length co) := (by rw [hgrow.cell_far _ (by simp; omega) (Ne.symm HNE.out)]; go_simp); have q2 : w1.frozen? ⟨H, 1, none⟩ = false := (by rw [hgrow.frozen_far _ (by simp; omega) (Ne.symm HNE.out)]; simp [f1]); have PS : Hid _ := push_state HD.out lH HNE.out hlen hown1 hgrow hat; have PB : Hid _ := push_below (gg := gg) (cap := cap) (n := ps.length + 1) hbH lH (ownBlock_lt hown) hgrow; have FAR : Hid (∀ k, k < w.heap.size → k ≠ H → (Value.slice ao ps.length co).ownBlock ≠ some k → (w1.setCell ⟨H, 1, none⟩ (.slice (some ⟨gg, 0, none⟩) (ps.length + 1) cap)).heap[k]? = w.heap[k]?) := (by exact fun k hk h1 h2 => (Below.heap_setCell _ _ _ _ h1).trans ((hgrow.block k (by simp; omega) (Ne.symm h2)).trans (Below.heap_alloc _ _ _ hk))); have AT : Hid ((Value.slice ao ps.length co).ownBlock = some gg ∨ w.heap.size ≤ gg) := (by exact hat.imp_right (fun h => by omega)); clear hown1 hgrow hat hlt)
  obtain ⟨hst, hbg⟩ := PS.out
  have hbl := PB.out
  generalize hW : w1.setCell ⟨H, 1, none⟩ (.slice (some ⟨gg, 0, none⟩) (ps.length + 1) cap) = W at *
  refine (rise_any H gg ps.length cap (ps ++ [a]) W (by simp) hst HUP.out).mono ?_
  rintro e w2 ⟨rfl, qs, s1, s2, s3, s4⟩
  have HW : Hid _ := hW
  clear hW q1 q2
  go_wp2
  go_end0
  exact ⟨rfl, gg, cap, qs, s1, hbg, s2, s3, hbl.grown s4 (by have := hst.ltH; omega) (fun k hk => by cases hk; exact hbg), fun k hk h1 h2 => by
    have hkg : k ≠ gg := by
      rcases AT.out with h | h
      · intro e; subst e; exact h2 h
      · omega
    have hkW : k < W.heap.size := by
      have h9 := FAR.out k hk h1 h2
      rcases Nat.lt_or_ge k W.heap.size with h | h
      · exact h
      · rw [Array.getElem?_eq_none h, Array.getElem?_eq_getElem hk] at h9; cases h9
    rw [s4.block k hkW (by simpa using hkg)]; exact FAR.out k hk h1 h2, AT.out⟩
end Go.Proofs.Ytkklgnfimkojlaa.Gi
