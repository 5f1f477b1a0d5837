/-
  Literals; rows of numbers that are written; slices.Clone and slices.Reverse of numbers.
-/
import Derived.Test.YtefikbjjdldomaaCB
import Derived.Test.YtefikbjjdldomaaND
namespace Go.Proofs.Ytefikbjjdldomaa
open Go.RowKit
open Nm

theorem lit_edges (w : World) (es : List E) (cs : Array Value) (n : Nat) (hn : es.length = n) (hc : cs = (flat3 es).toArray) : SlE (w.alloc (.cells cs 66)) (.slice (some ⟨w.heap.size, 0, none⟩) n n) es := by
  subst hn hc
  refine .row w.heap.size 0 es.length rfl (fun i hi => ?_)
  obtain ⟨f1, f2, f3⟩ := flat3_get es i hi
  rw [Nat.zero_add]
  exact ⟨cell_new w _ _ _ _ (by simpa using f1), cell_new w _ _ _ _ (by simpa using f2), cell_new w _ _ _ _ (by simpa using f3)⟩
theorem lit_nums (w : World) (l : List Int) (cs : Array Value) (n : Nat) (hn : l.length = n) (hc : cs = (l.map (fun z => Value.int .i64 z)).toArray) : SlI (w.alloc (.cells cs 3)) (.slice (some ⟨w.heap.size, 0, none⟩) n n) l := by
  subst hn hc
  refine .row w.heap.size 0 l.length rfl (fun i hi => ?_) (Nat.le_refl _)
  rw [Nat.zero_add]
  exact cell_new w _ _ _ _ (by simp [hi, List.getD_eq_getElem?_getD])

/-- A row of numbers that is written. -/
structure Rw (w : World) (g cap : Nat) (l : List Int) : Prop where
  at_ : ∃ cur : Array Value, w.heap[g]? = some (.cells cur 3 (0, 0)) ∧ l.length ≤ cap ∧ cap ≤ maxLen ∧ cur.size = cap ∧ cur.toList.take l.length = l.map (fun z => .int .i64 z)
theorem Rw.is {w : World} {g cap base : Nat} {l : List Int} (h : Rw w g cap l) (hb : base ≤ g) : Is w base (.slice (some ⟨g, 0, none⟩) l.length cap) l := by
  obtain ⟨cur, h1, h2, h3, h4, h5⟩ := h.at_
  exact ⟨by simp, .inr ⟨g, cap, cur, rfl, hb, h1, h2, h3, by omega, by simpa using h5⟩⟩
theorem Is.rw {w : World} {base : Nat} {v : Value} {l : List Int} (h : Is w base v l) : (v = .slice none 0 0 ∧ l = []) ∨ ∃ g cap, v = .slice (some ⟨g, 0, none⟩) l.length cap ∧ base ≤ g ∧ Rw w g cap l := by
  rcases h.own.2 with ⟨rfl, h0⟩ | ⟨g, cap, cur, rfl, hb, h1, h2, h3, h4, h5⟩
  · exact .inl ⟨rfl, List.length_eq_zero_iff.1 h0⟩
  · exact .inr ⟨g, cap, rfl, hb, ⟨cur, h1, h2, h3, by omega, by simpa using h5⟩⟩
theorem Rw.lt {w : World} {g cap : Nat} {l : List Int} (h : Rw w g cap l) : g < w.heap.size := by
  obtain ⟨cur, h1, _⟩ := h.at_
  rcases Nat.lt_or_ge g w.heap.size with hlt | hge
  · exact hlt
  · rw [Array.getElem?_eq_none hge] at h1; cases h1
theorem Rw.frame {w w' : World} {g cap : Nat} {l : List Int} (h : Rw w g cap l) (hb : w'.heap[g]? = w.heap[g]?) : Rw w' g cap l := by
  obtain ⟨cur, h1, r⟩ := h.at_
  exact ⟨cur, hb.trans h1, r⟩
theorem Rw.below {w w' : World} {g cap : Nat} {l : List Int} (h : Rw w g cap l) (hb : Below w.heap.size w w') : Rw w' g cap l := h.frame (hb.block _ h.lt)
theorem Rw.cell {w : World} {g cap : Nat} {l : List Int} (h : Rw w g cap l) (i : Nat) (hi : i < l.length) : w.cell? ⟨g, i, none⟩ = some (.int .i64 (l.getD i 0)) ∧ w.frozen? ⟨g, i, none⟩ = false := by
  obtain ⟨cur, h1, h2, h3, h4, h5⟩ := h.at_
  have k1 : cur[i]? = some (.int .i64 (l.getD i 0)) := by
    have e : (l.map (fun z => Value.int .i64 z))[i]? = some (.int .i64 (l.getD i 0)) := by simp [hi]
    rw [← e, ← h5, List.getElem?_take_of_lt hi, Array.getElem?_toList]
  simp [World.cell?, World.frozen?, h1, k1]
theorem Rw.put {w : World} {g cap : Nat} {l : List Int} (h : Rw w g cap l) (i : Nat) (x : Int) : Rw (w.setCell ⟨g, i, none⟩ (.int .i64 x)) g cap (l.set i x) := by
  obtain ⟨cur, h1, h2, h3, h4, h5⟩ := h.at_
  refine ⟨_, heap_setCell_same _ _ _ _ _ _ _ h1, by simpa using h2, h3, by simpa using h4, ?_⟩
  simp only [Array.toList_setIfInBounds, List.length_set]
  rw [List.take_set, h5, List.map_set]

theorem nil_yes (c : Nat) (w : World) : (binOp .eql 25 (.slice none 0 c) (.slice none 0 0)).run Try.prog w = .ok (.bool true) w := by kernel_rfl
theorem nil_no (ad : Addr) (n c : Nat) (w : World) : (binOp .eql 25 (.slice (some ad) n c) (.slice none 0 0)).run Try.prog w = .ok (.bool false) w := by kernel_rfl
set_option maxRecDepth 100000 in
set_option maxHeartbeats 4000000 in
theorem iclone_nil (c : Nat) (w : World) : Calls Try.prog 31 #[.slice none 0 c] w fun e w' => e = .returned (.slice none 0 0) ∧ w' = w := by
  have hnil := nil_yes c
  go_enter Try.func31, Try.ntmps31
  go_wp2_with fail
  go_ret
  exact ⟨rfl, rfl⟩
set_option maxRecDepth 100000 in
set_option maxHeartbeats 4000000 in
theorem iclone_some (ad : Addr) (n c : Nat) (ls : List Int) (w : World) (hn : n = ls.length) (hlen : ls.length ≤ 17592186043904) (hc : ∀ (j : Nat) (u : Value), (ls.map (fun z => Value.int .i64 z))[j]? = some u → w.cell? (ad.add j) = some u) :
    Calls Try.prog 31 #[.slice (some ad) n c] w fun e w' => ∃ v, e = .returned v ∧ Is w' w.heap.size v ls ∧ Below w.heap.size w w' := by
  obtain ⟨i0, hi0, hz0, hz1, hz2⟩ := info3_parts
  have hown : (w.alloc (.cells #[] 3)).ownsRow w.heap.size 3 1 (.slice (some ⟨w.heap.size, 0, none⟩) 0 0) 0 [] :=
    ⟨rfl, .inr ⟨w.heap.size, 0, #[], rfl, Nat.le_refl _, heap_alloc_new w _, Nat.le_refl _, by unfold maxLen; omega, rfl, rfl⟩⟩
  have HC : Hid (∀ (j : Nat) (u : Value), (ls.map (fun z => Value.int .i64 z))[j]? = some u → (w.alloc (.cells #[] 3)).cell? (ad.add j) = some u) := fun j u hu => by
    have := hc j u hu
    rw [World.cell?_alloc_lt w _ _ (World.block_lt_of_cell? w _ this)]
    exact this
  have HN : Hid _ := hn
  clear hc hn
  have hnil := nil_no ad n c
  go_enter Try.func31, Try.ntmps31
  go_wp2_with (at_builtin; refine wpList_append_own_at _ rfl _ _ _ rfl w.heap.size 3 i0 _ 1 8 Try.underlying25 hi0 hz0 hz1 hz2 rfl (by omega) _ 0 [] rfl hown ad n c (ls.map (fun z => .int .i64 z)) rfl (by rw [HN.out]; simp) HC.out (nums_one ls) (by rw [HN.out]; unfold maxLen; omega) (by rw [HN.out]; omega) (by simp) ?_; intro v' W4 hown4 hgrow4 hiff4 hat4)
  go_ret
  rw [HN.out, Nat.zero_add] at hown4
  exact ⟨_, rfl, ⟨hown4⟩, (Below.alloc (Below.refl _ _) (Nat.le_refl _) _).grown hgrow4 (by simp) (fun k hk => (ownBlock_lt hown k hk).1)⟩
theorem iclone_any (v : Value) (ls : List Int) (w : World) (hv : SlI w v ls) (hlen : ls.length ≤ 17592186043904) :
    Calls Try.prog 31 #[v] w fun e w' => ∃ v, e = .returned v ∧ Is w' w.heap.size v ls ∧ Below w.heap.size w w' := by
  rcases hv.is with ⟨a, c, rfl, rfl⟩ | ⟨b, off, cap, rfl, hc, _⟩
  · cases a with
    | none =>
      refine (iclone_nil c w).mono ?_
      rintro e w' ⟨rfl, rfl⟩
      exact ⟨_, rfl, Is.nil _ _, Below.refl _ _⟩
    | some ad => exact iclone_some ad 0 c [] w rfl hlen (fun j u hu => by simp at hu)
  · exact iclone_some ⟨b, off, none⟩ _ cap ls w rfl hlen (nums_news hc)

/-- k swaps are done. -/
def Sw (l r : List Int) (k : Nat) : Prop := r.length = l.length ∧ ∀ t, t < l.length → r.getD t 0 = if t < k ∨ l.length < t + k + 1 then l.getD (l.length - 1 - t) 0 else l.getD t 0
theorem sw_start (l : List Int) : Sw l l 0 := ⟨rfl, fun t ht => by rw [if_neg (by omega)]⟩
theorem sw_next {l r : List Int} {k j : Nat} (h : Sw l r k) (hj : j + k + 1 = l.length) (hk : k < j) : Sw l ((r.set k (r.getD j 0)).set j (r.getD k 0)) (k + 1) := by
  obtain ⟨h1, h2⟩ := h
  refine ⟨by simpa using h1, fun t ht => ?_⟩
  have ek := h2 k (by omega)
  have ej := h2 j (by omega)
  rw [if_neg (by omega)] at ek ej
  have et := h2 t ht
  simp only [List.getD_eq_getElem?_getD, List.getElem?_set] at *
  by_cases e1 : t = j
  · subst e1
    have hlt : t < r.length := by omega
    simp [hlt]
    rw [if_pos (by omega), show l.length - 1 - t = k by omega]
    exact ek
  · by_cases e2 : t = k
    · subst e2
      have hlt : t < r.length := by omega
      rw [if_neg (fun e => e1 e.symm), if_pos rfl, if_pos hlt, if_pos (by omega), show l.length - 1 - t = j by omega]
      exact ej
    · rw [if_neg (fun e => e1 e.symm), if_neg (fun e => e2 e.symm), et]
      by_cases c : t < k ∨ l.length < t + k + 1
      · rw [if_pos c, if_pos (by omega)]
      · rw [if_neg c, if_neg (by omega)]
theorem sw_end {l r : List Int} {k : Nat} (h : Sw l r k) (hk : l.length ≤ 2 * k + 1) : r = l.reverse := by
  obtain ⟨h1, h2⟩ := h
  apply List.ext_getElem (by simpa using h1)
  intro t ht1 ht2
  have := h2 t (by omega)
  rw [List.getElem_reverse]
  simp only [List.getD_eq_getElem?_getD, List.getElem?_eq_getElem ht1, Option.getD_some] at this
  rw [this]
  split
  · rw [List.getElem?_eq_getElem (by omega)]; rfl
  · rw [List.getElem?_eq_getElem (by omega)]
    have e : l.length - 1 - t = t := by omega
    simp [e]

end Go.Proofs.Ytefikbjjdldomaa
