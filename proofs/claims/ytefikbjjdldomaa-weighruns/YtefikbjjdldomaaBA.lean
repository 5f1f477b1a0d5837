/-
  Numbers in memory.
-/
import Derived.Test.YtefikbjjdldomaaRows
import Derived.Test.YtefikbjjdldomaaMx
import Derived.WalkKit
import Derived.Deep.QuietTactic
import Derived.BigQuiet
import Derived.WalkSmall
import Derived.Deep.RegionHeld3
import Derived.Deep.DrawnRows
import Derived.BigRegion
import Derived.Deep.AppendLies
import Derived.Maps.AppendAt
import Derived.Deep.RegionLaw
namespace Go.Proofs.Ytefikbjjdldomaa
open Go.RowKit
open Nm

theorem ret_int {k : IntKind} {a b : Int} (h : a = b) : Ending.returned (.int k a) = .returned (.int k b) := by rw [h]
theorem ret_bool {a b : Bool} (h : a = b) : Ending.returned (.bool a) = .returned (.bool b) := by rw [h]
theorem bthen {w x y : World} (h1 : Below w.heap.size w x) (h2 : Below x.heap.size x y) : Below w.heap.size w y := h1.trans (h2.mono h1.size)
theorem balloc {w x : World} (h1 : Below w.heap.size w x) (o : Obj) : Below w.heap.size w (x.alloc o) := h1.alloc h1.size o
theorem bdrewN {w x : World} {b : Nat} (h : Below b w x) (q : Nat) : Below b w (x.drewN q) := h.trans ⟨rfl, rfl, rfl, Nat.le_refl _, fun _ _ => rfl⟩
theorem bcell {W w1 : World} (hb : Below W.heap.size W w1) : (∀ b o, b < W.heap.size → w1.cell? ⟨b, o, none⟩ = W.cell? ⟨b, o, none⟩) ∧ (∀ b o, b < W.heap.size → w1.frozen? ⟨b, o, none⟩ = W.frozen? ⟨b, o, none⟩) :=
  ⟨fun b o h => hb.cell (p := ⟨b, o, none⟩) h, fun b o h => hb.frozen (p := ⟨b, o, none⟩) h⟩
theorem kept {W w1 : World} (hb : Below W.heap.size W w1) {b o : Nat} {v : Value} (h : W.cell? ⟨b, o, none⟩ = some v) : w1.cell? ⟨b, o, none⟩ = some v := by
  rw [hb.cell (p := ⟨b, o, none⟩) (World.block_lt_of_cell? W ⟨b, o, none⟩ h)]; exact h
/-- A slice of numbers, as it is read. -/
structure SlI (w : World) (v : Value) (cs : List Int) : Prop where
  is : (∃ (a : Option Addr) (c : Nat), (v = .slice a 0 c) ∧ (cs = [])) ∨ ∃ (b off cap : Nat), (v = .slice (some ⟨b, off, none⟩) cs.length cap) ∧ (∀ i, i < cs.length → w.cell? ⟨b, off + i, none⟩ = some (.int .i64 (cs.getD i 0))) ∧ cs.length ≤ cap
theorem SlI.no {w : World} {v : Value} {cs : List Int} (a : Option Addr) (c : Nat) (h : v = .slice a 0 c) (e : cs = []) : SlI w v cs := ⟨.inl ⟨a, c, h, e⟩⟩
theorem SlI.row {w : World} {v : Value} {cs : List Int} (b off cap : Nat) (h : v = .slice (some ⟨b, off, none⟩) cs.length cap) (hc : ∀ i, i < cs.length → w.cell? ⟨b, off + i, none⟩ = some (.int .i64 (cs.getD i 0))) (hl : cs.length ≤ cap) : SlI w v cs := ⟨.inr ⟨b, off, cap, h, hc, hl⟩⟩
theorem SlI.below {w w' : World} {v : Value} {cs : List Int} (h : SlI w v cs) (hb : Below w.heap.size w w') : SlI w' v cs := by
  rcases h.is with ⟨a, c, h, e⟩ | ⟨b, off, cap, hv, hc, hl⟩
  · exact .no a c h e
  · exact .row b off cap hv (fun i hi => kept hb (hc i hi)) hl
theorem SlI.val {w : World} {v : Value} {cs : List Int} (h : SlI w v cs) : ∃ a c, v = .slice a cs.length c := by
  rcases h.is with ⟨a, c, rfl, rfl⟩ | ⟨b, off, cap, rfl, _⟩
  · exact ⟨_, _, rfl⟩
  · exact ⟨_, _, rfl⟩
theorem SlI.some2 {w : World} {v : Value} {cs : List Int} (h : SlI w v cs) (hl : 0 < cs.length) : ∃ b off cap, v = .slice (some ⟨b, off, none⟩) cs.length cap ∧ (∀ i, i < cs.length → w.cell? ⟨b, off + i, none⟩ = some (.int .i64 (cs.getD i 0))) ∧ cs.length ≤ cap := by
  rcases h.is with ⟨_, _, _, rfl⟩ | ⟨b, off, cap, hv, hc, hle⟩
  · simp at hl
  · exact ⟨b, off, cap, hv, hc, hle⟩
theorem SlI.some' {w : World} {v : Value} {cs : List Int} (h : SlI w v cs) (hl : 0 < cs.length) : ∃ b off cap, v = .slice (some ⟨b, off, none⟩) cs.length cap ∧ ∀ i, i < cs.length → w.cell? ⟨b, off + i, none⟩ = some (.int .i64 (cs.getD i 0)) := by
  obtain ⟨b, off, cap, hv, hc, _⟩ := h.some2 hl
  exact ⟨b, off, cap, hv, hc⟩
theorem SlI.drewN {w : World} {v : Value} {cs : List Int} (h : SlI w v cs) (q : Nat) : SlI (w.drewN q) v cs := by
  rcases h.is with ⟨a, c, h, e⟩ | ⟨b, off, cap, hv, hc, hl⟩
  · exact .no a c h e
  · exact .row b off cap hv hc hl
theorem cell_new (w : World) (cs : Array Value) (t : TypeId) (i : Nat) (v : Value) (h : cs[i]? = some v) : (w.alloc (.cells cs t)).cell? ⟨w.heap.size, i, none⟩ = some v := by
  have hn := heap_alloc_new w (.cells cs t)
  unfold World.cell?
  rw [hn]
  exact h
/-- The ground's box. -/
structure Box3 (W : World) (B : Nat) (gw gh : Int) (v : Value) : Prop where
  g0 : W.cell? ⟨B, 0, none⟩ = some (.int .i64 gw)
  g1 : W.cell? ⟨B, 1, none⟩ = some (.int .i64 gh)
  g2 : W.cell? ⟨B, 2, none⟩ = some v
theorem Box3.below {W W' : World} {B : Nat} {gw gh : Int} {v : Value} (h : Box3 W B gw gh v) (hb : Below W.heap.size W W') : Box3 W' B gw gh v :=
  ⟨kept hb h.g0, kept hb h.g1, kept hb h.g2⟩
theorem box3_new (w : World) (a b : Int) (v : Value) (t : TypeId) : Box3 (w.alloc (.cells #[.int .i64 a, .int .i64 b, v] t)) w.heap.size a b v :=
  ⟨cell_new w _ _ 0 _ rfl, cell_new w _ _ 1 _ rfl, cell_new w _ _ 2 _ rfl⟩
theorem owns_below {w w' : World} {base n t sz : Nat} {v : Value} {xs : List Value} (h : w.ownsRow base t sz v n xs) (hb : Below w.heap.size w w') : w'.ownsRow base t sz v n xs := by
  obtain ⟨h1, h2⟩ := h
  refine ⟨h1, ?_⟩
  rcases h2 with h2 | ⟨g, cap, cur, h3, h4, h5, h6⟩
  · exact .inl h2
  · refine .inr ⟨g, cap, cur, h3, h4, ?_, h6⟩
    have hlt : g < w.heap.size := by
      rcases Nat.lt_or_ge g w.heap.size with hlt | hge
      · exact hlt
      · rw [Array.getElem?_eq_none hge] at h5; cases h5
    rw [hb.block _ hlt]; exact h5
theorem ownBlock_lt {w : World} {base : Nat} {e : TypeId} {size : Nat} {v : Value} {n : Nat} {xs : List Value} (h : w.ownsRow base e size v n xs) : ∀ g, v.ownBlock = some g → base ≤ g ∧ g < w.heap.size := by
  intro g hg
  rcases h.2 with ⟨rfl, _⟩ | ⟨g', cap, cur, rfl, hb, hh, _⟩
  · cases hg
  · simp [Value.ownBlock] at hg
    subst hg
    refine ⟨hb, ?_⟩
    rcases Nat.lt_or_ge g' w.heap.size with hlt | hge
    · exact hlt
    · rw [Array.getElem?_eq_none hge] at hh; cases hh
theorem heap_setCell_same (w : World) (g o : Nat) (v : Value) (cur : Array Value) (t : TypeId) (fr : Nat × Nat) (h : w.heap[g]? = some (.cells cur t fr)) :
    (w.setCell ⟨g, o, none⟩ v).heap[g]? = some (.cells (cur.setIfInBounds o v) t fr) := by
  simp [World.setCell, Array.getElem?_modify, h]
/-- Numbers that the calls made for themselves. -/
structure Is (w : World) (base : Nat) (v : Value) (cs : List Int) : Prop where
  own : w.ownsRow base 3 1 v cs.length (cs.map (fun z => .int .i64 z))
theorem Is.below {w w' : World} {base : Nat} {v : Value} {l : List Int} (h : Is w base v l) (hb : Below w.heap.size w w') : Is w' base v l := ⟨owns_below h.own hb⟩
theorem Is.nil (w : World) (base : Nat) : Is w base (.slice none 0 0) [] := ⟨World.ownsRow_nil _ _ _ _⟩
theorem Is.next {w : World} {base n cap gg : Nat} {l m : List Int} {b : Int} (hm : m = l ++ [b]) (hn : n = l.length) (h : w.ownsRow base 3 1 (.slice (some ⟨gg, 0, none⟩) (n + 1) cap) (n + 1) (l.map (fun z => .int .i64 z) ++ [.int .i64 b])) : Is w base (.slice (some ⟨gg, 0, none⟩) (n + 1) cap) m := by
  subst hm hn
  refine ⟨?_⟩
  rw [List.map_append, List.length_append]
  exact h
theorem Is.other {w : World} {base g o : Nat} {u v : Value} {l : List Int} (h : Is w base v l) (hg : g < base) : Is (w.setCell ⟨g, o, none⟩ u) base v l := by
  obtain ⟨h1, h2⟩ := h.own
  refine ⟨h1, ?_⟩
  rcases h2 with h2 | ⟨g', cap, cur, h3, h4, h5, h6⟩
  · exact .inl h2
  · exact .inr ⟨g', cap, cur, h3, h4, by rw [Below.heap_setCell _ _ _ _ (show g' ≠ g by omega)]; exact h5, h6⟩
theorem Is.mono {w : World} {b b' : Nat} {v : Value} {l : List Int} (h : Is w b v l) (hb : b' ≤ b) : Is w b' v l := by
  obtain ⟨h1, h2⟩ := h.own
  refine ⟨h1, ?_⟩
  rcases h2 with h2 | ⟨g, cap, cur, h3, h4, h5⟩
  · exact .inl h2
  · exact .inr ⟨g, cap, cur, h3, Nat.le_trans hb h4, h5⟩
theorem Is.sl {w : World} {base : Nat} {v : Value} {cs : List Int} (h : Is w base v cs) : SlI w v cs := by
  rcases h.own.2 with ⟨rfl, h0⟩ | ⟨g, cap, cur, rfl, _, h1, h2, h3, h4, h5⟩
  · exact .no _ _ rfl (List.length_eq_zero_iff.1 h0)
  · refine .row g 0 cap rfl (fun i hi => ?_) h2
    have : cur[i]? = some (.int .i64 (cs.getD i 0)) := by
      have e : (cs.map (fun z => Value.int .i64 z))[i]? = some (.int .i64 (cs.getD i 0)) := by simp [hi]
      rw [← e, ← h5, List.getElem?_take_of_lt (by omega), Array.getElem?_toList]
    rw [Nat.zero_add]
    simp [World.cell?, h1, this]
theorem info3 : (Try.prog.info? 3).map (fun i => (i.zero, i.size, i.bytes)) = some (some (.int .i64 0), 1, 8) := by kernel_rfl
theorem info3_parts : ∃ i, Try.prog.info? 3 = some i ∧ i.zero = some (.int .i64 0) ∧ i.size = 1 ∧ i.bytes = 8 := by
  obtain ⟨i, hi, hh⟩ := Option.map_eq_some_iff.1 info3
  simp only [Prod.mk.injEq] at hh
  exact ⟨i, hi, hh.1, hh.2.1, hh.2.2⟩
theorem new_at {n : Nat} (w : World) (o : Obj) (h : w.heap.size = n) : (w.alloc o).heap[n]? = some o := by
  subst h; exact heap_alloc_new w o
theorem grown_refl (w : World) (r : Option Nat) : w.grownBy w r := ⟨rfl, rfl, rfl, Nat.le_refl _, fun _ _ _ => rfl⟩
theorem grown_trans {a b c : World} {r : Option Nat} (h1 : a.grownBy b r) (h2 : b.grownBy c r) : a.grownBy c r :=
  ⟨h2.os.trans h1.os, h2.tape.trans h1.tape, h2.output.trans h1.output, Nat.le_trans h1.size h2.size, fun k hk hr => (h2.block k (Nat.lt_of_lt_of_le hk h1.size) hr).trans (h1.block k hk hr)⟩
theorem grown_drewN {a b : World} {r : Option Nat} (h1 : a.grownBy b r) (q : Nat) : a.grownBy (b.drewN q) r := ⟨h1.os, h1.tape, h1.output, h1.size, h1.block⟩
theorem grown_drew {a b : World} {r : Option Nat} (h1 : a.grownBy b r) : a.grownBy b.drew r := ⟨h1.os, h1.tape, h1.output, h1.size, h1.block⟩
theorem grown_below {a b : World} {r : Option Nat} (h : Below a.heap.size a b) : a.grownBy b r := ⟨h.os, h.tape, h.output, h.size, fun k hk _ => h.block k hk⟩
theorem grown_setCell {a b : World} {g o : Nat} {v : Value} (h1 : a.grownBy b (some g)) : a.grownBy (b.setCell ⟨g, o, none⟩ v) (some g) :=
  ⟨h1.os, h1.tape, h1.output, by simp [World.setCell]; exact h1.size, fun k hk hr => by
    rw [Below.heap_setCell _ _ _ _ (fun e => hr (by rw [e]))]
    exact h1.block k hk hr⟩
/-- What only a new block's turning is, is nothing to what was there. -/
theorem below_grown {a b c : World} {g base : Nat} (h1 : Below base a b) (h2 : b.grownBy c (some g)) (hg : base ≤ g) (hb : base ≤ b.heap.size) : Below base a c :=
  h1.trans ⟨h2.os, h2.tape, h2.output, h2.size, fun k hk => h2.block k (Nat.lt_of_lt_of_le hk hb) (fun e => by have := Option.some.inj e; omega)⟩
theorem kept_alloc {W : World} {b o : Nat} {v : Value} {x : Obj} (h : W.cell? ⟨b, o, none⟩ = some v) : (W.alloc x).cell? ⟨b, o, none⟩ = some v := by
  rw [World.cell?_alloc_lt W x ⟨b, o, none⟩ (World.block_lt_of_cell? W ⟨b, o, none⟩ h)]; exact h
end Go.Proofs.Ytefikbjjdldomaa
