/-
  What two blocks' turning leaves; the contract of the function that Tree hands in.
-/
import Derived.Test.YtdgihpegdcoilaaKP
import Derived.Test.YtdgihpegdcoilaaUB
namespace Go.Proofs.Ytdgihpegdcoilaa
open Go.RowKit
open Nm Kk

/-- Below base nothing has turned but blocks g and B. -/
structure Off (base : Nat) (a b : World) (g B : Nat) : Prop where
  os : b.os = a.os
  tape : b.tape = a.tape
  output : b.output = a.output
  size : a.heap.size ≤ b.heap.size
  block : ∀ k, k < base → k ≠ g → k ≠ B → b.heap[k]? = a.heap[k]?
theorem Off.refl (base : Nat) (a : World) (g B : Nat) : Off base a a g B := ⟨rfl, rfl, rfl, Nat.le_refl _, fun _ _ _ _ => rfl⟩
theorem Off.trans {base : Nat} {a b c : World} {g B : Nat} (h1 : Off base a b g B) (h2 : Off base b c g B) : Off base a c g B :=
  ⟨h2.os.trans h1.os, h2.tape.trans h1.tape, h2.output.trans h1.output, Nat.le_trans h1.size h2.size, fun k hk h3 h4 => (h2.block k hk h3 h4).trans (h1.block k hk h3 h4)⟩
theorem Off.of_below {base : Nat} {a b : World} {g B : Nat} (h : Below a.heap.size a b) (hb : base ≤ a.heap.size) : Off base a b g B :=
  ⟨h.os, h.tape, h.output, h.size, fun k hk _ _ => h.block k (Nat.lt_of_lt_of_le hk hb)⟩
theorem Off.of_grown {base : Nat} {a b : World} {g B : Nat} (h : a.grownBy b (some g)) (hb : base ≤ a.heap.size) : Off base a b g B :=
  ⟨h.os, h.tape, h.output, h.size, fun k hk hg _ => h.block k (Nat.lt_of_lt_of_le hk hb) (fun e => hg (Option.some.inj e))⟩
theorem Off.below {base : Nat} {w0 a b : World} {g B : Nat} (h : Off base a b g B) (h0 : Below w0.heap.size w0 a) (hg : w0.heap.size ≤ g) (hB : w0.heap.size ≤ B) (hb : w0.heap.size ≤ base) : Below w0.heap.size w0 b :=
  h0.trans ⟨h.os, h.tape, h.output, h.size, fun k hk => h.block k (Nat.lt_of_lt_of_le hk hb) (by omega) (by omega)⟩
theorem Off.cell {base : Nat} {a b : World} {g B k o : Nat} {v : Value} (h : Off base a b g B) (hk : k < base) (h1 : k ≠ g) (h2 : k ≠ B) (hc : a.cell? ⟨k, o, none⟩ = some v) : b.cell? ⟨k, o, none⟩ = some v := by
  unfold World.cell? at hc ⊢
  rw [h.block k hk h1 h2]; exact hc

/-- A variable that stands by itself: its box. -/
structure Vb (w : World) (k : Nat) (v : Value) (t : TypeId) : Prop where
  at_ : w.heap[k]? = some (.cells #[v] t (0, 0))
theorem Vb.lt {w : World} {k : Nat} {v : Value} {t : TypeId} (h : Vb w k v t) : k < w.heap.size := by
  rcases Nat.lt_or_ge k w.heap.size with hlt | hge
  · exact hlt
  · have := h.at_; rw [Array.getElem?_eq_none hge] at this; cases this
theorem Vb.cell {w : World} {k : Nat} {v : Value} {t : TypeId} (h : Vb w k v t) : w.cell? ⟨k, 0, none⟩ = some v ∧ w.frozen? ⟨k, 0, none⟩ = false := by
  have := h.at_; simp [World.cell?, World.frozen?, this]
theorem Vb.frame {w w' : World} {k : Nat} {v : Value} {t : TypeId} (h : Vb w k v t) (hb : w'.heap[k]? = w.heap[k]?) : Vb w' k v t := ⟨hb.trans h.at_⟩
theorem Vb.below {w w' : World} {k : Nat} {v : Value} {t : TypeId} (h : Vb w k v t) (hb : Below w.heap.size w w') : Vb w' k v t := h.frame (hb.block _ h.lt)
theorem Vb.put {w : World} {k : Nat} {v : Value} {t : TypeId} (h : Vb w k v t) (u : Value) : Vb (w.setCell ⟨k, 0, none⟩ u) k u t := ⟨(heap_setCell_same _ _ _ _ _ _ _ h.at_).trans rfl⟩
theorem vb_new (w : World) (v : Value) (t : TypeId) : Vb (w.alloc (.cells #[v] t)) w.heap.size v t := ⟨heap_alloc_new w _⟩

set_option maxRecDepth 100000 in
set_option maxHeartbeats 8000000 in
theorem more_tree (B base i : Nat) (u : Value) (l : List Int) (w : World) (hB : Vb w B u 23) (hlt : B < base) (hbase : base ≤ w.heap.size) (hu : Is w base u l) (hl : l.length ≤ 600) :
    Calls Try.prog 39 #[.int .i64 i, .pointer (some ⟨B, 0, none⟩)] w fun e w' => e = .returned (.bool true) ∧ (∃ u', Vb w' B u' 23 ∧ Is w' base u' (l ++ [(i : Int)])) ∧ ∀ g, Off base w w' g B := by
  obtain ⟨ao, co, rfl⟩ := hu.sl.val
  have HVb : Hid _ := hB
  have HU : Hid _ := hu
  obtain ⟨i0, hi0, hz0, hz1, hz2⟩ := info3_parts
  have hown := hu.own
  have HNW : Hid ((w.alloc (.cells #[.int .i64 i] 3)).heap[w.heap.size]? = some (.cells #[.int .i64 i] 3)) := heap_alloc_new _ _
  have VA : Hid _ := hB.below (balloc (Below.refl _ _) (.cells #[.int .i64 i] 3))
  obtain ⟨s0, s1⟩ := hB.cell
  clear hB hu
  have hBw : B < w.heap.size := by omega
  go_enter Try.func39, Try.ntmps39
  go_wp2_with (at_builtin; refine wpList_append_lies _ rfl _ _ _ rfl base 3 i0 _ 1 8 Try.underlying23 hi0 hz0 hz1 hz2 rfl (by omega) (.slice ao l.length co) l.length _ rfl (hown.alloc _) ⟨w.heap.size, 0, none⟩ 1 1 [.int .i64 (i : Int)] rfl rfl (World.news_of_block (cs := #[.int .i64 (i : Int)]) (t := 3) (fr := (0, 0)) HNW.out) (by simp [Value.oneCell']) (by omega) (by unfold maxLen; omega) (by omega) (by simp; omega) (w.heap.size + 1) (by simp) ?_; intro gg cap' w4 hown4 hgrow hat hlt4; have FAR : Hid (∀ g, g < base → w4.heap[g]? = w.heap[g]?) := (by exact fun g hg => (hgrow.block g (by simp; omega) (fun e => by have := (ownBlock_lt hown g e.symm).1; omega)).trans (Below.heap_alloc _ _ _ (by omega))); have VN : Hid (Vb w4 B (.slice ao l.length co) 23) := (by exact HVb.out.frame (FAR.out B hlt)); have OS : Hid (w4.os = w.os ∧ w4.tape = w.tape ∧ w4.output = w.output ∧ w.heap.size ≤ w4.heap.size) := (by exact ⟨hgrow.os, hgrow.tape, hgrow.output, Nat.le_trans (by simp) hgrow.size⟩); obtain ⟨t0, t1⟩ := VN.out.cell)
  go_ret
  refine ⟨rfl, ⟨_, VN.out.put _, (Is.next rfl rfl hown4).other hlt⟩, fun g => ⟨OS.out.1, OS.out.2.1, OS.out.2.2.1, by simp [World.setCell]; exact OS.out.2.2.2, fun k hk _ hkB => (Below.heap_setCell _ _ _ _ hkB).trans (FAR.out k hk)⟩⟩
end Go.Proofs.Ytdgihpegdcoilaa
