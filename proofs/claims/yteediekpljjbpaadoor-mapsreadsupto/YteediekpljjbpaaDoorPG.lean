/-
  Contract: guess. What it makes of any text.
-/
import Derived.Test.YteediekpljjbpaaDoorPA
import Derived.Lib.Bytealg
namespace Go.Proofs.YteediekpljjbpaaDoor
open Go.RowKit
open Gm Pm

set_option maxRecDepth 100000 in
set_option maxHeartbeats 1000000 in
theorem slIndex_any (s : ByteArray) (c : Int) (w : World) : Calls Tryd.prog 24 #[.string s, .int .u8 c] w fun e w' => e = .returned (.int .i64 (Lib.indexByte s.data.toList c.toNat.toUInt8)) ∧ w' = w := by
  go_enter Tryd.func24, Tryd.ntmps24
  go_wp2
  rw [run_callFunc_extern Tryd.func32 (by kernel_rfl) (by kernel_rfl) (by kernel_rfl) (e := Extern.BytealgIndexByte.indexByte) (by kernel_rfl), Lib.run_indexByteString]
  simp only [Result.andThen]
  rw [Oper.upon_value]
  go_wp2
  go_ret
  exact ⟨rfl, rfl⟩
set_option maxRecDepth 100000 in
set_option maxHeartbeats 1000000 in
theorem sIndex_any (s : ByteArray) (c : Int) (w : World) : Calls Tryd.prog 15 #[.string s, .int .u8 c] w fun e w' => e = .returned (.int .i64 (Lib.indexByte s.data.toList c.toNat.toUInt8)) ∧ w' = w := by
  go_enter Tryd.func15, Tryd.ntmps15
  go_wp2_with fail
  refine (slIndex_any s c w).mono ?_
  rintro e w' ⟨rfl, rfl⟩
  go_wp2
  go_ret
  exact ⟨rfl, rfl⟩

/-- A box of three that stands by itself. -/
structure Bx (w : World) (k : Nat) (a b c : Value) : Prop where
  at_ : w.heap[k]? = some (.cells #[a, b, c] 24 (0, 0))
theorem Bx.lt {w : World} {k : Nat} {a b c : Value} (h : Bx w k a b c) : k < w.heap.size := by
  rcases Nat.lt_or_ge k w.heap.size with hlt | hge
  · exact hlt
  · have := h.at_; rw [Array.getElem?_eq_none hge] at this; cases this
theorem Bx.cell {w : World} {k : Nat} {a b c : Value} (h : Bx w k a b c) : w.cell? ⟨k, 0, none⟩ = some a ∧ w.cell? ⟨k, 1, none⟩ = some b ∧ w.cell? ⟨k, 2, none⟩ = some c := by
  have := h.at_; simp [World.cell?, this]
theorem Bx.frozen {w : World} {k : Nat} {a b c : Value} (h : Bx w k a b c) : w.frozen? ⟨k, 0, none⟩ = false ∧ w.frozen? ⟨k, 1, none⟩ = false ∧ w.frozen? ⟨k, 2, none⟩ = false := by
  have := h.at_; simp [World.frozen?, this]
theorem Bx.frame {w w' : World} {k : Nat} {a b c : Value} (h : Bx w k a b c) (hb : w'.heap[k]? = w.heap[k]?) : Bx w' k a b c := ⟨hb.trans h.at_⟩
theorem Bx.below {w w' : World} {k : Nat} {a b c : Value} (h : Bx w k a b c) (hb : Below w.heap.size w w') : Bx w' k a b c := h.frame (hb.block _ h.lt)
theorem heap_setCell_same (w : World) (g o : Nat) (v : Value) (cur : Array Value) (t : TypeId) (fr : Nat × Nat) (h : w.heap[g]? = some (.cells cur t fr)) :
    (w.setCell ⟨g, o, none⟩ v).heap[g]? = some (.cells (cur.setIfInBounds o v) t fr) := by
  simp [World.setCell, Array.getElem?_modify, h]
theorem Bx.put1 {w : World} {k : Nat} {a b c : Value} (h : Bx w k a b c) (v : Value) : Bx (w.setCell ⟨k, 1, none⟩ v) k a v c := ⟨(heap_setCell_same _ _ _ _ _ _ _ h.at_).trans rfl⟩
theorem Bx.put2 {w : World} {k : Nat} {a b c : Value} (h : Bx w k a b c) (v : Value) : Bx (w.setCell ⟨k, 2, none⟩ v) k a b v := ⟨(heap_setCell_same _ _ _ _ _ _ _ h.at_).trans rfl⟩
theorem Bx.put0 {w : World} {k : Nat} {a b c : Value} (h : Bx w k a b c) (v : Value) : Bx (w.setCell ⟨k, 0, none⟩ v) k v b c := ⟨(heap_setCell_same _ _ _ _ _ _ _ h.at_).trans rfl⟩
theorem Bx.other {w : World} {k g o : Nat} {a b c v : Value} (h : Bx w k a b c) (hne : k ≠ g) : Bx (w.setCell ⟨g, o, none⟩ v) k a b c := h.frame (Below.heap_setCell _ _ _ _ hne)
theorem bx_new (w : World) (a b c : Value) : Bx (w.alloc (.cells #[a, b, c] 24)) w.heap.size a b c := ⟨heap_alloc_new w _⟩

/-- The bytes of a string, laid as a row. -/
structure Rb (w : World) (X : Nat) (s : ByteArray) : Prop where
  at_ : ∃ cap fr, w.heap[X]? = some (.cells (bytesRow s cap) 5 fr)
theorem Rb.frame {w w' : World} {X : Nat} {s : ByteArray} (h : Rb w X s) (hb : w'.heap[X]? = w.heap[X]?) : Rb w' X s := by
  obtain ⟨cap, fr, h⟩ := h.at_
  exact ⟨cap, fr, hb.trans h⟩
theorem Rb.cell {w : World} {X : Nat} {s : ByteArray} (h : Rb w X s) (j : Nat) (hj : j < s.data.toList.length) : w.cell? ⟨X, j, none⟩ = some (.int .u8 ((s.data.toList.getD j 0).toNat : Int)) := by
  obtain ⟨cap, fr, h⟩ := h.at_
  have hj' : j < s.data.size := by simpa using hj
  have := bytesRow_at s cap j hj'
  rw [List.getD_eq_getElem?_getD, Array.getElem?_toList, Array.getElem?_eq_getElem hj']
  simp [World.cell?, h, this]

/-- Numbers that the calls made for themselves. -/
structure Is (w : World) (base : Nat) (v : Value) (cs : List Int) : Prop where
  own : w.ownsRow base 3 1 v cs.length (cs.map (fun z => .int .i64 z))
theorem Is.below {w w' : World} {base : Nat} {v : Value} {l : List Int} (h : Is w base v l) (hb : Below w.heap.size w w') : Is w' base v l := ⟨owns_below h.own hb⟩
theorem Is.nil (w : World) (base : Nat) : Is w base (.slice none 0 0) [] := ⟨World.ownsRow_nil _ _ _ _⟩
theorem Is.next {w : World} {base n cap gg : Nat} {l m : List Int} {b : Int} (hm : m = l ++ [b]) (hn : n = l.length) (h : w.ownsRow base 3 1 (.slice (some ⟨gg, 0, none⟩) (n + 1) cap) (n + 1) (l.map (fun z => .int .i64 z) ++ [.int .i64 b])) : Is w base (.slice (some ⟨gg, 0, none⟩) (n + 1) cap) m := by
  subst hm hn
  refine ⟨?_⟩
  rw [List.map_append, List.length_append]
  exact h
theorem Is.other {w : World} {base g o : Nat} {u v : Value} {l : List Int} (h : Is w base v l) (hg : g < base) : Is (w.setCell ⟨g, o, none⟩ u) base v l := by
  obtain ⟨h1, h2⟩ := h.own
  refine ⟨h1, ?_⟩
  rcases h2 with h2 | ⟨g', cap, cur, h3, h4, h5, h6⟩
  · exact .inl h2
  · exact .inr ⟨g', cap, cur, h3, h4, by rw [Below.heap_setCell _ _ _ _ (show g' ≠ g by omega)]; exact h5, h6⟩
theorem Is.mono {w : World} {b b' : Nat} {v : Value} {l : List Int} (h : Is w b v l) (hb : b' ≤ b) : Is w b' v l := by
  obtain ⟨h1, h2⟩ := h.own
  refine ⟨h1, ?_⟩
  rcases h2 with h2 | ⟨g, cap, cur, h3, h4, h5⟩
  · exact .inl h2
  · exact .inr ⟨g, cap, cur, h3, Nat.le_trans hb h4, h5⟩
theorem Is.sl {w : World} {base : Nat} {v : Value} {cs : List Int} (h : Is w base v cs) : SlI w v cs := by
  rcases h.own.2 with ⟨rfl, h0⟩ | ⟨g, cap, cur, rfl, _, h1, h2, h3, h4, h5⟩
  · exact .no _ _ rfl (List.length_eq_zero_iff.1 h0)
  · refine .row g 0 cap rfl (fun i hi => ?_)
    have : cur[i]? = some (.int .i64 (cs.getD i 0)) := by
      have e : (cs.map (fun z => Value.int .i64 z))[i]? = some (.int .i64 (cs.getD i 0)) := by simp [hi]
      rw [← e, ← h5, List.getElem?_take_of_lt (by omega), Array.getElem?_toList]
    rw [Nat.zero_add]
    simp [World.cell?, h1, this]
theorem info3 : (Tryd.prog.info? 3).map (fun i => (i.zero, i.size, i.bytes)) = some (some (.int .i64 0), 1, 8) := by kernel_rfl
theorem info3_parts : ∃ i, Tryd.prog.info? 3 = some i ∧ i.zero = some (.int .i64 0) ∧ i.size = 1 ∧ i.bytes = 8 := by
  obtain ⟨i, hi, hh⟩ := Option.map_eq_some_iff.1 info3
  simp only [Prod.mk.injEq] at hh
  exact ⟨i, hi, hh.1, hh.2.1, hh.2.2⟩

/-- The cell that a byte is taken for. -/
def gc (b : UInt8) : Option Int := if b = 10 then none else if b = 35 then some 0 else some ((b.toNat : Int) - 48)
/-- How many rows, which cells. -/
def nls (l : List UInt8) : Nat := l.countP (· == 10)
def gcs (l : List UInt8) : List Int := l.filterMap gc
theorem gcs_length (l : List UInt8) : (gcs l).length ≤ l.length := List.length_filterMap_le _ _
theorem take_next {l : List UInt8} {k : Nat} (h : k < l.length) : l.take (k + 1) = l.take k ++ [l.getD k 0] := by
  rw [List.take_add_one, List.getElem?_eq_getElem h]; simp [h]
theorem nls_next {l : List UInt8} {k : Nat} (h : k < l.length) : nls (l.take (k + 1)) = nls (l.take k) + if l.getD k 0 = 10 then 1 else 0 := by
  rw [take_next h]; unfold nls; rw [List.countP_append]; simp
theorem gcs_next {l : List UInt8} {k : Nat} (h : k < l.length) : gcs (l.take (k + 1)) = gcs (l.take k) ++ (gc (l.getD k 0)).toList := by
  rw [take_next h]; unfold gcs; rw [List.filterMap_append]; rfl

set_option maxRecDepth 100000 in
set_option maxHeartbeats 8000000 in
theorem guess_any (s : ByteArray) (w : World) (hs : s.data.toList.length ≤ 72) :
    Calls Tryd.prog 12 #[.string s] w fun e w' => ∃ v, e = .returned (.agg #[.int .i64 (Lib.indexByte s.data.toList 10), .int .i64 (nls s.data.toList), v]) ∧ Is w' w.heap.size v (gcs s.data.toList) ∧ Below w.heap.size w w' := by
  have hsz : s.size = s.data.toList.length := by rw [Array.length_toList]; rfl
  have HSZ : Hid _ := hsz
  rw [← hsz] at hs
  clear hsz
  have hconv := fun w => run_bytes_of_string (P := Tryd.prog) w 9 53 5 s Tryd.underlying9 Tryd.underlying53 Tryd.underlying5
  go_enter Tryd.func12, Tryd.ntmps12
  go_wp2_with fail
  refine (sIndex_any s 10 _).mono ?_
  rintro e w1 ⟨rfl, rfl⟩
  have e10 : (Int.toNat 10).toUInt8 = 10 := by decide
  rw [e10]
  clear e10
  go_wp2_with fail
  obtain ⟨W1, hW1⟩ : ∃ W1, W1 = (w.alloc (.cells #[.int .i64 0, .int .i64 0, .slice none 0 0] 24)).alloc (.cells #[.int .i64 (Lib.indexByte s.data.toList 10), .int .i64 0, .slice none 0 0] 24) := ⟨_, rfl⟩
  have hz1 : W1.heap.size = w.heap.size + 1 + 1 := by rw [hW1]; simp
  have HB1 : Hid (Below w.heap.size w W1) := by rw [hW1]; exact balloc (balloc (Below.refl _ _) _) _
  have X0 : Hid (Bx W1 w.heap.size (.int .i64 0) (.int .i64 0) (.slice none 0 0)) := by rw [hW1]; exact (bx_new w _ _ _).below (balloc (Below.refl _ _) _)
  have X1 : Hid (Bx W1 (w.heap.size + 1) (.int .i64 (Lib.indexByte s.data.toList 10)) (.int .i64 0) (.slice none 0 0)) := by
    rw [hW1]
    have := bx_new (w.alloc (.cells #[.int .i64 0, .int .i64 0, .slice none 0 0] 24)) (.int .i64 (Lib.indexByte s.data.toList 10)) (.int .i64 0) (.slice none 0 0)
    rw [show (w.alloc (.cells #[.int .i64 0, .int .i64 0, .slice none 0 0] 24)).heap.size = w.heap.size + 1 by simp] at this
    exact this
  rw [← hW1]
  obtain ⟨C, hC⟩ : ∃ C, C = grownCap W1 s.size 0 5 := ⟨_, rfl⟩
  rw [← hC]
  obtain ⟨w2, hw2⟩ : ∃ w2, w2 = (W1.alloc (.cells (bytesRow s C) 5 ((bytesRow s C).size, (bytesRow s C).size + 1))).drew := ⟨_, rfl⟩
  have HB12 : Hid (Below W1.heap.size W1 w2) := by rw [hw2]; exact Below.drew (balloc (Below.refl _ _) _)
  have R2 : Hid (Rb w2 (w.heap.size + 1 + 1) s) := by
    rw [← hz1, hw2]
    exact ⟨_, _, heap_alloc_new W1 _⟩
  have hz2 : w2.heap.size = w.heap.size + 1 + 1 + 1 := by rw [hw2]; show (W1.alloc _).heap.size = _; simp [hz1]
  rw [← hw2]
  clear hw2 hC hW1 hconv
  have Y0 : Hid _ := X0.out.below HB12.out
  have Y1 : Hid _ := X1.out.below HB12.out
  have HB2 : Hid (Below w.heap.size w w2) := bthen HB1.out HB12.out
  clear X0 X1 HB1 HB12 hz1
  obtain ⟨ix, hix⟩ : ∃ ix, Lib.indexByte s.data.toList 10 = ix := ⟨_, rfl⟩
  rw [hix] at Y1 ⊢
  have HIX : Hid _ := hix
  clear hix
  have hz2' : Hid _ := hz2
  clear hz2
  go_loopw [12] (fun z wr => ∃ (k : Nat) (out : Value), z = .int .i64 k ∧ k ≤ s.size ∧ Bx wr w.heap.size (.int .i64 0) (.int .i64 0) (.slice none 0 0) ∧ Bx wr (w.heap.size + 1) (.int .i64 ix) (.int .i64 (nls (s.data.toList.take k))) out ∧ Rb wr (w.heap.size + 1 + 1) s ∧ Is wr (w.heap.size + 1 + 1 + 1) out (gcs (s.data.toList.take k)) ∧ w.heap.size + 1 + 1 + 1 ≤ wr.heap.size ∧ Below w.heap.size w wr) (fun z _ => s.size - (intOf z).toNat)
  case atStart => exact ⟨0, _, rfl, Nat.zero_le _, Y0.out, Y1.out, R2.out, Is.nil _ _, by have := hz2'.out; omega, HB2.out⟩
  case round =>
    obtain ⟨k, out, rfl, hk, y0, y1, r, o, hz, hb⟩ := hrel
    obtain ⟨ao, co, rfl⟩ := o.sl.val
    clear Y0 Y1 R2 HB2 hz2'
    have Y0 : Hid _ := y0
    have Y1 : Hid _ := y1
    have R : Hid _ := r
    have O : Hid _ := o
    have HZ : Hid _ := hz
    have HB : Hid (Below w.heap.size w wr) := hb
    clear y0 y1 r o hz hb
    by_cases hlt : k < s.size
    · have hki : (k : Int) < (s.size : Int) := by omega
      have hkl : k < s.data.toList.length := by have := HSZ.out; omega
      have d0 := R.out.cell k hkl
      have HN : Hid _ := nls_next hkl
      have HG : Hid _ := gcs_next hkl
      obtain ⟨b, hb⟩ : ∃ b, s.data.toList.getD k 0 = b := ⟨_, rfl⟩
      rw [hb] at d0 HN HG
      clear hb
      obtain ⟨c0, c1, c2⟩ := Y1.out.cell
      obtain ⟨f0, f1, f2⟩ := Y1.out.frozen
      have hnl : nls (s.data.toList.take k) ≤ 72 := by
        have h1 : (s.data.toList.take k).countP (· == 10) ≤ (s.data.toList.take k).length := List.countP_le_length
        have h2 : (s.data.toList.take k).length ≤ k := by simp; omega
        unfold nls; omega
      have hgl : (gcs (s.data.toList.take k)).length ≤ 72 := by
        have h1 := gcs_length (s.data.toList.take k)
        have h2 : (s.data.toList.take k).length ≤ k := by simp; omega
        omega
      by_cases h10 : b = 10
      · subst h10
        have d1 : wr.cell? ⟨w.heap.size + 1 + 1, k, none⟩ = some (.int .u8 10) := d0
        clear d0
        go_wp2_with fail
        go_roundw
        case rel =>
          refine ⟨k + 1, .slice ao (gcs (s.data.toList.take k)).length co, by go_num, by omega, Y0.out.other (by omega), ?_, R.out.frame (Below.heap_setCell _ _ _ _ (by simp)), ?_, by have := HZ.out; simp [World.setCell]; omega, Below.setCell HB.out (by simp) _⟩
          · rw [HN.out, if_pos rfl]; exact Y1.out.put1 _
          · rw [HG.out]; exact Is.other (by simpa [gc] using O.out) (by omega)
        case measure => simp [intOf]; omega
      · rw [if_neg h10] at HN
        have hb1 : (((b.toNat : Int)) == 10) = false := by
          simp only [beq_eq_false_iff_ne]
          intro h
          exact h10 (UInt8.toNat_inj.1 (by have : b.toNat = 10 := by omega
                                           exact this))
        obtain ⟨i0, hi0, hz0, hz1, hz2⟩ := info3_parts
        have hown := O.out.own
        have hzz := HZ.out
        have hbt : b.toNat < 256 := b.toNat_lt
        by_cases h35 : b = 35
        · subst h35
          have d1 : wr.cell? ⟨w.heap.size + 1 + 1, k, none⟩ = some (.int .u8 35) := d0
          clear d0 hb1
          go_wp2_with (at_builtin; refine wpList_append_lies _ rfl _ _ _ rfl (w.heap.size + 1 + 1 + 1) 3 i0 _ 1 8 Tryd.underlying22 hi0 hz0 hz1 hz2 rfl (by omega) (.slice ao (gcs (s.data.toList.take k)).length co) (gcs (s.data.toList.take k)).length ((gcs (s.data.toList.take k)).map (fun z => .int .i64 z)) rfl (hown.alloc _) ⟨wr.heap.size, 0, none⟩ 1 1 [.int .i64 0] rfl rfl (World.news_of_block (cs := #[.int .i64 0]) (t := 3) (fr := (0, 0)) (heap_alloc_new wr _)) (by simp [Value.oneCell']) (by omega) (by unfold maxLen; omega) (by omega) (by simp; omega) (wr.heap.size + 1) (by simp) ?_; intro gg cap' w3 hown3 hgrow hat hlt3; have FAR : Hid (∀ g, g < w.heap.size + 1 + 1 + 1 → w3.heap[g]? = wr.heap[g]?) := (by exact fun g hg => (hgrow.block g (by simp; omega) (fun e => by have := (ownBlock_lt hown g e.symm).1; omega)).trans (Below.heap_alloc _ _ _ (by omega))); have B3 : Hid (Below w.heap.size w w3) := (by exact (HB.out.alloc HB.out.size _).grown hgrow (by simp; have := HB.out.size; omega) (fun k hk => by have := (ownBlock_lt hown k hk).1; omega)); have HZ3 : Hid (w.heap.size + 1 + 1 + 1 ≤ w3.heap.size) := (by have := hgrow.size; simp at this; unfold Hid; omega); have V0 : Hid _ := Y0.out.frame (FAR.out _ (by omega)); have V1 : Hid _ := Y1.out.frame (FAR.out _ (by omega)); have VR : Hid _ := R.out.frame (FAR.out _ (by omega)); clear hgrow hat c0 c1 c2 f0 f1 f2; obtain ⟨c0, c1, c2⟩ := V1.out.cell; obtain ⟨f0, f1, f2⟩ := V1.out.frozen)
          go_roundw
          case rel =>
            refine ⟨k + 1, .slice (some ⟨gg, 0, none⟩) ((gcs (s.data.toList.take k)).length + 1) cap', by go_num, by omega, V0.out.other (by omega), ?_, VR.out.frame (Below.heap_setCell _ _ _ _ (by simp)), ?_, by have := HZ3.out; simp [World.setCell]; omega, Below.setCell B3.out (by simp) _⟩
            · rw [HN.out]; exact V1.out.put2 _
            · exact Is.other (Is.next (by rw [HG.out]; simp [gc]) rfl hown3) (by omega)
          case measure => simp [intOf]; omega
        · have hb2 : (((b.toNat : Int)) == 35) = false := by
            simp only [beq_eq_false_iff_ne]
            intro h
            exact h35 (UInt8.toNat_inj.1 (by have : b.toNat = 35 := by omega
                                             exact this))
          go_wp2_with (at_builtin; refine wpList_append_lies _ rfl _ _ _ rfl (w.heap.size + 1 + 1 + 1) 3 i0 _ 1 8 Tryd.underlying22 hi0 hz0 hz1 hz2 rfl (by omega) (.slice ao (gcs (s.data.toList.take k)).length co) (gcs (s.data.toList.take k)).length ((gcs (s.data.toList.take k)).map (fun z => .int .i64 z)) rfl (hown.alloc _) ⟨wr.heap.size, 0, none⟩ 1 1 [.int .i64 ((b.toNat : Int) - 48)] rfl rfl (World.news_of_block (cs := #[.int .i64 ((b.toNat : Int) - 48)]) (t := 3) (fr := (0, 0)) (heap_alloc_new wr _)) (by simp [Value.oneCell']) (by omega) (by unfold maxLen; omega) (by omega) (by simp; omega) (wr.heap.size + 1) (by simp) ?_; intro gg cap' w3 hown3 hgrow hat hlt3; have FAR : Hid (∀ g, g < w.heap.size + 1 + 1 + 1 → w3.heap[g]? = wr.heap[g]?) := (by exact fun g hg => (hgrow.block g (by simp; omega) (fun e => by have := (ownBlock_lt hown g e.symm).1; omega)).trans (Below.heap_alloc _ _ _ (by omega))); have B3 : Hid (Below w.heap.size w w3) := (by exact (HB.out.alloc HB.out.size _).grown hgrow (by simp; have := HB.out.size; omega) (fun k hk => by have := (ownBlock_lt hown k hk).1; omega)); have HZ3 : Hid (w.heap.size + 1 + 1 + 1 ≤ w3.heap.size) := (by have := hgrow.size; simp at this; unfold Hid; omega); have V0 : Hid _ := Y0.out.frame (FAR.out _ (by omega)); have V1 : Hid _ := Y1.out.frame (FAR.out _ (by omega)); have VR : Hid _ := R.out.frame (FAR.out _ (by omega)); clear hgrow hat c0 c1 c2 f0 f1 f2; obtain ⟨c0, c1, c2⟩ := V1.out.cell; obtain ⟨f0, f1, f2⟩ := V1.out.frozen)
          go_roundw
          case rel =>
            refine ⟨k + 1, .slice (some ⟨gg, 0, none⟩) ((gcs (s.data.toList.take k)).length + 1) cap', by go_num, by omega, V0.out.other (by omega), ?_, VR.out.frame (Below.heap_setCell _ _ _ _ (by simp)), ?_, by have := HZ3.out; simp [World.setCell]; omega, Below.setCell B3.out (by simp) _⟩
            · rw [HN.out]; exact V1.out.put2 _
            · exact Is.other (Is.next (by rw [HG.out]; simp [gc, h10, h35]) rfl hown3) (by omega)
          case measure => simp [intOf]; omega
    · have hke : k = s.size := by omega
      subst hke
      have HT : Hid (s.data.toList.take s.size = s.data.toList) := by unfold Hid; rw [HSZ.out, List.take_length]
      rw [HT.out] at Y1 O
      obtain ⟨c0, c1, c2⟩ := Y1.out.cell
      obtain ⟨g0, g1, g2⟩ := Y0.out.cell
      obtain ⟨f0, f1, f2⟩ := Y0.out.frozen
      go_wp2_with fail
      refine bodyPost_ret (v := .agg #[.int .i64 ix, .int .i64 (nls s.data.toList), .slice ao (gcs s.data.toList).length co]) ?_ rfl ?_
      · simp [results, Tryd.results12, go_sem, *]
      · exact ⟨_, by rw [HIX.out], (((O.out.other (by omega)).other (by omega)).other (by omega)).mono (by omega), Below.setCell (Below.setCell (Below.setCell HB.out (by simp) _) (by simp) _) (by simp) _⟩
end Go.Proofs.YteediekpljjbpaaDoor
