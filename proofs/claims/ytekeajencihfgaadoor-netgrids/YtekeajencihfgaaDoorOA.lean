/-
  Contract: the net of ground.
-/
import Derived.Test.YtekeajencihfgaaDoorDF
import Derived.Test.YtekeajencihfgaaDoorDB
import Derived.Lib.AppendZerosOnto
namespace Go.Proofs.YtekeajencihfgaaDoor
open Go.RowKit
open Gm

/-- The moves of the first k cells, one cell behind the other. -/
def am (cs : List Int) (W H : Int) : Nat → List (Int × Int × Int)
  | 0 => []
  | k + 1 => am cs W H k ++ moves (cl cs W H) W ((k : Int) % W) ((k : Int) / W)
theorem moves_length (c : Int → Int → Int) (W x y : Int) : (moves c W x y).length ≤ 8 := by
  unfold moves; split
  · simp
  · exact mvs_length c W x y 8
theorem am_length (cs : List Int) (W H : Int) (k : Nat) : (am cs W H k).length ≤ 8 * k := by
  induction k with
  | zero => simp [am]
  | succ k ih => rw [am, List.length_append]; have := moves_length (cl cs W H) W ((k : Int) % W) ((k : Int) / W); omega

/-- Nothing is appended. -/
theorem run_append_nothing {w : World} {base n c : Nat} {out : Value} {xs : List Value} (h : w.ownsRow base 39 3 out n xs) (ty : TypeId) (a : Option Addr) : (Builtin.append_ #[25, 25] ty #[out, .slice a 0 c]).run Tryd.prog w = .ok out w := by
  obtain ⟨i0, hi0, hz0, hz1, hz2⟩ := info32_parts
  have hl : ∀ (x : Addr), (loadCells x 0).run Tryd.prog w = .ok #[] w := fun x => by simpa using run_loadCells_list (P := Tryd.prog) w x [] (by simp)
  rcases h.2 with ⟨rfl, rfl⟩ | ⟨g, cap, cur, rfl, _, _, hc, _⟩
  · cases a <;> simp [Builtin.append_, run_underlying Tryd.underlying25, sizeOf, typeInfo, hi0, Builtin.lenOf, Builtin.firstCells, hl]
  · cases a <;> simp [Builtin.append_, run_underlying Tryd.underlying25, sizeOf, typeInfo, hi0, Builtin.lenOf, Builtin.firstCells, hc, storeCells, hl]
theorem flat3_one (es : List (Int × Int × Int)) : ∀ u ∈ flat3 es, u.oneCell' = true := by
  induction es with
  | nil => simp [flat3]
  | cons e r ih =>
    intro u hu
    simp only [flat3, List.mem_cons] at hu
    rcases hu with rfl | rfl | rfl | hu
    · rfl
    · rfl
    · rfl
    · exact ih u hu
/-- What an owned row of edges that is not empty holds, to be appended. -/
theorem Es.news {w : World} {base : Nat} {v : Value} {es : List (Int × Int × Int)} (h : Es w base v es) (h0 : 0 < es.length) : ∃ g cap, v = .slice (some ⟨g, 0, none⟩) es.length cap ∧ ∀ j u, (flat3 es)[j]? = some u → w.cell? ((⟨g, 0, none⟩ : Addr).add j) = some u := by
  rcases h.own.2 with ⟨rfl, h1⟩ | ⟨g, cap, cur, rfl, hb, h1, h2, h3, h4, h5⟩
  · omega
  · refine ⟨g, cap, rfl, fun j u hj => ?_⟩
    have hadd : (⟨g, 0, none⟩ : Addr).add j = ⟨g, j, none⟩ := by unfold Addr.add; split <;> simp_all
    have hjl : j < es.length * 3 := by
      have := (List.getElem?_eq_some_iff.1 hj).1
      rwa [flat3_length] at this
    have : cur[j]? = some u := by
      rw [← hj, ← h5, List.getElem?_take_of_lt hjl, Array.getElem?_toList]
    rw [hadd]
    simp [World.cell?, h1, this]
theorem Es.val {w : World} {base : Nat} {v : Value} {es : List (Int × Int × Int)} (h : Es w base v es) : ∃ a c, v = .slice a es.length c := h.sl.val
theorem Es.other {w : World} {base g o : Nat} {u v : Value} {l : List (Int × Int × Int)} (h : Es w base v l) (hg : g < base) : Es (w.setCell ⟨g, o, none⟩ u) base v l := by
  obtain ⟨h1, h2⟩ := h.own
  refine ⟨h1, ?_⟩
  rcases h2 with h2 | ⟨g', cap, cur, h3, h4, h5, h6⟩
  · exact .inl h2
  · exact .inr ⟨g', cap, cur, h3, h4, by rw [Below.heap_setCell _ _ _ _ (show g' ≠ g by omega)]; exact h5, h6⟩
theorem Es.nil (w : World) (base : Nat) : Es w base (.slice none 0 0) [] := ⟨World.ownsRow_nil _ _ _ _⟩
theorem Es.cat {w : World} {base cap gg : Nat} {es fs gs : List (Int × Int × Int)} (hg : gs = es ++ fs) (h : w.ownsRow base 39 3 (.slice (some ⟨gg, 0, none⟩) (es.length + fs.length) cap) (es.length + fs.length) (flat3 es ++ flat3 fs)) : Es w base (.slice (some ⟨gg, 0, none⟩) (es.length + fs.length) cap) gs := by
  subst hg
  refine ⟨?_⟩
  rw [flat3_append, List.length_append]
  exact h

/-- A box of a net that stands by itself. -/
structure Bn (w : World) (k : Nat) (a b : Value) : Prop where
  at_ : w.heap[k]? = some (.cells #[a, b] 27 (0, 0))
theorem heap_setCell_same (w : World) (g o : Nat) (v : Value) (cur : Array Value) (t : TypeId) (fr : Nat × Nat) (h : w.heap[g]? = some (.cells cur t fr)) :
    (w.setCell ⟨g, o, none⟩ v).heap[g]? = some (.cells (cur.setIfInBounds o v) t fr) := by
  simp [World.setCell, Array.getElem?_modify, h]
theorem Bn.lt {w : World} {k : Nat} {a b : Value} (h : Bn w k a b) : k < w.heap.size := by
  rcases Nat.lt_or_ge k w.heap.size with hlt | hge
  · exact hlt
  · have := h.at_; rw [Array.getElem?_eq_none hge] at this; cases this
theorem Bn.cell {w : World} {k : Nat} {a b : Value} (h : Bn w k a b) : w.cell? ⟨k, 0, none⟩ = some a ∧ w.cell? ⟨k, 1, none⟩ = some b := by
  have := h.at_; simp [World.cell?, this]
theorem Bn.frozen {w : World} {k : Nat} {a b : Value} (h : Bn w k a b) : w.frozen? ⟨k, 0, none⟩ = false ∧ w.frozen? ⟨k, 1, none⟩ = false := by
  have := h.at_; simp [World.frozen?, this]
theorem Bn.frame {w w' : World} {k : Nat} {a b : Value} (h : Bn w k a b) (hb : w'.heap[k]? = w.heap[k]?) : Bn w' k a b := ⟨hb.trans h.at_⟩
theorem Bn.below {w w' : World} {k : Nat} {a b : Value} (h : Bn w k a b) (hb : Below w.heap.size w w') : Bn w' k a b := h.frame (hb.block _ h.lt)
theorem Bn.put1 {w : World} {k : Nat} {a b : Value} (h : Bn w k a b) (v : Value) : Bn (w.setCell ⟨k, 1, none⟩ v) k a v := ⟨(heap_setCell_same _ _ _ _ _ _ _ h.at_).trans rfl⟩
theorem Bn.other {w : World} {k g o : Nat} {a b v : Value} (h : Bn w k a b) (hne : k ≠ g) : Bn (w.setCell ⟨g, o, none⟩ v) k a b := h.frame (Below.heap_setCell _ _ _ _ hne)
theorem bn_new (w : World) (a b : Value) : Bn (w.alloc (.cells #[a, b] 27)) w.heap.size a b := ⟨heap_alloc_new w _⟩

/-- The ground's box, whole. -/
structure Bg (w : World) (k : Nat) (a b : Int) (c : Value) : Prop where
  at_ : w.heap[k]? = some (.cells #[.int .i64 a, .int .i64 b, c] 24 (0, 0))
theorem Bg.lt {w : World} {k : Nat} {a b : Int} {c : Value} (h : Bg w k a b c) : k < w.heap.size := by
  rcases Nat.lt_or_ge k w.heap.size with hlt | hge
  · exact hlt
  · have := h.at_; rw [Array.getElem?_eq_none hge] at this; cases this
theorem Bg.box {w : World} {k : Nat} {a b : Int} {c : Value} (h : Bg w k a b c) : Box3 w k a b c := by
  have := h.at_
  constructor <;> simp [World.cell?, this]
theorem Bg.frame {w w' : World} {k : Nat} {a b : Int} {c : Value} (h : Bg w k a b c) (hb : w'.heap[k]? = w.heap[k]?) : Bg w' k a b c := ⟨hb.trans h.at_⟩
theorem Bg.below {w w' : World} {k : Nat} {a b : Int} {c : Value} (h : Bg w k a b c) (hb : Below w.heap.size w w') : Bg w' k a b c := h.frame (hb.block _ h.lt)
theorem Bg.other {w : World} {k g o : Nat} {a b : Int} {c v : Value} (h : Bg w k a b c) (hne : k ≠ g) : Bg (w.setCell ⟨g, o, none⟩ v) k a b c := h.frame (Below.heap_setCell _ _ _ _ hne)
theorem bg_new (w : World) (a b : Int) (c : Value) : Bg (w.alloc (.cells #[.int .i64 a, .int .i64 b, c] 24)) w.heap.size a b c := ⟨heap_alloc_new w _⟩

set_option maxRecDepth 100000 in
set_option maxHeartbeats 8000000 in
theorem of_bad (W H : Int) (v : Value) (cs : List Int) (w : World) (hv : SlI w v cs) (hlen : cs.length ≤ 9223372036854775807) (hc : gchk W H cs ≠ 0) :
    Calls Tryd.prog 5 #[.agg #[.int .i64 W, .int .i64 H, v]] w fun e w' => e = .returned (.tuple #[.agg #[.int .i64 0, .slice none 0 0], .int .i64 (gchk W H cs)]) ∧ Below w.heap.size w w' := by
  obtain ⟨a0, c0, rfl⟩ := hv.val
  have HV : Hid _ := hv
  have hz : (gchk W H cs != 0) = true := by simp [hc]
  clear hv hc
  go_enter Tryd.func5, Tryd.ntmps5
  go_wp2_with fail
  have B0 : Hid (Below w.heap.size w (w.alloc (.cells #[.int .i64 W, .int .i64 H, .slice a0 cs.length c0] 24))) := balloc (Below.refl _ _) _
  have hz0 : (w.alloc (.cells #[.int .i64 W, .int .i64 H, .slice a0 cs.length c0] 24)).heap.size = w.heap.size + 1 := by simp
  generalize w.alloc (.cells #[.int .i64 W, .int .i64 H, .slice a0 cs.length c0] 24) = W0 at *
  have N1 : Hid _ := bn_new W0 (.int .i64 0) (.slice none 0 0)
  rw [hz0] at N1
  have B1 : Hid (Below w.heap.size w (W0.alloc (.cells #[.int .i64 0, .slice none 0 0] 27))) := balloc B0.out _
  generalize W0.alloc (.cells #[.int .i64 0, .slice none 0 0] 27) = W1 at *
  clear hz0 B0
  refine (gcheck_any W H _ cs W1 (HV.out.below B1.out) hlen).mono ?_
  rintro e w2 ⟨rfl, b2⟩
  have B2 : Hid (Below w.heap.size w w2) := bthen B1.out b2
  obtain ⟨g0, g1⟩ := (N1.out.below b2).cell
  obtain ⟨f0, f1⟩ := (N1.out.below b2).frozen
  clear b2
  go_wp2_with fail
  refine bodyPost_ret (v := .tuple #[.agg #[.int .i64 0, .slice none 0 0], .int .i64 (gchk W H cs)]) ?_ rfl ?_
  · simp [results, Tryd.results5, go_sem, *]
  · exact ⟨rfl, Below.setCell (Below.setCell B2.out (by simp) _) (by simp) _⟩

set_option maxRecDepth 100000 in
set_option maxHeartbeats 8000000 in
theorem of_yes (W H : Int) (v : Value) (cs : List Int) (w : World) (hv : SlI w v cs) (hc : gchk W H cs = 0) (hs : Steps w) :
    Calls Tryd.prog 5 #[.agg #[.int .i64 W, .int .i64 H, v]] w fun e w' => ∃ u, e = .returned (.tuple #[.agg #[.int .i64 cs.length, u], .int .i64 0]) ∧ Es w' w.heap.size u (am cs W H cs.length) ∧ Below w.heap.size w w' := by
  obtain ⟨a0, c0, rfl⟩ := hv.val
  have HV : Hid _ := hv
  have HC : Hid _ := hc
  have HS : Hid _ := hs
  have hle := (gchk_zero hc).le
  clear hv hc hs
  go_enter Tryd.func5, Tryd.ntmps5
  go_wp2_with fail
  have P0 : Hid _ := bg_new w W H (.slice a0 cs.length c0)
  have B0 : Hid (Below w.heap.size w (w.alloc (.cells #[.int .i64 W, .int .i64 H, .slice a0 cs.length c0] 24))) := balloc (Below.refl _ _) _
  have hz0 : (w.alloc (.cells #[.int .i64 W, .int .i64 H, .slice a0 cs.length c0] 24)).heap.size = w.heap.size + 1 := by simp
  generalize w.alloc (.cells #[.int .i64 W, .int .i64 H, .slice a0 cs.length c0] 24) = W0 at *
  have N1 : Hid _ := bn_new W0 (.int .i64 0) (.slice none 0 0)
  rw [hz0] at N1
  have P1 : Hid _ := P0.out.below (balloc (Below.refl _ _) (.cells #[.int .i64 0, .slice none 0 0] 27))
  have B1 : Hid (Below w.heap.size w (W0.alloc (.cells #[.int .i64 0, .slice none 0 0] 27))) := balloc B0.out _
  generalize W0.alloc (.cells #[.int .i64 0, .slice none 0 0] 27) = W1 at *
  clear hz0 B0 P0
  refine (gcheck_any W H _ cs W1 (HV.out.below B1.out) (by omega)).mono ?_
  rintro e w2 ⟨rfl, b2⟩
  have B2 : Hid (Below w.heap.size w w2) := bthen B1.out b2
  have N2 : Hid _ := N1.out.below b2
  have P2 : Hid _ := P1.out.below b2
  rw [HC.out]
  clear b2 N1 P1 B1
  obtain ⟨p0, p1, p2⟩ := P2.out.box
  obtain ⟨r0, r1, r2⟩ := (P2.out.below (balloc (Below.refl _ _) (.cells #[.int .i64 cs.length, .slice none 0 0] 27))).box
  go_wp2_with fail
  clear p0 p1 p2 r0 r1 r2
  have M3 : Hid _ := bn_new w2 (.int .i64 cs.length) (.slice none 0 0)
  have N3 : Hid _ := N2.out.below (balloc (Below.refl _ _) (.cells #[.int .i64 cs.length, .slice none 0 0] 27))
  have P3 : Hid _ := P2.out.below (balloc (Below.refl _ _) (.cells #[.int .i64 cs.length, .slice none 0 0] 27))
  have B3 : Hid (Below w.heap.size w (w2.alloc (.cells #[.int .i64 cs.length, .slice none 0 0] 27))) := balloc B2.out _
  have hz3 : (w2.alloc (.cells #[.int .i64 cs.length, .slice none 0 0] 27)).heap.size = w2.heap.size + 1 := by simp
  have HLT : Hid _ := N2.out.lt
  have HWZ : Hid _ := B2.out.size
  generalize w2.alloc (.cells #[.int .i64 cs.length, .slice none 0 0] 27) = W3 at *
  obtain ⟨B5, hB5⟩ : ∃ B5, w2.heap.size = B5 := ⟨_, rfl⟩
  rw [hB5] at M3 HLT hz3 HWZ ⊢
  clear hB5 N2 P2 B2
  have HZ3 : Hid _ := hz3
  clear hz3
  go_loopw [22] (fun z wr => ∃ (k : Nat) (out : Value), z = .int .i64 k ∧ k ≤ cs.length ∧ Bg wr w.heap.size W H (.slice a0 cs.length c0) ∧ Bn wr (w.heap.size + 1) (.int .i64 0) (.slice none 0 0) ∧ Bn wr B5 (.int .i64 cs.length) out ∧ Es wr (B5 + 1) out (am cs W H k) ∧ B5 + 1 ≤ wr.heap.size ∧ Below w.heap.size w wr) (fun z _ => cs.length - (intOf z).toNat)
  case atStart => exact ⟨0, _, rfl, Nat.zero_le _, P3.out, N3.out, M3.out, Es.nil _ _, by have := HZ3.out; omega, B3.out⟩
  case round =>
    obtain ⟨k, out, rfl, hk, x0, y0, y1, o, hz, hb⟩ := hrel
    obtain ⟨ao, co, rfl⟩ := o.val
    clear P3 N3 M3 B3 HZ3
    have X0 : Hid _ := x0
    have Y0 : Hid _ := y0
    have Y1 : Hid _ := y1
    have O : Hid _ := o
    have HZ : Hid _ := hz
    have HB : Hid (Below w.heap.size w wr) := hb
    clear x0 y0 y1 o hz hb
    by_cases hlt : k < cs.length
    · have hki : (k : Int) < (cs.length : Int) := by omega
      have HMV : Hid _ := fun (_ : Unit) => moves_yes W H k _ cs wr (HV.out.below HB.out) HC.out hlt (HS.out.below HB.out)
      have hml := moves_length (cl cs W H) W ((k : Int) % W) ((k : Int) / W)
      have hal := am_length cs W H k
      have HA : Hid (am cs W H (k + 1) = am cs W H k ++ moves (cl cs W H) W ((k : Int) % W) ((k : Int) / W)) := rfl
      generalize moves (cl cs W H) W ((k : Int) % W) ((k : Int) / W) = ms at *
      obtain ⟨p0, p1, p2⟩ := X0.out.box
      go_wp2_with fail
      refine (HMV.out ()).mono ?_
      rintro e w4 ⟨u, rfl, m4, b4⟩
      have X4 : Hid _ := X0.out.below b4
      have Z0 : Hid _ := Y0.out.below b4
      have Z1 : Hid _ := Y1.out.below b4
      have O4 : Hid _ := O.out.below b4
      have HZ4 : Hid (B5 + 1 ≤ w4.heap.size) := Nat.le_trans HZ.out b4.size
      have B4 : Hid (Below w.heap.size w w4) := bthen HB.out b4
      clear b4 p0 p1 p2 HMV X0 Y0 Y1 O HZ HB
      obtain ⟨s0, s1⟩ := Z1.out.cell
      obtain ⟨f0, f1⟩ := Z1.out.frozen
      have hlt5 := HLT.out
      have hwz := HWZ.out
      have hzz := HZ4.out
      have hown := O4.out.own
      by_cases hm0 : 0 < ms.length
      · obtain ⟨gm, cm, rfl, hnews⟩ := m4.news hm0
        have NW : Hid _ := hnews
        have ON : Hid _ := flat3_one ms
        have FL : Hid _ := flat3_length ms
        clear hnews m4
        obtain ⟨i0, hi0, hz0, hz1, hz2⟩ := info32_parts
        obtain ⟨l, hl⟩ : ∃ l, am cs W H k = l := ⟨_, rfl⟩
        rw [hl] at hal HA hown O4 Z1 s1
        clear hl
        go_wp2_with (at_builtin; refine wpList_append_lies _ rfl _ _ _ rfl (B5 + 1) 39 i0 _ 3 24 Tryd.underlying25 hi0 hz0 hz1 hz2 rfl (by omega) (.slice ao l.length co) l.length (flat3 l) rfl hown ⟨gm, 0, none⟩ ms.length cm (flat3 ms) rfl FL.out NW.out ON.out hm0 (by unfold maxLen; omega) (by omega) (by omega) w4.heap.size rfl ?_; intro gg cap' w5 hown5 hgrow hat hlt5'; have FAR : Hid (∀ g, g < B5 + 1 → w5.heap[g]? = w4.heap[g]?) := (by exact fun g hg => hgrow.block g (by omega) (fun e => by have := (ownBlock_lt hown g e.symm).1; omega)); have B5' : Hid (Below w.heap.size w w5) := (by exact B4.out.grown hgrow (by have := B4.out.size; omega) (fun k hk => by have := (ownBlock_lt hown k hk).1; omega)); have HZ5 : Hid (B5 + 1 ≤ w5.heap.size) := (by have := hgrow.size; unfold Hid; omega); have V0 : Hid _ := Z0.out.frame (FAR.out _ (by omega)); have V1 : Hid _ := Z1.out.frame (FAR.out _ (by omega)); have VX : Hid _ := X4.out.frame (FAR.out _ (by omega)); clear hgrow hat s0 s1 f0 f1; obtain ⟨s0, s1⟩ := V1.out.cell; obtain ⟨f0, f1⟩ := V1.out.frozen)
        go_roundw
        case rel =>
          exact ⟨k + 1, .slice (some ⟨gg, 0, none⟩) (l.length + ms.length) cap', by go_num, by omega, VX.out.other (by omega), V0.out.other (by omega), V1.out.put1 _, (Es.cat HA.out hown5).other (by omega), by have := HZ5.out; simp [World.setCell]; omega, Below.setCell B5'.out (by simp; omega) _⟩
        case measure => simp [intOf]; omega
      · obtain rfl : ms = [] := List.length_eq_zero_iff.1 (by omega)
        obtain ⟨a4, c4, rfl⟩ := m4.val
        have HRN : Hid _ := fun ty => run_append_nothing (c := c4) hown ty a4
        clear m4 hown
        go_wp2_with (at_builtin; refine Lib.wpList_append_run _ rfl _ _ _ _ rfl _ _ rfl rfl _ _ (HRN.out _) ?_)
        go_roundw
        case rel =>
          exact ⟨k + 1, .slice ao (am cs W H k).length co, by go_num, by omega, X4.out.other (by omega), Z0.out.other (by omega), Z1.out.put1 _, by rw [HA.out, List.append_nil]; exact O4.out.other (by omega), by simp [World.setCell]; omega, Below.setCell B4.out (by simp; omega) _⟩
        case measure => simp [intOf]; omega
    · have hke : k = cs.length := by omega
      subst hke
      obtain ⟨s0, s1⟩ := Y1.out.cell
      obtain ⟨g0, g1⟩ := Y0.out.cell
      obtain ⟨f0, f1⟩ := Y0.out.frozen
      have hlt5 := HLT.out
      have hwz := HWZ.out
      go_wp2_with fail
      refine bodyPost_ret (v := .tuple #[.agg #[.int .i64 cs.length, .slice ao (am cs W H cs.length).length co], .int .i64 0]) ?_ rfl ?_
      · simp [results, Tryd.results5, go_sem, *]
      · exact ⟨_, rfl, ((O.out.other (by omega)).other (by omega)).mono (by omega), Below.setCell (Below.setCell HB.out (by simp) _) (by simp) _⟩
end Go.Proofs.YtekeajencihfgaaDoor
