/-
  The law fellkeep.DijkMore, walked.
-/
import Derived.Test.YtahijfljpjgdlaaTW
import Derived.Test.YtahijfljpjgdlaaMA
import Derived.Test.YtahijfljpjgdlaaDo
import Derived.Deep.DeepCutAuto
namespace Go.Proofs.Ytahijfljpjgdlaa.DMore
open Go.RowKit
open Nm Wm Dm
attribute [local go_sem ↓] Go.wp_at_zero Go.wp_at_succ

theorem lk_cases {n s : Int} {es : List E} (h : lk n es [s] = 0) : nps n es = 0 ∧ plc n s = true := by
  obtain ⟨h1, h2⟩ := lk_zero h
  refine ⟨h1, ?_⟩
  simpa using h2
theorem more_valid {N : Nat} {es : List E} {x : E} (h : Pn N (es ++ [x])) : es.length + 1 ≤ 600 ∧ (0 ≤ x.1 ∧ x.1 < N ∧ 0 ≤ x.2.1 ∧ x.2.1 < N ∧ 1 ≤ x.2.2 ∧ x.2.2 ≤ 10000) :=
  ⟨by have := h.len; simpa using this, h.ok x (by simp)⟩
theorem snoc_sl {w : World} {base gg cap n : Nat} {es : List E} {a b c : Int} (hn : n = es.length) (h : w.ownsRow base 41 3 (.slice (some ⟨gg, 0, none⟩) (n + 1) cap) (n + 1) (flat3 es ++ [.int .i64 a, .int .i64 b, .int .i64 c])) : SlE w (.slice (some ⟨gg, 0, none⟩) (n + 1) cap) (es ++ [(a, b, c)]) :=
  (Es.next rfl hn h).sl

theorem es_form {w : World} {base : Nat} {v : Value} {es : List E} (h : Es w base v es) : ∃ av cv, v = .slice av es.length cv := by
  rcases h.own.2 with ⟨rfl, h0⟩ | ⟨g, cap, cur, rfl, _⟩
  · exact ⟨none, 0, by rw [h0]⟩
  · exact ⟨_, _, rfl⟩
theorem eclone_sl (v : Value) (es : List E) (w : World) (hv : SlE w v es) (hl : es.length ≤ 5864062014634) :
    Calls Try.prog 25 #[v] w fun e w' => ∃ av cv, e = .returned (.slice av es.length cv) ∧ Es w' w.heap.size (.slice av es.length cv) es ∧ Below w.heap.size w w' := by
  refine (eclone_any v es w hv hl).mono ?_
  rintro e w' ⟨u, rfl, he, hb⟩
  obtain ⟨av, cv, rfl⟩ := es_form he
  exact ⟨av, cv, rfl, he, hb⟩
theorem lt_of_at {w : World} {k : Nat} {o : Obj} (h : w.heap[k]? = some o) : k < w.heap.size := by
  rcases Nat.lt_or_ge k w.heap.size with hlt | hge
  · exact hlt
  · rw [Array.getElem?_eq_none hge] at h; cases h
theorem bn_set {w : World} {k : Nat} {a b : Value} (h : Bn w k a b) (u v : Value) : Bn ((w.setCell ⟨k, 0, none⟩ u).setCell ⟨k, 1, none⟩ v) k u v :=
  ⟨(heap_setCell_same _ _ _ _ _ _ _ (heap_setCell_same _ _ _ _ _ _ _ h.at_)).trans rfl⟩
theorem sle_put {w : World} {g n cap H o : Nat} {v : Value} {es : List E} (h : SlE w (.slice (some ⟨g, 0, none⟩) n cap) es) (hne : g ≠ H) : SlE (w.setCell ⟨H, o, none⟩ v) (.slice (some ⟨g, 0, none⟩) n cap) es := by
  rcases h.is with ⟨a, c, hv, he⟩ | ⟨b, off, cap', hv, hc⟩
  · exact .no a c hv he
  · have hb : b = g := by simp only [Value.slice.injEq, Option.some.injEq, Addr.mk.injEq] at hv; exact hv.1.1.symm
    rw [← hb] at hne
    exact .row b off cap' hv (fun i hi => ⟨cell_put hne (hc i hi).1, cell_put hne (hc i hi).2.1, cell_put hne (hc i hi).2.2⟩)

/-- The net with one edge more, and where it lies. -/
structure Nt (w : World) (Y : Nat) (n : Int) (u : Value) (es : List E) : Prop where
  box : Box2 w Y n u
  sl : SlE w u es
theorem Nt.below {w w' : World} {Y : Nat} {n : Int} {u : Value} {es : List E} (h : Nt w Y n u es) (hb : Below w.heap.size w w') : Nt w' Y n u es := ⟨h.box.below hb, h.sl.below hb⟩

set_option maxRecDepth 100000 in
set_option maxHeartbeats 32000000 in
/-- All but the last part: what follows is asked of whatever follows. -/
theorem walk (n s : Int) (v : Value) (es : List E) (x : E) (w : World) (hv : SlE w v es) (hlen : es.length ≤ 5864062014634) :
    Calls Try.prog 9 #[.agg #[.int .i64 n, v], .int .i64 s, .agg #[.int .i64 x.1, .int .i64 x.2.1, .int .i64 x.2.2]] w fun e w' => e = .returned (.bool true) ∧ Below w.heap.size w w' := by
  obtain ⟨a0, c0, rfl⟩ := hv.val
  obtain ⟨xa, xb, xc⟩ := x
  simp only
  have HV : Hid _ := hv
  clear hv
  go_enter Try.func9, Try.ntmps9
  go_wp2_with fail
  have P0 : Hid _ := box2_new w n (.slice a0 es.length c0) 24
  have hz0 : (w.alloc (.cells #[.int .i64 n, .slice a0 es.length c0] 24)).heap.size = w.heap.size + 1 := by simp
  have b0 : Below w.heap.size w (w.alloc (.cells #[.int .i64 n, .slice a0 es.length c0] 24)) := balloc (Below.refl _ _) _
  generalize w.alloc (.cells #[.int .i64 n, .slice a0 es.length c0] 24) = W0 at *
  have X1 : Hid _ := box3_new W0 xa xb (.int .i64 xc) 41
  rw [hz0] at X1
  have b1 : Below W0.heap.size W0 (W0.alloc (.cells #[.int .i64 xa, .int .i64 xb, .int .i64 xc] 41)) := balloc (Below.refl _ _) _
  generalize W0.alloc (.cells #[.int .i64 xa, .int .i64 xb, .int .i64 xc] 41) = W1 at *
  have P1 : Hid _ := P0.out.below b1
  have B1 : Hid (Below w.heap.size w W1) := bthen b0 b1
  clear hz0 b0 b1 P0
  refine (two_any W1).mono ?_
  rintro e w2 ⟨X2, rfl, e2, b2⟩
  have E2 : Hid _ := e2
  have P2 : Hid _ := P1.out.below b2
  have X2' : Hid _ := X1.out.below b2
  have B2 : Hid (Below w.heap.size w w2) := bthen B1.out b2
  clear e2 b2 P1 B1 X1
  go_wp2_with fail
  refine (dist_two0 _ w2 E2.out).mono ?_
  rintro e w3 ⟨G3, rfl, _, b3⟩
  have P3 : Hid _ := P2.out.below b3
  have X3 : Hid _ := X2'.out.below b3
  have B3 : Hid (Below w.heap.size w w3) := bthen B2.out b3
  have V3 : Hid _ := HV.out.below B3.out
  clear b3 P2 X2' B2 E2
  go_upto_region 4 with fail
  go_cut [9] (fun p wc => ∃ (Y gg cap : Nat), p = .pointer (some ⟨Y, 0, none⟩) ∧ Nt wc Y n (.slice (some ⟨gg, 0, none⟩) (es.length + 1) cap) (es ++ [(xa, xb, xc)]) ∧ Below w3.heap.size w3 wc)
  case first =>
    obtain ⟨i0, hi0, hz0, hz1, hz2⟩ := info47_parts
    obtain ⟨p0, p1⟩ := P3.out
    obtain ⟨x0, x1, x2⟩ := X3.out
    have FL : Hid _ := flat3_length es
    have HCLO : Hid (∀ w', Below w3.heap.size w3 w' → _) := fun w' (hb : Below w3.heap.size w3 w') => eclone_sl (.slice a0 es.length c0) es w' (V3.out.below hb) (by omega)
    have XLT : Hid (w.heap.size + 1 < w3.heap.size) := by have := World.block_lt_of_cell? w3 ⟨w.heap.size + 1, 0, none⟩ x0; unfold Hid; simpa using this
    have FA : Hid ((w3.alloc (.cells #[.int .i64 xa, .int .i64 xb, .int .i64 xc] 41)).drew.heap[w3.heap.size]? = some (.cells #[.int .i64 xa, .int .i64 xb, .int .i64 xc] 41 (0, 0))) := heap_alloc_new w3 _
    have FH : Hid ((w3.alloc (.cells #[.int .i64 0, .slice none 0 0] 24)).drew.heap[w3.heap.size]? = some (.cells #[.int .i64 0, .slice none 0 0] 24 (0, 0))) := heap_alloc_new w3 _
    have FAH1 : Hid (((w3.alloc (.cells #[.int .i64 xa, .int .i64 xb, .int .i64 xc] 41)).alloc (.cells #[.int .i64 0, .slice none 0 0] 24)).drew.heap[w3.heap.size]? = some (.cells #[.int .i64 xa, .int .i64 xb, .int .i64 xc] 41 (0, 0))) := ((balloc (Below.refl (w3.alloc (.cells #[.int .i64 xa, .int .i64 xb, .int .i64 xc] 41)).heap.size (w3.alloc (.cells #[.int .i64 xa, .int .i64 xb, .int .i64 xc] 41))) (.cells #[.int .i64 0, .slice none 0 0] 24)).block w3.heap.size (by simp)).trans (heap_alloc_new w3 _)
    have FAH2 : Hid (((w3.alloc (.cells #[.int .i64 xa, .int .i64 xb, .int .i64 xc] 41)).alloc (.cells #[.int .i64 0, .slice none 0 0] 24)).drew.heap[w3.heap.size + 1]? = some (.cells #[.int .i64 0, .slice none 0 0] 24 (0, 0))) := new_at (w3.alloc (.cells #[.int .i64 xa, .int .i64 xb, .int .i64 xc] 41)) (.cells #[.int .i64 0, .slice none 0 0] 24) (by simp)
    have FHA1 : Hid (((w3.alloc (.cells #[.int .i64 0, .slice none 0 0] 24)).alloc (.cells #[.int .i64 xa, .int .i64 xb, .int .i64 xc] 41)).drew.heap[w3.heap.size]? = some (.cells #[.int .i64 0, .slice none 0 0] 24 (0, 0))) := ((balloc (Below.refl (w3.alloc (.cells #[.int .i64 0, .slice none 0 0] 24)).heap.size (w3.alloc (.cells #[.int .i64 0, .slice none 0 0] 24))) (.cells #[.int .i64 xa, .int .i64 xb, .int .i64 xc] 41)).block w3.heap.size (by simp)).trans (heap_alloc_new w3 _)
    have FHA2 : Hid (((w3.alloc (.cells #[.int .i64 0, .slice none 0 0] 24)).alloc (.cells #[.int .i64 xa, .int .i64 xb, .int .i64 xc] 41)).drew.heap[w3.heap.size + 1]? = some (.cells #[.int .i64 xa, .int .i64 xb, .int .i64 xc] 41 (0, 0))) := new_at (w3.alloc (.cells #[.int .i64 0, .slice none 0 0] 24)) (.cells #[.int .i64 xa, .int .i64 xb, .int .i64 xc] 41) (by simp)
    go_region_held3 (fun w' => w'.cell? ⟨w.heap.size, 0, none⟩ = some (.int .i64 n) ∧ w'.cell? ⟨w.heap.size, 1, none⟩ = some (.slice a0 es.length c0) ∧ w'.cell? ⟨w.heap.size + 1, 0, none⟩ = some (.int .i64 xa) ∧ w'.cell? ⟨w.heap.size + 1, 1, none⟩ = some (.int .i64 xb) ∧ w'.cell? ⟨w.heap.size + 1, 2, none⟩ = some (.int .i64 xc))
      (first | go_keep | exact KEEP.out | exact KEEPS.out _ _ | exact ⟨kept (balloc HB5.out _) P3.out.g0, kept (balloc HB5.out _) P3.out.g1, kept (balloc HB5.out _) X3.out.g0, kept (balloc HB5.out _) X3.out.g1, kept (balloc HB5.out _) X3.out.g2⟩ | exact ⟨kept (balloc HB4.out _) P3.out.g0, kept (balloc HB4.out _) P3.out.g1, kept (balloc HB4.out _) X3.out.g0, kept (balloc HB4.out _) X3.out.g1, kept (balloc HB4.out _) X3.out.g2⟩ | exact ⟨kept (balloc (balloc HB4.out _) _) P3.out.g0, kept (balloc (balloc HB4.out _) _) P3.out.g1, kept (balloc (balloc HB4.out _) _) X3.out.g0, kept (balloc (balloc HB4.out _) _) X3.out.g1, kept (balloc (balloc HB4.out _) _) X3.out.g2⟩)
      (first
       | (go_at_call 25; refine (HCLO.out _ ?_).mono ?_; exact Below.drew (Below.refl _ _); rintro e w4 ⟨av, cv, rfl, es0, hb0⟩; have hown := (es0.mono (b' := w3.heap.size) (by simp; try omega)).own; have HB4 : Hid (Below w3.heap.size w3 w4) := bthen (Below.drew (Below.refl _ _)) hb0; have HOB : Hid (∀ g, (Value.slice av es.length cv).ownBlock = some g → w3.heap.size + 0 ≤ g) := (fun g hg => by have := (ownBlock_lt es0.own g hg).1; simp at this; omega); have hz4 : w3.heap.size + 0 ≤ w4.heap.size := (by have := hb0.size; simp at this; omega); clear es0; have hs4 := HB4.out.size; have KEEP : Hid (w4.cell? ⟨w.heap.size, 0, none⟩ = some (.int .i64 n) ∧ w4.cell? ⟨w.heap.size, 1, none⟩ = some (.slice a0 es.length c0) ∧ w4.cell? ⟨w.heap.size + 1, 0, none⟩ = some (.int .i64 xa) ∧ w4.cell? ⟨w.heap.size + 1, 1, none⟩ = some (.int .i64 xb) ∧ w4.cell? ⟨w.heap.size + 1, 2, none⟩ = some (.int .i64 xc)) := ⟨kept HB4.out P3.out.g0, kept HB4.out P3.out.g1, kept HB4.out X3.out.g0, kept HB4.out X3.out.g1, kept HB4.out X3.out.g2⟩)
       | (go_at_call 25; refine (HCLO.out _ ?_).mono ?_; exact Below.drew (balloc (Below.refl _ _) _); rintro e w4 ⟨av, cv, rfl, es0, hb0⟩; have hown := (es0.mono (b' := w3.heap.size) (by simp; try omega)).own; have HB4 : Hid (Below w3.heap.size w3 w4) := bthen (Below.drew (balloc (Below.refl _ _) _)) hb0; have HOB : Hid (∀ g, (Value.slice av es.length cv).ownBlock = some g → w3.heap.size + 1 ≤ g) := (fun g hg => by have := (ownBlock_lt es0.own g hg).1; simp at this; omega); have hz4 : w3.heap.size + 1 ≤ w4.heap.size := (by have := hb0.size; simp at this; omega); have RWA : Hid (w4.heap[w3.heap.size]? = some (.cells #[.int .i64 xa, .int .i64 xb, .int .i64 xc] 41 (0, 0))) := ((hb0.block _ (by simp; try omega)).trans FA.out); clear es0; have hs4 := HB4.out.size; have KEEP : Hid (w4.cell? ⟨w.heap.size, 0, none⟩ = some (.int .i64 n) ∧ w4.cell? ⟨w.heap.size, 1, none⟩ = some (.slice a0 es.length c0) ∧ w4.cell? ⟨w.heap.size + 1, 0, none⟩ = some (.int .i64 xa) ∧ w4.cell? ⟨w.heap.size + 1, 1, none⟩ = some (.int .i64 xb) ∧ w4.cell? ⟨w.heap.size + 1, 2, none⟩ = some (.int .i64 xc)) := ⟨kept HB4.out P3.out.g0, kept HB4.out P3.out.g1, kept HB4.out X3.out.g0, kept HB4.out X3.out.g1, kept HB4.out X3.out.g2⟩)
       | (go_at_call 25; refine (HCLO.out _ ?_).mono ?_; exact Below.drew (balloc (Below.refl _ _) _); rintro e w4 ⟨av, cv, rfl, es0, hb0⟩; have hown := (es0.mono (b' := w3.heap.size) (by simp; try omega)).own; have HB4 : Hid (Below w3.heap.size w3 w4) := bthen (Below.drew (balloc (Below.refl _ _) _)) hb0; have HOB : Hid (∀ g, (Value.slice av es.length cv).ownBlock = some g → w3.heap.size + 1 ≤ g) := (fun g hg => by have := (ownBlock_lt es0.own g hg).1; simp at this; omega); have hz4 : w3.heap.size + 1 ≤ w4.heap.size := (by have := hb0.size; simp at this; omega); have HHA : Hid (Bn w4 w3.heap.size (.int .i64 0) (.slice none 0 0)) := ⟨(hb0.block _ (by simp; try omega)).trans FH.out⟩; clear es0; have hs4 := HB4.out.size; have KEEP : Hid (w4.cell? ⟨w.heap.size, 0, none⟩ = some (.int .i64 n) ∧ w4.cell? ⟨w.heap.size, 1, none⟩ = some (.slice a0 es.length c0) ∧ w4.cell? ⟨w.heap.size + 1, 0, none⟩ = some (.int .i64 xa) ∧ w4.cell? ⟨w.heap.size + 1, 1, none⟩ = some (.int .i64 xb) ∧ w4.cell? ⟨w.heap.size + 1, 2, none⟩ = some (.int .i64 xc)) := ⟨kept HB4.out P3.out.g0, kept HB4.out P3.out.g1, kept HB4.out X3.out.g0, kept HB4.out X3.out.g1, kept HB4.out X3.out.g2⟩)
       | (go_at_call 25; refine (HCLO.out _ ?_).mono ?_; exact Below.drew (balloc (balloc (Below.refl _ _) _) _); rintro e w4 ⟨av, cv, rfl, es0, hb0⟩; have hown := (es0.mono (b' := w3.heap.size) (by simp; try omega)).own; have HB4 : Hid (Below w3.heap.size w3 w4) := bthen (Below.drew (balloc (balloc (Below.refl _ _) _) _)) hb0; have HOB : Hid (∀ g, (Value.slice av es.length cv).ownBlock = some g → w3.heap.size + 2 ≤ g) := (fun g hg => by have := (ownBlock_lt es0.own g hg).1; simp at this; omega); have hz4 : w3.heap.size + 2 ≤ w4.heap.size := (by have := hb0.size; simp at this; omega); have RWB : Hid (w4.heap[w3.heap.size]? = some (.cells #[.int .i64 xa, .int .i64 xb, .int .i64 xc] 41 (0, 0))) := ((hb0.block _ (by simp; try omega)).trans FAH1.out); have HHB : Hid (Bn w4 (w3.heap.size + 1) (.int .i64 0) (.slice none 0 0)) := ⟨(hb0.block _ (by simp; try omega)).trans FAH2.out⟩; clear es0; have hs4 := HB4.out.size; have KEEP : Hid (w4.cell? ⟨w.heap.size, 0, none⟩ = some (.int .i64 n) ∧ w4.cell? ⟨w.heap.size, 1, none⟩ = some (.slice a0 es.length c0) ∧ w4.cell? ⟨w.heap.size + 1, 0, none⟩ = some (.int .i64 xa) ∧ w4.cell? ⟨w.heap.size + 1, 1, none⟩ = some (.int .i64 xb) ∧ w4.cell? ⟨w.heap.size + 1, 2, none⟩ = some (.int .i64 xc)) := ⟨kept HB4.out P3.out.g0, kept HB4.out P3.out.g1, kept HB4.out X3.out.g0, kept HB4.out X3.out.g1, kept HB4.out X3.out.g2⟩)
       | (go_at_call 25; refine (HCLO.out _ ?_).mono ?_; exact Below.drew (balloc (balloc (Below.refl _ _) _) _); rintro e w4 ⟨av, cv, rfl, es0, hb0⟩; have hown := (es0.mono (b' := w3.heap.size) (by simp; try omega)).own; have HB4 : Hid (Below w3.heap.size w3 w4) := bthen (Below.drew (balloc (balloc (Below.refl _ _) _) _)) hb0; have HOB : Hid (∀ g, (Value.slice av es.length cv).ownBlock = some g → w3.heap.size + 2 ≤ g) := (fun g hg => by have := (ownBlock_lt es0.own g hg).1; simp at this; omega); have hz4 : w3.heap.size + 2 ≤ w4.heap.size := (by have := hb0.size; simp at this; omega); have RWC : Hid (w4.heap[w3.heap.size + 1]? = some (.cells #[.int .i64 xa, .int .i64 xb, .int .i64 xc] 41 (0, 0))) := ((hb0.block _ (by simp; try omega)).trans FHA2.out); have HHC : Hid (Bn w4 w3.heap.size (.int .i64 0) (.slice none 0 0)) := ⟨(hb0.block _ (by simp; try omega)).trans FHA1.out⟩; clear es0; have hs4 := HB4.out.size; have KEEP : Hid (w4.cell? ⟨w.heap.size, 0, none⟩ = some (.int .i64 n) ∧ w4.cell? ⟨w.heap.size, 1, none⟩ = some (.slice a0 es.length c0) ∧ w4.cell? ⟨w.heap.size + 1, 0, none⟩ = some (.int .i64 xa) ∧ w4.cell? ⟨w.heap.size + 1, 1, none⟩ = some (.int .i64 xb) ∧ w4.cell? ⟨w.heap.size + 1, 2, none⟩ = some (.int .i64 xc)) := ⟨kept HB4.out P3.out.g0, kept HB4.out P3.out.g1, kept HB4.out X3.out.g0, kept HB4.out X3.out.g1, kept HB4.out X3.out.g2⟩)
       | (refine step_append_lies _ (by rfl) _ _ _ (by rfl) w3.heap.size 41 i0 _ 3 24 Try.underlying22 hi0 hz0 hz1 hz2 rfl (by omega) (.slice av es.length cv) es.length (flat3 es) (by rfl) hown
            ⟨w3.heap.size, 0, none⟩ 1 1 [.int .i64 xa, .int .i64 xb, .int .i64 xc] (by rfl) (by rfl) (World.news_of_block (cs := #[.int .i64 xa, .int .i64 xb, .int .i64 xc]) (t := 41) (fr := (0, 0)) RWB.out) (by simp [Value.oneCell'])
            (by omega) (by unfold maxLen; omega) (by omega) (by first | omega | (simp; done) | (simp; omega)) w4.heap.size rfl ?_; intro gg cap' w5 hown5 hgrow hat hlt5; have HB5 : Hid (Below w3.heap.size w3 w5) := (HB4.out.grown hgrow HB4.out.size (fun k hk => (ownBlock_lt hown k hk).1)); have HN5 : Hid (Bn w5 (w3.heap.size + 1) (.int .i64 0) (.slice none 0 0)) := ⟨(hgrow.block (w3.heap.size + 1) (by first | omega | (simp; done) | (simp; omega)) (fun e => by have q1 := HOB.out _ e.symm; have q2 := (ownBlock_lt hown _ e.symm).2; omega)).trans HHB.out.at_⟩; have HGH : Hid (gg ≠ (w3.heap.size + 1)) := (fun e => hat.elim (fun h => by rw [e] at h; have q1 := HOB.out _ h; have q2 := (ownBlock_lt hown _ h).2; omega) (fun h => by omega)); obtain ⟨n0, n1⟩ := HN5.out.cell; obtain ⟨m0, m1⟩ := HN5.out.frozen; have KEEP : Hid (w5.cell? ⟨w.heap.size, 0, none⟩ = some (.int .i64 n) ∧ w5.cell? ⟨w.heap.size, 1, none⟩ = some (.slice a0 es.length c0) ∧ w5.cell? ⟨w.heap.size + 1, 0, none⟩ = some (.int .i64 xa) ∧ w5.cell? ⟨w.heap.size + 1, 1, none⟩ = some (.int .i64 xb) ∧ w5.cell? ⟨w.heap.size + 1, 2, none⟩ = some (.int .i64 xc)) := ⟨kept HB5.out P3.out.g0, kept HB5.out P3.out.g1, kept HB5.out X3.out.g0, kept HB5.out X3.out.g1, kept HB5.out X3.out.g2⟩; have KEEPS : Hid (∀ u v, ((w5.setCell ⟨(w3.heap.size + 1), 0, none⟩ u).setCell ⟨(w3.heap.size + 1), 1, none⟩ v).cell? ⟨w.heap.size, 0, none⟩ = some (.int .i64 n) ∧ ((w5.setCell ⟨(w3.heap.size + 1), 0, none⟩ u).setCell ⟨(w3.heap.size + 1), 1, none⟩ v).cell? ⟨w.heap.size, 1, none⟩ = some (.slice a0 es.length c0) ∧ ((w5.setCell ⟨(w3.heap.size + 1), 0, none⟩ u).setCell ⟨(w3.heap.size + 1), 1, none⟩ v).cell? ⟨w.heap.size + 1, 0, none⟩ = some (.int .i64 xa) ∧ ((w5.setCell ⟨(w3.heap.size + 1), 0, none⟩ u).setCell ⟨(w3.heap.size + 1), 1, none⟩ v).cell? ⟨w.heap.size + 1, 1, none⟩ = some (.int .i64 xb) ∧ ((w5.setCell ⟨(w3.heap.size + 1), 0, none⟩ u).setCell ⟨(w3.heap.size + 1), 1, none⟩ v).cell? ⟨w.heap.size + 1, 2, none⟩ = some (.int .i64 xc)) := (fun u v => by have q0 := XLT.out; exact ⟨cell_put (by omega) (cell_put (by omega) KEEP.out.1), cell_put (by omega) (cell_put (by omega) KEEP.out.2.1), cell_put (by omega) (cell_put (by omega) KEEP.out.2.2.1), cell_put (by omega) (cell_put (by omega) KEEP.out.2.2.2.1), cell_put (by omega) (cell_put (by omega) KEEP.out.2.2.2.2)⟩))
       | (refine step_append_lies _ (by rfl) _ _ _ (by rfl) w3.heap.size 41 i0 _ 3 24 Try.underlying22 hi0 hz0 hz1 hz2 rfl (by omega) (.slice av es.length cv) es.length (flat3 es) (by rfl) hown
            ⟨(w3.heap.size + 1), 0, none⟩ 1 1 [.int .i64 xa, .int .i64 xb, .int .i64 xc] (by rfl) (by rfl) (World.news_of_block (cs := #[.int .i64 xa, .int .i64 xb, .int .i64 xc]) (t := 41) (fr := (0, 0)) RWC.out) (by simp [Value.oneCell'])
            (by omega) (by unfold maxLen; omega) (by omega) (by first | omega | (simp; done) | (simp; omega)) w4.heap.size rfl ?_; intro gg cap' w5 hown5 hgrow hat hlt5; have HB5 : Hid (Below w3.heap.size w3 w5) := (HB4.out.grown hgrow HB4.out.size (fun k hk => (ownBlock_lt hown k hk).1)); have HN5 : Hid (Bn w5 w3.heap.size (.int .i64 0) (.slice none 0 0)) := ⟨(hgrow.block w3.heap.size (by first | omega | (simp; done) | (simp; omega)) (fun e => by have q1 := HOB.out _ e.symm; have q2 := (ownBlock_lt hown _ e.symm).2; omega)).trans HHC.out.at_⟩; have HGH : Hid (gg ≠ w3.heap.size) := (fun e => hat.elim (fun h => by rw [e] at h; have q1 := HOB.out _ h; have q2 := (ownBlock_lt hown _ h).2; omega) (fun h => by omega)); obtain ⟨n0, n1⟩ := HN5.out.cell; obtain ⟨m0, m1⟩ := HN5.out.frozen; have KEEP : Hid (w5.cell? ⟨w.heap.size, 0, none⟩ = some (.int .i64 n) ∧ w5.cell? ⟨w.heap.size, 1, none⟩ = some (.slice a0 es.length c0) ∧ w5.cell? ⟨w.heap.size + 1, 0, none⟩ = some (.int .i64 xa) ∧ w5.cell? ⟨w.heap.size + 1, 1, none⟩ = some (.int .i64 xb) ∧ w5.cell? ⟨w.heap.size + 1, 2, none⟩ = some (.int .i64 xc)) := ⟨kept HB5.out P3.out.g0, kept HB5.out P3.out.g1, kept HB5.out X3.out.g0, kept HB5.out X3.out.g1, kept HB5.out X3.out.g2⟩; have KEEPS : Hid (∀ u v, ((w5.setCell ⟨w3.heap.size, 0, none⟩ u).setCell ⟨w3.heap.size, 1, none⟩ v).cell? ⟨w.heap.size, 0, none⟩ = some (.int .i64 n) ∧ ((w5.setCell ⟨w3.heap.size, 0, none⟩ u).setCell ⟨w3.heap.size, 1, none⟩ v).cell? ⟨w.heap.size, 1, none⟩ = some (.slice a0 es.length c0) ∧ ((w5.setCell ⟨w3.heap.size, 0, none⟩ u).setCell ⟨w3.heap.size, 1, none⟩ v).cell? ⟨w.heap.size + 1, 0, none⟩ = some (.int .i64 xa) ∧ ((w5.setCell ⟨w3.heap.size, 0, none⟩ u).setCell ⟨w3.heap.size, 1, none⟩ v).cell? ⟨w.heap.size + 1, 1, none⟩ = some (.int .i64 xb) ∧ ((w5.setCell ⟨w3.heap.size, 0, none⟩ u).setCell ⟨w3.heap.size, 1, none⟩ v).cell? ⟨w.heap.size + 1, 2, none⟩ = some (.int .i64 xc)) := (fun u v => by have q0 := XLT.out; exact ⟨cell_put (by omega) (cell_put (by omega) KEEP.out.1), cell_put (by omega) (cell_put (by omega) KEEP.out.2.1), cell_put (by omega) (cell_put (by omega) KEEP.out.2.2.1), cell_put (by omega) (cell_put (by omega) KEEP.out.2.2.2.1), cell_put (by omega) (cell_put (by omega) KEEP.out.2.2.2.2)⟩))
       | (refine step_append_lies _ (by rfl) _ _ _ (by rfl) w3.heap.size 41 i0 _ 3 24 Try.underlying22 hi0 hz0 hz1 hz2 rfl (by omega) (.slice av es.length cv) es.length (flat3 es) (by rfl) (hown.alloc _)
            ⟨w4.heap.size, 0, none⟩ 1 1 [.int .i64 xa, .int .i64 xb, .int .i64 xc] (by rfl) (by rfl) (World.news_of_block (cs := #[.int .i64 xa, .int .i64 xb, .int .i64 xc]) (t := 41) (fr := (0, 0)) (heap_alloc_new w4 _)) (by simp [Value.oneCell'])
            (by omega) (by unfold maxLen; omega) (by omega) (by first | omega | (simp; done) | (simp; omega)) (w4.heap.size + 1) (by simp) ?_; intro gg cap' w5 hown5 hgrow hat hlt5; have HB5 : Hid (Below w3.heap.size w3 w5) := ((balloc HB4.out _).grown hgrow (balloc HB4.out _).size (fun k hk => (ownBlock_lt hown k hk).1)); have HN5 : Hid (Bn w5 w3.heap.size (.int .i64 0) (.slice none 0 0)) := ⟨(hgrow.block w3.heap.size (by first | omega | (simp; done) | (simp; omega)) (fun e => by have q1 := HOB.out _ e.symm; have q2 := (ownBlock_lt hown _ e.symm).2; omega)).trans ((HHA.out.below (balloc (Below.refl _ _) (.cells #[.int .i64 xa, .int .i64 xb, .int .i64 xc] 41))).at_)⟩; have HGH : Hid (gg ≠ w3.heap.size) := (fun e => hat.elim (fun h => by rw [e] at h; have q1 := HOB.out _ h; have q2 := (ownBlock_lt hown _ h).2; omega) (fun h => by omega)); obtain ⟨n0, n1⟩ := HN5.out.cell; obtain ⟨m0, m1⟩ := HN5.out.frozen; have KEEP : Hid (w5.cell? ⟨w.heap.size, 0, none⟩ = some (.int .i64 n) ∧ w5.cell? ⟨w.heap.size, 1, none⟩ = some (.slice a0 es.length c0) ∧ w5.cell? ⟨w.heap.size + 1, 0, none⟩ = some (.int .i64 xa) ∧ w5.cell? ⟨w.heap.size + 1, 1, none⟩ = some (.int .i64 xb) ∧ w5.cell? ⟨w.heap.size + 1, 2, none⟩ = some (.int .i64 xc)) := ⟨kept HB5.out P3.out.g0, kept HB5.out P3.out.g1, kept HB5.out X3.out.g0, kept HB5.out X3.out.g1, kept HB5.out X3.out.g2⟩; have KEEPS : Hid (∀ u v, ((w5.setCell ⟨w3.heap.size, 0, none⟩ u).setCell ⟨w3.heap.size, 1, none⟩ v).cell? ⟨w.heap.size, 0, none⟩ = some (.int .i64 n) ∧ ((w5.setCell ⟨w3.heap.size, 0, none⟩ u).setCell ⟨w3.heap.size, 1, none⟩ v).cell? ⟨w.heap.size, 1, none⟩ = some (.slice a0 es.length c0) ∧ ((w5.setCell ⟨w3.heap.size, 0, none⟩ u).setCell ⟨w3.heap.size, 1, none⟩ v).cell? ⟨w.heap.size + 1, 0, none⟩ = some (.int .i64 xa) ∧ ((w5.setCell ⟨w3.heap.size, 0, none⟩ u).setCell ⟨w3.heap.size, 1, none⟩ v).cell? ⟨w.heap.size + 1, 1, none⟩ = some (.int .i64 xb) ∧ ((w5.setCell ⟨w3.heap.size, 0, none⟩ u).setCell ⟨w3.heap.size, 1, none⟩ v).cell? ⟨w.heap.size + 1, 2, none⟩ = some (.int .i64 xc)) := (fun u v => by have q0 := XLT.out; exact ⟨cell_put (by omega) (cell_put (by omega) KEEP.out.1), cell_put (by omega) (cell_put (by omega) KEEP.out.2.1), cell_put (by omega) (cell_put (by omega) KEEP.out.2.2.1), cell_put (by omega) (cell_put (by omega) KEEP.out.2.2.2.1), cell_put (by omega) (cell_put (by omega) KEEP.out.2.2.2.2)⟩))
       | (refine step_append_lies _ (by rfl) _ _ _ (by rfl) w3.heap.size 41 i0 _ 3 24 Try.underlying22 hi0 hz0 hz1 hz2 rfl (by omega) (.slice av es.length cv) es.length (flat3 es) (by rfl) ((hown.alloc _).alloc _)
            ⟨w4.heap.size, 0, none⟩ 1 1 [.int .i64 xa, .int .i64 xb, .int .i64 xc] (by rfl) (by rfl) (World.news_of_block (cs := #[.int .i64 xa, .int .i64 xb, .int .i64 xc]) (t := 41) (fr := (0, 0)) (((balloc (Below.refl (w4.alloc (.cells #[.int .i64 xa, .int .i64 xb, .int .i64 xc] 41)).heap.size (w4.alloc (.cells #[.int .i64 xa, .int .i64 xb, .int .i64 xc] 41))) (.cells #[.int .i64 0, .slice none 0 0] 24)).block w4.heap.size (by simp)).trans (heap_alloc_new w4 _))) (by simp [Value.oneCell'])
            (by omega) (by unfold maxLen; omega) (by omega) (by first | omega | (simp; done) | (simp; omega)) (w4.heap.size + 1 + 1) (by simp) ?_; intro gg cap' w5 hown5 hgrow hat hlt5; have HB5 : Hid (Below w3.heap.size w3 w5) := ((balloc (balloc HB4.out _) _).grown hgrow (balloc (balloc HB4.out _) _).size (fun k hk => (ownBlock_lt hown k hk).1)); have HN5 : Hid (Bn w5 (w4.heap.size + 1) (.int .i64 0) (.slice none 0 0)) := ⟨(hgrow.block (w4.heap.size + 1) (by first | omega | (simp; done) | (simp; omega)) (fun e => by have q1 := HOB.out _ e.symm; have q2 := (ownBlock_lt hown _ e.symm).2; omega)).trans (new_at (w4.alloc (.cells #[.int .i64 xa, .int .i64 xb, .int .i64 xc] 41)) (.cells #[.int .i64 0, .slice none 0 0] 24) (by simp))⟩; have HGH : Hid (gg ≠ (w4.heap.size + 1)) := (fun e => hat.elim (fun h => by rw [e] at h; have q1 := HOB.out _ h; have q2 := (ownBlock_lt hown _ h).2; omega) (fun h => by omega)); obtain ⟨n0, n1⟩ := HN5.out.cell; obtain ⟨m0, m1⟩ := HN5.out.frozen; have KEEP : Hid (w5.cell? ⟨w.heap.size, 0, none⟩ = some (.int .i64 n) ∧ w5.cell? ⟨w.heap.size, 1, none⟩ = some (.slice a0 es.length c0) ∧ w5.cell? ⟨w.heap.size + 1, 0, none⟩ = some (.int .i64 xa) ∧ w5.cell? ⟨w.heap.size + 1, 1, none⟩ = some (.int .i64 xb) ∧ w5.cell? ⟨w.heap.size + 1, 2, none⟩ = some (.int .i64 xc)) := ⟨kept HB5.out P3.out.g0, kept HB5.out P3.out.g1, kept HB5.out X3.out.g0, kept HB5.out X3.out.g1, kept HB5.out X3.out.g2⟩; have KEEPS : Hid (∀ u v, ((w5.setCell ⟨(w4.heap.size + 1), 0, none⟩ u).setCell ⟨(w4.heap.size + 1), 1, none⟩ v).cell? ⟨w.heap.size, 0, none⟩ = some (.int .i64 n) ∧ ((w5.setCell ⟨(w4.heap.size + 1), 0, none⟩ u).setCell ⟨(w4.heap.size + 1), 1, none⟩ v).cell? ⟨w.heap.size, 1, none⟩ = some (.slice a0 es.length c0) ∧ ((w5.setCell ⟨(w4.heap.size + 1), 0, none⟩ u).setCell ⟨(w4.heap.size + 1), 1, none⟩ v).cell? ⟨w.heap.size + 1, 0, none⟩ = some (.int .i64 xa) ∧ ((w5.setCell ⟨(w4.heap.size + 1), 0, none⟩ u).setCell ⟨(w4.heap.size + 1), 1, none⟩ v).cell? ⟨w.heap.size + 1, 1, none⟩ = some (.int .i64 xb) ∧ ((w5.setCell ⟨(w4.heap.size + 1), 0, none⟩ u).setCell ⟨(w4.heap.size + 1), 1, none⟩ v).cell? ⟨w.heap.size + 1, 2, none⟩ = some (.int .i64 xc)) := (fun u v => by have q0 := XLT.out; exact ⟨cell_put (by omega) (cell_put (by omega) KEEP.out.1), cell_put (by omega) (cell_put (by omega) KEEP.out.2.1), cell_put (by omega) (cell_put (by omega) KEEP.out.2.2.1), cell_put (by omega) (cell_put (by omega) KEEP.out.2.2.2.1), cell_put (by omega) (cell_put (by omega) KEEP.out.2.2.2.2)⟩))
       | (refine step_append_lies _ (by rfl) _ _ _ (by rfl) w3.heap.size 41 i0 _ 3 24 Try.underlying22 hi0 hz0 hz1 hz2 rfl (by omega) (.slice av es.length cv) es.length (flat3 es) (by rfl) ((hown.alloc _).alloc _)
            ⟨(w4.heap.size + 1), 0, none⟩ 1 1 [.int .i64 xa, .int .i64 xb, .int .i64 xc] (by rfl) (by rfl) (World.news_of_block (cs := #[.int .i64 xa, .int .i64 xb, .int .i64 xc]) (t := 41) (fr := (0, 0)) (new_at (w4.alloc (.cells #[.int .i64 0, .slice none 0 0] 24)) (.cells #[.int .i64 xa, .int .i64 xb, .int .i64 xc] 41) (by simp))) (by simp [Value.oneCell'])
            (by omega) (by unfold maxLen; omega) (by omega) (by first | omega | (simp; done) | (simp; omega)) (w4.heap.size + 1 + 1) (by simp) ?_; intro gg cap' w5 hown5 hgrow hat hlt5; have HB5 : Hid (Below w3.heap.size w3 w5) := ((balloc (balloc HB4.out _) _).grown hgrow (balloc (balloc HB4.out _) _).size (fun k hk => (ownBlock_lt hown k hk).1)); have HN5 : Hid (Bn w5 w4.heap.size (.int .i64 0) (.slice none 0 0)) := ⟨(hgrow.block w4.heap.size (by first | omega | (simp; done) | (simp; omega)) (fun e => by have q1 := HOB.out _ e.symm; have q2 := (ownBlock_lt hown _ e.symm).2; omega)).trans (((balloc (Below.refl (w4.alloc (.cells #[.int .i64 0, .slice none 0 0] 24)).heap.size (w4.alloc (.cells #[.int .i64 0, .slice none 0 0] 24))) (.cells #[.int .i64 xa, .int .i64 xb, .int .i64 xc] 41)).block w4.heap.size (by simp)).trans (heap_alloc_new w4 _))⟩; have HGH : Hid (gg ≠ w4.heap.size) := (fun e => hat.elim (fun h => by rw [e] at h; have q1 := HOB.out _ h; have q2 := (ownBlock_lt hown _ h).2; omega) (fun h => by omega)); obtain ⟨n0, n1⟩ := HN5.out.cell; obtain ⟨m0, m1⟩ := HN5.out.frozen; have KEEP : Hid (w5.cell? ⟨w.heap.size, 0, none⟩ = some (.int .i64 n) ∧ w5.cell? ⟨w.heap.size, 1, none⟩ = some (.slice a0 es.length c0) ∧ w5.cell? ⟨w.heap.size + 1, 0, none⟩ = some (.int .i64 xa) ∧ w5.cell? ⟨w.heap.size + 1, 1, none⟩ = some (.int .i64 xb) ∧ w5.cell? ⟨w.heap.size + 1, 2, none⟩ = some (.int .i64 xc)) := ⟨kept HB5.out P3.out.g0, kept HB5.out P3.out.g1, kept HB5.out X3.out.g0, kept HB5.out X3.out.g1, kept HB5.out X3.out.g2⟩; have KEEPS : Hid (∀ u v, ((w5.setCell ⟨w4.heap.size, 0, none⟩ u).setCell ⟨w4.heap.size, 1, none⟩ v).cell? ⟨w.heap.size, 0, none⟩ = some (.int .i64 n) ∧ ((w5.setCell ⟨w4.heap.size, 0, none⟩ u).setCell ⟨w4.heap.size, 1, none⟩ v).cell? ⟨w.heap.size, 1, none⟩ = some (.slice a0 es.length c0) ∧ ((w5.setCell ⟨w4.heap.size, 0, none⟩ u).setCell ⟨w4.heap.size, 1, none⟩ v).cell? ⟨w.heap.size + 1, 0, none⟩ = some (.int .i64 xa) ∧ ((w5.setCell ⟨w4.heap.size, 0, none⟩ u).setCell ⟨w4.heap.size, 1, none⟩ v).cell? ⟨w.heap.size + 1, 1, none⟩ = some (.int .i64 xb) ∧ ((w5.setCell ⟨w4.heap.size, 0, none⟩ u).setCell ⟨w4.heap.size, 1, none⟩ v).cell? ⟨w.heap.size + 1, 2, none⟩ = some (.int .i64 xc)) := (fun u v => by have q0 := XLT.out; exact ⟨cell_put (by omega) (cell_put (by omega) KEEP.out.1), cell_put (by omega) (cell_put (by omega) KEEP.out.2.1), cell_put (by omega) (cell_put (by omega) KEEP.out.2.2.1), cell_put (by omega) (cell_put (by omega) KEEP.out.2.2.2.1), cell_put (by omega) (cell_put (by omega) KEEP.out.2.2.2.2)⟩))
       | (refine step_append_lies _ (by rfl) _ _ _ (by rfl) w3.heap.size 41 i0 _ 3 24 Try.underlying22 hi0 hz0 hz1 hz2 rfl (by omega) (.slice av es.length cv) es.length (flat3 es) (by rfl) (hown.alloc _)
            ⟨w4.heap.size, 0, none⟩ 1 1 [.int .i64 xa, .int .i64 xb, .int .i64 xc] (by rfl) (by rfl) (World.news_of_block (cs := #[.int .i64 xa, .int .i64 xb, .int .i64 xc]) (t := 41) (fr := (0, 0)) (heap_alloc_new w4 _)) (by simp [Value.oneCell'])
            (by omega) (by unfold maxLen; omega) (by omega) (by first | omega | (simp; done) | (simp; omega)) (w4.heap.size + 1) (by simp) ?_; intro gg cap' w5 hown5 hgrow hat hlt5; have HB5 : Hid (Below w3.heap.size w3 w5) := ((balloc HB4.out _).grown hgrow (balloc HB4.out _).size (fun k hk => (ownBlock_lt hown k hk).1)); have KEEP : Hid (w5.cell? ⟨w.heap.size, 0, none⟩ = some (.int .i64 n) ∧ w5.cell? ⟨w.heap.size, 1, none⟩ = some (.slice a0 es.length c0) ∧ w5.cell? ⟨w.heap.size + 1, 0, none⟩ = some (.int .i64 xa) ∧ w5.cell? ⟨w.heap.size + 1, 1, none⟩ = some (.int .i64 xb) ∧ w5.cell? ⟨w.heap.size + 1, 2, none⟩ = some (.int .i64 xc)) := ⟨kept HB5.out P3.out.g0, kept HB5.out P3.out.g1, kept HB5.out X3.out.g0, kept HB5.out X3.out.g1, kept HB5.out X3.out.g2⟩)
       | (refine step_append_lies _ (by rfl) _ _ _ (by rfl) w3.heap.size 41 i0 _ 3 24 Try.underlying22 hi0 hz0 hz1 hz2 rfl (by omega) (.slice av es.length cv) es.length (flat3 es) (by rfl) (hown.alloc _)
            ⟨w3.heap.size, 0, none⟩ 1 1 [.int .i64 xa, .int .i64 xb, .int .i64 xc] (by rfl) (by rfl) (World.news_of_block (cs := #[.int .i64 xa, .int .i64 xb, .int .i64 xc]) (t := 41) (fr := (0, 0)) (((balloc (Below.refl w4.heap.size w4) (.cells #[.int .i64 0, .slice none 0 0] 24)).block w3.heap.size (lt_of_at RWA.out)).trans RWA.out)) (by simp [Value.oneCell'])
            (by omega) (by unfold maxLen; omega) (by omega) (by first | omega | (simp; done) | (simp; omega)) (w4.heap.size + 1) (by simp) ?_; intro gg cap' w5 hown5 hgrow hat hlt5; have HB5 : Hid (Below w3.heap.size w3 w5) := ((balloc HB4.out _).grown hgrow (balloc HB4.out _).size (fun k hk => (ownBlock_lt hown k hk).1)); have HN5 : Hid (Bn w5 w4.heap.size (.int .i64 0) (.slice none 0 0)) := ⟨(hgrow.block w4.heap.size (by first | omega | (simp; done) | (simp; omega)) (fun e => by have q1 := HOB.out _ e.symm; have q2 := (ownBlock_lt hown _ e.symm).2; omega)).trans (heap_alloc_new w4 _)⟩; have HGH : Hid (gg ≠ w4.heap.size) := (fun e => hat.elim (fun h => by rw [e] at h; have q1 := HOB.out _ h; have q2 := (ownBlock_lt hown _ h).2; omega) (fun h => by omega)); obtain ⟨n0, n1⟩ := HN5.out.cell; obtain ⟨m0, m1⟩ := HN5.out.frozen; have KEEP : Hid (w5.cell? ⟨w.heap.size, 0, none⟩ = some (.int .i64 n) ∧ w5.cell? ⟨w.heap.size, 1, none⟩ = some (.slice a0 es.length c0) ∧ w5.cell? ⟨w.heap.size + 1, 0, none⟩ = some (.int .i64 xa) ∧ w5.cell? ⟨w.heap.size + 1, 1, none⟩ = some (.int .i64 xb) ∧ w5.cell? ⟨w.heap.size + 1, 2, none⟩ = some (.int .i64 xc)) := ⟨kept HB5.out P3.out.g0, kept HB5.out P3.out.g1, kept HB5.out X3.out.g0, kept HB5.out X3.out.g1, kept HB5.out X3.out.g2⟩; have KEEPS : Hid (∀ u v, ((w5.setCell ⟨w4.heap.size, 0, none⟩ u).setCell ⟨w4.heap.size, 1, none⟩ v).cell? ⟨w.heap.size, 0, none⟩ = some (.int .i64 n) ∧ ((w5.setCell ⟨w4.heap.size, 0, none⟩ u).setCell ⟨w4.heap.size, 1, none⟩ v).cell? ⟨w.heap.size, 1, none⟩ = some (.slice a0 es.length c0) ∧ ((w5.setCell ⟨w4.heap.size, 0, none⟩ u).setCell ⟨w4.heap.size, 1, none⟩ v).cell? ⟨w.heap.size + 1, 0, none⟩ = some (.int .i64 xa) ∧ ((w5.setCell ⟨w4.heap.size, 0, none⟩ u).setCell ⟨w4.heap.size, 1, none⟩ v).cell? ⟨w.heap.size + 1, 1, none⟩ = some (.int .i64 xb) ∧ ((w5.setCell ⟨w4.heap.size, 0, none⟩ u).setCell ⟨w4.heap.size, 1, none⟩ v).cell? ⟨w.heap.size + 1, 2, none⟩ = some (.int .i64 xc)) := (fun u v => by have q0 := XLT.out; exact ⟨cell_put (by omega) (cell_put (by omega) KEEP.out.1), cell_put (by omega) (cell_put (by omega) KEEP.out.2.1), cell_put (by omega) (cell_put (by omega) KEEP.out.2.2.1), cell_put (by omega) (cell_put (by omega) KEEP.out.2.2.2.1), cell_put (by omega) (cell_put (by omega) KEEP.out.2.2.2.2)⟩))
       | (refine step_append_lies _ (by rfl) _ _ _ (by rfl) w3.heap.size 41 i0 _ 3 24 Try.underlying22 hi0 hz0 hz1 hz2 rfl (by omega) (.slice av es.length cv) es.length (flat3 es) (by rfl) hown
            ⟨w3.heap.size, 0, none⟩ 1 1 [.int .i64 xa, .int .i64 xb, .int .i64 xc] (by rfl) (by rfl) (World.news_of_block (cs := #[.int .i64 xa, .int .i64 xb, .int .i64 xc]) (t := 41) (fr := (0, 0)) RWA.out) (by simp [Value.oneCell'])
            (by omega) (by unfold maxLen; omega) (by omega) (by first | omega | (simp; done) | (simp; omega)) w4.heap.size rfl ?_; intro gg cap' w5 hown5 hgrow hat hlt5; have HB5 : Hid (Below w3.heap.size w3 w5) := (HB4.out.grown hgrow HB4.out.size (fun k hk => (ownBlock_lt hown k hk).1)); have KEEP : Hid (w5.cell? ⟨w.heap.size, 0, none⟩ = some (.int .i64 n) ∧ w5.cell? ⟨w.heap.size, 1, none⟩ = some (.slice a0 es.length c0) ∧ w5.cell? ⟨w.heap.size + 1, 0, none⟩ = some (.int .i64 xa) ∧ w5.cell? ⟨w.heap.size + 1, 1, none⟩ = some (.int .i64 xb) ∧ w5.cell? ⟨w.heap.size + 1, 2, none⟩ = some (.int .i64 xc)) := ⟨kept HB5.out P3.out.g0, kept HB5.out P3.out.g1, kept HB5.out X3.out.g0, kept HB5.out X3.out.g1, kept HB5.out X3.out.g2⟩)
       | fail)
    all_goals
      go_wp2_with fail
      go_meet
      first
      | exact ⟨_, gg, cap', rfl, ⟨box2_new w5 n _ 24, (snoc_sl rfl hown5).below (balloc (Below.refl _ _) _)⟩, balloc HB5.out _⟩
      | exact ⟨_, gg, cap', rfl, ⟨⟨(bn_set HN5.out _ _).cell.1, (bn_set HN5.out _ _).cell.2⟩, sle_put (sle_put (snoc_sl rfl hown5) HGH.out) HGH.out⟩, Below.setCell (Below.setCell HB5.out (by first | omega | (simp; done) | (simp; omega)) _) (by first | omega | (simp; done) | (simp; omega)) _⟩
  case rest =>
    obtain ⟨Y, gg, cap, rfl, nt, hb⟩ := hcut
    have NT : Hid _ := nt
    have P4 : Hid _ := P3.out.below hb
    have X4 : Hid _ := X3.out.below hb
    have B4 : Hid (Below w.heap.size w wc) := bthen B3.out hb
    clear nt hb P3 X3 B3 V3
    obtain ⟨p0, p1⟩ := P4.out
    go_wp2_with fail
    clear p0 p1
    by_cases hc : lk n es [s] = 0
    · obtain ⟨h1, h2⟩ := lk_cases hc
      obtain ⟨hg, hp, hn⟩ := pn_of h1
      obtain ⟨t, rfl, hs⟩ := plc_nat h2
      obtain ⟨N, hN⟩ : ∃ N, n.toNat = N := ⟨_, rfl⟩
      rw [hN] at hp hn
      subst hn
      have htN : t < N := by omega
      have H1 : Hid _ := h1
      have HP : Hid _ := hp
      have hn64 := hp.n64
      clear hc h1 h2 hg hp hN
      refine (dist_yes N t _ es wc (HV.out.below B4.out) H1.out HP.out htN).mono ?_
      rintro e w5 ⟨G5, d5, rfl, _, u5, i5, b5⟩
      have U5 : Hid _ := u5
      have I5 : Hid _ := i5
      have NT5 : Hid _ := NT.out.below b5
      have P5 : Hid _ := P4.out.below b5
      have X5 : Hid _ := X4.out.below b5
      have B5 : Hid (Below w.heap.size w w5) := bthen B4.out b5
      clear u5 i5 b5 NT P4 X4 B4
      obtain ⟨q0, q1⟩ := NT5.out.box
      go_wp2_with fail
      clear q0 q1
      by_cases hk : lk N (es ++ [(xa, xb, xc)]) [(t : Int)] = 0
      · obtain ⟨k1, _⟩ := lk_cases hk
        obtain ⟨_, kp, _⟩ := pn_of k1
        rw [Int.toNat_natCast] at kp
        obtain ⟨kl, kx⟩ := more_valid kp
        have K1 : Hid _ := k1
        have KP : Hid _ := kp
        have KX : Hid _ := kx
        clear hk k1 kp
        refine (dist_yes N t _ (es ++ [(xa, xb, xc)]) w5 NT5.out.sl K1.out KP.out htN).mono ?_
        rintro e w6 ⟨G6, d6, rfl, _, u6, i6, b6⟩
        have U6 : Hid _ := u6
        have I6 : Hid _ := i6
        have V6 : Hid _ := U5.out.below b6
        have P6 : Hid _ := P5.out.below b6
        have X6 : Hid _ := X5.out.below b6
        have B6 : Hid (Below w.heap.size w w6) := bthen B5.out b6
        clear u6 i6 b6 NT5 P5 X5 B5 U5
        simp only at kx
        obtain ⟨kx1, kx2, kx3, kx4, kx5, kx6⟩ := kx
        obtain ⟨a, rfl⟩ := Int.eq_ofNat_of_zero_le kx1
        obtain ⟨b, rfl⟩ := Int.eq_ofNat_of_zero_le kx3
        have haN : a < N := by omega
        have hbN : b < N := by omega
        obtain ⟨p0, p1⟩ := P6.out
        obtain ⟨x0, x1, x2⟩ := X6.out
        go_wp2_with fail
        clear p0 p1 x0 x1 x2
        refine (dist_yes N b _ es w6 (HV.out.below B6.out) H1.out HP.out hbN).mono ?_
        rintro e w7 ⟨G7, d7, rfl, _, u7, i7, b7⟩
        have HMO : Hid (∀ v, v < N → d6 v = mor d5 d7 a xc v) := fun v hv => by
          have h8 := IsD.more (x := ((a : Int), (b : Int), xc)) HP.out KX.out htN I5.out (by simpa using i7)
          simp only [Int.toNat_natCast] at h8
          exact I6.out.eq KP.out h8 hv
        have HLO : Hid (∀ v, v < N → 0 ≤ d5 v ∧ d5 v ≤ 1099511627776 ∧ 0 ≤ d7 v ∧ d7 v ≤ 1099511627776) := fun v hv => ⟨I5.out.lo v hv, I5.out.hi v hv, i7.lo v hv, i7.hi v hv⟩
        have U7 : Hid _ := u7
        have V7 : Hid _ := V6.out.below b7
        have W7 : Hid _ := U6.out.below b7
        have X7 : Hid _ := X6.out.below b7
        have B7 : Hid (Below w.heap.size w w7) := bthen B6.out b7
        clear u7 i7 b7 P6 X6 B6 V6 U6 I5 I6
        go_wp2_with fail
        go_loopw [74] (fun z wr => ∃ i : Nat, z = .int .i64 i ∧ i ≤ N ∧ Below w7.heap.size w7 wr) (fun z _ => N - (intOf z).toNat)
        case atStart => exact ⟨0, rfl, Nat.zero_le _, Below.refl _ _⟩
        case round =>
          obtain ⟨i, rfl, hi, hb⟩ := hrel
          have HB : Hid (Below w7.heap.size w7 wr) := hb
          clear hb
          by_cases hlt : i < N
          · have hii : (i : Int) < (N : Int) := by omega
            have haa : (a : Int) < (N : Int) := by omega
            obtain ⟨x0, x1, x2⟩ := X7.out.below HB.out
            obtain ⟨c1, _⟩ := (V7.out.below HB.out).cell a haN
            obtain ⟨c2, _⟩ := (U7.out.below HB.out).cell i hlt
            obtain ⟨c3, _⟩ := (V7.out.below HB.out).cell i hlt
            obtain ⟨c4, _⟩ := (W7.out.below HB.out).cell i hlt
            have hb1 := HLO.out a haN
            have hb2 := HLO.out i hlt
            have HEQ : Hid _ := HMO.out i hlt
            have HEY : Hid (d5 a < 1099511627776 → d7 i < 1099511627776 → d6 i = min (d5 i) (d5 a + xc + d7 i)) := fun h1 h2 => by
              have := HEQ.out; unfold mor at this; rw [ovr_yes h1 h2] at this; exact this
            have HEN : Hid (¬ (d5 a < 1099511627776 ∧ d7 i < 1099511627776) → d6 i = min (d5 i) 1099511627776) := fun h => by
              have := HEQ.out; unfold mor at this; rw [ovr_no h] at this; exact this
            clear HEQ
            generalize d6 i = m at *
            generalize d5 i = l at *
            generalize d7 i = o at *
            generalize d5 a = la at *
            by_cases ha : la < 1099511627776
            · have had : decide (la < 1099511627776) = true := decide_eq_true ha
              by_cases ht : o < 1099511627776
              · have htd : decide (o < 1099511627776) = true := decide_eq_true ht
                have HE := HEY.out ha ht
                clear HEY HEN
                rcases (show l < la + xc + o ∨ la + xc + o < l ∨ l = la + xc + o by omega) with h | h | h
                · obtain rfl : m = l := by omega
                  clear HE
                  go_wp2_with fail
                  go_quiet (fail)
                  go_wp2_with fail
                  go_quiet (fail)
                  go_wp2_with fail
                  go_roundw
                  case rel => exact ⟨i + 1, by go_num, by omega, by first | exact HB.out | exact bdrewN HB.out _ | exact Below.drew HB.out | exact Below.drew (bdrewN HB.out _) | exact bdrewN (bdrewN HB.out _) _⟩
                  case measure => simp [intOf]; omega
                · obtain rfl : m = la + xc + o := by omega
                  clear HE
                  go_wp2_with fail
                  go_quiet (fail)
                  go_wp2_with fail
                  go_quiet (fail)
                  go_wp2_with fail
                  go_roundw
                  case rel => exact ⟨i + 1, by go_num, by omega, by first | exact HB.out | exact bdrewN HB.out _ | exact Below.drew HB.out | exact Below.drew (bdrewN HB.out _) | exact bdrewN (bdrewN HB.out _) _⟩
                  case measure => simp [intOf]; omega
                · obtain rfl : m = l := by omega
                  subst h
                  clear HE
                  go_wp2_with fail
                  go_quiet (fail)
                  go_wp2_with fail
                  go_quiet (fail)
                  go_wp2_with fail
                  go_roundw
                  case rel => exact ⟨i + 1, by go_num, by omega, by first | exact HB.out | exact bdrewN HB.out _ | exact Below.drew HB.out | exact Below.drew (bdrewN HB.out _) | exact bdrewN (bdrewN HB.out _) _⟩
                  case measure => simp [intOf]; omega
              · have htd : decide (o < 1099511627776) = false := decide_eq_false ht
                have HE := HEN.out (fun h => ht h.2)
                clear HEY HEN
                rcases (show l < 1099511627776 ∨ l = 1099511627776 by omega) with h | h
                · obtain rfl : m = l := by omega
                  clear HE
                  go_wp2_with fail
                  go_quiet (fail)
                  go_wp2_with fail
                  go_roundw
                  case rel => exact ⟨i + 1, by go_num, by omega, by first | exact HB.out | exact bdrewN HB.out _ | exact Below.drew HB.out | exact Below.drew (bdrewN HB.out _) | exact bdrewN (bdrewN HB.out _) _⟩
                  case measure => simp [intOf]; omega
                · obtain rfl : m = l := by omega
                  subst h
                  clear HE
                  go_wp2_with fail
                  go_quiet (fail)
                  go_wp2_with fail
                  go_roundw
                  case rel => exact ⟨i + 1, by go_num, by omega, by first | exact HB.out | exact bdrewN HB.out _ | exact Below.drew HB.out | exact Below.drew (bdrewN HB.out _) | exact bdrewN (bdrewN HB.out _) _⟩
                  case measure => simp [intOf]; omega
            · have had : decide (la < 1099511627776) = false := decide_eq_false ha
              have HE := HEN.out (fun h => ha h.1)
              clear HEY HEN
              rcases (show l < 1099511627776 ∨ l = 1099511627776 by omega) with h | h
              · obtain rfl : m = l := by omega
                clear HE
                go_wp2_with fail
                go_quiet (fail)
                go_wp2_with fail
                go_roundw
                case rel => exact ⟨i + 1, by go_num, by omega, by first | exact HB.out | exact bdrewN HB.out _ | exact Below.drew HB.out | exact Below.drew (bdrewN HB.out _) | exact bdrewN (bdrewN HB.out _) _⟩
                case measure => simp [intOf]; omega
              · obtain rfl : m = l := by omega
                subst h
                clear HE
                go_wp2_with fail
                go_quiet (fail)
                go_wp2_with fail
                go_roundw
                case rel => exact ⟨i + 1, by go_num, by omega, by first | exact HB.out | exact bdrewN HB.out _ | exact Below.drew HB.out | exact Below.drew (bdrewN HB.out _) | exact bdrewN (bdrewN HB.out _) _⟩
                case measure => simp [intOf]; omega
          · have hke : i = N := by omega
            subst hke
            go_wp2_with fail
            go_ret
            exact ⟨rfl, bthen B7.out HB.out⟩
      · have HK : Hid _ := hk
        have hz : (lk N (es ++ [(xa, xb, xc)]) [(t : Int)] != 0) = true := by simp [hk]
        clear hk
        refine (dist_bad N t _ (es ++ [(xa, xb, xc)]) w5 NT5.out.sl (by simp; omega) HK.out).mono ?_
        rintro e w6 ⟨rfl, b6⟩
        have B6 : Hid (Below w.heap.size w w6) := bthen B5.out b6
        clear b6
        generalize lk N (es ++ [(xa, xb, xc)]) [(t : Int)] = f at *
        go_wp2_with fail
        go_ret
        exact ⟨rfl, B6.out⟩
    · have HC : Hid _ := hc
      have hz : (lk n es [s] != 0) = true := by simp [hc]
      have hze : (lk n es [s] == 0) = false := by simp [hc]
      clear hc
      refine (dist_bad n s _ es wc (HV.out.below B4.out) (by omega) HC.out).mono ?_
      rintro e w5 ⟨rfl, b5⟩
      have NT5 : Hid _ := NT.out.below b5
      have B5 : Hid (Below w.heap.size w w5) := bthen B4.out b5
      clear b5
      obtain ⟨q0, q1⟩ := NT5.out.box
      go_wp2_with fail
      clear q0 q1
      by_cases hk : lk n (es ++ [(xa, xb, xc)]) [s] = 0
      · obtain ⟨k1, k2⟩ := lk_cases hk
        obtain ⟨kg, kp, kn⟩ := pn_of k1
        obtain ⟨t, rfl, hs⟩ := plc_nat k2
        obtain ⟨N, hN⟩ : ∃ N, n.toNat = N := ⟨_, rfl⟩
        rw [hN] at kp kn
        subst kn
        have K1 : Hid _ := k1
        have KP : Hid _ := kp
        clear hk k1 k2 kg kp hN
        refine (dist_yes N t _ (es ++ [(xa, xb, xc)]) w5 NT5.out.sl K1.out KP.out (by omega)).mono ?_
        rintro e w6 ⟨G6, d6, rfl, _, _, _, b6⟩
        have B6 : Hid (Below w.heap.size w w6) := bthen B5.out b6
        clear b6
        generalize lk N es [(t : Int)] = f at *
        go_wp2_with fail
        go_ret
        exact ⟨rfl, B6.out⟩
      · have HK : Hid _ := hk
        clear hk
        refine (dist_bad n s _ (es ++ [(xa, xb, xc)]) w5 NT5.out.sl (by simp; omega) HK.out).mono ?_
        rintro e w6 ⟨rfl, b6⟩
        have B6 : Hid (Below w.heap.size w w6) := bthen B5.out b6
        clear b6
        generalize lk n es [s] = f at *
        generalize lk n (es ++ [(xa, xb, xc)]) [s] = f2 at *
        go_wp2_with fail
        go_ret
        exact ⟨rfl, B6.out⟩
end Go.Proofs.Ytahijfljpjgdlaa.DMore
