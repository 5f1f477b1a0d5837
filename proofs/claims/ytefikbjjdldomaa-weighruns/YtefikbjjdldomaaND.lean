/-
  Edges that the calls made for themselves; Turn.
-/
import Derived.Test.YtefikbjjdldomaaNA
namespace Go.Proofs.Ytefikbjjdldomaa
open Go.RowKit
open Nm

/-- The cells of a list of edges, one behind the other. -/
def flat3 : List E → List Value
  | [] => []
  | p :: r => .int .i64 p.1 :: .int .i64 p.2.1 :: .int .i64 p.2.2 :: flat3 r
theorem flat3_append (a b : List E) : flat3 (a ++ b) = flat3 a ++ flat3 b := by
  induction a with
  | nil => rfl
  | cons p r ih => simp [flat3, ih]
theorem flat3_length (ps : List E) : (flat3 ps).length = ps.length * 3 := by
  induction ps with
  | nil => rfl
  | cons p r ih => simp [flat3, ih]; omega
theorem flat3_get (ps : List E) (i : Nat) (h : i < ps.length) : (flat3 ps)[i * 3]? = some (.int .i64 (at3 ps i).1) ∧ (flat3 ps)[i * 3 + 1]? = some (.int .i64 (at3 ps i).2.1) ∧ (flat3 ps)[i * 3 + 2]? = some (.int .i64 (at3 ps i).2.2) := by
  induction ps generalizing i with
  | nil => simp at h
  | cons p r ih =>
    cases i with
    | zero => exact ⟨rfl, rfl, rfl⟩
    | succ i =>
      have := ih i (by simpa using h)
      have e1 : (i + 1) * 3 = i * 3 + 1 + 1 + 1 := by omega
      have e2 : (i + 1) * 3 + 1 = i * 3 + 1 + 1 + 1 + 1 := by omega
      have e3 : (i + 1) * 3 + 2 = i * 3 + 2 + 1 + 1 + 1 := by omega
      rw [e3, e2, e1]
      simp only [flat3, List.getElem?_cons_succ]
      exact this
/-- A list of edges that the calls made for themselves, behind base. -/
structure Es (w : World) (base : Nat) (v : Value) (es : List E) : Prop where
  own : w.ownsRow base 66 3 v es.length (flat3 es)
theorem Es.below {w w' : World} {base : Nat} {v : Value} {es : List E} (h : Es w base v es) (hb : Below w.heap.size w w') : Es w' base v es := ⟨owns_below h.own hb⟩
theorem Es.mono {w : World} {b b' : Nat} {v : Value} {es : List E} (h : Es w b v es) (hb : b' ≤ b) : Es w b' v es := by
  obtain ⟨h1, h2⟩ := h.own
  refine ⟨h1, ?_⟩
  rcases h2 with h2 | ⟨g, cap, cur, h3, h4, h5⟩
  · exact .inl h2
  · exact .inr ⟨g, cap, cur, h3, Nat.le_trans hb h4, h5⟩
theorem Es.other {w : World} {base g o : Nat} {u v : Value} {l : List E} (h : Es w base v l) (hg : g < base) : Es (w.setCell ⟨g, o, none⟩ u) base v l := by
  obtain ⟨h1, h2⟩ := h.own
  refine ⟨h1, ?_⟩
  rcases h2 with h2 | ⟨g', cap, cur, h3, h4, h5, h6⟩
  · exact .inl h2
  · exact .inr ⟨g', cap, cur, h3, h4, by rw [Below.heap_setCell _ _ _ _ (show g' ≠ g by omega)]; exact h5, h6⟩
theorem Es.nil (w : World) (base : Nat) : Es w base (.slice none 0 0) [] := ⟨World.ownsRow_nil _ _ _ _⟩
theorem Es.next {w : World} {base n cap gg : Nat} {es fs : List E} {a b c : Int} (hf : fs = es ++ [(a, b, c)]) (hn : n = es.length) (h : w.ownsRow base 66 3 (.slice (some ⟨gg, 0, none⟩) (n + 1) cap) (n + 1) (flat3 es ++ [.int .i64 a, .int .i64 b, .int .i64 c])) : Es w base (.slice (some ⟨gg, 0, none⟩) (n + 1) cap) fs := by
  subst hf hn
  refine ⟨?_⟩
  rw [flat3_append, List.length_append]
  exact h
theorem Es.sl {w : World} {base : Nat} {v : Value} {es : List E} (h : Es w base v es) : SlE w v es := by
  rcases h.own.2 with ⟨rfl, h0⟩ | ⟨g, cap, cur, rfl, _, h1, h2, h3, h4, h5⟩
  · exact .no _ _ rfl (List.length_eq_zero_iff.1 h0)
  · refine .row g 0 cap rfl (fun i hi => ?_)
    obtain ⟨f1, f2, f3⟩ := flat3_get es i hi
    have k1 : cur[i * 3]? = some (.int .i64 (at3 es i).1) := by
      rw [← f1, ← h5, List.getElem?_take_of_lt (by omega), Array.getElem?_toList]
    have k2 : cur[i * 3 + 1]? = some (.int .i64 (at3 es i).2.1) := by
      rw [← f2, ← h5, List.getElem?_take_of_lt (by omega), Array.getElem?_toList]
    have k3 : cur[i * 3 + 2]? = some (.int .i64 (at3 es i).2.2) := by
      rw [← f3, ← h5, List.getElem?_take_of_lt (by omega), Array.getElem?_toList]
    rw [Nat.zero_add]
    simp [World.cell?, h1, k1, k2, k3]
theorem info47 : (Try.prog.info? 66).map (fun i => (i.zero, i.size, i.bytes)) = some (some (.agg #[.int .i64 0, .int .i64 0, .int .i64 0]), 3, 24) := by kernel_rfl
theorem info47_parts : ∃ i, Try.prog.info? 66 = some i ∧ i.zero = some (.agg #[.int .i64 0, .int .i64 0, .int .i64 0]) ∧ i.size = 3 ∧ i.bytes = 24 := by
  obtain ⟨i, hi, hh⟩ := Option.map_eq_some_iff.1 info47
  simp only [Prod.mk.injEq] at hh
  exact ⟨i, hi, hh.1, hh.2.1, hh.2.2⟩
/-- A box of a net that stands by itself. -/
structure Bn (w : World) (k : Nat) (a b : Value) : Prop where
  at_ : w.heap[k]? = some (.cells #[a, b] 24 (0, 0))
theorem Bn.lt {w : World} {k : Nat} {a b : Value} (h : Bn w k a b) : k < w.heap.size := by
  rcases Nat.lt_or_ge k w.heap.size with hlt | hge
  · exact hlt
  · have := h.at_; rw [Array.getElem?_eq_none hge] at this; cases this
theorem Bn.cell {w : World} {k : Nat} {a b : Value} (h : Bn w k a b) : w.cell? ⟨k, 0, none⟩ = some a ∧ w.cell? ⟨k, 1, none⟩ = some b := by
  have := h.at_; simp [World.cell?, this]
theorem Bn.frozen {w : World} {k : Nat} {a b : Value} (h : Bn w k a b) : w.frozen? ⟨k, 0, none⟩ = false ∧ w.frozen? ⟨k, 1, none⟩ = false := by
  have := h.at_; simp [World.frozen?, this]
theorem Bn.frame {w w' : World} {k : Nat} {a b : Value} (h : Bn w k a b) (hb : w'.heap[k]? = w.heap[k]?) : Bn w' k a b := ⟨hb.trans h.at_⟩
theorem Bn.below {w w' : World} {k : Nat} {a b : Value} (h : Bn w k a b) (hb : Below w.heap.size w w') : Bn w' k a b := h.frame (hb.block _ h.lt)
theorem Bn.put1 {w : World} {k : Nat} {a b : Value} (h : Bn w k a b) (v : Value) : Bn (w.setCell ⟨k, 1, none⟩ v) k a v := ⟨(heap_setCell_same _ _ _ _ _ _ _ h.at_).trans rfl⟩
theorem Bn.other {w : World} {k g o : Nat} {a b v : Value} (h : Bn w k a b) (hne : k ≠ g) : Bn (w.setCell ⟨g, o, none⟩ v) k a b := h.frame (Below.heap_setCell _ _ _ _ hne)
theorem bn_new (w : World) (a b : Value) : Bn (w.alloc (.cells #[a, b] 24)) w.heap.size a b := ⟨heap_alloc_new w _⟩
set_option maxRecDepth 100000 in
set_option maxHeartbeats 8000000 in
theorem turn_bad (n : Int) (v : Value) (es : List E) (w : World) (hv : SlE w v es) (hlen : es.length ≤ 9223372036854775807) (hc : nck n es ≠ 0) :
    Calls Try.prog 80 #[.agg #[.int .i64 n, v]] w fun e w' => e = .returned (.tuple #[.agg #[.int .i64 0, .slice none 0 0], .int .i64 (nck n es)]) ∧ Below w.heap.size w w' := by
  obtain ⟨a0, c0, rfl⟩ := hv.val
  have HV : Hid _ := hv
  have hz : (nck n es != 0) = true := by simp [hc]
  clear hv hc
  go_enter Try.func80, Try.ntmps80
  go_wp2_with fail
  have B0 : Hid (Below w.heap.size w (w.alloc (.cells #[.int .i64 n, .slice a0 es.length c0] 24))) := balloc (Below.refl _ _) _
  have hz0 : (w.alloc (.cells #[.int .i64 n, .slice a0 es.length c0] 24)).heap.size = w.heap.size + 1 := by simp
  generalize w.alloc (.cells #[.int .i64 n, .slice a0 es.length c0] 24) = W0 at *
  have N1 : Hid _ := bn_new W0 (.int .i64 0) (.slice none 0 0)
  rw [hz0] at N1
  have B1 : Hid (Below w.heap.size w (W0.alloc (.cells #[.int .i64 0, .slice none 0 0] 24))) := balloc B0.out _
  generalize W0.alloc (.cells #[.int .i64 0, .slice none 0 0] 24) = W1 at *
  clear hz0 B0
  refine (ncheck_any n _ es W1 (HV.out.below B1.out) hlen).mono ?_
  rintro e w2 ⟨rfl, b2⟩
  have B2 : Hid (Below w.heap.size w w2) := bthen B1.out b2
  obtain ⟨g0, g1⟩ := (N1.out.below b2).cell
  obtain ⟨f0, f1⟩ := (N1.out.below b2).frozen
  clear b2
  go_wp2_with fail
  refine bodyPost_ret (v := .tuple #[.agg #[.int .i64 0, .slice none 0 0], .int .i64 (nck n es)]) ?_ rfl ?_
  · simp [results, Try.results80, go_sem, *]
  · exact ⟨rfl, Below.setCell (Below.setCell B2.out (by simp) _) (by simp) _⟩
theorem turn_next {es : List E} {k : Nat} (h : k < es.length) : (es.take (k + 1)).map trn = (es.take k).map trn ++ [trn (at3 es k)] := by
  rw [List.take_add_one, List.getElem?_eq_getElem h, List.map_append]
  have : at3 es k = es[k] := by unfold at3; simp [h]
  rw [this]; rfl
set_option maxRecDepth 100000 in
set_option maxHeartbeats 8000000 in
theorem turn_yes (n : Int) (v : Value) (es : List E) (w : World) (hv : SlE w v es) (hg : Gn n es) :
    Calls Try.prog 80 #[.agg #[.int .i64 n, v]] w fun e w' => ∃ u, e = .returned (.tuple #[.agg #[.int .i64 n, u], .int .i64 0]) ∧ Es w' w.heap.size u (es.map trn) ∧ Below w.heap.size w w' := by
  obtain ⟨a0, c0, rfl⟩ := hv.val
  have HV : Hid _ := hv
  have HC : Hid _ := nck_zero.2 hg
  have hlen := hg.len
  clear hv hg
  go_enter Try.func80, Try.ntmps80
  go_wp2_with fail
  have P0 : Hid _ := box2_new w n (.slice a0 es.length c0) 24
  have B0 : Hid (Below w.heap.size w (w.alloc (.cells #[.int .i64 n, .slice a0 es.length c0] 24))) := balloc (Below.refl _ _) _
  have hz0 : (w.alloc (.cells #[.int .i64 n, .slice a0 es.length c0] 24)).heap.size = w.heap.size + 1 := by simp
  generalize w.alloc (.cells #[.int .i64 n, .slice a0 es.length c0] 24) = W0 at *
  have N1 : Hid _ := bn_new W0 (.int .i64 0) (.slice none 0 0)
  rw [hz0] at N1
  have P1 : Hid _ := P0.out.below (balloc (Below.refl _ _) (.cells #[.int .i64 0, .slice none 0 0] 24))
  have B1 : Hid (Below w.heap.size w (W0.alloc (.cells #[.int .i64 0, .slice none 0 0] 24))) := balloc B0.out _
  generalize W0.alloc (.cells #[.int .i64 0, .slice none 0 0] 24) = W1 at *
  clear hz0 B0 P0
  refine (ncheck_any n _ es W1 (HV.out.below B1.out) (by omega)).mono ?_
  rintro e w2 ⟨rfl, b2⟩
  have B2 : Hid (Below w.heap.size w w2) := bthen B1.out b2
  have N2 : Hid _ := N1.out.below b2
  have P2 : Hid _ := P1.out.below b2
  rw [HC.out]
  clear b2 N1 P1 B1
  obtain ⟨p0, p1⟩ := P2.out
  obtain ⟨r0, r1⟩ := P2.out.below (balloc (Below.refl _ _) (.cells #[.int .i64 n, .slice none 0 0] 24))
  go_wp2_with fail
  clear p0 p1 r0 r1
  have M3 : Hid _ := bn_new w2 (.int .i64 n) (.slice none 0 0)
  have N3 : Hid _ := N2.out.below (balloc (Below.refl _ _) (.cells #[.int .i64 n, .slice none 0 0] 24))
  have B3 : Hid (Below w.heap.size w (w2.alloc (.cells #[.int .i64 n, .slice none 0 0] 24))) := balloc B2.out _
  have hz3 : (w2.alloc (.cells #[.int .i64 n, .slice none 0 0] 24)).heap.size = w2.heap.size + 1 := by simp
  have HLT : Hid _ := N2.out.lt
  have HWZ : Hid _ := B2.out.size
  generalize w2.alloc (.cells #[.int .i64 n, .slice none 0 0] 24) = W3 at *
  obtain ⟨B5, hB5⟩ : ∃ B5, w2.heap.size = B5 := ⟨_, rfl⟩
  rw [hB5] at M3 HLT hz3 HWZ ⊢
  clear hB5 N2 P2 B2
  have HZ3 : Hid _ := hz3
  clear hz3
  go_loopw [20] (fun z wr => ∃ (k : Nat) (out : Value), z = .int .i64 k ∧ k ≤ es.length ∧ Bn wr (w.heap.size + 1) (.int .i64 0) (.slice none 0 0) ∧ Bn wr B5 (.int .i64 n) out ∧ Es wr (B5 + 1) out ((es.take k).map trn) ∧ B5 + 1 ≤ wr.heap.size ∧ Below w.heap.size w wr) (fun z _ => es.length - (intOf z).toNat)
  case atStart => exact ⟨0, _, rfl, Nat.zero_le _, N3.out, M3.out, Es.nil _ _, by have := HZ3.out; omega, B3.out⟩
  case round =>
    obtain ⟨k, out, rfl, hk, y0, y1, o, hz, hb⟩ := hrel
    obtain ⟨ao, co, rfl⟩ := o.sl.val
    clear N3 M3 B3 HZ3
    have Y0 : Hid _ := y0
    have Y1 : Hid _ := y1
    have O : Hid _ := o
    have HZ : Hid _ := hz
    have HB : Hid (Below w.heap.size w wr) := hb
    clear y0 y1 o hz hb
    by_cases hlt : k < es.length
    · have hki : (k : Int) < (es.length : Int) := by omega
      obtain ⟨b, off, cap, hveq, hcl⟩ := (HV.out.below HB.out).some' (by omega)
      simp only [Value.slice.injEq] at hveq
      obtain ⟨rfl, -, rfl⟩ := hveq
      obtain ⟨d0, d1, d2⟩ := hcl k hlt
      clear hcl
      have HT : Hid _ := turn_next hlt
      obtain ⟨p, hp⟩ : ∃ p, at3 es k = p := ⟨_, rfl⟩
      rw [hp] at d0 d1 d2 HT
      clear hp
      obtain ⟨x, y, z⟩ := p
      simp only at d0 d1 d2
      have hll : ((es.take k).map trn).length ≤ 600 := by simp; omega
      have hown := O.out.own
      have hzz := HZ.out
      have hlt5 := HLT.out
      have hwz := HWZ.out
      obtain ⟨i0, hi0, hz0, hz1, hz2⟩ := info47_parts
      have HNW : Hid (((wr.alloc (.cells #[.int .i64 x, .int .i64 y, .int .i64 z] 66)).alloc (.cells #[.int .i64 y, .int .i64 x, .int .i64 z] 66)).heap[wr.heap.size + 1]? = some (.cells #[.int .i64 y, .int .i64 x, .int .i64 z] 66)) := new_at _ _ (by simp)
      have Z1 : Hid _ := Y1.out.below (balloc (Below.refl _ _) (.cells #[.int .i64 x, .int .i64 y, .int .i64 z] 66))
      obtain ⟨s0, s1⟩ := Z1.out.cell
      generalize (es.take k).map trn = l at *
      go_wp2_with (at_builtin; refine wpList_append_lies _ rfl _ _ _ rfl (B5 + 1) 66 i0 _ 3 24 Try.underlying22 hi0 hz0 hz1 hz2 rfl (by omega) (.slice ao l.length co) l.length (flat3 l) rfl ((hown.alloc _).alloc _) ⟨wr.heap.size + 1, 0, none⟩ 1 1 [.int .i64 y, .int .i64 x, .int .i64 z] rfl rfl (World.news_of_block (cs := #[.int .i64 y, .int .i64 x, .int .i64 z]) (t := 66) (fr := (0, 0)) HNW.out) (by simp [Value.oneCell']) (by omega) (by unfold maxLen; omega) (by omega) (by simp; omega) (wr.heap.size + 1 + 1) (by simp) ?_; intro gg cap' w4 hown4 hgrow hat hlt4; have FAR : Hid (∀ g, g < B5 + 1 → w4.heap[g]? = wr.heap[g]?) := (by exact fun g hg => (hgrow.block g (by simp; omega) (fun e => by have := (ownBlock_lt hown g e.symm).1; omega)).trans ((Below.heap_alloc _ _ _ (by simp; omega)).trans (Below.heap_alloc _ _ _ (by omega)))); have B4 : Hid (Below w.heap.size w w4) := (by exact (balloc (balloc HB.out _) _).grown hgrow (by simp; have := HB.out.size; omega) (fun k hk => by have := (ownBlock_lt hown k hk).1; omega)); have HZ4 : Hid (B5 + 1 ≤ w4.heap.size) := (by have := hgrow.size; simp at this; unfold Hid; omega); have V0 : Hid _ := Y0.out.frame (FAR.out _ (by omega)); have V1 : Hid _ := Y1.out.frame (FAR.out _ (by omega)); clear hgrow hat s0 s1; obtain ⟨s0, s1⟩ := V1.out.cell; obtain ⟨f0, f1⟩ := V1.out.frozen)
      go_roundw
      case rel =>
        exact ⟨k + 1, .slice (some ⟨gg, 0, none⟩) (l.length + 1) cap', by go_num, by omega, V0.out.other (by omega), V1.out.put1 _, (Es.next HT.out rfl hown4).other (by omega), by have := HZ4.out; simp [World.setCell]; omega, Below.setCell B4.out (by simp; omega) _⟩
      case measure => simp [intOf]; omega
    · have hke : k = es.length := by omega
      subst hke
      rw [List.take_length] at Y1 O
      obtain ⟨s0, s1⟩ := Y1.out.cell
      obtain ⟨g0, g1⟩ := Y0.out.cell
      obtain ⟨f0, f1⟩ := Y0.out.frozen
      have hlt5 := HLT.out
      have hwz := HWZ.out
      go_wp2_with fail
      refine bodyPost_ret (v := .tuple #[.agg #[.int .i64 n, .slice ao (es.map trn).length co], .int .i64 0]) ?_ rfl ?_
      · simp [results, Try.results80, go_sem, *]
      · exact ⟨_, rfl, ((O.out.other (by omega)).other (by omega)).mono (by omega), Below.setCell (Below.setCell HB.out (by simp) _) (by simp) _⟩
end Go.Proofs.Ytefikbjjdldomaa
