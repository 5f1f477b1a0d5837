/-
  Contracts: slices.Clone of edges; the document's turned net.
-/
import Derived.Test.YtfgdcglgloahfacND
import Derived.Lib.AppendZerosOnto
import Derived.Deep.DeepCutAuto
namespace Go.Proofs.Ytfgdcglgloahfac
open Go.RowKit
open Nm

theorem own_empty (w : World) (base : Nat) (hb : base ≤ w.heap.size) : (w.alloc (.cells #[] 38)).ownsRow base 38 3 (.slice (some ⟨w.heap.size, 0, none⟩) 0 0) 0 [] :=
  ⟨rfl, .inr ⟨w.heap.size, 0, #[], rfl, hb, heap_alloc_new w _, Nat.le_refl _, by unfold maxLen; omega, rfl, rfl⟩⟩
theorem flat3_one (es : List E) : ∀ u ∈ flat3 es, u.oneCell' = true := by
  induction es with
  | nil => simp [flat3]
  | cons e r ih =>
    intro u hu
    simp only [flat3, List.mem_cons] at hu
    rcases hu with rfl | rfl | rfl | hu
    · rfl
    · rfl
    · rfl
    · exact ih u hu
theorem news3 {w : World} {b off : Nat} {es : List E} (hc : ∀ i, i < es.length → w.cell? ⟨b, off + i * 3, none⟩ = some (.int .i64 (at3 es i).1) ∧ w.cell? ⟨b, off + i * 3 + 1, none⟩ = some (.int .i64 (at3 es i).2.1) ∧ w.cell? ⟨b, off + i * 3 + 2, none⟩ = some (.int .i64 (at3 es i).2.2)) :
    ∀ j u, (flat3 es)[j]? = some u → w.cell? ((⟨b, off, none⟩ : Addr).add j) = some u := by
  intro j u hj
  have hadd : (⟨b, off, none⟩ : Addr).add j = ⟨b, off + j, none⟩ := by unfold Addr.add; split <;> simp_all
  rw [hadd]
  have hjl : j < es.length * 3 := by
    have := (List.getElem?_eq_some_iff.1 hj).1
    rwa [flat3_length] at this
  have hi : j / 3 < es.length := by omega
  obtain ⟨h0, h1, h2⟩ := hc (j / 3) hi
  obtain ⟨f0, f1, f2⟩ := flat3_get es (j / 3) hi
  rcases (show j = j / 3 * 3 ∨ j = j / 3 * 3 + 1 ∨ j = j / 3 * 3 + 2 by omega) with e | e | e
  · rw [← e] at h0 f0; rw [h0, ← f0, hj]
  · rw [Nat.add_assoc, ← e] at h1; rw [← e] at f1; rw [h1, ← f1, hj]
  · rw [Nat.add_assoc, ← e] at h2; rw [← e] at f2; rw [h2, ← f2, hj]

/-- Nothing is appended. -/
theorem run_append_nothing {w : World} {base n c : Nat} {out : Value} {xs : List Value} (h : w.ownsRow base 38 3 out n xs) (ty : TypeId) (a : Option Addr) : (Builtin.append_ #[32, 32] ty #[out, .slice a 0 c]).run Try.prog w = .ok out w := by
  obtain ⟨i0, hi0, hz0, hz1, hz2⟩ := infoE_parts
  have hl : ∀ (x : Addr), (loadCells x 0).run Try.prog w = .ok #[] w := fun x => by simpa using run_loadCells_list (P := Try.prog) w x [] (by simp)
  rcases h.2 with ⟨rfl, rfl⟩ | ⟨g, cap, cur, rfl, _, _, hc, _⟩
  · cases a <;> simp [Builtin.append_, run_underlying Try.underlying32, sizeOf, typeInfo, hi0, Builtin.lenOf, Builtin.firstCells, hl]
  · cases a <;> simp [Builtin.append_, run_underlying Try.underlying32, sizeOf, typeInfo, hi0, Builtin.lenOf, Builtin.firstCells, hc, storeCells, hl]

set_option maxRecDepth 100000 in
set_option maxHeartbeats 8000000 in
theorem clone_none (c : Nat) (w : World) :
    Calls Try.prog 29 #[.slice none 0 c] w fun e w' => ∃ u, e = .returned u ∧ Es w' w.heap.size u [] ∧ Below w.heap.size w w' := by
  have he : ∀ w : World, (binOp .eql 32 (.slice none 0 c) (.slice none 0 0)).run Try.prog w = .ok (.bool true) w := fun _ => rfl
  go_enter Try.func29, Try.ntmps29
  go_wp2_with fail
  go_ret
  exact ⟨_, rfl, Es.nil _ _, Below.refl _ _⟩
set_option maxRecDepth 100000 in
set_option maxHeartbeats 8000000 in
theorem clone_empty (ad : Addr) (c : Nat) (w : World) :
    Calls Try.prog 29 #[.slice (some ad) 0 c] w fun e w' => ∃ u, e = .returned u ∧ Es w' w.heap.size u [] ∧ Below w.heap.size w w' := by
  have he : ∀ w : World, (binOp .eql 32 (.slice (some ad) 0 c) (.slice none 0 0)).run Try.prog w = .ok (.bool false) w := fun _ => rfl
  go_enter Try.func29, Try.ntmps29
  go_wp2_with fail
  go_ret
  exact ⟨_, rfl, ⟨own_empty w _ (Nat.le_refl _)⟩, balloc (Below.refl _ _) _⟩
set_option maxRecDepth 100000 in
set_option maxHeartbeats 8000000 in
theorem clone_row (v : Value) (es : List E) (w : World) (hv : SlE w v es) (h0 : 0 < es.length) (hl : es.length ≤ 600) :
    Calls Try.prog 29 #[v] w fun e w' => ∃ u, e = .returned u ∧ Es w' w.heap.size u es ∧ Below w.heap.size w w' := by
  obtain ⟨b, off, c, rfl, hcl⟩ := hv.some' h0
  have HCL : Hid _ := hcl
  clear hcl hv
  have he : ∀ w : World, (binOp .eql 32 (.slice (some ⟨b, off, none⟩) es.length c) (.slice none 0 0)).run Try.prog w = .ok (.bool false) w := fun _ => rfl
  obtain ⟨i0, hi0, hz0, hz1, hz2⟩ := infoE_parts
  have NW : Hid (∀ j u, (flat3 es)[j]? = some u → (w.alloc (.cells #[] 38)).cell? ((⟨b, off, none⟩ : Addr).add j) = some u) := news3 (fun i hi => ⟨kept (balloc (Below.refl _ _) _) (HCL.out i hi).1, kept (balloc (Below.refl _ _) _) (HCL.out i hi).2.1, kept (balloc (Below.refl _ _) _) (HCL.out i hi).2.2⟩)
  have OW : Hid _ := own_empty w _ (Nat.le_refl _)
  have ON : Hid _ := flat3_one es
  have FL : Hid _ := flat3_length es
  go_enter Try.func29, Try.ntmps29
  go_wp2_with (at_builtin; refine wpList_append_lies _ rfl _ _ _ rfl w.heap.size 38 i0 _ 3 24 Try.underlying32 hi0 hz0 hz1 hz2 rfl (by omega) (.slice (some ⟨w.heap.size, 0, none⟩) 0 0) 0 [] rfl OW.out ⟨b, off, none⟩ es.length c (flat3 es) rfl FL.out NW.out ON.out h0 (by unfold maxLen; omega) (by omega) (by simp) (w.heap.size + 1) (by simp) ?_; intro gg cap' w3 hown3 hgrow hat hlt3)
  have B3 : Hid (Below w.heap.size w w3) := (balloc (Below.refl _ _) _).grown hgrow (by simp) (fun k hk => by simp [Value.ownBlock] at hk; omega)
  go_ret
  refine ⟨_, rfl, ⟨?_⟩, B3.out⟩
  rw [Nat.zero_add, List.nil_append] at hown3
  exact hown3
theorem Bn.put01 {w : World} {k : Nat} {a b : Value} (h : Bn w k a b) (u v : Value) : Bn ((w.setCell ⟨k, 0, none⟩ u).setCell ⟨k, 1, none⟩ v) k u v := ⟨(heap_setCell_same _ _ _ _ _ _ _ (heap_setCell_same _ _ _ _ _ _ _ h.at_)).trans rfl⟩
theorem World.size_alloc' (w : World) (o : Obj) : (w.alloc o).heap.size = w.heap.size + 1 := by simp
theorem clone_any (v : Value) (es : List E) (w : World) (hv : SlE w v es) (hl : es.length ≤ 600) :
    Calls Try.prog 29 #[v] w fun e w' => ∃ u, e = .returned u ∧ Es w' w.heap.size u es ∧ Below w.heap.size w w' := by
  by_cases h0 : 0 < es.length
  · exact clone_row v es w hv h0 hl
  · obtain rfl : es = [] := List.length_eq_zero_iff.1 (by omega)
    obtain ⟨a, c, rfl⟩ := hv.val
    cases a with
    | none => exact clone_none c w
    | some ad => exact clone_empty ad c w

/-- A row of m edges that may be written, as a function. -/
structure Er (w : World) (g m : Nat) (f : Nat → E) : Prop where
  at_ : ∃ cur, w.heap[g]? = some (.cells cur 38 (0, 0)) ∧ m * 3 ≤ cur.size ∧ ∀ i, i < m → cur[i * 3]? = some (.int .i64 (f i).1) ∧ cur[i * 3 + 1]? = some (.int .i64 (f i).2.1) ∧ cur[i * 3 + 2]? = some (.int .i64 (f i).2.2)
theorem Er.cell {w : World} {g m : Nat} {f : Nat → E} (h : Er w g m f) (i : Nat) (hi : i < m) : w.cell? ⟨g, i * 3, none⟩ = some (.int .i64 (f i).1) ∧ w.cell? ⟨g, i * 3 + 1, none⟩ = some (.int .i64 (f i).2.1) ∧ w.cell? ⟨g, i * 3 + 2, none⟩ = some (.int .i64 (f i).2.2) := by
  obtain ⟨cur, h1, h2, h3⟩ := h.at_
  obtain ⟨k0, k1, k2⟩ := h3 i hi
  simp [World.cell?, h1, k0, k1, k2]
theorem Er.frozen {w : World} {g m : Nat} {f : Nat → E} (h : Er w g m f) (o : Nat) : w.frozen? ⟨g, o, none⟩ = false := by
  obtain ⟨cur, h1, _⟩ := h.at_
  simp [World.frozen?, h1]
theorem Er.frame {w w' : World} {g m : Nat} {f : Nat → E} (h : Er w g m f) (hb : w'.heap[g]? = w.heap[g]?) : Er w' g m f := by
  obtain ⟨cur, h1, h2⟩ := h.at_
  exact ⟨cur, hb.trans h1, h2⟩
theorem Er.lt {w : World} {g m : Nat} {f : Nat → E} (h : Er w g m f) : g < w.heap.size := by
  obtain ⟨cur, h1, _⟩ := h.at_
  rcases Nat.lt_or_ge g w.heap.size with hlt | hge
  · exact hlt
  · rw [Array.getElem?_eq_none hge] at h1; cases h1
/-- Both ends of edge k are written. -/
theorem Er.put {w : World} {g m : Nat} {f f' : Nat → E} (h : Er w g m f) (k : Nat) (hk : k < m) (x y : Int) (hf : ∀ i, i < m → f' i = if i = k then (x, y, (f k).2.2) else f i) :
    Er ((w.setCell ⟨g, k * 3, none⟩ (.int .i64 x)).setCell ⟨g, k * 3 + 1, none⟩ (.int .i64 y)) g m f' := by
  obtain ⟨cur, h1, h2, h3⟩ := h.at_
  refine ⟨_, heap_setCell_same _ _ _ _ _ _ _ (heap_setCell_same _ _ _ _ _ _ _ h1), by simpa using h2, fun i hi => ?_⟩
  obtain ⟨k0, k1, k2⟩ := h3 i hi
  rw [hf i hi]
  by_cases e : i = k
  · subst e
    rw [if_pos rfl]
    refine ⟨?_, ?_, ?_⟩
    · rw [Array.getElem?_setIfInBounds_ne (by omega), Array.getElem?_setIfInBounds_self_of_lt (by omega)]
    · rw [Array.getElem?_setIfInBounds_self_of_lt (by simp; omega)]
    · rw [Array.getElem?_setIfInBounds_ne (by omega), Array.getElem?_setIfInBounds_ne (by omega)]; exact k2
  · rw [if_neg e]
    refine ⟨?_, ?_, ?_⟩
    all_goals rw [Array.getElem?_setIfInBounds_ne (by omega), Array.getElem?_setIfInBounds_ne (by omega)]
    · exact k0
    · exact k1
    · exact k2
theorem Er.sl {w : World} {g cap m : Nat} {f : Nat → E} {es : List E} (h : Er w g m f) (hm : es.length = m) (hf : ∀ i, i < m → at3 es i = f i) : SlE w (.slice (some ⟨g, 0, none⟩) m cap) es := by
  subst hm
  refine .row g 0 cap rfl (fun i hi => ?_)
  rw [Nat.zero_add, hf i hi]
  exact h.cell i hi
theorem Es.er {w : World} {base : Nat} {v : Value} {es : List E} (h : Es w base v es) (h0 : 0 < es.length) : ∃ g cap, v = .slice (some ⟨g, 0, none⟩) es.length cap ∧ base ≤ g ∧ Er w g es.length (at3 es) := by
  rcases h.own.2 with ⟨rfl, h1⟩ | ⟨g, cap, cur, rfl, hb, h1, h2, h3, h4, h5⟩
  · omega
  · refine ⟨g, cap, rfl, hb, ⟨cur, h1, by omega, fun i hi => ?_⟩⟩
    obtain ⟨f1, f2, f3⟩ := flat3_get es i hi
    refine ⟨?_, ?_, ?_⟩
    · rw [← f1, ← h5, List.getElem?_take_of_lt (by omega), Array.getElem?_toList]
    · rw [← f2, ← h5, List.getElem?_take_of_lt (by omega), Array.getElem?_toList]
    · rw [← f3, ← h5, List.getElem?_take_of_lt (by omega), Array.getElem?_toList]

/-- The first k turned. -/
def half (es : List E) (k i : Nat) : E := if i < k then trn (at3 es i) else at3 es i

theorem half_next {es : List E} {k m : Nat} {x y z : Int} (hp : at3 es k = (x, y, z)) : ∀ i, i < m → half es (k + 1) i = if i = k then (y, x, (half es k k).2.2) else half es k i := by
  intro i _
  unfold half
  by_cases e : i = k
  · subst e
    rw [if_pos (by omega), if_pos rfl, if_neg (by omega), hp]
    rfl
  · rw [if_neg e]
    by_cases h : i < k
    · rw [if_pos (by omega), if_pos h]
    · rw [if_neg (by omega), if_neg h]
set_option maxRecDepth 100000 in
set_option maxHeartbeats 8000000 in
theorem rturned_any (n : Int) (v : Value) (es : List E) (w : World) (hv : SlE w v es) (hl : es.length ≤ 600) :
    Calls Try.prog 21 #[.agg #[.int .i64 n, v]] w fun e w' => ∃ u, e = .returned (.agg #[.int .i64 n, u]) ∧ SlE w' u (es.map trn) ∧ Below w.heap.size w w' := by
  obtain ⟨a0, c0, rfl⟩ := hv.val
  have HV : Hid _ := hv
  clear hv
  go_enter Try.func21, Try.ntmps21
  go_upto_region 1 with fail
  have P0 : Hid _ := box2_new w n (.slice a0 es.length c0) 34
  have B0 : Hid (Below w.heap.size w (w.alloc (.cells #[.int .i64 n, .slice a0 es.length c0] 34))) := balloc (Below.refl _ _) _
  have hz0 : (w.alloc (.cells #[.int .i64 n, .slice a0 es.length c0] 34)).heap.size = w.heap.size + 1 := by simp
  generalize w.alloc (.cells #[.int .i64 n, .slice a0 es.length c0] 34) = W0 at *
  have N1 : Hid _ := bn_new W0 (.int .i64 0) (.slice none 0 0)
  rw [hz0] at N1
  have P1 : Hid _ := P0.out.below (balloc (Below.refl _ _) (.cells #[.int .i64 0, .slice none 0 0] 34))
  have B1 : Hid (Below w.heap.size w (W0.alloc (.cells #[.int .i64 0, .slice none 0 0] 34))) := balloc B0.out _
  generalize W0.alloc (.cells #[.int .i64 0, .slice none 0 0] 34) = W1 at *
  clear hz0 B0 P0
  have V1 : Hid _ := HV.out.below B1.out
  go_cut [3] (fun v3 wc => ∃ (B5 : Nat) (u : Value), v3 = .pointer (some ⟨B5, 0, none⟩) ∧ Bn wc B5 (.int .i64 n) u ∧ Es wc W1.heap.size u es ∧ (u.ownBlock ≠ some B5) ∧ W1.heap.size ≤ B5 ∧ Below W1.heap.size W1 wc)
  case first =>
    have KP : Hid (∀ w', Below W1.heap.size W1 w' → w'.cell? ⟨w.heap.size, 0, none⟩ = some (.int .i64 n) ∧ w'.cell? ⟨w.heap.size, 1, none⟩ = some (.slice a0 es.length c0)) := fun w' hb => ⟨kept hb P1.out.g0, kept hb P1.out.g1⟩
    obtain ⟨p0, p1⟩ := P1.out
    go_region_held3 (fun w' => w'.cell? ⟨w.heap.size, 0, none⟩ = some (.int .i64 n) ∧ w'.cell? ⟨w.heap.size, 1, none⟩ = some (.slice a0 es.length c0)) (first | go_keep | exact KP.out _ BB.out | exact KP.out _ (balloc BB.out _) | exact KP.out _ (Below.setCell (Below.setCell BB.out (by simp) _) (by simp) _))
      (first
       | (go_at_call 29; refine (clone_any _ es _ ?_ hl).mono ?_; (first | exact V1.out.below (Below.drew (Below.refl _ _)) | exact V1.out.below (Below.drew (balloc (Below.refl _ _) _)) | exact V1.out.below BB.out); rintro e w4 ⟨u, rfl, o4, b4⟩; obtain ⟨au, cu, rfl⟩ := o4.sl.val; have O4 : Hid _ := o4; clear o4; have BB : Hid (Below W1.heap.size W1 w4) := (by first | exact bthen (Below.drew (Below.refl _ _)) b4 | exact bthen (Below.drew (balloc (Below.refl _ _) _)) b4 | exact bthen BB.out b4); (first | (have BN : Hid _ := (bn_new W1 (.int .i64 0) (.slice none 0 0)).below (bthen (Below.drew (Below.refl _ _)) b4); obtain ⟨e0, e1⟩ := BN.out.cell; obtain ⟨f0, f1⟩ := BN.out.frozen) | skip))
       | fail)
    all_goals
      go_wp2_with fail
      go_meet
      first
        | exact ⟨w4.heap.size, _, rfl, bn_new _ _ _, O4.out.below (balloc (Below.refl _ _) _), fun e => by have := (ownBlock_lt O4.out.own _ e).2; omega, BB.out.size, balloc BB.out _⟩
        | exact ⟨W1.heap.size, _, rfl, BN.out.put01 _ _, ((O4.out.other (by show _ < (W1.alloc _).heap.size; simp)).other (by show _ < (W1.alloc _).heap.size; simp)).mono (by show _ ≤ (W1.alloc _).heap.size; simp), fun e => by have h : (W1.alloc (.cells #[.int .i64 0, .slice none 0 0] 34)).heap.size ≤ W1.heap.size := (ownBlock_lt O4.out.own _ e).1; rw [World.size_alloc'] at h; omega, Nat.le_refl _, Below.setCell (Below.setCell BB.out (by simp) _) (by simp) _⟩
  case rest =>
    obtain ⟨B5, u, rfl, n5, o5, hne, hB5, hbc⟩ := hcut
    have hR := N1.out.lt
    have N2 : Hid _ := N1.out.below hbc
    have B2 : Hid (Below w.heap.size w wc) := bthen B1.out hbc
    obtain ⟨p0, p1⟩ := P1.out.below hbc
    have hWz := B1.out.size
    clear hbc N1 B1 P1 V1
    by_cases h0 : 0 < es.length
    · obtain ⟨g, cap, rfl, hbg, er⟩ := o5.er h0
      have hgB : g ≠ B5 := fun e => hne (by rw [e]; rfl)
      have ER : Hid _ := er
      have N5 : Hid _ := n5
      clear er n5 o5 hne
      go_wp2_with fail
      clear p0 p1
      go_loopw [15] (fun z wr => ∃ k : Nat, z = .int .i64 k ∧ k ≤ es.length ∧ Bn wr (w.heap.size + 1) (.int .i64 0) (.slice none 0 0) ∧ Bn wr B5 (.int .i64 n) (.slice (some ⟨g, 0, none⟩) es.length cap) ∧ Er wr g es.length (half es k) ∧ Below w.heap.size w wr) (fun z _ => es.length - (intOf z).toNat)
      case atStart => exact ⟨0, rfl, Nat.zero_le _, N2.out, N5.out, ER.out, B2.out⟩
      case round =>
        obtain ⟨k, rfl, hk, y0, y1, er, hb⟩ := hrel
        clear N2 N5 ER B2
        have Y0 : Hid _ := y0
        have Y1 : Hid _ := y1
        have ER : Hid _ := er
        have HB : Hid (Below w.heap.size w wr) := hb
        clear y0 y1 er hb
        by_cases hlt : k < es.length
        · have hki : (k : Int) < (es.length : Int) := by omega
          obtain ⟨b, off, cap2, hveq, hcl⟩ := (HV.out.below HB.out).some' (by omega)
          simp only [Value.slice.injEq] at hveq
          obtain ⟨rfl, -, rfl⟩ := hveq
          obtain ⟨d0, d1, d2⟩ := hcl k hlt
          clear hcl
          obtain ⟨p, hp⟩ : ∃ p, at3 es k = p := ⟨_, rfl⟩
          rw [hp] at d0 d1 d2
          have HP : Hid _ := hp
          clear hp
          obtain ⟨x, y, z⟩ := p
          simp only at d0 d1 d2
          go_upto_region 5 with fail
          have Q1 : Hid _ := box3_new wr x y (.int .i64 z) 38
          have Z0 : Hid _ := Y0.out.below (balloc (Below.refl _ _) (.cells #[.int .i64 x, .int .i64 y, .int .i64 z] 38))
          have Z1 : Hid _ := Y1.out.below (balloc (Below.refl _ _) (.cells #[.int .i64 x, .int .i64 y, .int .i64 z] 38))
          have EZ : Hid _ := ER.out.frame ((balloc (Below.refl wr.heap.size wr) (.cells #[.int .i64 x, .int .i64 y, .int .i64 z] 38)).block g ER.out.lt)
          have BZ : Hid (Below w.heap.size w (wr.alloc (.cells #[.int .i64 x, .int .i64 y, .int .i64 z] 38))) := balloc HB.out _
          obtain ⟨X, hX⟩ : ∃ X, wr.heap.size = X := ⟨_, rfl⟩
          have hXg : X ≠ g := by have := ER.out.lt; omega
          have hgX : g ≠ X := fun e => hXg e.symm
          rw [hX] at Q1 ⊢
          clear hX
          generalize wr.alloc (.cells #[.int .i64 x, .int .i64 y, .int .i64 z] 38) = W4 at *
          clear d0 d1 d2
          obtain ⟨q0, q1, q2⟩ := Q1.out
          obtain ⟨s0, s1⟩ := Z1.out.cell
          obtain ⟨e0, e1, e2⟩ := EZ.out.cell k hlt
          have f0 := EZ.out.frozen (k * 3)
          have f1 := EZ.out.frozen (k * 3 + 1)
          go_region_held3 (fun w' => w'.cell? ⟨B5, 1, none⟩ = some (.slice (some ⟨g, 0, none⟩) es.length cap) ∧ w'.cell? ⟨X, 0, none⟩ = some (.int .i64 x) ∧ w'.cell? ⟨X, 1, none⟩ = some (.int .i64 y)) (go_keep) (fail)
          all_goals
            go_wp2_with fail
            go_roundw
            case rel =>
              have hgR : w.heap.size + 1 ≠ g := by omega
              exact ⟨k + 1, by go_num, by omega, ⟨((Z0.out.other hgR).other hgR).at_⟩, ⟨((Z1.out.other (fun e => hgB e.symm)).other (fun e => hgB e.symm)).at_⟩, (EZ.out.put k hlt y x (half_next HP.out)).frame rfl, Below.drew (Below.setCell (Below.setCell BZ.out (by simp; omega) _) (by simp; omega) _)⟩
            case measure => simp [intOf]; omega
        · have hke : k = es.length := by omega
          subst hke
          obtain ⟨s0, s1⟩ := Y1.out.cell
          obtain ⟨g0, g1⟩ := Y0.out.cell
          obtain ⟨f0, f1⟩ := Y0.out.frozen
          go_wp2_with fail
          refine bodyPost_ret (v := .agg #[.int .i64 n, .slice (some ⟨g, 0, none⟩) es.length cap]) ?_ rfl ?_
          · simp [results, Try.results21, go_sem, *]
          · have hgR : g ≠ w.heap.size + 1 := by omega
            refine ⟨_, rfl, ((ER.out.frame (Below.heap_setCell _ _ _ _ hgR)).frame (Below.heap_setCell _ _ _ _ hgR)).sl (by simp) (fun i hi => ?_), Below.setCell (Below.setCell HB.out (by simp) _) (by simp) _⟩
            unfold half at3
            rw [if_pos hi]
            simp [hi]
    · obtain rfl : es = [] := List.length_eq_zero_iff.1 (by omega)
      obtain ⟨au, cu, rfl⟩ := o5.sl.val
      have N5 : Hid _ := n5
      clear n5 o5 hne
      go_wp2_with fail
      clear p0 p1
      go_loopw [15] (fun z wr => z = .int .i64 0 ∧ wr = wc) (fun z _ => 0)
      case atStart => exact ⟨rfl, rfl⟩
      case round =>
        obtain ⟨rfl, rfl⟩ := hrel
        obtain ⟨s0, s1⟩ := N5.out.cell
        obtain ⟨g0, g1⟩ := N2.out.cell
        obtain ⟨f0, f1⟩ := N2.out.frozen
        go_wp2_with fail
        refine bodyPost_ret (v := .agg #[.int .i64 n, .slice au 0 cu]) ?_ rfl ?_
        · simp [results, Try.results21, go_sem, *]
        · exact ⟨_, rfl, .no _ _ rfl rfl, Below.setCell (Below.setCell B2.out (by simp) _) (by simp) _⟩
end Go.Proofs.Ytfgdcglgloahfac
