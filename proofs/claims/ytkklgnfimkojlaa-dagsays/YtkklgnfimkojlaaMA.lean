/-
  slices.Clone of edges.
-/
import Derived.Test.YtkklgnfimkojlaaND
namespace Go.Proofs.Ytkklgnfimkojlaa
open Go.RowKit
open Nm

theorem own_empty (w : World) (base : Nat) (hb : base ≤ w.heap.size) : (w.alloc (.cells #[] 34)).ownsRow base 34 3 (.slice (some ⟨w.heap.size, 0, none⟩) 0 0) 0 [] :=
  ⟨rfl, .inr ⟨w.heap.size, 0, #[], rfl, hb, heap_alloc_new w _, Nat.le_refl _, by unfold maxLen; omega, rfl, rfl⟩⟩
theorem flat3_one (es : List E) : ∀ u ∈ flat3 es, u.oneCell' = true := by
  induction es with
  | nil => simp [flat3]
  | cons e r ih =>
    intro u hu
    simp only [flat3, List.mem_cons] at hu
    rcases hu with rfl | rfl | rfl | hu
    · rfl
    · rfl
    · rfl
    · exact ih u hu
theorem news3 {w : World} {b off : Nat} {es : List E} (hc : ∀ i, i < es.length → w.cell? ⟨b, off + i * 3, none⟩ = some (.int .i64 (at3 es i).1) ∧ w.cell? ⟨b, off + i * 3 + 1, none⟩ = some (.int .i64 (at3 es i).2.1) ∧ w.cell? ⟨b, off + i * 3 + 2, none⟩ = some (.int .i64 (at3 es i).2.2)) :
    ∀ j u, (flat3 es)[j]? = some u → w.cell? ((⟨b, off, none⟩ : Addr).add j) = some u := by
  intro j u hj
  have hadd : (⟨b, off, none⟩ : Addr).add j = ⟨b, off + j, none⟩ := by unfold Addr.add; split <;> simp_all
  rw [hadd]
  have hjl : j < es.length * 3 := by
    have := (List.getElem?_eq_some_iff.1 hj).1
    rwa [flat3_length] at this
  have hi : j / 3 < es.length := by omega
  obtain ⟨h0, h1, h2⟩ := hc (j / 3) hi
  obtain ⟨f0, f1, f2⟩ := flat3_get es (j / 3) hi
  rcases (show j = j / 3 * 3 ∨ j = j / 3 * 3 + 1 ∨ j = j / 3 * 3 + 2 by omega) with e | e | e
  · rw [← e] at h0 f0; rw [h0, ← f0, hj]
  · rw [Nat.add_assoc, ← e] at h1; rw [← e] at f1; rw [h1, ← f1, hj]
  · rw [Nat.add_assoc, ← e] at h2; rw [← e] at f2; rw [h2, ← f2, hj]
/-- Nothing is appended. -/
theorem run_append_nothing {w : World} {base n c : Nat} {out : Value} {xs : List Value} (h : w.ownsRow base 34 3 out n xs) (ty : TypeId) (a : Option Addr) : (Builtin.append_ #[22, 22] ty #[out, .slice a 0 c]).run Try.prog w = .ok out w := by
  obtain ⟨i0, hi0, hz0, hz1, hz2⟩ := info47_parts
  have hl : ∀ (x : Addr), (loadCells x 0).run Try.prog w = .ok #[] w := fun x => by simpa using run_loadCells_list (P := Try.prog) w x [] (by simp)
  rcases h.2 with ⟨rfl, rfl⟩ | ⟨g, cap, cur, rfl, _, _, hc, _⟩
  · cases a <;> simp [Builtin.append_, run_underlying Try.underlying22, sizeOf, typeInfo, hi0, Builtin.lenOf, Builtin.firstCells, hl]
  · cases a <;> simp [Builtin.append_, run_underlying Try.underlying22, sizeOf, typeInfo, hi0, Builtin.lenOf, Builtin.firstCells, hc, storeCells, hl]
set_option maxRecDepth 100000 in
set_option maxHeartbeats 8000000 in
theorem eclone_none (c : Nat) (w : World) :
    Calls Try.prog 47 #[.slice none 0 c] w fun e w' => ∃ u, e = .returned u ∧ Es w' w.heap.size u [] ∧ Below w.heap.size w w' := by
  have he : ∀ w : World, (binOp .eql 22 (.slice none 0 c) (.slice none 0 0)).run Try.prog w = .ok (.bool true) w := fun _ => rfl
  go_enter Try.func47, Try.ntmps47
  go_wp2_with fail
  go_ret
  exact ⟨_, rfl, Es.nil _ _, Below.refl _ _⟩
set_option maxRecDepth 100000 in
set_option maxHeartbeats 8000000 in
theorem eclone_empty (ad : Addr) (c : Nat) (w : World) :
    Calls Try.prog 47 #[.slice (some ad) 0 c] w fun e w' => ∃ u, e = .returned u ∧ Es w' w.heap.size u [] ∧ Below w.heap.size w w' := by
  have he : ∀ w : World, (binOp .eql 22 (.slice (some ad) 0 c) (.slice none 0 0)).run Try.prog w = .ok (.bool false) w := fun _ => rfl
  go_enter Try.func47, Try.ntmps47
  go_wp2_with fail
  go_ret
  exact ⟨_, rfl, ⟨own_empty w _ (Nat.le_refl _)⟩, balloc (Below.refl _ _) _⟩
set_option maxRecDepth 100000 in
set_option maxHeartbeats 8000000 in
theorem eclone_row (v : Value) (es : List E) (w : World) (hv : SlE w v es) (h0 : 0 < es.length) (hl : es.length ≤ 5864062014634) :
    Calls Try.prog 47 #[v] w fun e w' => ∃ u, e = .returned u ∧ Es w' w.heap.size u es ∧ Below w.heap.size w w' := by
  obtain ⟨b, off, c, rfl, hcl⟩ := hv.some' h0
  have HCL : Hid _ := hcl
  clear hcl hv
  have he : ∀ w : World, (binOp .eql 22 (.slice (some ⟨b, off, none⟩) es.length c) (.slice none 0 0)).run Try.prog w = .ok (.bool false) w := fun _ => rfl
  obtain ⟨i0, hi0, hz0, hz1, hz2⟩ := info47_parts
  have NW : Hid (∀ j u, (flat3 es)[j]? = some u → (w.alloc (.cells #[] 34)).cell? ((⟨b, off, none⟩ : Addr).add j) = some u) := news3 (fun i hi => ⟨kept (balloc (Below.refl _ _) _) (HCL.out i hi).1, kept (balloc (Below.refl _ _) _) (HCL.out i hi).2.1, kept (balloc (Below.refl _ _) _) (HCL.out i hi).2.2⟩)
  have OW : Hid _ := own_empty w _ (Nat.le_refl _)
  have ON : Hid _ := flat3_one es
  have FL : Hid _ := flat3_length es
  go_enter Try.func47, Try.ntmps47
  go_wp2_with (at_builtin; refine wpList_append_lies _ rfl _ _ _ rfl w.heap.size 34 i0 _ 3 24 Try.underlying22 hi0 hz0 hz1 hz2 rfl (by omega) (.slice (some ⟨w.heap.size, 0, none⟩) 0 0) 0 [] rfl OW.out ⟨b, off, none⟩ es.length c (flat3 es) rfl FL.out NW.out ON.out h0 (by unfold maxLen; omega) (by omega) (by simp) (w.heap.size + 1) (by simp) ?_; intro gg cap' w3 hown3 hgrow hat hlt3)
  have B3 : Hid (Below w.heap.size w w3) := (balloc (Below.refl _ _) _).grown hgrow (by simp) (fun k hk => by simp [Value.ownBlock] at hk; omega)
  go_ret
  refine ⟨_, rfl, ⟨?_⟩, B3.out⟩
  rw [Nat.zero_add, List.nil_append] at hown3
  exact hown3
theorem eclone_any (v : Value) (es : List E) (w : World) (hv : SlE w v es) (hl : es.length ≤ 5864062014634) :
    Calls Try.prog 47 #[v] w fun e w' => ∃ u, e = .returned u ∧ Es w' w.heap.size u es ∧ Below w.heap.size w w' := by
  by_cases h0 : 0 < es.length
  · exact eclone_row v es w hv h0 hl
  · obtain rfl : es = [] := List.length_eq_zero_iff.1 (by omega)
    obtain ⟨a, c, rfl⟩ := hv.val
    cases a with
    | none => exact eclone_none c w
    | some ad => exact eclone_empty ad c w
end Go.Proofs.Ytkklgnfimkojlaa
