/-
  Contracts: lasts, Cut.
-/
import Derived.Test.YtahijfljpjgdlaaWA
import Derived.Test.YtahijfljpjgdlaaCm
import Derived.Maps.OwnOps
import Derived.Maps.OwnSet
namespace Go.Proofs.Ytahijfljpjgdlaa
open Go.RowKit Go.Maps
open Nm Wm Cm

theorem law3 : Keyed Try.prog 3 := int_keyed Try.underlying3
theorem zero3 (w : World) : (zeroValue 3).run Try.prog w = .ok (.int .i64 0) w := by kernel_rfl

/-- Of each of the first k numbers the map says where among these it comes last. -/
structure Ls (w : World) (B : Nat) (p : List Int) (k : Nat) (D : DataW Unit) : Prop where
  own : w.ownsMap Try.prog 3 (plainElem (H := Unit) Try.prog 3) B k D
  says : ∀ j, j < k → ∃ m : Nat, j ≤ m ∧ m < k ∧ p.getD m 0 = p.getD j 0 ∧ (∀ q, m < q → q < k → p.getD q 0 ≠ p.getD j 0) ∧ ∀ z, D.atKey (.int .i64 (p.getD j 0)) z = .lit (.int .i64 (m : Int))
theorem Ls.below {w w' : World} {B : Nat} {p : List Int} {k : Nat} {D : DataW Unit} (h : Ls w B p k D) (hb : Below w.heap.size w w') : Ls w' B p k D := by
  refine ⟨?_, h.says⟩
  have hlt := h.own.lt
  obtain ⟨es, c, h1, h2⟩ := h.own
  exact ⟨es, c, (hb.block B hlt).trans h1, h2⟩
theorem says_next {w : World} {B : Nat} {p : List Int} {k : Nat} {D : DataW Unit} {x : Int} (h : Ls w B p k D) (hx : p.getD k 0 = x) :
    ∀ j, j < k + 1 → ∃ m : Nat, j ≤ m ∧ m < k + 1 ∧ p.getD m 0 = p.getD j 0 ∧ (∀ q, m < q → q < k + 1 → p.getD q 0 ≠ p.getD j 0) ∧ ∀ z, (D.put (.int .i64 x) (.lit (.int .i64 (k : Int)))).atKey (.int .i64 (p.getD j 0)) z = .lit (.int .i64 (m : Int)) := by
  intro j hj
  by_cases e : p.getD j 0 = x
  · refine ⟨k, by omega, by omega, by rw [hx, e], fun q h1 h2 => absurd h1 (by omega), fun z => ?_⟩
    rw [e]; exact atKey_put_same (k := .int .i64 x) h.own.isMap trivial _ _
  · have hjk : j < k := by
      rcases (show j < k ∨ j = k by omega) with h1 | rfl
      · exact h1
      · exact absurd hx e
    obtain ⟨m, h1, h2, h3, h4, h5⟩ := h.says j hjk
    refine ⟨m, h1, by omega, h3, fun q hq1 hq2 => ?_, fun z => ?_⟩
    · rcases (show q < k ∨ q = k by omega) with hq | rfl
      · exact h4 q hq1 hq
      · rw [hx]; exact fun e' => e e'.symm
    · rw [atKey_put_other (by intro e'; simp at e'; exact e e')]; exact h5 z

set_option maxRecDepth 100000 in
set_option maxHeartbeats 4000000 in
theorem lasts_any (p : List Int) (v : Value) (w : World) (hv : SlI w v p) (h0 : 0 < p.length) (hl : p.length ≤ 100) (hwf : ∀ k, k < p.length → (Lit.int .i64 (p.getD k 0)).wf = true) :
    Calls Try.prog 38 #[v] w fun e w' => ∃ B D, e = .returned (.map (some B)) ∧ Ls w' B p p.length D ∧ Below w.heap.size w w' := by
  obtain ⟨b, off, cap, rfl, hcl⟩ := hv.some' h0
  have HCL : Hid (∀ i, i < p.length → w.cell? ⟨b, off + i, none⟩ = some (.int .i64 (p.getD i 0))) := hcl
  have HWF : Hid _ := hwf
  clear hv hcl hwf
  have hmm := @run_makeMap Try.prog
  go_enter Try.func38, Try.ntmps38
  go_wp2
  go_loopw [9] (fun z wr => ∃ (k : Nat) (D : DataW Unit), z = .int .i64 k ∧ k ≤ p.length ∧ Ls wr w.heap.size p k D ∧ Below w.heap.size w wr) (fun z _ => p.length - (intOf z).toNat)
  case atStart => exact ⟨0, .map [], rfl, Nat.zero_le _, ⟨World.ownsMap_made _ _ _ _, fun j hj => absurd hj (by omega)⟩, (Below.refl _ _).alloc (Nat.le_refl _) _⟩
  case round =>
    obtain ⟨k, D, rfl, hk, hls, hb⟩ := hrel
    have HL : Hid _ := hls
    have HB : Hid (Below w.heap.size w wr) := hb
    have hown := hls.own
    clear hls hb
    by_cases hlt : k < p.length
    · have hki : (k : Int) < (p.length : Int) := by omega
      have d0 := kept HB.out (HCL.out k hlt)
      have hwk := HWF.out k hlt
      have HN : Hid _ := fun x => @says_next wr w.heap.size p k D x HL.out
      obtain ⟨x, hx⟩ : ∃ x, p.getD k 0 = x := ⟨_, rfl⟩
      rw [hx] at d0 hwk
      have HX : Hid _ := hx
      clear hx
      have hkey : keyOf Try.prog 3 (.int .i64 x) = some (.int .i64 x) := keyOf_int_mk Try.underlying3 hwk
      go_wp2_with (first
        | (at_mapUpdate; refine wpList_mapUpdate_own _ rfl _ _ _ 64 rfl 3 3 law3 Try.underlying64 _ w.heap.size k _ rfl hown (by unfold maxLen; omega) _ _ _ rfl rfl hkey _ [] (plainElem_int Try.underlying3 (WalkArith.wf_i64 (by omega))) ?_; intro w1 hown1 hgrow1)
        | go_in)
      have B1 : Hid (Below w.heap.size w w1) := HB.out.grown hgrow1 HB.out.size (fun j hj => by cases hj; exact Nat.le_refl _)
      go_roundw
      case rel => exact ⟨k + 1, _, by go_num, by omega, ⟨hown1, HN.out x HX.out⟩, B1.out⟩
      case measure => simp [intOf]; omega
    · have hke : k = p.length := by omega
      subst hke
      go_wp2_with fail
      go_ret
      exact ⟨_, D, rfl, HL.out, HB.out⟩

theorem cut_bad (p : List Int) (v : Value) (w : World) (hv : SlI w v p) (hl : p.length ≤ 9223372036854775807) (hc : bnd p ≠ 0) :
    Calls Try.prog 22 #[v] w fun e w' => e = .returned (.tuple #[.slice none 0 0, .int .i64 (bnd p)]) ∧ w' = w := by
  obtain ⟨a0, c0, rfl⟩ := hv.val
  have hz : (bnd p != 0) = true := by simp [hc]
  clear hv hc
  go_enter Try.func22, Try.ntmps22
  go_wp2_with fail
  refine (bounds_any p a0 c0 w hl).mono ?_
  rintro e w1 ⟨rfl, rfl⟩
  go_wp2_with fail
  go_ret2
  exact ⟨rfl, rfl⟩

set_option maxRecDepth 100000 in
set_option maxHeartbeats 8000000 in
theorem cut_yes (p : List Int) (v : Value) (w : World) (hv : SlI w v p) (hc : bnd p = 0) (hwf : ∀ k, k < p.length → (Lit.int .i64 (p.getD k 0)).wf = true) :
    Calls Try.prog 22 #[v] w fun e w' => ∃ u, e = .returned (.tuple #[u, .int .i64 0]) ∧ Is w' w.heap.size u (cut p) ∧ Below w.heap.size w w' := by
  obtain ⟨h1, h2⟩ := bnd_zero hc
  obtain ⟨b, off, cap, rfl, hcl⟩ := hv.some' (by omega)
  have HCL : Hid (∀ i, i < p.length → w.cell? ⟨b, off + i, none⟩ = some (.int .i64 (p.getD i 0))) := hcl
  have HWF : Hid _ := hwf
  have HV : Hid _ := hv
  have HC : Hid _ := hc
  clear hv hcl hwf hc
  go_enter Try.func22, Try.ntmps22
  go_wp2_with fail
  refine (bounds_any p _ cap w (by omega)).mono ?_
  rintro e w1 ⟨rfl, rfl⟩
  rw [HC.out]
  go_wp2_with fail
  refine (lasts_any p _ w1 HV.out (by omega) h2 HWF.out).mono ?_
  rintro e w2 ⟨B, D, rfl, hls, hb⟩
  have HL : Hid _ := hls
  have B2 : Hid (Below w1.heap.size w1 w2) := hb
  clear hls hb
  go_wp2_with fail
  go_loopw [7, 6] (fun z o wr => ∃ (i : Nat) (out : List Int), z = .int .i64 i ∧ i ≤ p.length ∧ out.length ≤ i ∧ Is wr w2.heap.size o out ∧ cut p = out ++ cut (p.drop i) ∧ Below w2.heap.size w2 wr) (fun z _ _ => p.length - (intOf z).toNat)
  case atStart => exact ⟨0, [], rfl, Nat.zero_le _, Nat.le_refl _, Is.nil _ _, by simp, Below.refl _ _⟩
  case round =>
    obtain ⟨i, out, rfl, hi, hol, ho, hcut, hb⟩ := hrel
    have HO : Hid _ := ho
    have HT : Hid _ := hcut
    have HB : Hid (Below w2.heap.size w2 wr) := hb
    clear ho hcut hb
    by_cases hlt : i < p.length
    · have hii : (i : Int) < (p.length : Int) := by omega
      obtain ⟨m, m1, m2, m3, m4, m5⟩ := HL.out.says i hlt
      have d0 := kept HB.out (kept B2.out (HCL.out i hlt))
      have hwk := HWF.out i hlt
      have HS : Hid (∀ x, p.getD i 0 = x → cut p = (out ++ [x]) ++ cut (p.drop (m + 1))) := fun x hx => cut_step HT.out hlt hx m1 m2 (by rw [m3]; exact hx) (fun q h1 h2 => by rw [← hx]; exact m4 q h1 h2)
      obtain ⟨x, hx⟩ : ∃ x, p.getD i 0 = x := ⟨_, rfl⟩
      have D0 : Hid (∀ w', Below w2.heap.size w2 w' → w'.cell? ⟨b, off + i, none⟩ = some (.int .i64 x)) := fun w' hb => by rw [← hx]; exact kept hb (kept B2.out (HCL.out i hlt))
      rw [hx] at d0 hwk m5
      have HF : Hid _ := HS.out x hx
      have M5 : Hid _ := m5
      clear hx HS m3 m4 m5
      have hkey : keyOf Try.prog 3 (.int .i64 x) = some (.int .i64 x) := keyOf_int_mk Try.underlying3 hwk
      have hown := HO.out.own
      have hwz := HB.out.size
      obtain ⟨i0, hi0, hz0, hz1, hz2⟩ := info3_parts
      have HNW : Hid ((wr.alloc (.cells #[.int .i64 x] 3)).heap[wr.heap.size]? = some (.cells #[.int .i64 x] 3)) := heap_alloc_new wr _
      go_wp2_with (first
        | (at_builtin; refine wpList_append_lies _ rfl _ _ _ rfl w2.heap.size 3 i0 _ 1 8 Try.underlying27 hi0 hz0 hz1 hz2 rfl (by omega) u6 out.length (out.map (fun z => .int .i64 z)) rfl (hown.alloc _) ⟨wr.heap.size, 0, none⟩ 1 1 [.int .i64 x] rfl rfl (World.news_of_block (cs := #[.int .i64 x]) (t := 3) (fr := (0, 0)) HNW.out) (by simp [Value.oneCell']) (by omega) (by unfold maxLen; omega) (by omega) (by simp; omega) (wr.heap.size + 1) (by simp) ?_; intro gg cap' w3 hown3 hgrow hat hlt3; have B3 : Hid (Below w2.heap.size w2 w3) := (by exact (balloc HB.out _).grown hgrow (by simp; omega) (fun k hk => (ownBlock_lt hown k hk).1)); clear hgrow hat d0; have d0 := D0.out w3 B3.out; have hlm := (HL.out.below B3.out).own)
        | (at_lookup; refine wpList_lookup_own_int _ rfl _ _ 64 rfl 3 3 .i64 law3 Try.underlying64 Try.underlying3 (zero3 _) B p.length _ rfl hlm _ _ rfl hkey ?_; intro c hatk hwc; have hcm : c = (m : Int) := (by have h9 := (M5.out (.lit (.int .i64 0))).symm.trans hatk; simpa using h9.symm); subst hcm)
        | go_in)
      go_roundw
      case rel => exact ⟨m + 1, out ++ [x], by go_num, by omega, by simp; omega, Is.next rfl rfl hown3, HF.out, B3.out⟩
      case measure => simp [intOf]; omega
    · have hke : i = p.length := by omega
      subst hke
      have HF : Hid (cut p = out) := by have := HT.out; rw [List.drop_length, cut_nil, List.append_nil] at this; exact this
      go_wp2_with fail
      go_ret2
      refine ⟨_, rfl, ?_, bthen B2.out HB.out⟩
      rw [HF.out]
      exact HO.out.mono B2.out.size
end Go.Proofs.Ytahijfljpjgdlaa
