/-
  Contracts: the document's Table, heur.Bound.
-/
import Derived.Test.YtkbebdanpgaehaaER
namespace Go.Proofs.Ytkbebdanpgaehaa
open Go.RowKit
open Nm Wm Dm
attribute [local go_sem ↓] Go.wp_at_zero Go.wp_at_succ

theorem pick_lt {n : Nat} {P : Nat → Value → Prop} (h : ∀ i, i < n → ∃ u, P i u) : ∃ f : Nat → Value, ∀ i, i < n → P i (f i) := by
  classical
  exact ⟨fun i => if hi : i < n then Classical.choose (h i hi) else .slice none 0 0, fun i hi => by simp only [dif_pos hi]; exact Classical.choose_spec (h i hi)⟩
theorem slt_vals {w : World} {v : Value} {rows : List (List Int)} (h : SlT w v rows) : ∃ us : List Value, us.length = rows.length ∧ SlV w v us ∧ (∀ u ∈ us, u.oneCell' = true) ∧ ∀ i, i < rows.length → ∃ u, us[i]? = some u ∧ SlI w u (rows.getD i []) := by
  rcases h.is with ⟨a, c, rfl, rfl⟩ | ⟨b, off, cap, rfl, hc⟩
  · exact ⟨[], rfl, ⟨.inl ⟨a, c, rfl, rfl⟩⟩, by simp, fun i hi => absurd hi (by simp)⟩
  · obtain ⟨f, hf⟩ := pick_lt hc
    refine ⟨(List.range rows.length).map f, by simp, ⟨.inr ⟨b, off, cap, by simp, fun j u hu => ?_⟩⟩, fun u hu => ?_, fun i hi => ⟨f i, by simp [hi], (hf i hi).2⟩⟩
    · have hj : j < rows.length := by
        rcases Nat.lt_or_ge j rows.length with h | h
        · exact h
        · rw [List.getElem?_eq_none (by simpa using h)] at hu; cases hu
      have hadd : (⟨b, off, none⟩ : Addr).add j = ⟨b, off + j, none⟩ := by unfold Addr.add; split <;> simp_all
      rw [hadd, (hf j hj).1]
      simpa [hj] using hu
    · obtain ⟨i, hi, rfl⟩ := List.mem_map.1 hu
      obtain ⟨a, c, e⟩ := (hf i (by simpa using hi)).2.val
      rw [e]; rfl
theorem slt_own {w : World} {base n : Nat} {v : Value} {us : List Value} {rows : List (List Int)} (h : w.ownsRow base 25 1 v n us) (hn : n = rows.length) (hr : ∀ i, i < rows.length → ∃ u, us[i]? = some u ∧ SlI w u (rows.getD i [])) : SlT w v rows := by
  subst hn
  rcases h.2 with ⟨rfl, h0⟩ | ⟨g, cap, cur, rfl, _, h1, h2, _, h4, h5⟩
  · exact SlT.no none 0 rfl (List.length_eq_zero_iff.1 h0)
  · refine ⟨.inr ⟨g, 0, cap, rfl, fun i hi => ?_⟩⟩
    obtain ⟨u, k1, k2⟩ := hr i hi
    refine ⟨u, ?_, k2⟩
    have : cur[i]? = us[i]? := by rw [← h5, List.getElem?_take_of_lt (by omega), Array.getElem?_toList]
    simp [World.cell?, h1, this, k1]
/-- Concat of two tables. -/
theorem catt_any (B : Nat) (v1 v2 : Value) (F T : List (List Int)) (w : World) (h1 : SlT w v1 F) (h2 : SlT w v2 T) (r1 : Rl F) (r2 : Rl T) (b0 : w.cell? ⟨B, 0, none⟩ = some v1) (b1 : w.cell? ⟨B, 1, none⟩ = some v2) :
    Calls Try.prog 40 #[.slice (some ⟨B, 0, none⟩) 2 2] w fun e w' => ∃ a c, e = .returned (.slice a (F.length + T.length) c) ∧ SlT w' (.slice a (F.length + T.length) c) (F ++ T) ∧ Below w.heap.size w w' := by
  by_cases h0 : 0 < F.length + T.length
  · obtain ⟨us, l1, s1, o1, k1⟩ := slt_vals h1
    obtain ⟨xs, l2, s2, o2, k2⟩ := slt_vals h2
    refine (rconcat_some B v1 v2 us xs w s1 s2 o1 o2 (by omega) (by rw [l1]; exact r1.len) (by rw [l2]; exact r2.len) b0 b1).mono ?_
    rintro e w' ⟨out, rfl, ho, hb⟩
    rw [l1, l2] at ho
    obtain ⟨a, c, rfl⟩ := own_val ho
    refine ⟨a, c, rfl, slt_own ho (by simp) (fun i hi => ?_), hb⟩
    rw [List.length_append] at hi
    by_cases e : i < F.length
    · obtain ⟨u, e1, e2⟩ := k1 i e
      refine ⟨u, by rw [List.getElem?_append_left (by omega)]; exact e1, ?_⟩
      have e3 : (F ++ T).getD i [] = F.getD i [] := by simp [List.getD_eq_getElem?_getD, List.getElem?_append_left e]
      rw [e3]; exact e2.below hb
    · obtain ⟨u, e1, e2⟩ := k2 (i - F.length) (by omega)
      refine ⟨u, by rw [List.getElem?_append_right (by omega), l1]; exact e1, ?_⟩
      have e3 : (F ++ T).getD i [] = T.getD (i - F.length) [] := by simp [List.getD_eq_getElem?_getD, List.getElem?_append_right (show F.length ≤ i by omega)]
      rw [e3]; exact e2.below hb
  · obtain rfl : F = [] := List.length_eq_zero_iff.1 (by omega)
    obtain rfl : T = [] := List.length_eq_zero_iff.1 (by omega)
    obtain ⟨x, cx, rfl⟩ := h1.val
    obtain ⟨y, cy, rfl⟩ := h2.val
    refine (rconcat_none B x y cx cy w b0 b1).mono ?_
    rintro e w' ⟨rfl, hb⟩
    exact ⟨none, 0, rfl, SlT.no none 0 rfl rfl, hb⟩
set_option maxRecDepth 100000 in
set_option maxHeartbeats 8000000 in
theorem rtable_any (N : Nat) (v1 v2 : Value) (F T : List (List Int)) (w : World) (h1 : SlT w v1 F) (h2 : SlT w v2 T) (r1 : Rl F) (r2 : Rl T) (hn1 : 1 ≤ N) (hn64 : N ≤ 64) :
    Calls Try.prog 16 #[.agg #[v1, v2], .int .i64 N] w fun e w' => e = .returned (.bool (ist N F T)) ∧ Below w.heap.size w w' := by
  obtain ⟨a1, c1, rfl⟩ := h1.val
  obtain ⟨a2, c2, rfl⟩ := h2.val
  have H1 : Hid _ := h1
  have H2 : Hid _ := h2
  have HR1 : Hid _ := r1
  have HR2 : Hid _ := r2
  have hb1 := r1.len
  have hb2 := r2.len
  clear h1 h2 r1 r2
  have T0 : Hid _ := (bt_new w (.slice a1 F.length c1) (.slice a2 T.length c2)).below (balloc (Below.refl _ _) (.cells #[.int .i64 N] 3))
  have N0 : Hid _ := cell_new (w.alloc (.cells #[.slice a1 F.length c1, .slice a2 T.length c2] 31)) #[.int .i64 N] 3 0 _ rfl
  have hz0 : (w.alloc (.cells #[.slice a1 F.length c1, .slice a2 T.length c2] 31)).heap.size = w.heap.size + 1 := by simp
  have hz1 : ((w.alloc (.cells #[.slice a1 F.length c1, .slice a2 T.length c2] 31)).alloc (.cells #[.int .i64 N] 3)).heap.size = w.heap.size + 1 + 1 := by simp
  rw [hz0] at N0
  have B0 : Hid (Below w.heap.size w ((w.alloc (.cells #[.slice a1 F.length c1, .slice a2 T.length c2] 31)).alloc (.cells #[.int .i64 N] 3))) := balloc (balloc (Below.refl _ _) _) _
  have HZ : Hid _ := hz1
  clear hz0 hz1
  go_enter Try.func16, Try.ntmps16
  obtain ⟨q0, q1⟩ := T0.out.cell
  have q2 := N0.out
  go_wp2_with fail
  have L0 : Hid _ := cell_new ((w.alloc (.cells #[.slice a1 F.length c1, .slice a2 T.length c2] 31)).alloc (.cells #[.int .i64 N] 3)) #[.slice a1 F.length c1, .slice a2 T.length c2] 29 0 _ rfl
  have L1 : Hid _ := cell_new ((w.alloc (.cells #[.slice a1 F.length c1, .slice a2 T.length c2] 31)).alloc (.cells #[.int .i64 N] 3)) #[.slice a1 F.length c1, .slice a2 T.length c2] 29 1 _ rfl
  rw [HZ.out] at L0 L1
  clear q0 q1 q2
  generalize (w.alloc (.cells #[.slice a1 F.length c1, .slice a2 T.length c2] 31)).alloc (.cells #[.int .i64 N] 3) = W0 at *
  have BL : Hid (Below W0.heap.size W0 (W0.alloc (.cells #[.slice a1 F.length c1, .slice a2 T.length c2] 29))) := balloc (Below.refl _ _) _
  refine (catt_any (w.heap.size + 1 + 1) _ _ F T _ ((H1.out.below B0.out).below BL.out) ((H2.out.below B0.out).below BL.out) HR1.out HR2.out L0.out L1.out).mono ?_
  rintro e w1 ⟨ac, cc, rfl, sc, b1⟩
  have SC : Hid _ := sc
  have BB : Hid (Below W0.heap.size W0 w1) := bthen BL.out b1
  have T1 : Hid _ := T0.out.below BB.out
  have N1 : Hid _ := kept BB.out N0.out
  have B1 : Hid (Below w.heap.size w w1) := bthen B0.out BB.out
  clear b1 sc L0 L1 BL BB T0 N0 B0 HZ
  obtain ⟨q0, q1⟩ := T1.out.cell
  by_cases hl : F.length = T.length
  · by_cases h4 : F.length ≤ 4
    · have HQ : Hid (ist N F T = (F ++ T).all (acs N)) := by unfold Hid ist; rw [decide_eq_true hl, decide_eq_true h4, List.all_append]; rfl
      have e1 : ((F.length : Int) == (T.length : Int)) = true := by rw [hl]; simp
      have e2 : (F.length : Int) ≤ 4 := by omega
      have HLN : Hid ((F ++ T).length = F.length + T.length) := List.length_append
      have HRR : Hid (∀ i, i < (F ++ T).length → ((F ++ T).getD i []).length ≤ 9223372036854775807) := fun i hi => by
        rw [List.length_append] at hi
        by_cases e : i < F.length
        · have e3 : (F ++ T).getD i [] = F.getD i [] := by simp [List.getD_eq_getElem?_getD, List.getElem?_append_left e]
          rw [e3]; exact HR1.out.row i e
        · have e3 : (F ++ T).getD i [] = T.getD (i - F.length) [] := by simp [List.getD_eq_getElem?_getD, List.getElem?_append_right (show F.length ≤ i by omega)]
          rw [e3]; exact HR2.out.row _ (by omega)
      clear hl h4
      go_wp2_with fail
      refine (conr_any (w.heap.size + 1) N _ (F ++ T) w1 SC.out N1.out hn1 hn64 (by have := HLN.out; omega) HRR.out).mono ?_
      rintro e w2 ⟨rfl, b2⟩
      have B2 : Hid (Below w.heap.size w w2) := bthen B1.out b2
      clear b2
      generalize (F ++ T).all (acs N) = y at *
      go_wp2_with fail
      go_ret
      exact ⟨ret_bool (by rw [HQ.out]), B2.out⟩
    · have HQ : Hid (ist N F T = false) := by unfold Hid ist; rw [decide_eq_true hl, decide_eq_false h4]; rfl
      have e1 : ((F.length : Int) == (T.length : Int)) = true := by rw [hl]; simp
      have e2 : ¬ (F.length : Int) ≤ 4 := by omega
      clear hl h4
      go_wp2_with fail
      go_ret
      exact ⟨ret_bool HQ.out.symm, B1.out⟩
  · have HQ : Hid (ist N F T = false) := by unfold Hid ist; rw [decide_eq_false hl]; rfl
    have e1 : ((F.length : Int) == (T.length : Int)) = false := by simp; omega
    clear hl
    go_wp2_with fail
    go_ret
    exact ⟨ret_bool HQ.out.symm, B1.out⟩
end Go.Proofs.Ytkbebdanpgaehaa
