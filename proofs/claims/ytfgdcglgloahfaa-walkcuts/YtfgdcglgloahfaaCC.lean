/-
  Contract: the document's cut.
-/
import Derived.Test.YtfgdcglgloahfaaCB
namespace Go.Proofs.Ytfgdcglgloahfaa
open Go.RowKit
open Nm Wm Cm
attribute [local go_sem ↓] Go.wp_at_zero Go.wp_at_succ

theorem SlI.drop {w : World} {b off cap k : Nat} {p : List Int} (h : ∀ i, i < p.length → w.cell? ⟨b, off + i, none⟩ = some (.int .i64 (p.getD i 0))) (hk : k ≤ p.length) (hc : p.length ≤ cap) : SlI w (.slice (some ⟨b, off + k, none⟩) (p.length - k) (cap - k)) (p.drop k) := by
  refine .row b (off + k) (cap - k) (by simp) (fun i hi => ?_) (by simp; omega)
  simp at hi
  have := h (k + i) (by omega)
  rw [show off + k + i = off + (k + i) by omega, this]
  simp [List.getD_eq_getElem?_getD, List.getElem?_drop]
theorem cut_at {p : List Int} {k : Nat} {x : Int} (hk : k < p.length) (h0 : p.getD 0 0 = x) (hx : p.getD k 0 = x) (hl : ∀ j, k < j → j < p.length → p.getD j 0 ≠ x) : cut p = x :: cut (p.drop (k + 1)) := by
  have := cut_step (p := p) (out := []) (i := 0) (by simp) (by omega) h0 (Nat.zero_le k) hk hx hl
  simpa using this
/-- One number in a block of its own. -/
theorem one_own (w : World) (x : Int) (base : Nat) (h : base ≤ w.heap.size) : (w.alloc (.cells #[.int .i64 x] 3)).ownsRow base 3 1 (.slice (some ⟨w.heap.size, 0, none⟩) 1 1) 1 [.int .i64 x] :=
  ⟨rfl, .inr ⟨w.heap.size, 1, #[.int .i64 x], rfl, h, heap_alloc_new w _, Nat.le_refl _, by unfold maxLen; omega, rfl, rfl⟩⟩
theorem Is.form {w : World} {base : Nat} {v : Value} {l : List Int} (h : Is w base v l) (hl : 0 < l.length) : ∃ g cap, v = .slice (some ⟨g, 0, none⟩) l.length cap ∧ ∀ i, i < l.length → w.cell? ⟨g, 0 + i, none⟩ = some (.int .i64 (l.getD i 0)) := by
  obtain ⟨g, cap, hv, _⟩ := h.own.form hl
  obtain ⟨b, off, c, h1, h2⟩ := h.sl.some' hl
  rw [hv] at h1
  simp only [Value.slice.injEq, Option.some.injEq, Addr.mk.injEq, and_true, true_and] at h1
  obtain ⟨⟨rfl, rfl⟩, rfl⟩ := h1
  exact ⟨g, cap, hv, h2⟩

set_option maxRecDepth 100000 in
set_option maxHeartbeats 16000000 in
theorem rcut_any (N : Nat) : ∀ (p : List Int) (v : Value) (w : World), p.length ≤ N → SlI w v p → 0 < p.length → p.length ≤ 100 →
    Calls Try.prog 13 #[v] w fun e w' => ∃ u, e = .returned u ∧ Is w' w.heap.size u (cut p) ∧ Below w.heap.size w w' := by
  induction N with
  | zero => intro p v w h1 h2 h3; omega
  | succ N ih =>
    intro p v w hN hv h0 hl
    have IH : Hid _ := ih
    clear ih
    obtain ⟨b, off, cap, rfl, hcl, hcap⟩ := hv.some2 h0
    have HCL : Hid (∀ i, i < p.length → w.cell? ⟨b, off + i, none⟩ = some (.int .i64 (p.getD i 0))) := hcl
    have h00 := hcl 0 h0
    rw [Nat.add_zero] at h00
    obtain ⟨x, hx⟩ : ∃ x, p.getD 0 0 = x := ⟨_, rfl⟩
    rw [hx] at h00
    have HX : Hid _ := hx
    have h0i : (0 : Int) < (p.length : Int) := by omega
    have hcapi : (p.length : Int) ≤ (cap : Int) := by omega
    clear hv hcl hx
    go_enter Try.func13, Try.ntmps13
    go_wp2_with fail
    go_loopw [3] (fun z wr => ∃ k : Nat, z = .int .i64 k ∧ k < p.length ∧ (∀ j, k < j → j < p.length → p.getD j 0 ≠ x) ∧ ∃ q, wr = w.drewN q) (fun z _ => (intOf z).toNat)
    case atStart => exact ⟨p.length - 1, by go_num, by omega, fun j h1 h2 => by omega, 0, rfl⟩
    case round =>
      obtain ⟨k, rfl, hk, hl2, q, rfl⟩ := hrel
      have HL : Hid _ := hl2
      clear hl2
      have hki : (k : Int) < (p.length : Int) := by omega
      have d0 := HCL.out k hk
      obtain ⟨y, hy⟩ : ∃ y, p.getD k 0 = y := ⟨_, rfl⟩
      rw [hy] at d0
      have HY : Hid _ := hy
      clear hy
      by_cases hxy : y = x
      · subst hxy
        have hne : (y != y) = false := by simp
        have HF : Hid _ := cut_at hk HX.out HY.out HL.out
        by_cases hke : k + 1 = p.length
        · have hkb : ((k : Int) == (p.length : Int) - 1) = true := by simp; omega
          have HG : Hid (cut p = [y]) := by have := HF.out; rw [hke, List.drop_length, cut_nil] at this; exact this
          go_wp2_with fail
          go_quiet (fail)
          go_wp2_with fail
          go_ret
          refine ⟨_, rfl, ⟨?_⟩, balloc (bdrewN (Below.refl _ _) _) _⟩
          rw [HG.out]
          exact one_own _ y _ (Nat.le_refl _)
        · have hkb : ((k : Int) == (p.length : Int) - 1) = false := by simp; omega
          obtain ⟨m, hm⟩ : ∃ m : Nat, m = k + 1 := ⟨_, rfl⟩
          have hmi : (k : Int) + 1 = (m : Int) := by omega
          have hmw : IntKind.i64.wrap (m : Int) = (m : Int) := by rw [IntKind.wrap_i64]; omega
          have hml : (m : Int) ≤ (p.length : Int) := by omega
          have hmc : ¬ cap = m := by omega
          have HM : Hid _ := hm
          have SD0 : Hid (SlI w (.slice (some ⟨b, off + m, none⟩) (p.length - m) (cap - m)) (p.drop m)) := SlI.drop HCL.out (by omega) hcap
          have hdl : 0 < (cut (p.drop m)).length := cut_pos (by simp; omega)
          have hdl2 : (cut (p.drop m)).length ≤ 100 := Nat.le_trans (cut_length _) (by simp; omega)
          rw [← hm] at HF
          clear hm
          go_wp2_with fail
          go_quiet (fail)
          go_wp2_with fail
          have BW : Hid (Below w.heap.size w (w.drewN (q + nq))) := bdrewN (Below.refl _ _) _
          have SD : Hid _ := SD0.out.below BW.out
          have s0 := kept BW.out h00
          generalize w.drewN (q + nq) = W at *
          clear h00 d0 SD0
          obtain ⟨i0, hi0, hz0, hz1, hz2⟩ := info3_parts
          obtain ⟨l, hll⟩ : ∃ l, cut (p.drop m) = l := ⟨_, rfl⟩
          rw [hll] at hdl hdl2 HF
          have HLL : Hid _ := hll
          have S0 : Hid (W.cell? ⟨b, off, none⟩ = some (.int .i64 y)) := s0
          clear hll
          go_region_held3 (fun w' => w'.cell? ⟨b, off, none⟩ = some (.int .i64 y)) (first | go_keep | exact kept B5.out S0.out | exact kept BB.out S0.out)
            (first
             | (go_at_call 13; refine (IH.out (p.drop m) _ _ (by simp; omega) ?_ (by simp; omega) (by simp; omega)).mono ?_; (first | exact SD.out.below (Below.drew (Below.refl _ _)) | exact SD.out.below (balloc (Below.drew (Below.refl _ _)) _) | exact SD.out.below (Below.drew (balloc (Below.refl _ _) _))); rintro e w4 ⟨u, rfl, io, hb0⟩; rw [HLL.out] at io; obtain ⟨g4, c4, hu, hcell4⟩ := io.form hdl; subst hu; have HC4 : Hid (∀ i, i < l.length → w4.cell? ⟨g4, 0 + i, none⟩ = some (.int .i64 (l.getD i 0))) := hcell4; clear hcell4; have BB : Hid (Below W.heap.size W w4) := (by first | exact bthen (Below.drew (Below.refl _ _)) hb0 | exact bthen (balloc (Below.drew (Below.refl _ _)) _) hb0 | exact bthen (Below.drew (balloc (Below.refl _ _) _)) hb0))
             | (refine step_append_lies _ (by rfl) _ _ _ (by rfl) W.heap.size 3 i0 _ 1 8 Try.underlying25 hi0 hz0 hz1 hz2 rfl (by omega) (.slice (some ⟨w4.heap.size, 0, none⟩) 1 1) 1 [.int .i64 y] (by rfl) (one_own w4 y _ BB.out.size) ⟨g4, 0, none⟩ l.length c4 (l.map (fun z => .int .i64 z)) (by rfl) (by simp) (nums_news (fun i hi => kept_alloc (HC4.out i hi))) (nums_one l) (by omega) (by unfold maxLen; omega) (by omega) (by have := BB.out.size; simp; omega) (w4.heap.size + 1) (by simp) ?_; intro gg cap5 w5 hown5 hgrow hat hlt5; have B5 : Hid (Below W.heap.size W w5) := (by exact (balloc BB.out _).grown hgrow (balloc BB.out _).size (fun k hk => by cases hk; exact BB.out.size)))
             | (refine step_append_lies _ (by rfl) _ _ _ (by rfl) W.heap.size 3 i0 _ 1 8 Try.underlying25 hi0 hz0 hz1 hz2 rfl (by omega) (.slice (some ⟨W.heap.size, 0, none⟩) 1 1) 1 [.int .i64 y] (by rfl) (owns_below (one_own W y _ (Nat.le_refl _)) (bthen (by first | exact Below.drew (Below.refl _ _) | exact Below.refl _ _) hb0)) ⟨g4, 0, none⟩ l.length c4 (l.map (fun z => .int .i64 z)) (by rfl) (by simp) (nums_news (fun i hi => HC4.out i hi)) (nums_one l) (by omega) (by unfold maxLen; omega) (by omega) BB.out.size w4.heap.size rfl ?_; intro gg cap5 w5 hown5 hgrow hat hlt5; have B5 : Hid (Below W.heap.size W w5) := (by exact BB.out.grown hgrow BB.out.size (fun k hk => by cases hk; exact Nat.le_refl _)))
             | fail)
          all_goals
            go_wp2_with fail
            go_ret
            refine ⟨_, rfl, Is.mono (b := W.heap.size) ⟨?_⟩ BW.out.size, bthen BW.out B5.out⟩
            have e1 : (cut p).length = 1 + l.length := by rw [HF.out]; simp; omega
            rw [e1, HF.out]
            exact hown5
      · have hne : (y != x) = true := by simp [hxy]
        have hk0 : k ≠ 0 := fun e => hxy (by rw [← HY.out, e]; exact HX.out)
        have HK : Hid (∀ j, k - 1 < j → j < p.length → p.getD j 0 ≠ x) := fun j h1 h2 => by
          rcases (show k < j ∨ j = k by omega) with h | rfl
          · exact HL.out j h h2
          · rw [HY.out]; exact hxy
        clear hxy
        go_wp2_with fail
        go_quiet (fail)
        go_wp2_with fail
        go_roundw
        case rel => exact ⟨k - 1, by go_num, by omega, HK.out, q + nq, rfl⟩
        case measure => simp [intOf]; omega
end Go.Proofs.Ytfgdcglgloahfaa
