/-
  Contract: sink.
-/
import Derived.Test.YtefikbjjdldomaaHx
namespace Go.Proofs.Ytefikbjjdldomaa
open Go.RowKit
open Hp
attribute [local go_sem ↓] Go.wp_at_zero Go.wp_at_succ

/-- The least child of k. -/
theorem kids_one {qs : List (Int × Int)} {k : Nat} (h : ¬ 2 * k + 2 < qs.length) : ∀ i, 0 < i → i < qs.length → (i - 1) / 2 = k → i = 2 * k + 1 := by
  intro i h0 hi hp; omega
theorem kids_least {qs : List (Int × Int)} {k c e m : Nat} (hcl : c ≤ 2 * k + 1) (hcu : 2 * k + 1 ≤ c) (hel : e ≤ c + 1) (heu : c + 1 ≤ e) (h1 : Le (at' qs m) (at' qs c)) (h2 : e < qs.length → Le (at' qs m) (at' qs e)) :
    ∀ i, 0 < i → i < qs.length → (i - 1) / 2 = k → Le (at' qs m) (at' qs i) := by
  intro i h0 hi hp
  rcases (show i = c ∨ i = e by omega) with rfl | rfl
  · exact h1
  · exact h2 hi
theorem kids_two {k i : Nat} (h0 : 0 < i) (hp : (i - 1) / 2 = k) : i = 2 * k + 1 ∨ i = 2 * k + 2 := by omega
set_option maxHeartbeats 8000000 in
theorem sink_any (H g i cap : Nat) (ps : List (Int × Int)) (w : World) (hi : i ≤ ps.length) (h : HeapIs w H g cap ps) (hu : DownAt ps i) :
    Calls Try.prog 94 #[.pointer (some ⟨H, 0, none⟩), .int .i64 i] w fun e w' => e = .returned (.tuple #[]) ∧ ∃ qs, HeapIs w' H g cap qs ∧ qs.Perm ps ∧ IsHeap qs ∧ w.grownBy w' (some g) := by
  have hlen := h.len
  go_enter Try.func94, Try.ntmps94
  go_wp2
  go_loopw [1] (fun x wr => ∃ (k : Nat) (qs : List (Int × Int)), x = .int .i64 k ∧ k ≤ qs.length ∧ qs.length = ps.length ∧ HeapIs wr H g cap qs ∧ qs.Perm ps ∧ DownAt qs k ∧ w.grownBy wr (some g)) (fun x _ => ps.length - (intOf x).toNat)
  case atStart => exact ⟨i, ps, rfl, hi, rfl, h, List.Perm.refl _, hu, grown_refl _ _⟩
  case round =>
    clear h hu hi
    obtain ⟨k, qs, rfl, hk, hql0, h, hp, hu, hg⟩ := hrel
    have HP : Hid _ := hp
    have HU : Hid (DownAt qs k) := hu
    have HQ : Hid (qs.length = ps.length) := hql0
    clear hp hu hql0
    have hql := h.len
    obtain ⟨g0, g1, _⟩ := h.cell
    obtain ⟨c, hc⟩ : ∃ c : Nat, c = 2 * k + 1 := ⟨_, rfl⟩
    have hci : 2 * (k : Int) + 1 = (c : Int) := by omega
    have hcl : c ≤ 2 * k + 1 := by omega
    have hcu : 2 * k + 1 ≤ c := by omega
    clear hc
    by_cases hcn : ¬ c < qs.length
    · have hcn' : (qs.length : Int) ≤ (c : Int) := by omega
      go_wp2_with fail
      exact bodyPost_ret (v := .tuple #[]) (by simp [results, Try.results94, go_sem]) rfl ⟨rfl, qs, h, HP.out, down_done HU.out (fun i h0 hi hpi => by omega), hg⟩
    have hcn := Decidable.not_not.1 hcn
    have hc1 : (c : Int) < (qs.length : Int) := by omega
    have hkn : k < qs.length := by omega
    have hki : (k : Int) < (qs.length : Int) := by omega
    obtain ⟨k0, k1, _, _⟩ := h.row.cell k hkn
    obtain ⟨xa, hxa⟩ : ∃ v, (at' qs k).1 = v := ⟨_, rfl⟩
    obtain ⟨xb, hxb⟩ : ∃ v, (at' qs k).2 = v := ⟨_, rfl⟩
    rw [hxa] at k0
    rw [hxb] at k1
    have Hxa : Hid _ := hxa
    have Hxb : Hid _ := hxb
    clear hxa hxb
    obtain ⟨c0, c1, _, _⟩ := h.row.cell c hcn
    obtain ⟨ya, hya⟩ : ∃ v, (at' qs c).1 = v := ⟨_, rfl⟩
    obtain ⟨yb, hyb⟩ : ∃ v, (at' qs c).2 = v := ⟨_, rfl⟩
    rw [hya] at c0
    rw [hyb] at c1
    have Hya : Hid _ := hya
    have Hyb : Hid _ := hyb
    clear hya hyb
    obtain ⟨e, he⟩ : ∃ e : Nat, e = c + 1 := ⟨_, rfl⟩
    have hei : (c : Int) + 1 = (e : Int) := by omega
    have hew : IntKind.i64.wrap (e : Int) = (e : Int) := by rw [IntKind.wrap_i64]; omega
    have hel : e ≤ c + 1 := by omega
    have heu : c + 1 ≤ e := by omega
    clear he
    by_cases hd : e < qs.length
    · have hdi : (e : Int) < (qs.length : Int) := by omega
      obtain ⟨d0, d1, _, _⟩ := h.row.cell e hd
      obtain ⟨za, hza⟩ : ∃ v, (at' qs e).1 = v := ⟨_, rfl⟩
      obtain ⟨zb, hzb⟩ : ∃ v, (at' qs e).2 = v := ⟨_, rfl⟩
      rw [hza] at d0
      rw [hzb] at d1
      have Hza : Hid _ := hza
      have Hzb : Hid _ := hzb
      clear hza hzb
      cases hl : ltb (at' qs e) (at' qs c)
      all_goals
        have HL : Hid _ := hl
        clear hl
        go_wp2_with fail
        go_region_held3 (fun w' => w'.cell? ⟨H, 0, none⟩ = some (.func (.func 73) #[] #[]) ∧ w'.cell? ⟨H, 1, none⟩ = some (.slice (some ⟨g, 0, none⟩) qs.length cap) ∧ w'.cell? ⟨g, e * 2, none⟩ = some (.int .i64 za) ∧ w'.cell? ⟨g, e * 2 + 1, none⟩ = some (.int .i64 zb) ∧ w'.cell? ⟨g, c * 2, none⟩ = some (.int .i64 ya) ∧ w'.cell? ⟨g, c * 2 + 1, none⟩ = some (.int .i64 yb) ∧ w'.cell? ⟨g, k * 2, none⟩ = some (.int .i64 xa) ∧ w'.cell? ⟨g, k * 2 + 1, none⟩ = some (.int .i64 xb))
          (first | (go_split_ands; refine ⟨kept hb1 ?_, kept hb1 ?_, kept hb1 ?_, kept hb1 ?_, kept hb1 ?_, kept hb1 ?_, kept hb1 ?_, kept hb1 ?_⟩ <;> assumption) | go_keep)
          (first
           | (go_at_call 73; refine (less_no (at' qs e) (at' qs c) _ _ _ _ _ HL.out Hza.out Hzb.out Hya.out Hyb.out).mono ?_; rintro e w1 ⟨rfl, hb1⟩)
           | (go_at_call 73; refine (less_yes (at' qs e) (at' qs c) _ _ _ _ _ HL.out Hza.out Hzb.out Hya.out Hyb.out).mono ?_; rintro e w1 ⟨rfl, hb1⟩))
        go_wp2_with fail
      · have hbA : Below wr.heap.size wr w1 := bthen (Below.drew (Below.refl wr.heap.size wr)) hb1
        have HLE : Hid (∀ i, 0 < i → i < qs.length → (i - 1) / 2 = k → Le (at' qs c) (at' qs i)) := kids_least hcl hcu hel heu (Le.refl _) (fun _ => ltb_false HL.out)
        cases hm : ltb (at' qs c) (at' qs k)
        all_goals
          have HM : Hid _ := hm
          clear hm
          go_region_held3 (fun w' => w'.cell? ⟨H, 0, none⟩ = some (.func (.func 73) #[] #[]) ∧ w'.cell? ⟨H, 1, none⟩ = some (.slice (some ⟨g, 0, none⟩) qs.length cap) ∧ w'.cell? ⟨g, c * 2, none⟩ = some (.int .i64 ya) ∧ w'.cell? ⟨g, c * 2 + 1, none⟩ = some (.int .i64 yb) ∧ w'.cell? ⟨g, k * 2, none⟩ = some (.int .i64 xa) ∧ w'.cell? ⟨g, k * 2 + 1, none⟩ = some (.int .i64 xb))
            (first | (go_split_ands; refine ⟨kept hb2 ?_, kept hb2 ?_, kept hb2 ?_, kept hb2 ?_, kept hb2 ?_, kept hb2 ?_⟩ <;> assumption) | go_keep)
            (first
             | (go_at_call 73; refine (less_no (at' qs c) (at' qs k) _ _ _ _ _ HM.out Hya.out Hyb.out Hxa.out Hxb.out).mono ?_; rintro e w2 ⟨rfl, hb2⟩)
             | (go_at_call 73; refine (less_yes (at' qs c) (at' qs k) _ _ _ _ _ HM.out Hya.out Hyb.out Hxa.out Hxb.out).mono ?_; rintro e w2 ⟨rfl, hb2⟩))
          go_wp2_with fail
        · have hb3 : Below wr.heap.size wr w2 := bthen (Below.drew hbA) hb2
          exact bodyPost_ret (v := .tuple #[]) (by simp [results, Try.results94, go_sem]) rfl ⟨rfl, qs, h.below hb3, HP.out, down_done HU.out (fun i h0 hi hpi => (ltb_false HM.out).trans (HLE.out i h0 hi hpi)), grown_trans hg (grown_below hb3)⟩
        · have hb3 : Below wr.heap.size wr w2 := bthen (Below.drew hbA) hb2
          refine (swap_any H g k c cap qs _ hkn (by omega) (by omega) (h.below hb3)).mono ?_
          rintro e w4 ⟨rfl, h2, hg2⟩
          go_wp2
          go_roundw
          case rel =>
            exact ⟨c, Hp.swp qs k c, rfl, by rw [swp_length]; omega, by rw [swp_length]; exact HQ.out, h2, (swp_perm qs k c hkn (by omega)).trans HP.out, down_step HU.out (by omega) (by omega) (by omega) (ltb_true HM.out) HLE.out, grown_trans (grown_trans hg (grown_below hb3)) hg2⟩
          case measure => simp [intOf]; have := HQ.out; omega
      · have hbA : Below wr.heap.size wr w1 := bthen (Below.drew (Below.refl wr.heap.size wr)) hb1
        have HLE : Hid (∀ i, 0 < i → i < qs.length → (i - 1) / 2 = k → Le (at' qs e) (at' qs i)) := kids_least hcl hcu hel heu (ltb_true HL.out) (fun _ => Le.refl _)
        cases hm : ltb (at' qs e) (at' qs k)
        all_goals
          have HM : Hid _ := hm
          clear hm
          go_region_held3 (fun w' => w'.cell? ⟨H, 0, none⟩ = some (.func (.func 73) #[] #[]) ∧ w'.cell? ⟨H, 1, none⟩ = some (.slice (some ⟨g, 0, none⟩) qs.length cap) ∧ w'.cell? ⟨g, e * 2, none⟩ = some (.int .i64 za) ∧ w'.cell? ⟨g, e * 2 + 1, none⟩ = some (.int .i64 zb) ∧ w'.cell? ⟨g, k * 2, none⟩ = some (.int .i64 xa) ∧ w'.cell? ⟨g, k * 2 + 1, none⟩ = some (.int .i64 xb))
            (first | (go_split_ands; refine ⟨kept hb2 ?_, kept hb2 ?_, kept hb2 ?_, kept hb2 ?_, kept hb2 ?_, kept hb2 ?_⟩ <;> assumption) | go_keep)
            (first
             | (go_at_call 73; refine (less_no (at' qs e) (at' qs k) _ _ _ _ _ HM.out Hza.out Hzb.out Hxa.out Hxb.out).mono ?_; rintro e w2 ⟨rfl, hb2⟩)
             | (go_at_call 73; refine (less_yes (at' qs e) (at' qs k) _ _ _ _ _ HM.out Hza.out Hzb.out Hxa.out Hxb.out).mono ?_; rintro e w2 ⟨rfl, hb2⟩))
          go_wp2_with fail
        · have hb3 : Below wr.heap.size wr w2 := bthen (Below.drew hbA) hb2
          exact bodyPost_ret (v := .tuple #[]) (by simp [results, Try.results94, go_sem]) rfl ⟨rfl, qs, h.below hb3, HP.out, down_done HU.out (fun i h0 hi hpi => (ltb_false HM.out).trans (HLE.out i h0 hi hpi)), grown_trans hg (grown_below hb3)⟩
        · have hb3 : Below wr.heap.size wr w2 := bthen (Below.drew hbA) hb2
          refine (swap_any H g k e cap qs _ hkn (by omega) (by omega) (h.below hb3)).mono ?_
          rintro e w4 ⟨rfl, h2, hg2⟩
          go_wp2
          go_roundw
          case rel =>
            exact ⟨e, Hp.swp qs k e, rfl, by rw [swp_length]; omega, by rw [swp_length]; exact HQ.out, h2, (swp_perm qs k e hkn (by omega)).trans HP.out, down_step HU.out (by omega) (by omega) (by omega) (ltb_true HM.out) HLE.out, grown_trans (grown_trans hg (grown_below hb3)) hg2⟩
          case measure => simp [intOf]; have := HQ.out; omega
    · have hdf : decide ((e : Int) < (qs.length : Int)) = false := decide_eq_false (by omega)
      go_wp2_with fail
      go_quiet (fail)
      go_wp2_with fail
      have HLE : Hid (∀ i, 0 < i → i < qs.length → (i - 1) / 2 = k → Le (at' qs c) (at' qs i)) := kids_least hcl hcu hel heu (Le.refl _) (fun hx => absurd hx (by omega))
      cases hm : ltb (at' qs c) (at' qs k)
      all_goals
        have HM : Hid _ := hm
        clear hm
        go_region_held3 (fun w' => w'.cell? ⟨H, 0, none⟩ = some (.func (.func 73) #[] #[]) ∧ w'.cell? ⟨H, 1, none⟩ = some (.slice (some ⟨g, 0, none⟩) qs.length cap) ∧ w'.cell? ⟨g, c * 2, none⟩ = some (.int .i64 ya) ∧ w'.cell? ⟨g, c * 2 + 1, none⟩ = some (.int .i64 yb) ∧ w'.cell? ⟨g, k * 2, none⟩ = some (.int .i64 xa) ∧ w'.cell? ⟨g, k * 2 + 1, none⟩ = some (.int .i64 xb))
          (first | (go_split_ands; refine ⟨kept hb2 ?_, kept hb2 ?_, kept hb2 ?_, kept hb2 ?_, kept hb2 ?_, kept hb2 ?_⟩ <;> assumption) | go_keep)
          (first
           | (go_at_call 73; refine (less_no (at' qs c) (at' qs k) _ _ _ _ _ HM.out Hya.out Hyb.out Hxa.out Hxb.out).mono ?_; rintro e w2 ⟨rfl, hb2⟩)
           | (go_at_call 73; refine (less_yes (at' qs c) (at' qs k) _ _ _ _ _ HM.out Hya.out Hyb.out Hxa.out Hxb.out).mono ?_; rintro e w2 ⟨rfl, hb2⟩))
        go_wp2_with fail
      · have hb3 : Below wr.heap.size wr w2 := bthen (Below.drew (below_drewN (Below.refl wr.heap.size wr) _)) hb2
        exact bodyPost_ret (v := .tuple #[]) (by simp [results, Try.results94, go_sem]) rfl ⟨rfl, qs, h.below hb3, HP.out, down_done HU.out (fun i h0 hi hpi => (ltb_false HM.out).trans (HLE.out i h0 hi hpi)), grown_trans hg (grown_below hb3)⟩
      · have hb3 : Below wr.heap.size wr w2 := bthen (Below.drew (below_drewN (Below.refl wr.heap.size wr) _)) hb2
        refine (swap_any H g k c cap qs _ hkn (by omega) (by omega) (h.below hb3)).mono ?_
        rintro e w4 ⟨rfl, h2, hg2⟩
        go_wp2
        go_roundw
        case rel =>
          exact ⟨c, Hp.swp qs k c, rfl, by rw [swp_length]; omega, by rw [swp_length]; exact HQ.out, h2, (swp_perm qs k c hkn (by omega)).trans HP.out, down_step HU.out (by omega) (by omega) (by omega) (ltb_true HM.out) HLE.out, grown_trans (grown_trans hg (grown_below hb3)) hg2⟩
        case measure => simp [intOf]; have := HQ.out; omega
end Go.Proofs.Ytefikbjjdldomaa
