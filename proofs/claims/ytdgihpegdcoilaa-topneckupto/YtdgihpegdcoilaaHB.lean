/-
  Contract: rise.
-/
import Derived.Test.YtdgihpegdcoilaaHA
namespace Go.Proofs.Ytdgihpegdcoilaa
open Go.RowKit
open Hp
attribute [local go_sem ↓] Go.wp_at_zero Go.wp_at_succ

theorem less_yes (p q : Int × Int) (a b c d : Int) (w : World) (h : ltb p q = true) (e1 : p.1 = a) (e2 : p.2 = b) (e3 : q.1 = c) (e4 : q.2 = d) :
    Calls Try.prog 65 #[.agg #[.int .i64 a, .int .i64 b], .agg #[.int .i64 c, .int .i64 d]] w fun e w' => e = .returned (.bool true) ∧ Below w.heap.size w w' := by
  subst e1 e2 e3 e4
  have := lesser_any p q w; rw [h] at this; exact this
theorem less_no (p q : Int × Int) (a b c d : Int) (w : World) (h : ltb p q = false) (e1 : p.1 = a) (e2 : p.2 = b) (e3 : q.1 = c) (e4 : q.2 = d) :
    Calls Try.prog 65 #[.agg #[.int .i64 a, .int .i64 b], .agg #[.int .i64 c, .int .i64 d]] w fun e w' => e = .returned (.bool false) ∧ Below w.heap.size w w' := by
  subst e1 e2 e3 e4
  have := lesser_any p q w; rw [h] at this; exact this
set_option maxHeartbeats 4000000 in
theorem rise_any (H g i cap : Nat) (ps : List (Int × Int)) (w : World) (hi : i < ps.length) (h : HeapIs w H g cap ps) (hu : UpAt ps i) :
    Calls Try.prog 73 #[.pointer (some ⟨H, 0, none⟩), .int .i64 i] w fun e w' => e = .returned (.tuple #[]) ∧ ∃ qs, HeapIs w' H g cap qs ∧ qs.Perm ps ∧ IsHeap qs ∧ w.grownBy w' (some g) := by
  have hlen := h.len
  go_enter Try.func73, Try.ntmps73
  go_wp2
  go_loopw [1] (fun x wr => ∃ (k : Nat) (qs : List (Int × Int)), x = .int .i64 k ∧ k < qs.length ∧ HeapIs wr H g cap qs ∧ qs.Perm ps ∧ UpAt qs k ∧ w.grownBy wr (some g)) (fun x _ => (intOf x).toNat)
  case atStart => exact ⟨i, ps, rfl, hi, h, List.Perm.refl _, hu, grown_refl _ _⟩
  case round =>
    clear h hu hi
    obtain ⟨k, qs, rfl, hk, h, hp, hu, hg⟩ := hrel
    have HP : Hid _ := hp
    have HU : Hid _ := hu
    clear hp hu
    have hql := h.len
    by_cases h0 : k = 0
    · subst h0
      go_wp2
      go_end0
      exact ⟨rfl, qs, h, HP.out, up_done0 HU.out, hg⟩
    · have hpos : (0 : Int) < (k : Int) := by omega
      have hkn : (k : Int) < (qs.length : Int) := by omega
      obtain ⟨m, hm⟩ : ∃ m : Nat, m = (k - 1) / 2 := ⟨_, rfl⟩
      have hmn : m < qs.length := by omega
      have hdiv : ((k : Int) - 1) / 2 = (m : Int) := by omega
      have hmi : (m : Int) < (qs.length : Int) := by omega
      obtain ⟨c0, c1, _, _⟩ := h.row.cell k hk
      obtain ⟨c2, c3, _, _⟩ := h.row.cell m hmn
      obtain ⟨g0, g1, _⟩ := h.cell
      obtain ⟨a, ha⟩ : ∃ x, (at' qs k).1 = x := ⟨_, rfl⟩
      obtain ⟨b, hb⟩ : ∃ x, (at' qs k).2 = x := ⟨_, rfl⟩
      obtain ⟨c, hc⟩ : ∃ x, (at' qs m).1 = x := ⟨_, rfl⟩
      obtain ⟨d, hd⟩ : ∃ x, (at' qs m).2 = x := ⟨_, rfl⟩
      rw [ha] at c0
      rw [hb] at c1
      rw [hc] at c2
      rw [hd] at c3
      have HA : Hid _ := ha
      have HB : Hid _ := hb
      have HC : Hid _ := hc
      have HD : Hid _ := hd
      have HM : Hid _ := hm
      clear ha hb hc hd hm
      cases hl : ltb (at' qs k) (at' qs m)
      all_goals
        have HL : Hid _ := hl
        clear hl
        go_wp2_with fail
        simp only [hdiv]
        go_region_held3 (fun w' => w'.cell? ⟨H, 0, none⟩ = some (.func (.func 65) #[] #[]) ∧ w'.cell? ⟨H, 1, none⟩ = some (.slice (some ⟨g, 0, none⟩) qs.length cap) ∧ w'.cell? ⟨g, k * 2, none⟩ = some (.int .i64 a) ∧ w'.cell? ⟨g, k * 2 + 1, none⟩ = some (.int .i64 b) ∧ w'.cell? ⟨g, m * 2, none⟩ = some (.int .i64 c) ∧ w'.cell? ⟨g, m * 2 + 1, none⟩ = some (.int .i64 d))
          (first | (go_split_ands; refine ⟨kept hb1 ?_, kept hb1 ?_, kept hb1 ?_, kept hb1 ?_, kept hb1 ?_, kept hb1 ?_⟩ <;> assumption) | go_keep)
          (first
           | (go_at_call 65; refine (less_no (at' qs k) (at' qs m) _ _ _ _ _ HL.out HA.out HB.out HC.out HD.out).mono ?_; rintro e w1 ⟨rfl, hb1⟩)
           | (go_at_call 65; refine (less_yes (at' qs k) (at' qs m) _ _ _ _ _ HL.out HA.out HB.out HC.out HD.out).mono ?_; rintro e w1 ⟨rfl, hb1⟩))
        go_wp2_with fail
      · have hb2 := bthen (Below.drew (Below.refl wr.heap.size wr)) hb1
        exact bodyPost_ret (v := .tuple #[]) (by simp [results, Try.results73, go_sem]) rfl ⟨rfl, qs, h.below hb2, HP.out, up_done HU.out (by rw [← HM.out]; exact ltb_false HL.out), grown_trans hg (grown_below hb2)⟩
      · have hb2 := bthen (Below.drew (Below.refl wr.heap.size wr)) hb1
        refine (swap_any H g k m cap qs _ hk hmn (by have := HM.out; omega) (h.below hb2)).mono ?_
        rintro e w2 ⟨rfl, h2, hg2⟩
        go_wp2
        go_roundw
        case rel =>
          refine ⟨m, Hp.swp qs k m, rfl, by rw [swp_length]; exact hmn, h2, (swp_perm qs k m hk hmn).trans HP.out, ?_, grown_trans (grown_trans hg (grown_below hb2)) hg2⟩
          have := up_step HU.out (by omega) hk (by rw [← HM.out]; exact ltb_true HL.out)
          rw [← HM.out] at this
          exact this
        case measure => simp [intOf]; have := HM.out; omega
end Go.Proofs.Ytdgihpegdcoilaa
