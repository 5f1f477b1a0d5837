/-
  The walk of the law felllaw.HeapSorts: it returns true, and writes nothing that was there.
-/
import Derived.Test.YtihicidfpfkknaaInsF
import Derived.ProofKit
import Derived.OpenShut
import Derived.Lib.SmallJoins
namespace Go.Proofs.Ytihicidfpfkknaa.HSorts
open Go.ChangeShapes Go.WideShapes Go.ChangeAt Go.RowKit Go.Joins
open Hp

theorem owns_slr {w : World} {base : Nat} {v : Value} {ps : List (Int × Int)} (h : w.ownsRow base 43 2 v ps.length (flat ps)) : SlR w v ps := by
  rcases h.2 with ⟨rfl, h0⟩ | ⟨g, cap, cur, rfl, _⟩
  · exact .inl ⟨_, _, rfl, List.length_eq_zero_iff.1 h0⟩
  · exact (Row.of_owns rfl h).1.slr

theorem slr_take {w : World} {a : Option Addr} {n c m : Nat} {ps : List (Int × Int)} (h : SlR w (.slice a n c) ps) (hm : m ≤ ps.length) : SlR w (.slice a m c) (ps.take m) := by
  rcases h with ⟨a', c', he, rfl⟩ | ⟨b, off, cap, he, hc⟩
  · obtain rfl : m = 0 := by simpa using hm
    exact .inl ⟨_, _, rfl, by simp⟩
  · simp only [Value.slice.injEq] at he
    obtain ⟨rfl, rfl, rfl⟩ := he
    have hl : (ps.take m).length = m := by simp; omega
    refine .inr ⟨b, off, c, by rw [hl], fun i hi => ?_⟩
    rw [hl] at hi
    have e : at' (ps.take m) i = at' ps i := by
      unfold at'
      rw [List.getD_eq_getElem?_getD, List.getD_eq_getElem?_getD, List.getElem?_take_of_lt hi]
    rw [e]
    exact hc i (by omega)

theorem owns_cap {w : World} {base n c : Nat} {a : Option Addr} {xs : List Value} (h : w.ownsRow base 43 2 (.slice a n c) n xs) : n ≤ c := by
  rcases h.2 with ⟨h, _⟩ | ⟨g, cap, cur, h, _, _, hc, _⟩
  · simp only [Value.slice.injEq] at h; omega
  · simp only [Value.slice.injEq] at h; omega
theorem bdrewN {w x : World} (h : Below w.heap.size w x) (q : Nat) : Below w.heap.size w (x.drewN q) := h.trans ⟨rfl, rfl, rfl, Nat.le_refl _, fun _ _ => rfl⟩
theorem SlR.drewN {w : World} {v : Value} {ps : List (Int × Int)} (h : SlR w v ps) (q : Nat) : SlR (w.drewN q) v ps := h

set_option maxRecDepth 100000 in
set_option maxHeartbeats 8000000 in
theorem walk (v : Value) (ls : List (Int × Int)) (n : Int) (w : World) (hv : SlR w v ls) (hlen : ls.length ≤ 8796093022000) :
    Calls Try.prog 6 #[v, .int .i64 n] w fun e w' => e = .returned (.bool true) ∧ Below w.heap.size w w' := by
  obtain ⟨a, c, rfl⟩ := hv.val
  have HV : Hid (SlR w (.slice a ls.length c) ls) := hv
  clear hv
  have hsl := srt_length ls
  go_enter Try.func6, Try.ntmps6
  go_wp2_with fail
  refine (sorted_any _ ls w HV.out (by omega)).mono ?_
  rintro e w1 ⟨u, rfl, ho, b1⟩
  have hs1 : SlR w1 u (srt ls) := owns_slr (by rw [hsl]; exact ho)
  obtain ⟨a1, c1, rfl⟩ := owns_val ho
  have hcap := owns_cap ho
  have HS1 : Hid (SlR w1 (.slice a1 ls.length c1) (srt ls)) := hs1
  have HB1 : Hid _ := b1
  have HV1 : Hid (SlR w1 (.slice a ls.length c) ls) := HV.out.below b1
  have HSL : Hid _ := hsl
  clear hs1 ho b1 HV hsl
  go_wp2_with fail
  by_cases hn : n < 0
  · refine (least_no _ n w1 hn).mono ?_
    rintro e w2 ⟨rfl, rfl⟩
    go_wp2_with fail
    refine (sort_any _ ls w2 HV1.out (by omega)).mono ?_
    rintro e w3 ⟨o, cp, rfl, h1, h2, h3⟩
    have HR : Hid _ := h2
    have HB3 : Hid _ := h3
    clear h2 h3
    go_wp2_with fail
    have hq1 := Row.slr HR.out
    rw [HSL.out] at hq1
    refine (equal_any _ _ (srt ls) (srt ls) w3 hq1 (HS1.out.below HB3.out) (by rw [HSL.out]; omega)).mono ?_
    rintro e w4 ⟨rfl, q, rfl⟩
    rw [decide_eq_true rfl]
    go_wp2_with fail
    go_ret
    exact ⟨rfl, bthen HB1.out (bdrewN HB3.out q)⟩
  · obtain ⟨m, rfl⟩ : ∃ m : Nat, n = m := ⟨n.toNat, by omega⟩
    refine (least_yes _ m ls w1 HV1.out (by omega)).mono ?_
    rintro e w2 ⟨o, cp, rfl, h1, h2, h3⟩
    have HL : Hid _ := h2
    have HB2 : Hid _ := h3
    clear h2 h3 hn
    go_wp2_with fail
    refine (sort_any _ ls w2 (HV1.out.below HB2.out) (by omega)).mono ?_
    rintro e w3 ⟨o3, cp3, rfl, g1, g2, g3⟩
    have HR : Hid _ := g2
    have HB3 : Hid _ := g3
    clear g2 g3
    go_wp2_with fail
    have hq1 := Row.slr HR.out
    rw [HSL.out] at hq1
    refine (equal_any _ _ (srt ls) (srt ls) w3 hq1 ((HS1.out.below HB2.out).below HB3.out) (by rw [HSL.out]; omega)).mono ?_
    rintro e w4 ⟨rfl, q, rfl⟩
    rw [decide_eq_true rfl]
    clear hq1
    have hmn : ¬ ((m : Int) < 0) := by omega
    have B4 : Hid (Below w.heap.size w (w3.drewN q)) := bthen HB1.out (bthen HB2.out (bdrewN HB3.out q))
    have S4 : Hid (SlR (w3.drewN q) (.slice a1 ls.length c1) (srt ls)) := SlR.drewN ((HS1.out.below HB2.out).below HB3.out) q
    have L4 : Hid (SlR (w3.drewN q) (.slice (some ⟨o, 0, none⟩) (min m ls.length) cp) ((srt ls).take m)) := by
      have h := SlR.drewN ((Row.slr HL.out).below HB3.out) q
      rw [List.length_take, srt_length] at h
      exact h
    clear HL HR HB2 HB3 HS1 HV1
    by_cases hc : m ≤ ls.length
    · have hci : (m : Int) ≤ (ls.length : Int) := by omega
      have hcc : (m : Int) ≤ (c1 : Int) := by omega
      have hmin : min m ls.length = m := by omega
      rw [hmin]
      rw [hmin] at L4
      clear hmin
      go_wp2_with fail
      refine (equal_any _ _ ((srt ls).take m) ((srt ls).take m) _ L4.out (slr_take S4.out (by rw [HSL.out]; exact hc)) (by rw [List.length_take, HSL.out]; omega)).mono ?_
      rintro e w5 ⟨rfl, q5, rfl⟩
      rw [decide_eq_true rfl]
      go_wp2_with fail
      go_ret
      exact ⟨rfl, World.drewN_drewN w3 q q5 ▸ bdrewN B4.out q5⟩
    · have hci : ¬ ((m : Int) ≤ (ls.length : Int)) := by omega
      have hcd : (ls.length : Int) < (m : Int) := by omega
      have hcc : (ls.length : Int) ≤ (c1 : Int) := by omega
      have hmin : min m ls.length = ls.length := by omega
      rw [hmin]
      rw [hmin] at L4
      clear hmin
      go_wp2_with fail
      refine (equal_any _ _ ((srt ls).take m) ((srt ls).take m) _ L4.out (by rw [List.take_of_length_le (by rw [HSL.out]; omega)]; exact S4.out) (by rw [List.length_take, HSL.out]; omega)).mono ?_
      rintro e w5 ⟨rfl, q5, rfl⟩
      rw [decide_eq_true rfl]
      go_wp2_with fail
      go_ret
      exact ⟨rfl, World.drewN_drewN w3 q q5 ▸ bdrewN B4.out q5⟩

end Go.Proofs.Ytihicidfpfkknaa.HSorts
