/-
  Contract: heur.Of.
-/
import Derived.Test.YtefikbjjdldomaaEJ
import Derived.Test.YtefikbjjdldomaaEH
namespace Go.Proofs.Ytefikbjjdldomaa
open Go.RowKit
open Nm Wm Dm
attribute [local go_sem ↓] Go.wp_at_zero Go.wp_at_succ

/-- The most that marks tell of what it costs at least from a place to t. -/
def grt (N : Nat) (es : List E) (p : List Int) (t v : Nat) : Int := gre (frw N es p) (trw N es p) v t p.length
def prt (f : Nat → Int) (k : Nat) : Nat → Int := fun i => if i < k then f i else 0
theorem prt_next (f : Nat → Int) (k : Nat) : ∀ x, upd (prt f k) k (f k) x = prt f (k + 1) x := by
  intro x
  unfold upd prt
  by_cases e : x = k
  · subst e; rw [if_pos rfl, if_pos (by omega)]
  · rw [if_neg e]
    by_cases h : x < k
    · rw [if_pos h, if_pos (by omega)]
    · rw [if_neg h, if_neg (by omega)]
theorem prt_end {f : Nat → Int} {k x : Nat} (h : x < k) : prt f k x = f x := by unfold prt; rw [if_pos h]
theorem rt_frw {N : Nat} {es : List E} {p : List Int} (_hp : Pn N es) (he : ∀ v, v < N → IsD N es v (cst N es v)) (hl : ∀ k, k < p.length → 0 ≤ p.getD k 0 ∧ (p.getD k 0).toNat < N) (h4 : p.length ≤ 4) : Rt N (frw N es p) := by
  refine ⟨by rw [frw_length]; exact h4, fun i hi => ?_⟩
  rw [frw_length] at hi
  have hd := he _ (hl i hi).2
  rw [frw_at hi, lst_length]
  exact ⟨rfl, fun k hk => by rw [lst_at hk]; exact ⟨hd.lo k hk, hd.hi k hk⟩⟩
theorem rt_trw {N : Nat} {es : List E} {p : List Int} (_hp : Pn N es) (he : ∀ v, v < N → IsD N es v (cst N es v)) (hl : ∀ k, k < p.length → 0 ≤ p.getD k 0 ∧ (p.getD k 0).toNat < N) (h4 : p.length ≤ 4) : Rt N (trw N es p) := by
  refine ⟨by rw [trw_length]; exact h4, fun i hi => ?_⟩
  rw [trw_length] at hi
  rw [trw_at hi, lst_length]
  exact ⟨rfl, fun k hk => by rw [lst_at hk]; exact ⟨(he k hk).lo _ (hl i hi).2, (he k hk).hi _ (hl i hi).2⟩⟩
set_option maxRecDepth 100000 in
set_option maxHeartbeats 16000000 in
theorem of_marks (n t : Int) (v u : Value) (es : List E) (p : List Int) (w : World) (hv : SlE w v es) (hu : SlI w u p) (hlen : es.length ≤ 9223372036854775807) (hl : p.length ≤ 9223372036854775807) (hc : mrk n es p ≠ 0) :
    Calls Try.prog 30 #[.agg #[.int .i64 n, v], u, .int .i64 t] w fun e w' => e = .returned (.tuple #[.slice none 0 0, .int .i64 (mrk n es p)]) ∧ Below w.heap.size w w' := by
  obtain ⟨a0, c0, rfl⟩ := hv.val
  obtain ⟨a1, c1, rfl⟩ := hu.val
  have HV : Hid _ := hv
  have HU : Hid _ := hu
  have HC : Hid _ := hc
  have hz : (mrk n es p != 0) = true := by simp [hc]
  clear hc
  clear hv hu
  go_enter Try.func30, Try.ntmps30
  go_wp2_with fail
  have P0 : Hid _ := box2_new w n (.slice a0 es.length c0) 24
  have B0 : Hid (Below w.heap.size w (w.alloc (.cells #[.int .i64 n, .slice a0 es.length c0] 24))) := balloc (Below.refl _ _) _
  generalize w.alloc (.cells #[.int .i64 n, .slice a0 es.length c0] 24) = W0 at *
  refine (marks_no n _ _ es p W0 (HV.out.below B0.out) (HU.out.below B0.out) hlen hl HC.out).mono ?_
  rintro e w1 ⟨rfl, b1⟩
  have B1 : Hid (Below w.heap.size w (w1.alloc (.cells #[.slice none 0 0, .slice none 0 0] 76))) := balloc (bthen B0.out b1) _
  clear b1 P0 B0
  go_wp2_with fail
  go_ret2
  exact ⟨rfl, B1.out⟩
set_option maxRecDepth 100000 in
set_option maxHeartbeats 16000000 in
theorem of_arg (N : Nat) (t : Int) (v u : Value) (es : List E) (p : List Int) (w : World) (hv : SlE w v es) (hu : SlI w u p) (hlen : es.length ≤ 9223372036854775807) (hl : p.length ≤ 9223372036854775807) (hc : mrk N es p = 0) (ht : plc N t = false) :
    Calls Try.prog 30 #[.agg #[.int .i64 N, v], u, .int .i64 t] w fun e w' => e = .returned (.tuple #[.slice none 0 0, .int .i64 1]) ∧ Below w.heap.size w w' := by
  obtain ⟨a0, c0, rfl⟩ := hv.val
  obtain ⟨a1, c1, rfl⟩ := hu.val
  have HV : Hid _ := hv
  have HU : Hid _ := hu
  have HC : Hid _ := hc
  obtain ⟨M, hM, hp, hnp, hp4, hpl⟩ := mrk_good hc
  obtain rfl : N = M := by omega
  have hn64 := hp.n64
  have HP : Hid _ := hp
  have HL : Hid _ := hpl
  have HES : Hid (∀ v, v < N → IsD N es v (cst N es v)) := fun x hx => isd_ex x _ _ hv hp hx
  clear hc hM hp hnp hpl
  have HPT : Hid _ := ht
  clear ht
  clear hv hu
  go_enter Try.func30, Try.ntmps30
  go_wp2_with fail
  have P0 : Hid _ := box2_new w (N : Int) (.slice a0 es.length c0) 24
  have B0 : Hid (Below w.heap.size w (w.alloc (.cells #[.int .i64 N, .slice a0 es.length c0] 24))) := balloc (Below.refl _ _) _
  generalize w.alloc (.cells #[.int .i64 N, .slice a0 es.length c0] 24) = W0 at *
  refine (marks_yes N _ _ es p W0 (HV.out.below B0.out) (HU.out.below B0.out) hlen hl HC.out).mono ?_
  rintro e w1 ⟨vF, vT, rfl, sF, sT, b1⟩
  have RF : Hid _ := rt_frw HP.out HES.out HL.out hp4
  have RT : Hid _ := rt_trw HP.out HES.out HL.out hp4
  have HLF : Hid ((frw N es p).length = p.length) := frw_length _ _ _
  have HLT : Hid ((trw N es p).length = (frw N es p).length) := by unfold Hid; rw [trw_length, frw_length]
  generalize frw N es p = rF at *
  generalize trw N es p = rT at *
  obtain ⟨aF, cF, rfl⟩ := sF.val
  obtain ⟨aT, cT, rfl⟩ := sT.val
  have SF1 : Hid _ := sF.below (balloc (Below.refl _ _) (.cells #[.slice aF rF.length cF, .slice aT rT.length cT] 76))
  have ST1 : Hid _ := sT.below (balloc (Below.refl _ _) (.cells #[.slice aF rF.length cF, .slice aT rT.length cT] 76))
  have P1 : Hid _ := (P0.out.below b1).below (balloc (Below.refl _ _) (.cells #[.slice aF rF.length cF, .slice aT rT.length cT] 76))
  have B1 : Hid (Below w.heap.size w (w1.alloc (.cells #[.slice aF rF.length cF, .slice aT rT.length cT] 76))) := balloc (bthen B0.out b1) _
  have T1 : Hid _ := bt_new w1 (.slice aF rF.length cF) (.slice aT rT.length cT)
  obtain ⟨TB, htb⟩ : ∃ b, w1.heap.size = b := ⟨_, rfl⟩
  rw [htb] at T1
  clear b1 P0 B0 sF sT
  obtain ⟨p0, p1⟩ := P1.out
  go_wp2_with fail
  clear p0 p1 htb
  generalize w1.alloc (.cells #[.slice aF rF.length cF, .slice aT rT.length cT] 76) = W1 at *
  refine (isPlace_at N t _ _ _ _ W1 HPT.out).mono ?_
  rintro e w2 ⟨rfl, b2⟩
  have B2 : Hid (Below w.heap.size w w2) := bthen B1.out b2
  clear b2
  go_wp2_with fail
  go_ret2
  exact ⟨rfl, B2.out⟩
set_option maxRecDepth 100000 in
set_option maxHeartbeats 16000000 in
theorem of_yes (N t : Nat) (v u : Value) (es : List E) (p : List Int) (w : World) (hv : SlE w v es) (hu : SlI w u p) (hlen : es.length ≤ 9223372036854775807) (hl : p.length ≤ 9223372036854775807) (hc : mrk N es p = 0) (ht : t < N) :
    Calls Try.prog 30 #[.agg #[.int .i64 N, v], u, .int .i64 t] w fun e w' => ∃ G, e = .returned (.tuple #[.slice (some ⟨G, 0, none⟩) N N, .int .i64 0]) ∧ Ur w' G N (grt N es p t) ∧ Below w.heap.size w w' := by
  obtain ⟨a0, c0, rfl⟩ := hv.val
  obtain ⟨a1, c1, rfl⟩ := hu.val
  have HV : Hid _ := hv
  have HU : Hid _ := hu
  have HC : Hid _ := hc
  obtain ⟨M, hM, hp, hnp, hp4, hpl⟩ := mrk_good hc
  obtain rfl : N = M := by omega
  have hn64 := hp.n64
  have HP : Hid _ := hp
  have HL : Hid _ := hpl
  have HES : Hid (∀ v, v < N → IsD N es v (cst N es v)) := fun x hx => isd_ex x _ _ hv hp hx
  clear hc hM hp hnp hpl
  have HPT : Hid (plc N (t : Int) = true) := plc_yes (by omega) (by omega)
  have HGR : Hid (∀ x, gre (frw N es p) (trw N es p) x t (frw N es p).length = grt N es p t x) := fun x => by rw [frw_length]; rfl
  clear hv hu
  go_enter Try.func30, Try.ntmps30
  go_wp2_with fail
  have P0 : Hid _ := box2_new w (N : Int) (.slice a0 es.length c0) 24
  have B0 : Hid (Below w.heap.size w (w.alloc (.cells #[.int .i64 N, .slice a0 es.length c0] 24))) := balloc (Below.refl _ _) _
  generalize w.alloc (.cells #[.int .i64 N, .slice a0 es.length c0] 24) = W0 at *
  refine (marks_yes N _ _ es p W0 (HV.out.below B0.out) (HU.out.below B0.out) hlen hl HC.out).mono ?_
  rintro e w1 ⟨vF, vT, rfl, sF, sT, b1⟩
  have RF : Hid _ := rt_frw HP.out HES.out HL.out hp4
  have RT : Hid _ := rt_trw HP.out HES.out HL.out hp4
  have HLF : Hid ((frw N es p).length = p.length) := frw_length _ _ _
  have HLT : Hid ((trw N es p).length = (frw N es p).length) := by unfold Hid; rw [trw_length, frw_length]
  generalize frw N es p = rF at *
  generalize trw N es p = rT at *
  obtain ⟨aF, cF, rfl⟩ := sF.val
  obtain ⟨aT, cT, rfl⟩ := sT.val
  have SF1 : Hid _ := sF.below (balloc (Below.refl _ _) (.cells #[.slice aF rF.length cF, .slice aT rT.length cT] 76))
  have ST1 : Hid _ := sT.below (balloc (Below.refl _ _) (.cells #[.slice aF rF.length cF, .slice aT rT.length cT] 76))
  have P1 : Hid _ := (P0.out.below b1).below (balloc (Below.refl _ _) (.cells #[.slice aF rF.length cF, .slice aT rT.length cT] 76))
  have B1 : Hid (Below w.heap.size w (w1.alloc (.cells #[.slice aF rF.length cF, .slice aT rT.length cT] 76))) := balloc (bthen B0.out b1) _
  have T1 : Hid _ := bt_new w1 (.slice aF rF.length cF) (.slice aT rT.length cT)
  obtain ⟨TB, htb⟩ : ∃ b, w1.heap.size = b := ⟨_, rfl⟩
  rw [htb] at T1
  clear b1 P0 B0 sF sT
  obtain ⟨p0, p1⟩ := P1.out
  go_wp2_with fail
  clear p0 p1 htb
  generalize w1.alloc (.cells #[.slice aF rF.length cF, .slice aT rT.length cT] 76) = W1 at *
  refine (isPlace_at N t _ _ _ _ W1 HPT.out).mono ?_
  rintro e w2 ⟨rfl, b2⟩
  have P2 : Hid _ := P1.out.below b2
  have T2 : Hid _ := T1.out.below b2
  have SF2 : Hid _ := SF1.out.below b2
  have ST2 : Hid _ := ST1.out.below b2
  have B2 : Hid (Below w.heap.size w w2) := bthen B1.out b2
  clear b2 P1 T1 SF1 ST1 B1
  obtain ⟨p0, p1⟩ := P2.out
  have hmk := made_ur N hn64
  go_wp2_with fail
  clear p0 p1 hmk
  have U3 : Hid (Ur (w2.alloc (.cells (Array.ofFn (n := N) fun _ => .int .i64 0) 3)) w2.heap.size N (prt (grt N es p t) 0)) := ⟨by rw [heap_alloc_new]; congr 3⟩
  have B3 : Hid (Below w2.heap.size w2 (w2.alloc (.cells (Array.ofFn (n := N) fun _ => .int .i64 0) 3))) := balloc (Below.refl _ _) _
  generalize w2.alloc (.cells (Array.ofFn (n := N) fun _ => .int .i64 0) 3) = W3 at *
  go_loopw [30] (fun z wr => ∃ k : Nat, z = .int .i64 k ∧ k ≤ N ∧ Ur wr w2.heap.size N (prt (grt N es p t) k) ∧ Below w2.heap.size w2 wr) (fun z _ => N - (intOf z).toNat)
  case atStart => exact ⟨0, rfl, Nat.zero_le _, U3.out, B3.out⟩
  case round =>
    clear U3 B3
    obtain ⟨k, rfl, hk, hu, hb⟩ := hrel
    have HB : Hid (Below w2.heap.size w2 wr) := hb
    have UR : Hid _ := hu
    clear hu hb
    by_cases hlt : k < N
    · have hki : (k : Int) < (N : Int) := by omega
      obtain ⟨t0, t1⟩ := (T2.out.below HB.out).cell
      go_wp2_with fail
      refine (greatest_any N k t _ _ rF rT wr (SF2.out.below HB.out) (ST2.out.below HB.out) HLT.out RF.out RT.out hlt ht).mono ?_
      rintro e w5 ⟨rfl, b5⟩
      rw [HGR.out]
      have U5 : Hid _ := UR.out.below b5
      have B5 : Hid (Below w2.heap.size w2 w5) := bthen HB.out b5
      obtain ⟨d0, f0⟩ := U5.out.cell k hlt
      have U6 : Hid _ := U5.out.put k (grt N es p t k)
      have HPN : Hid (∀ x, upd (prt (grt N es p t) k) k (grt N es p t k) x = prt (grt N es p t) (k + 1) x) := prt_next _ _
      generalize grt N es p t k = y at *
      clear b5 t0 t1
      go_wp2_with fail
      go_roundw
      case rel => exact ⟨k + 1, by go_num, by omega, U6.out.congr (fun x _ => HPN.out x), Below.setCell B5.out (Nat.le_refl _) _⟩
      case measure => simp [intOf]; omega
    · obtain rfl : k = N := by omega
      go_wp2_with fail
      go_ret2
      exact ⟨w2.heap.size, rfl, UR.out.congr (fun x hx => prt_end hx), bthen B2.out HB.out⟩
end Go.Proofs.Ytefikbjjdldomaa
