/-
  Contract: Cost.
-/
import Derived.Test.YtefikbjjdldomaaWA
namespace Go.Proofs.Ytefikbjjdldomaa
open Go.RowKit
open Nm Wm
attribute [local go_sem ↓] Go.wp_at_zero Go.wp_at_succ

theorem cheapest_some (n u x c : Int) (v : Value) (es : List E) (w : World) (hv : SlE w v es) (hlen : es.length ≤ 600) (h : chp u x es = some c) :
    Calls Try.prog 77 #[.agg #[.int .i64 n, v], .int .i64 u, .int .i64 x] w fun e w' => e = .returned (.tuple #[.int .i64 c, .bool true]) ∧ Below w.heap.size w w' := by
  have := cheapest_any n u x v es w hv hlen; rw [h] at this; exact this
theorem cheapest_none (n u x : Int) (v : Value) (es : List E) (w : World) (hv : SlE w v es) (hlen : es.length ≤ 600) (h : chp u x es = none) :
    Calls Try.prog 77 #[.agg #[.int .i64 n, v], .int .i64 u, .int .i64 x] w fun e w' => e = .returned (.tuple #[.int .i64 0, .bool false]) ∧ Below w.heap.size w w' := by
  have := cheapest_any n u x v es w hv hlen; rw [h] at this; exact this

set_option maxRecDepth 100000 in
set_option maxHeartbeats 8000000 in
theorem cost_one (n : Int) (v : Value) (b off : Nat) (es : List E) (p : List Int) (w : World) (hv : SlE w v es) (hu : SlI w (.slice (some ⟨b, off, none⟩) p.length 1) p) (hlen : es.length ≤ 9223372036854775807) (hp1 : p.length = 1) (hc : pck n es p = 0) (hw : wcode n es p = (0, 0)) :
    Calls Try.prog 48 #[.agg #[.int .i64 n, v], .slice (some ⟨b, off, none⟩) p.length 1] w fun e w' => e = .returned (.tuple #[.int .i64 (wcode n es p).1, .int .i64 (wcode n es p).2]) ∧ Below w.heap.size w w' := by
  obtain ⟨a0, c0, rfl⟩ := hv.val
  have HV : Hid _ := hv
  have HU : Hid _ := hu
  have HC : Hid _ := hc
  have HW : Hid _ := hw
  clear hv hu hc hw
  rw [hp1] at HU ⊢
  have HP1 : Hid _ := hp1
  clear hp1
  go_enter Try.func48, Try.ntmps48
  go_wp2_with fail
  have B0 : Hid (Below w.heap.size w (w.alloc (.cells #[.int .i64 n, .slice a0 es.length c0] 24))) := balloc (Below.refl _ _) _
  generalize w.alloc (.cells #[.int .i64 n, .slice a0 es.length c0] 24) = W0 at *
  refine (pcheck_any n _ _ es p W0 (HV.out.below B0.out) (HU.out.below B0.out) hlen (by have := HP1.out; omega)).mono ?_
  rintro e w1 ⟨rfl, b1⟩
  rw [HC.out]
  have B1 : Hid (Below w.heap.size w w1) := bthen B0.out b1
  clear b1 B0
  go_wp2_with fail
  go_loopw [21, 7] (fun z s wr => z = .int .i64 0 ∧ s = .int .i64 0 ∧ wr = w1) (fun _ _ _ => 0)
  case atStart => exact ⟨rfl, rfl, rfl⟩
  case round =>
    obtain ⟨rfl, rfl, rfl⟩ := hrel
    go_wp2_with fail
    go_ret2
    exact ⟨by (rw [HW.out]) <;> rfl, B1.out⟩

set_option maxRecDepth 100000 in
set_option maxHeartbeats 8000000 in
theorem cost_any (n : Int) (v u : Value) (es : List E) (p : List Int) (w : World) (hv : SlE w v es) (hu : SlI w u p) (hlen : es.length ≤ 9223372036854775807) (hl : p.length ≤ 9223372036854775807) :
    Calls Try.prog 48 #[.agg #[.int .i64 n, v], u] w fun e w' => e = .returned (.tuple #[.int .i64 (wcode n es p).1, .int .i64 (wcode n es p).2]) ∧ Below w.heap.size w w' := by
  by_cases hc : pck n es p = 0
  · obtain ⟨h0, h1, h2⟩ := pck_zero hc
    have hg := nck_zero.1 h0
    obtain ⟨hp0, hp1⟩ := bnd_zero h1
    obtain ⟨b, off, cap, rfl, hcl, hcap⟩ := hu.some2 (by omega)
    obtain ⟨a0, c0, rfl⟩ := hv.val
    have HV : Hid _ := hv
    have HU : Hid _ := hu
    have HC : Hid _ := hc
    have HCL : Hid (∀ i, i < p.length → w.cell? ⟨b, off + i, none⟩ = some (.int .i64 (p.getD i 0))) := hcl
    have HG : Hid _ := hg
    have HNO : Hid _ := @wcode_none n es p h0 hp0 (by omega) h2
    have HYE : Hid _ := fun s => @wcode_some n s es p h0 hp0 (by omega) h2
    have hl6 := hg.len
    by_cases hc1 : cap = 1
    · have hp2 : p.length = 1 := by omega
      subst hc1
      refine cost_one n _ b off es p w hv hu hlen hp2 hc (HYE.out 0 (sofar_end (k := 0) (sofar_start es p) (by omega)))
    have hcapi : (p.length : Int) ≤ (cap : Int) := by omega
    have hp0i : (1 : Int) ≤ (p.length : Int) := by omega
    clear hv hu hc h0 h1 h2 hg hcl
    go_enter Try.func48, Try.ntmps48
    go_wp2_with fail
    have P0 : Hid _ := box2_new w n (.slice a0 es.length c0) 24
    have B0 : Hid (Below w.heap.size w (w.alloc (.cells #[.int .i64 n, .slice a0 es.length c0] 24))) := balloc (Below.refl _ _) _
    generalize w.alloc (.cells #[.int .i64 n, .slice a0 es.length c0] 24) = W0 at *
    refine (pcheck_any n _ _ es p W0 (HV.out.below B0.out) (HU.out.below B0.out) hlen hl).mono ?_
    rintro e w1 ⟨rfl, b1⟩
    rw [HC.out]
    have P1 : Hid _ := P0.out.below b1
    have B1 : Hid (Below w.heap.size w w1) := bthen B0.out b1
    clear b1 P0 B0
    go_wp2_with fail
    go_loopw [21, 7] (fun z s wr => ∃ (k : Nat) (t : Int), z = .int .i64 k ∧ k + 1 ≤ p.length ∧ s = .int .i64 t ∧ -10000 * (k : Int) ≤ t ∧ t ≤ 10000 * (k : Int) ∧ Sofar es p k t ∧ Below w1.heap.size w1 wr) (fun z _ _ => p.length - (intOf z).toNat)
    case atStart => exact ⟨0, 0, rfl, by omega, rfl, by omega, by omega, sofar_start es p, Below.refl _ _⟩
    case round =>
      obtain ⟨k, t, rfl, hk, rfl, ht1, ht2, hs, hb⟩ := hrel
      have HS : Hid _ := hs
      have HB : Hid (Below w1.heap.size w1 wr) := hb
      clear hs hb
      by_cases hlt : k + 1 < p.length
      · have hki : (k : Int) < ((p.length - 1 : Nat) : Int) := by omega
        have hki2 : (k : Int) < (p.length : Int) := by omega
        have hki3 : (k : Int) + 1 < (p.length : Int) := by omega
        have d0 := kept HB.out (kept B1.out (HCL.out k (by omega)))
        have d1 := kept HB.out (kept B1.out (HCL.out (k + 1) hlt))
        rw [show off + (k + 1) = off + 1 + k by omega] at d1
        have HNX : Hid _ := fun c => @sofar_next es p k t c HS.out hlt
        have HGO : Hid _ := @sofar_gone es p k t HS.out hlt
        obtain ⟨x, hx⟩ : ∃ x, p.getD k 0 = x := ⟨_, rfl⟩
        obtain ⟨y, hy⟩ : ∃ y, p.getD (k + 1) 0 = y := ⟨_, rfl⟩
        rw [hx] at d0 HNX HGO
        rw [hy] at d1 HNX HGO
        clear hx hy
        have P2 : Hid _ := P1.out.below HB.out
        have V2 : Hid _ := (HV.out.below B1.out).below HB.out
        obtain ⟨p0, p1⟩ := P2.out
        cases hch : chp x y es with
        | none =>
          have HCH : Hid _ := hch
          have HF : Hid _ := HNO.out (HGO.out hch)
          clear hch
          go_wp2_with fail
          go_region_held3 (fun w' => w'.cell? ⟨w.heap.size, 0, none⟩ = some (.int .i64 n) ∧ w'.cell? ⟨w.heap.size, 1, none⟩ = some (.slice a0 es.length c0) ∧ w'.cell? ⟨b, off + k, none⟩ = some (.int .i64 x))
            (first | go_keep | (refine ⟨kept hb1 ?_, kept hb1 ?_, kept hb1 ?_⟩ <;> assumption))
            (first
             | (go_at_call 77; refine (cheapest_none n x y _ es _ (V2.out.below (Below.drew (Below.refl _ _))) hl6 HCH.out).mono ?_; rintro e w3 ⟨rfl, hb1⟩))
          go_wp2_with fail
          go_ret2
          exact ⟨by (rw [HF.out]) <;> rfl, bthen (bthen B1.out HB.out) (bthen (Below.drew (Below.refl _ _)) hb1)⟩
        | some c =>
          have HCH : Hid _ := hch
          have hcb := chp_bound' HG.out hch
          have HF : Hid _ := HNX.out c hch
          clear hch
          go_wp2_with fail
          go_region_held3 (fun w' => w'.cell? ⟨w.heap.size, 0, none⟩ = some (.int .i64 n) ∧ w'.cell? ⟨w.heap.size, 1, none⟩ = some (.slice a0 es.length c0) ∧ w'.cell? ⟨b, off + k, none⟩ = some (.int .i64 x))
            (first | go_keep | (refine ⟨kept hb1 ?_, kept hb1 ?_, kept hb1 ?_⟩ <;> assumption))
            (first
             | (go_at_call 77; refine (cheapest_some n x y c _ es _ (V2.out.below (Below.drew (Below.refl _ _))) hl6 HCH.out).mono ?_; rintro e w3 ⟨rfl, hb1⟩))
          have B3 : Hid (Below w1.heap.size w1 w3) := bthen HB.out (bthen (Below.drew (Below.refl _ _)) hb1)
          clear hb1
          go_wp2_with fail
          go_roundw
          case rel => exact ⟨k + 1, t + c, by go_num, by omega, by go_num, by omega, by omega, HF.out, B3.out⟩
          case measure => simp [intOf]; omega
      · have hke : k + 1 = p.length := by omega
        have hki : ¬ (k : Int) < ((p.length - 1 : Nat) : Int) := by omega
        have HF : Hid _ := HYE.out t (sofar_end HS.out hke)
        clear hke
        go_wp2_with fail
        go_ret2
        exact ⟨by (rw [HF.out]) <;> rfl, bthen B1.out HB.out⟩
  · obtain ⟨a0, c0, rfl⟩ := hv.val
    obtain ⟨a1, c1, rfl⟩ := hu.val
    have HV : Hid _ := hv
    have HU : Hid _ := hu
    have HF : Hid _ := wcode_pck hc
    have hz : (pck n es p != 0) = true := by simp [hc]
    clear hv hu hc
    go_enter Try.func48, Try.ntmps48
    go_wp2_with fail
    have B0 : Hid (Below w.heap.size w (w.alloc (.cells #[.int .i64 n, .slice a0 es.length c0] 24))) := balloc (Below.refl _ _) _
    generalize w.alloc (.cells #[.int .i64 n, .slice a0 es.length c0] 24) = W0 at *
    refine (pcheck_any n _ _ es p W0 (HV.out.below B0.out) (HU.out.below B0.out) hlen hl).mono ?_
    rintro e w1 ⟨rfl, b1⟩
    go_wp2_with fail
    go_ret2
    exact ⟨by (rw [HF.out]) <;> rfl, bthen B0.out b1⟩
end Go.Proofs.Ytefikbjjdldomaa
