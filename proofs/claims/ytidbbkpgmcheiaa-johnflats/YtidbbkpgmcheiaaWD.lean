/-
  Contract: the document's cost of a walk.
-/
import Derived.Test.YtidbbkpgmcheiaaWC
import Derived.Test.YtidbbkpgmcheiaaNB
namespace Go.Proofs.Ytidbbkpgmcheiaa
open Go.RowKit
open Nm Wm
attribute [local go_sem ↓] Go.wp_at_zero Go.wp_at_succ

theorem edg_some {u x c : Int} {es : List E} (h : chp u x es = some c) : edg u x es = c := by unfold edg; rw [h]; rfl
theorem edg_none {u x : Int} {es : List E} (h : chp u x es = none) : edg u x es = 1099511627776 := by unfold edg; rw [h]; rfl
theorem redge_at (n u x c : Int) (v : Value) (es : List E) (w : World) (hv : SlE w v es) (hg : Gn n es) (h : edg u x es = c) :
    Calls Try.prog 56 #[.agg #[.int .i64 n, v], .int .i64 u, .int .i64 x] w fun e w' => e = .returned (.int .i64 c) ∧ Below w.heap.size w w' := by
  have := redge_any n u x v es w hv hg; rw [h] at this; exact this
theorem min_at (p : List Int) (v : Value) (m : Int) (w : World) (hv : SlI w v p) (h0 : 0 < p.length) (hl : p.length ≤ 100) (h : mn p p.length = m) :
    Calls Try.prog 26 #[v] w fun e w' => e = .returned (.int .i64 m) ∧ w' = w := by
  have := min_any p v w hv h0 hl; rw [h] at this; exact this
theorem max_at (p : List Int) (v : Value) (m : Int) (w : World) (hv : SlI w v p) (h0 : 0 < p.length) (hl : p.length ≤ 100) (h : mx p p.length = m) :
    Calls Try.prog 27 #[v] w fun e w' => e = .returned (.int .i64 m) ∧ w' = w := by
  have := max_any p v w hv h0 hl; rw [h] at this; exact this

set_option maxRecDepth 100000 in
set_option maxHeartbeats 8000000 in
theorem rwalk_any (n : Int) (v u : Value) (es : List E) (p : List Int) (w : World) (hv : SlE w v es) (hu : SlI w u p) (hlen : es.length ≤ 9223372036854775807) (hl : p.length ≤ 9223372036854775807) :
    Calls Try.prog 21 #[.agg #[.int .i64 n, v], u] w fun e w' => e = .returned (.tuple #[.int .i64 (wcode n es p).1, .int .i64 (wcode n es p).2]) ∧ Below w.heap.size w w' := by
  obtain ⟨a0, c0, rfl⟩ := hv.val
  obtain ⟨a1, c1, rfl⟩ := hu.val
  have HV : Hid _ := hv
  have HU : Hid _ := hu
  clear hv hu
  by_cases h0 : nck n es = 0
  · have hg := nck_zero.1 h0
    have HG : Hid _ := hg
    have HC : Hid _ := h0
    have hl6 := hg.len
    clear hg
    by_cases h1 : p.length = 0
    · have HF : Hid _ := wcode_nil h0 h1
      have h1i : ((p.length : Int) == 0) = true := by simp [h1]
      clear h0 h1
      go_enter Try.func21, Try.ntmps21
      go_wp2_with fail
      have B0 : Hid (Below w.heap.size w (w.alloc (.cells #[.int .i64 n, .slice a0 es.length c0] 24))) := balloc (Below.refl _ _) _
      generalize w.alloc (.cells #[.int .i64 n, .slice a0 es.length c0] 24) = W0 at *
      refine (rnet_any n _ es W0 (HV.out.below B0.out) hlen).mono ?_
      rintro e w1 ⟨rfl, b1⟩
      rw [HC.out]
      go_wp2_with fail
      go_ret2
      exact ⟨by (rw [HF.out]) <;> rfl, bthen B0.out b1⟩
    have h1i : ((p.length : Int) == 0) = false := by simp; exact fun e => h1 (by simp [e])
    by_cases h2 : 100 < p.length
    · have HF : Hid _ := wcode_long h0 h2
      have h2i : (100 : Int) < (p.length : Int) := by omega
      clear h0 h1
      go_enter Try.func21, Try.ntmps21
      go_wp2_with fail
      have B0 : Hid (Below w.heap.size w (w.alloc (.cells #[.int .i64 n, .slice a0 es.length c0] 24))) := balloc (Below.refl _ _) _
      generalize w.alloc (.cells #[.int .i64 n, .slice a0 es.length c0] 24) = W0 at *
      refine (rnet_any n _ es W0 (HV.out.below B0.out) hlen).mono ?_
      rintro e w1 ⟨rfl, b1⟩
      rw [HC.out]
      go_wp2_with fail
      go_ret2
      exact ⟨by (rw [HF.out]) <;> rfl, bthen B0.out b1⟩
    have h2i : ¬ (100 : Int) < (p.length : Int) := by omega
    have hl1 : p.length ≤ 100 := by omega
    have hl0 : 0 < p.length := by omega
    obtain ⟨m, hm⟩ : ∃ m, mn p p.length = m := ⟨_, rfl⟩
    obtain ⟨M, hM⟩ : ∃ M, mx p p.length = M := ⟨_, rfl⟩
    have HM : Hid _ := hm
    have HMX : Hid _ := hM
    have hiff := mn_mx (n := n) hl0
    rw [hm, hM] at hiff
    have HI : Hid _ := hiff
    clear hm hM hiff
    by_cases h3 : m < 0
    · have HF : Hid _ := wcode_out h0 h1 h2 (by cases ha : p.all (plc n); · rfl
                                                · exact absurd h3 (HI.out.1 ha).1)
      clear h0 h1
      go_enter Try.func21, Try.ntmps21
      go_wp2_with fail
      have P0 : Hid _ := box2_new w n (.slice a0 es.length c0) 24
      have B0 : Hid (Below w.heap.size w (w.alloc (.cells #[.int .i64 n, .slice a0 es.length c0] 24))) := balloc (Below.refl _ _) _
      generalize w.alloc (.cells #[.int .i64 n, .slice a0 es.length c0] 24) = W0 at *
      refine (rnet_any n _ es W0 (HV.out.below B0.out) hlen).mono ?_
      rintro e w1 ⟨rfl, b1⟩
      rw [HC.out]
      obtain ⟨p0, p1⟩ := P0.out.below b1
      have B1 : Hid (Below w.heap.size w w1) := bthen B0.out b1
      have U1 : Hid _ := HU.out.below B1.out
      clear b1
      go_wp2_with fail
      go_quiet ((go_at_call 26; exact Calls.quiet_of_same (min_at p _ m _ (by first | exact U1.out | exact U1.out.drewN _) hl0 hl1 HM.out)))
      go_wp2_with fail
      go_ret2
      exact ⟨by (rw [HF.out]) <;> rfl, bdrewN B1.out _⟩
    have h3d : decide (m < 0) = false := decide_eq_false h3
    by_cases h4 : n ≤ M
    · have HF : Hid _ := wcode_out h0 h1 h2 (by cases ha : p.all (plc n); · rfl
                                                · exact absurd h4 (HI.out.1 ha).2)
      clear h0 h1
      go_enter Try.func21, Try.ntmps21
      go_wp2_with fail
      have P0 : Hid _ := box2_new w n (.slice a0 es.length c0) 24
      have B0 : Hid (Below w.heap.size w (w.alloc (.cells #[.int .i64 n, .slice a0 es.length c0] 24))) := balloc (Below.refl _ _) _
      generalize w.alloc (.cells #[.int .i64 n, .slice a0 es.length c0] 24) = W0 at *
      refine (rnet_any n _ es W0 (HV.out.below B0.out) hlen).mono ?_
      rintro e w1 ⟨rfl, b1⟩
      rw [HC.out]
      obtain ⟨p0, p1⟩ := P0.out.below b1
      have B1 : Hid (Below w.heap.size w w1) := bthen B0.out b1
      have U1 : Hid _ := HU.out.below B1.out
      clear b1
      go_wp2_with fail
      go_quiet ((first | (go_at_call 26; exact Calls.quiet_of_same (min_at p _ m _ (by first | exact U1.out | exact U1.out.drewN _) hl0 hl1 HM.out)) | (go_at_call 27; exact Calls.quiet_of_same (max_at p _ M _ (by first | exact U1.out | exact U1.out.drewN _) hl0 hl1 HMX.out))))
      go_wp2_with fail
      go_ret2
      exact ⟨by (rw [HF.out]) <;> rfl, bdrewN B1.out _⟩
    have hall : p.all (plc n) = true := HI.out.2 ⟨h3, h4⟩
    have HNO : Hid _ := @wcode_none n es p h0 h1 h2 hall
    have HYE : Hid _ := fun s => @wcode_some n s es p h0 h1 h2 hall
    clear h0 h1 hall
    obtain ⟨b, off, cap, hveq, hcl⟩ := HU.out.some' hl0
    simp only [Value.slice.injEq] at hveq
    obtain ⟨rfl, -, rfl⟩ := hveq
    have HCL : Hid (∀ i, i < p.length → w.cell? ⟨b, off + i, none⟩ = some (.int .i64 (p.getD i 0))) := hcl
    clear hcl
    go_enter Try.func21, Try.ntmps21
    go_wp2_with fail
    have P0 : Hid _ := box2_new w n (.slice a0 es.length c0) 24
    have B0 : Hid (Below w.heap.size w (w.alloc (.cells #[.int .i64 n, .slice a0 es.length c0] 24))) := balloc (Below.refl _ _) _
    generalize w.alloc (.cells #[.int .i64 n, .slice a0 es.length c0] 24) = W0 at *
    refine (rnet_any n _ es W0 (HV.out.below B0.out) hlen).mono ?_
    rintro e w1 ⟨rfl, b1⟩
    rw [HC.out]
    obtain ⟨p0, p1⟩ := P0.out.below b1
    have P1 : Hid _ := P0.out.below b1
    have B1 : Hid (Below w.heap.size w w1) := bthen B0.out b1
    have U1 : Hid _ := HU.out.below B1.out
    clear b1
    go_wp2_with fail
    go_quiet ((first | (go_at_call 26; exact Calls.quiet_of_same (min_at p _ m _ (by first | exact U1.out | exact U1.out.drewN _) hl0 hl1 HM.out)) | (go_at_call 27; exact Calls.quiet_of_same (max_at p _ M _ (by first | exact U1.out | exact U1.out.drewN _) hl0 hl1 HMX.out))))
    have B2 : Hid (Below w.heap.size w (w1.drewN nq)) := bdrewN B1.out _
    have P2 : Hid _ := P1.out.below (bdrewN (Below.refl _ _) nq)
    generalize w1.drewN nq = w2 at *
    clear p0 p1 P1 P0 B1 B0 U1
    go_wp2_with fail
    go_loopw [37, 7] (fun z s wr => ∃ (k : Nat) (t : Int), z = .int .i64 k ∧ k + 1 ≤ p.length ∧ s = .int .i64 t ∧ -10000 * (k : Int) ≤ t ∧ t ≤ 10000 * (k : Int) ∧ Sofar es p k t ∧ Below w2.heap.size w2 wr) (fun z _ _ => p.length - (intOf z).toNat)
    case atStart => exact ⟨0, 0, rfl, by omega, rfl, by omega, by omega, sofar_start es p, Below.refl _ _⟩
    case round =>
      obtain ⟨k, t, rfl, hk, rfl, ht1, ht2, hs, hb⟩ := hrel
      have HS : Hid _ := hs
      have HB : Hid (Below w2.heap.size w2 wr) := hb
      clear hs hb
      by_cases hlt : k + 1 < p.length
      · have hki : (k : Int) < (p.length : Int) - 1 := by omega
        have hki2 : (k : Int) < (p.length : Int) := by omega
        obtain ⟨e, he⟩ : ∃ e : Nat, e = k + 1 := ⟨_, rfl⟩
        have hei : (k : Int) + 1 = (e : Int) := by omega
        have hew : IntKind.i64.wrap (e : Int) = (e : Int) := by rw [IntKind.wrap_i64]; omega
        have hki3 : (e : Int) < (p.length : Int) := by omega
        have d0 := kept HB.out (kept B2.out (HCL.out k (by omega)))
        have d1 := kept HB.out (kept B2.out (HCL.out e (by omega)))
        have HNX : Hid _ := fun c => @sofar_next es p k t c HS.out hlt
        have HGO : Hid _ := @sofar_gone es p k t HS.out hlt
        obtain ⟨x, hx⟩ : ∃ x, p.getD k 0 = x := ⟨_, rfl⟩
        obtain ⟨y, hy⟩ : ∃ y, p.getD e 0 = y := ⟨_, rfl⟩
        rw [← he] at HGO
        have HNX : Hid (∀ c, chp (p.getD k 0) (p.getD e 0) es = some c → Sofar es p (k + 1) (t + c)) := by rw [he]; exact fun c => HNX.out c
        rw [hx] at d0 HNX HGO
        rw [hy] at d1 HNX HGO
        clear hx hy he
        have P3 : Hid _ := P2.out.below HB.out
        have V3 : Hid _ := (HV.out.below B2.out).below HB.out
        obtain ⟨p0, p1⟩ := P3.out
        cases hch : chp x y es with
        | none =>
          have HCH : Hid _ := edg_none hch
          have HF : Hid _ := HNO.out (HGO.out hch)
          clear hch
          go_wp2_with fail
          go_region_held3 (fun w' => w'.cell? ⟨w.heap.size, 0, none⟩ = some (.int .i64 n) ∧ w'.cell? ⟨w.heap.size, 1, none⟩ = some (.slice a0 es.length c0) ∧ w'.cell? ⟨b, off + k, none⟩ = some (.int .i64 x) ∧ w'.cell? ⟨b, off + e, none⟩ = some (.int .i64 y))
            (first | go_keep | (refine ⟨kept hb1 ?_, kept hb1 ?_, kept hb1 ?_, kept hb1 ?_⟩ <;> assumption))
            (first
             | (go_at_call 56; refine (redge_at n x y 1099511627776 _ es _ (V3.out.below (Below.drew (Below.refl _ _))) HG.out HCH.out).mono ?_; rintro e w3 ⟨rfl, hb1⟩))
          go_wp2_with fail
          go_ret2
          exact ⟨by (rw [HF.out]) <;> rfl, bthen (bthen B2.out HB.out) (bthen (Below.drew (Below.refl _ _)) hb1)⟩
        | some c =>
          have HCH : Hid _ := edg_some hch
          have hcb := chp_bound' HG.out hch
          have hcf : (c == 1099511627776) = false := by simp; omega
          have HF : Hid _ := HNX.out c hch
          clear hch
          go_wp2_with fail
          go_region_held3 (fun w' => w'.cell? ⟨w.heap.size, 0, none⟩ = some (.int .i64 n) ∧ w'.cell? ⟨w.heap.size, 1, none⟩ = some (.slice a0 es.length c0) ∧ w'.cell? ⟨b, off + k, none⟩ = some (.int .i64 x) ∧ w'.cell? ⟨b, off + e, none⟩ = some (.int .i64 y))
            (first | go_keep | (refine ⟨kept hb1 ?_, kept hb1 ?_, kept hb1 ?_, kept hb1 ?_⟩ <;> assumption))
            (first
             | (go_at_call 56; refine (redge_at n x y c _ es _ (V3.out.below (Below.drew (Below.refl _ _))) HG.out HCH.out).mono ?_; rintro e w3 ⟨rfl, hb1⟩))
          have B3 : Hid (Below w2.heap.size w2 w3) := bthen HB.out (bthen (Below.drew (Below.refl _ _)) hb1)
          clear hb1
          go_wp2_with fail
          go_roundw
          case rel => exact ⟨k + 1, t + c, by go_num, by omega, by go_num, by omega, by omega, HF.out, B3.out⟩
          case measure => simp [intOf]; omega
      · have hke : k + 1 = p.length := by omega
        have hki : ¬ (k : Int) < (p.length : Int) - 1 := by omega
        have HF : Hid _ := HYE.out t (sofar_end HS.out hke)
        clear hke
        go_wp2_with fail
        go_ret2
        exact ⟨by (rw [HF.out]) <;> rfl, bthen B2.out HB.out⟩
  · have HF : Hid _ := wcode_net p h0
    have hz : (nck n es != 0) = true := by simp [h0]
    clear h0
    go_enter Try.func21, Try.ntmps21
    go_wp2_with fail
    have B0 : Hid (Below w.heap.size w (w.alloc (.cells #[.int .i64 n, .slice a0 es.length c0] 24))) := balloc (Below.refl _ _) _
    generalize w.alloc (.cells #[.int .i64 n, .slice a0 es.length c0] 24) = W0 at *
    refine (rnet_any n _ es W0 (HV.out.below B0.out) hlen).mono ?_
    rintro e w1 ⟨rfl, b1⟩
    go_wp2_with fail
    go_ret2
    exact ⟨by (rw [HF.out]) <;> rfl, bthen B0.out b1⟩
end Go.Proofs.Ytidbbkpgmcheiaa
