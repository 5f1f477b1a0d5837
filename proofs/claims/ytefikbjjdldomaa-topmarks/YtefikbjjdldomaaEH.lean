/-
  Contract: heur.greatest.
-/
import Derived.Test.YtefikbjjdldomaaEG
import Derived.Test.YtefikbjjdldomaaRP
import Derived.Deep.QuietTactic
import Derived.BigQuiet
import Derived.Laws.Cover1
namespace Go.Proofs.Ytefikbjjdldomaa
open Go.RowKit
open Nm Wm Dm
attribute [local go_sem ↓] Go.wp_at_zero Go.wp_at_succ

theorem ret_val {a b : Int} (h : a = b) : Value.int .i64 a = Value.int .i64 b := by rw [h]
theorem run_max3 {P : Program} (w : World) (ts : Array TypeId) (t : TypeId) (a b c : Int) :
    (Builtin.max_ ts t #[.int .i64 a, .int .i64 b, .int .i64 c]).run P w = .ok (.int .i64 (max (max a b) c)) w := by
  rw [run_max_int3]
  have e : (if c > (if b > a then b else a) then c else (if b > a then b else a)) = max (max a b) c := by
    split <;> (try split) <;> omega
  rw [e]
attribute [local go_sem] run_max3
set_option maxRecDepth 100000 in
set_option maxHeartbeats 32000000 in
theorem greatest_any (n v t : Nat) (v1 v2 : Value) (F T : List (List Int)) (w : World) (h1 : SlT w v1 F) (h2 : SlT w v2 T) (hl : T.length = F.length) (hF : Rt n F) (hT : Rt n T) (hv : v < n) (ht : t < n) :
    Calls Try.prog 53 #[.agg #[v1, v2], .int .i64 v, .int .i64 t] w fun e w' => e = .returned (.int .i64 (gre F T v t F.length)) ∧ Below w.heap.size w w' := by
  obtain ⟨a1, c1, rfl⟩ := h1.val
  obtain ⟨a2, c2, rfl⟩ := h2.val
  have H1 : Hid _ := h1
  have H2 : Hid _ := h2
  have HL : Hid _ := hl
  have HF : Hid _ := hF
  have HT : Hid _ := hT
  have hf4 := hF.len
  clear h1 h2 hl hF hT
  go_enter Try.func53, Try.ntmps53
  have B0 : Hid (Below w.heap.size w (w.alloc (.cells #[.slice a1 F.length c1, .slice a2 T.length c2] 76))) := balloc (Below.refl _ _) _
  have C1 : Hid _ := cell_new w #[.slice a1 F.length c1, .slice a2 T.length c2] 76 0 _ rfl
  have C2 : Hid _ := cell_new w #[.slice a1 F.length c1, .slice a2 T.length c2] 76 1 _ rfl
  have q1 := C1.out
  have q2 := C2.out
  go_wp2_with fail
  generalize w.alloc (.cells #[.slice a1 F.length c1, .slice a2 T.length c2] 76) = W0 at *
  go_loopw [12, 7] (fun z m wr => ∃ k : Nat, z = .int .i64 k ∧ k ≤ F.length ∧ m = .int .i64 (gre F T v t k) ∧ 0 ≤ gre F T v t k ∧ gre F T v t k ≤ 1099511627776 ∧ Below W0.heap.size W0 wr) (fun z _ _ => F.length - (intOf z).toNat)
  case atStart => exact ⟨0, rfl, Nat.zero_le _, rfl, by simp [gre], by simp [gre], Below.refl _ _⟩
  case round =>
    clear q1 q2
    obtain ⟨k, rfl, hk, rfl, hm0, hm1, hb⟩ := hrel
    have HB : Hid (Below W0.heap.size W0 wr) := hb
    clear hb
    have q1 := kept HB.out C1.out
    have q2 := kept HB.out C2.out
    by_cases hlt : k < F.length
    · have hki : (k : Int) < (F.length : Int) := by omega
      have hkT : (k : Int) < (T.length : Int) := by rw [HL.out]; omega
      obtain ⟨b1, o1, cc1, hveq, hcl⟩ := ((H1.out.below B0.out).below HB.out).some' (by omega)
      simp only [Value.slice.injEq] at hveq
      obtain ⟨rfl, -, rfl⟩ := hveq
      obtain ⟨u1, r1, s1⟩ := hcl k hlt
      clear hcl
      obtain ⟨b2, o2, cc2, hveq, hcl⟩ := ((H2.out.below B0.out).below HB.out).some' (by rw [HL.out]; omega)
      simp only [Value.slice.injEq] at hveq
      obtain ⟨rfl, -, rfl⟩ := hveq
      obtain ⟨u2, r2, s2⟩ := hcl k (by rw [HL.out]; exact hlt)
      clear hcl
      obtain ⟨m1, g1⟩ := HF.out.ok k hlt
      obtain ⟨m2, g2⟩ := HT.out.ok k (by rw [HL.out]; exact hlt)
      have HN : Hid (gre F T v t (k + 1) = max (max (gre F T v t k) (apt ((F.getD k []).getD v 0) ((F.getD k []).getD t 0))) (apt ((T.getD k []).getD t 0) ((T.getD k []).getD v 0))) := rfl
      generalize F.getD k [] = f at *
      generalize T.getD k [] = g at *
      generalize gre F T v t k = m at *
      obtain ⟨b3, o3, c3, rfl, d1⟩ := s1.some' (by omega)
      obtain ⟨b4, o4, c4, rfl, d2⟩ := s2.some' (by omega)
      have e1 := d1 v (by omega)
      have e2 := d1 t (by omega)
      have e3 := d2 t (by omega)
      have e4 := d2 v (by omega)
      have hv1 : (v : Int) < (f.length : Int) := by omega
      have ht1 : (t : Int) < (f.length : Int) := by omega
      have hv2 : (v : Int) < (g.length : Int) := by omega
      have ht2 : (t : Int) < (g.length : Int) := by omega
      have z1 := g1 v hv
      have z2 := g1 t ht
      have z3 := g2 t ht
      have z4 := g2 v hv
      clear d1 d2 g1 g2 s1 s2
      generalize f.getD v 0 = p1 at *
      generalize f.getD t 0 = p2 at *
      generalize g.getD t 0 = p3 at *
      generalize g.getD v 0 = p4 at *
      have HA : Hid _ := fun w' : World => apart_any p1 p2 w' z1 z2
      have HC : Hid _ := fun w' : World => apart_any p3 p4 w' z3 z4
      have x0 := apt_lo z1.1 z2.1
      have x1 := apt_hi z1.1 z2.2
      have y0 := apt_lo z3.1 z4.1
      have y1 := apt_hi z3.1 z4.2
      generalize apt p1 p2 = x at *
      generalize apt p3 p4 = y at *
      clear z1 z2 z3 z4 m1 m2
      go_wp2_with fail
      refine wp_region_quiet_lit (by kernel_rfl) (by kernel_rfl) ?_
      (iterate 17 (go_big_quiet_step (fail)))
      go_big_quiet_step (exact Calls.quiet_of_same (HA.out _))
      (iterate 16 (go_big_quiet_step (fail)))
      go_big_quiet_step (exact Calls.quiet_of_same (HC.out _))
      (iterate 2 (go_big_quiet_step (fail)))
      refine wpQuiet_nil ?_
      intro _ hw'
      obtain ⟨nq, hw''⟩ := hw'
      subst hw''
      go_wp2_with fail
      go_roundw
      case rel => exact ⟨k + 1, by go_num, by omega, ret_val (by rw [HN.out]; omega), by rw [HN.out]; omega, by rw [HN.out]; omega, bdrewN HB.out _⟩
      case measure => simp [intOf]; omega
    · obtain rfl : k = F.length := by omega
      go_wp2_with fail
      go_ret
      exact ⟨rfl, bthen B0.out HB.out⟩
end Go.Proofs.Ytefikbjjdldomaa
