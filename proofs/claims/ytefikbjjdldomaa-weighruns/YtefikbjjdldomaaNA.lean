/-
  Edges as they are read; the contracts of IsPlace and Check.
-/
import Derived.Test.YtefikbjjdldomaaBA
namespace Go.Proofs.Ytefikbjjdldomaa
open Go.RowKit
open Nm

/-- A slice of edges, as it is read. -/
structure SlE (w : World) (v : Value) (es : List E) : Prop where
  is : (∃ (a : Option Addr) (c : Nat), (v = .slice a 0 c) ∧ (es = [])) ∨ ∃ (b off cap : Nat), (v = .slice (some ⟨b, off, none⟩) es.length cap) ∧ (∀ i, i < es.length → w.cell? ⟨b, off + i * 3, none⟩ = some (.int .i64 (at3 es i).1) ∧ w.cell? ⟨b, off + i * 3 + 1, none⟩ = some (.int .i64 (at3 es i).2.1) ∧ w.cell? ⟨b, off + i * 3 + 2, none⟩ = some (.int .i64 (at3 es i).2.2))
theorem SlE.no {w : World} {v : Value} {es : List E} (a : Option Addr) (c : Nat) (h : v = .slice a 0 c) (e : es = []) : SlE w v es := ⟨.inl ⟨a, c, h, e⟩⟩
theorem SlE.row {w : World} {v : Value} {es : List E} (b off cap : Nat) (h : v = .slice (some ⟨b, off, none⟩) es.length cap) (hc : ∀ i, i < es.length → w.cell? ⟨b, off + i * 3, none⟩ = some (.int .i64 (at3 es i).1) ∧ w.cell? ⟨b, off + i * 3 + 1, none⟩ = some (.int .i64 (at3 es i).2.1) ∧ w.cell? ⟨b, off + i * 3 + 2, none⟩ = some (.int .i64 (at3 es i).2.2)) : SlE w v es := ⟨.inr ⟨b, off, cap, h, hc⟩⟩
theorem SlE.below {w w' : World} {v : Value} {es : List E} (h : SlE w v es) (hb : Below w.heap.size w w') : SlE w' v es := by
  rcases h.is with ⟨a, c, h, e⟩ | ⟨b, off, cap, hv, hc⟩
  · exact .no a c h e
  · exact .row b off cap hv (fun i hi => ⟨kept hb (hc i hi).1, kept hb (hc i hi).2.1, kept hb (hc i hi).2.2⟩)
theorem SlE.val {w : World} {v : Value} {es : List E} (h : SlE w v es) : ∃ a c, v = .slice a es.length c := by
  rcases h.is with ⟨a, c, rfl, rfl⟩ | ⟨b, off, cap, rfl, _⟩
  · exact ⟨_, _, rfl⟩
  · exact ⟨_, _, rfl⟩
theorem SlE.some' {w : World} {v : Value} {es : List E} (h : SlE w v es) (hl : 0 < es.length) : ∃ b off cap, v = .slice (some ⟨b, off, none⟩) es.length cap ∧ ∀ i, i < es.length → w.cell? ⟨b, off + i * 3, none⟩ = some (.int .i64 (at3 es i).1) ∧ w.cell? ⟨b, off + i * 3 + 1, none⟩ = some (.int .i64 (at3 es i).2.1) ∧ w.cell? ⟨b, off + i * 3 + 2, none⟩ = some (.int .i64 (at3 es i).2.2) := by
  rcases h.is with ⟨_, _, _, rfl⟩ | ⟨b, off, cap, hv, hc⟩
  · simp at hl
  · exact ⟨b, off, cap, hv, hc⟩
/-- The net's box. -/
structure Box2 (W : World) (B : Nat) (n : Int) (v : Value) : Prop where
  g0 : W.cell? ⟨B, 0, none⟩ = some (.int .i64 n)
  g1 : W.cell? ⟨B, 1, none⟩ = some v
theorem Box2.below {W W' : World} {B : Nat} {n : Int} {v : Value} (h : Box2 W B n v) (hb : Below W.heap.size W W') : Box2 W' B n v :=
  ⟨kept hb h.g0, kept hb h.g1⟩
theorem box2_new (w : World) (n : Int) (v : Value) (t : TypeId) : Box2 (w.alloc (.cells #[.int .i64 n, v] t)) w.heap.size n v :=
  ⟨cell_new w _ _ 0 _ rfl, cell_new w _ _ 1 _ rfl⟩
theorem isPlace_any (n v : Int) (a : Option Addr) (l c : Nat) (w : World) : Calls Try.prog 50 #[.agg #[.int .i64 n, .slice a l c], .int .i64 v] w fun e w' => e = .returned (.bool (plc n v)) ∧ Below w.heap.size w w' := by
  by_cases h0 : 0 ≤ v
  · by_cases h1 : v < n
    · have HF : Hid _ := plc_yes h0 h1
      go_enter Try.func50, Try.ntmps50
      go_wp2_with fail
      go_ret
      exact ⟨ret_bool HF.out.symm, balloc (Below.refl _ _) _⟩
    · have HF : Hid _ := plc_no (n := n) (v := v) (by omega)
      go_enter Try.func50, Try.ntmps50
      go_wp2_with fail
      go_ret
      exact ⟨ret_bool HF.out.symm, balloc (Below.refl _ _) _⟩
  · have HF : Hid _ := plc_no (n := n) (v := v) (by omega)
    go_enter Try.func50, Try.ntmps50
    go_wp2_with fail
    go_ret
    exact ⟨ret_bool HF.out.symm, balloc (Below.refl _ _) _⟩
theorem isPlace_at (n v : Int) (b : Bool) (a : Option Addr) (l c : Nat) (w : World) (h : plc n v = b) : Calls Try.prog 50 #[.agg #[.int .i64 n, .slice a l c], .int .i64 v] w fun e w' => e = .returned (.bool b) ∧ Below w.heap.size w w' := by
  have := isPlace_any n v a l c w; rw [h] at this; exact this
set_option maxRecDepth 100000 in
set_option maxHeartbeats 8000000 in
theorem ncheck_any (n : Int) (v : Value) (es : List E) (w : World) (hv : SlE w v es) (hlen : es.length ≤ 9223372036854775807) :
    Calls Try.prog 78 #[.agg #[.int .i64 n, v]] w fun e w' => e = .returned (.int .i64 (nck n es)) ∧ Below w.heap.size w w' := by
  obtain ⟨a0, c0, rfl⟩ := hv.val
  have HV : Hid _ := hv
  clear hv
  by_cases h1 : n < 1
  · have HC : Hid _ := nck_n es (.inl h1)
    go_enter Try.func78, Try.ntmps78
    go_wp2_with fail
    go_ret
    exact ⟨ret_int HC.out.symm, balloc (Below.refl _ _) _⟩
  by_cases h2 : 64 < n
  · have HC : Hid _ := nck_n es (.inr h2)
    go_enter Try.func78, Try.ntmps78
    go_wp2_with fail
    go_ret
    exact ⟨ret_int HC.out.symm, balloc (Below.refl _ _) _⟩
  by_cases h3 : 600 < es.length
  · have HC : Hid _ := nck_l (n := n) (by omega) h3
    have h3i : (600 : Int) < (es.length : Int) := by omega
    go_enter Try.func78, Try.ntmps78
    go_wp2_with fail
    go_ret
    exact ⟨ret_int HC.out.symm, balloc (Below.refl _ _) _⟩
  have HC : Hid _ := nck_e (n := n) (by omega) h3
  have h3i : ¬ (600 : Int) < (es.length : Int) := by omega
  go_enter Try.func78, Try.ntmps78
  go_wp2_with fail
  have P0 : Hid _ := box2_new w n (.slice a0 es.length c0) 24
  have B0 : Hid (Below w.heap.size w (w.alloc (.cells #[.int .i64 n, .slice a0 es.length c0] 24))) := balloc (Below.refl _ _) _
  generalize w.alloc (.cells #[.int .i64 n, .slice a0 es.length c0] 24) = W0 at *
  have V0 : Hid _ := HV.out.below B0.out
  go_loopw [20] (fun z wr => ∃ k : Nat, z = .int .i64 k ∧ k ≤ es.length ∧ ech n es = ech n (es.drop k) ∧ Below W0.heap.size W0 wr) (fun z _ => es.length - (intOf z).toNat)
  case atStart => exact ⟨0, rfl, Nat.zero_le _, rfl, Below.refl _ _⟩
  case round =>
    obtain ⟨k, rfl, hk, he, hb⟩ := hrel
    have HE : Hid _ := he
    have HB : Hid (Below W0.heap.size W0 wr) := hb
    clear he hb
    by_cases hlt : k < es.length
    · have hki : (k : Int) < (es.length : Int) := by omega
      obtain ⟨b, off, cap, hveq, hc⟩ := (V0.out.below HB.out).some' (by omega)
      simp only [Value.slice.injEq] at hveq
      obtain ⟨rfl, -, rfl⟩ := hveq
      obtain ⟨d0, d1, d2⟩ := hc k hlt
      clear hc
      have HK : Hid _ := @ech_ok n es k HE.out hlt
      have HBD : Hid _ := @ech_bad n es k HE.out hlt
      obtain ⟨p, hp⟩ : ∃ p, at3 es k = p := ⟨_, rfl⟩
      rw [hp] at d0 d1 d2 HK HBD
      obtain ⟨x, y, z⟩ := p
      simp only at d0 d1 d2
      clear hp
      obtain ⟨p0, p1⟩ := (P0.out.below HB.out).below (balloc (Below.refl _ _) (.cells #[.int .i64 x, .int .i64 y, .int .i64 z] 66))
      go_wp2_with fail
      have Q1 : Hid _ := box3_new wr x y (.int .i64 z) 66
      have B1 : Hid (Below W0.heap.size W0 (wr.alloc (.cells #[.int .i64 x, .int .i64 y, .int .i64 z] 66))) := balloc HB.out _
      have R1 : Hid _ := (P0.out.below HB.out).below (balloc (Below.refl _ _) (.cells #[.int .i64 x, .int .i64 y, .int .i64 z] 66))
      generalize wr.alloc (.cells #[.int .i64 x, .int .i64 y, .int .i64 z] 66) = W1 at *
      clear p0 p1 d0 d1 d2
      cases e1 : plc n x
      · have HF : Hid _ := HBD.out (by rw [code_1 e1]; decide)
        rw [code_1 e1] at HF
        have E1 : Hid _ := e1
        clear e1
        refine (isPlace_at n x _ _ _ _ W1 E1.out).mono ?_
        rintro e w2 ⟨rfl, b2⟩
        go_wp2_with fail
        go_ret
        exact ⟨ret_int (by rw [HC.out, HF.out]), bthen (bthen B0.out B1.out) b2⟩
      have E1 : Hid _ := e1
      clear e1
      refine (isPlace_at n x _ _ _ _ W1 E1.out).mono ?_
      rintro e w2 ⟨rfl, b2⟩
      have Q2 : Hid _ := Q1.out.below b2
      have R2 : Hid _ := R1.out.below b2
      have B2 : Hid (Below W0.heap.size W0 w2) := bthen B1.out b2
      clear b2 Q1 R1 B1
      obtain ⟨p0, p1⟩ := R2.out
      obtain ⟨q0, q1, q2⟩ := Q2.out
      go_wp2_with fail
      clear p0 p1 q0 q1 q2
      cases e2 : plc n y
      · have HF : Hid _ := HBD.out (by rw [code_2 e2]; decide)
        rw [code_2 e2] at HF
        have E2 : Hid _ := e2
        clear e2
        refine (isPlace_at n y _ _ _ _ w2 E2.out).mono ?_
        rintro e w3 ⟨rfl, b3⟩
        go_wp2_with fail
        go_ret
        exact ⟨ret_int (by rw [HC.out, HF.out]), bthen (bthen B0.out B2.out) b3⟩
      have E2 : Hid _ := e2
      clear e2
      refine (isPlace_at n y _ _ _ _ w2 E2.out).mono ?_
      rintro e w3 ⟨rfl, b3⟩
      have Q3 : Hid _ := Q2.out.below b3
      have B3 : Hid (Below W0.heap.size W0 w3) := bthen B2.out b3
      clear b3 Q2 R2 B2
      obtain ⟨q0, q1, q2⟩ := Q3.out
      by_cases hz : -10000 ≤ z ∧ z ≤ 10000
      · have HF : Hid _ := HK.out (code_0 E1.out E2.out hz)
        obtain ⟨z1, z2⟩ := hz
        go_wp2_with fail
        go_roundw
        case rel => exact ⟨k + 1, by go_num, by omega, HF.out, B3.out⟩
        case measure => simp [intOf]; omega
      · have HF : Hid _ := HBD.out (by rw [code_4 E1.out E2.out hz]; decide)
        rw [code_4 E1.out E2.out hz] at HF
        by_cases z1 : z < -10000
        · clear hz
          go_wp2_with fail
          go_ret
          exact ⟨ret_int (by rw [HC.out, HF.out]), bthen B0.out B3.out⟩
        · have z2 : 10000 < z := by omega
          clear hz
          go_wp2_with fail
          go_ret
          exact ⟨ret_int (by rw [HC.out, HF.out]), bthen B0.out B3.out⟩
    · have hke : k = es.length := by omega
      subst hke
      have HF : Hid _ := ech_end HE.out
      go_wp2_with fail
      go_ret
      exact ⟨ret_int (by rw [HC.out, HF.out]), bthen B0.out HB.out⟩
end Go.Proofs.Ytefikbjjdldomaa
