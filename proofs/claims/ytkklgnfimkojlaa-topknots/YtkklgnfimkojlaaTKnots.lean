/-
  The law felltop.TopKnots, walked.
-/
import Derived.Test.YtkklgnfimkojlaaKD
import Derived.Test.YtkklgnfimkojlaaKq
import Derived.Test.YtkklgnfimkojlaaFJ
import Derived.Test.YtkklgnfimkojlaaYZ
namespace Go.Proofs.Ytkklgnfimkojlaa.TKnots
open Go.RowKit
open Nm Wm Dm Bm Fm Fl Km
attribute [local go_sem ↓] Go.wp_at_zero Go.wp_at_succ

set_option maxRecDepth 100000 in
set_option maxHeartbeats 8000000 in
theorem walk_net (n : Int) (v : Value) (es : List E) (w : World) (hv : SlE w v es) (hlen : es.length ≤ 9223372036854775807) (hc : nck n es ≠ 0) :
    Calls Try.prog 10 #[.agg #[.int .i64 n, v]] w fun e w' => e = .returned (.bool true) ∧ Below w.heap.size w w' := by
  obtain ⟨a0, c0, rfl⟩ := hv.val
  have HV : Hid _ := hv
  have HC : Hid _ := hc
  obtain ⟨k1, hk1⟩ : ∃ k, nck n es = k := ⟨_, rfl⟩
  have HK : Hid _ := hk1
  have z4 : (k1 != 0) = true := by rw [← hk1]; simp [hc]
  clear hv hc hk1
  go_enter Try.func10, Try.ntmps10
  go_wp2_with fail
  have P0 : Hid _ := box2_new w (n : Int) (.slice a0 es.length c0) 24
  have B0 : Hid (Below w.heap.size w (w.alloc (.cells #[.int .i64 n, .slice a0 es.length c0] 24))) := balloc (Below.refl _ _) _
  generalize w.alloc (.cells #[.int .i64 n, .slice a0 es.length c0] 24) = W0 at *
  refine (cof_net n _ es W0 (HV.out.below B0.out) hlen HC.out).mono ?_
  rintro e w1 ⟨rfl, b1⟩
  rw [HK.out]
  have B1 : Hid (Below w.heap.size w w1) := bthen B0.out b1
  obtain ⟨p0, p1⟩ := P0.out.below b1
  clear b1 B0 P0
  go_wp2_with fail
  clear p0 p1
  refine (cord_net n _ es w1 (HV.out.below B1.out) hlen HC.out).mono ?_
  rintro e w2 ⟨rfl, b2⟩
  rw [HK.out]
  have B2 : Hid (Below w.heap.size w w2) := bthen B1.out b2
  clear b2 B1
  go_wp2_with fail
  refine (begun_any w2).mono ?_
  rintro e w3 ⟨rfl, b3⟩
  have B3 : Hid (Below w.heap.size w w3) := bthen B2.out b3
  clear b3 B2
  go_wp2_with fail
  refine (begun_any w3).mono ?_
  rintro e w4 ⟨rfl, b4⟩
  have B4 : Hid (Below w.heap.size w w4) := bthen B3.out b4
  clear b4 B3
  go_wp2_with fail
  go_ret
  exact ⟨rfl, B4.out⟩
set_option maxRecDepth 100000 in
set_option maxHeartbeats 8000000 in
theorem walk_yes (N : Nat) (v : Value) (es : List E) (w : World) (hv : SlE w v es) (hb : Rnt N es) :
    Calls Try.prog 10 #[.agg #[.int .i64 N, v]] w fun e w' => e = .returned (.bool true) ∧ Below w.heap.size w w' := by
  obtain ⟨a0, c0, rfl⟩ := hv.val
  have HV : Hid _ := hv
  have HB : Hid _ := hb
  have hn64 := hb.n64
  have HLD : Hid (Lds N es (fwb (fun _ => true) es N)) := lds_fwb hb.inn
  have HCR : Hid (∀ W, SlE W (.slice a0 es.length c0) es → Calls Try.prog 12 #[.agg #[.int .i64 N, .slice a0 es.length c0]] W fun e w' => ∃ ov, e = .returned (.tuple #[ov, .int .i64 0]) ∧ Is w' W.heap.size ov (ints (Km.ord (Km.lk (kn (fwb (fun _ => true) es N)) es) (kl (kn (fwb (fun _ => true) es N)) N))) ∧ Below W.heap.size W w') := fun W hW => cord_yes N _ es W hW hb
  obtain ⟨C, hC⟩ : ∃ C, Km.ord (Km.lk (kn (fwb (fun _ => true) es N)) es) (kl (kn (fwb (fun _ => true) es N)) N) = C := ⟨_, rfl⟩
  have HBK : Hid (∀ (i j : Nat) (h : i < C.length) (h2 : j < i), fwb (fun _ => true) es N C[i] (C[j]'(by omega)) = false) := fun i j h h2 => HLD.out.backi hb.inn hC h2 h (List.getElem?_eq_getElem h) (List.getElem?_eq_getElem (by omega))
  have HIN : Hid (∀ x ∈ C, x < N) := fun x hx => by rw [← hC] at hx; exact (kl_mem.1 (ord_sub _ hx)).1
  have hcl : C.length ≤ 64 := by
    have h1 := ord_len (Km.lk (kn (fwb (fun _ => true) es N)) es) (kl (kn (fwb (fun _ => true) es N)) N)
    have h2 := kl_len (kn (fwb (fun _ => true) es N)) N
    rw [hC] at h1; omega
  have HTO : Hid (∀ x, x < N → fwb (fun _ => true) es N (kn (fwb (fun _ => true) es N) x) x = true ∧ fwb (fun _ => true) es N x (kn (fwb (fun _ => true) es N) x) = true) := fun x hx => HLD.out.to hx
  have HKL : Hid (∀ x, x < N → kn (fwb (fun _ => true) es N) x < N) := fun x hx => kn_lt _ hx
  rw [hC] at HCR
  clear hv hb hC HLD
  go_enter Try.func10, Try.ntmps10
  go_wp2_with fail
  have P0 : Hid _ := box2_new w (N : Int) (.slice a0 es.length c0) 24
  have B0 : Hid (Below w.heap.size w (w.alloc (.cells #[.int .i64 N, .slice a0 es.length c0] 24))) := balloc (Below.refl _ _) _
  generalize w.alloc (.cells #[.int .i64 N, .slice a0 es.length c0] 24) = W0 at *
  refine (cof_yes N _ es W0 (HV.out.below B0.out) HB.out).mono ?_
  rintro e w1 ⟨G1, rfl, u1, -, b1⟩
  obtain ⟨K, hK⟩ : ∃ K, kn (fwb (fun _ => true) es N) = K := ⟨_, rfl⟩
  rw [hK] at u1 HTO HKL
  clear hK
  have U1 : Hid _ := u1
  have P1 : Hid _ := P0.out.below b1
  have B1 : Hid (Below w.heap.size w w1) := bthen B0.out b1
  obtain ⟨p0, p1⟩ := P1.out
  clear b1 u1 P0 B0
  go_wp2_with fail
  clear p0 p1
  refine (HCR.out w1 (HV.out.below B1.out)).mono ?_
  rintro e w2 ⟨ov, rfl, i2, b2⟩
  have I2 : Hid _ := i2.sl
  obtain ⟨ao, co, rfl⟩ := I2.out.val
  rw [ints_length] at I2 ⊢
  have U2 : Hid _ := U1.out.below b2
  have P2 : Hid _ := P1.out.below b2
  have B2 : Hid (Below w.heap.size w w2) := bthen B1.out b2
  clear b2 i2 U1 P1 B1
  go_wp2_with fail
  refine (begun_any w2).mono ?_
  rintro e w3 ⟨rfl, b3⟩
  have I3 : Hid _ := I2.out.below b3
  have U3 : Hid _ := U2.out.below b3
  have P3 : Hid _ := P2.out.below b3
  have B3 : Hid (Below w.heap.size w w3) := bthen B2.out b3
  obtain ⟨p0, p1⟩ := P3.out
  clear b3 I2 U2 P2 B2
  go_wp2_with fail
  clear p0 p1
  refine (freach_yes N _ es w3 (HV.out.below B3.out) HB.out).mono ?_
  rintro e w4 ⟨R, Gs, rfl, t4, b4⟩
  obtain ⟨TT, hT⟩ : ∃ TT, fwb (fun _ => true) es N = TT := ⟨_, rfl⟩
  rw [hT] at t4 HTO HBK
  clear hT
  have T4 : Hid _ := t4
  have I4 : Hid _ := I3.out.below b4
  have U4 : Hid _ := U3.out.below b4
  have P4 : Hid _ := P3.out.below b4
  have B4 : Hid (Below w.heap.size w w4) := bthen B3.out b4
  obtain ⟨p0, p1⟩ := P4.out
  clear t4 b4 P3 B3 U3 I3
  go_wp2_with fail
  clear p0 p1
  go_loopw [63] (fun z wr => ∃ i : Nat, z = .int .i64 i ∧ i ≤ C.length ∧ Below w4.heap.size w4 wr) (fun z _ => C.length - (intOf z).toNat)
  case atStart => exact ⟨0, rfl, Nat.zero_le _, Below.refl _ _⟩
  case round =>
    obtain ⟨i, rfl, hi, hb⟩ := hrel
    have BW : Hid (Below w4.heap.size w4 wr) := hb
    clear hb
    by_cases hlt : i < C.length
    · have hii : (i : Int) < (C.length : Int) := by omega
      obtain ⟨bo, off, cap, hveq, hcl, hle⟩ := (I4.out.below BW.out).some2 (by rw [ints_length]; omega)
      rw [ints_length] at hveq hcl hle
      simp only [Value.slice.injEq] at hveq
      obtain ⟨rfl, -, rfl⟩ := hveq
      have e0 := hcl i hlt
      rw [ints_at hlt] at e0
      have hxN : C[i] < N := HIN.out _ (List.getElem_mem hlt)
      have HB2 : Hid (∀ (j : Nat) (h2 : j < i), TT C[i] (C[j]'(by omega)) = false) := fun j h2 => HBK.out i j hlt h2
      obtain ⟨x, hx⟩ : ∃ x, C[i] = x := ⟨_, rfl⟩
      rw [hx] at e0 hxN HB2
      clear hx hcl
      have hic : ¬ co < i := by omega
      have hic2 : i ≤ co := by omega
      go_wp2_with fail
      clear e0
      go_loopw [72] (fun z wq => ∃ j : Nat, z = .int .i64 j ∧ j ≤ i ∧ Below w4.heap.size w4 wq) (fun z _ => i - (intOf z).toNat)
      case atStart => exact ⟨0, rfl, Nat.zero_le _, BW.out⟩
      case round =>
        obtain ⟨j, rfl, hj, hb⟩ := hrel
        clear BW
        have BW : Hid (Below w4.heap.size w4 wr) := hb
        clear hb
        by_cases hjt : j < i
        · have hji : (j : Int) < (i : Int) := by omega
          obtain ⟨b1, off1, cap1, hveq, hcl, -⟩ := (I4.out.below BW.out).some2 (by rw [ints_length]; omega)
          rw [ints_length] at hveq hcl
          simp only [Value.slice.injEq, Option.some.injEq, Addr.mk.injEq] at hveq
          obtain ⟨⟨rfl, rfl, -⟩, -, rfl⟩ := hveq
          have e1 := hcl j (by omega)
          have hjc : j < C.length := by omega
          rw [ints_at hjc] at e1
          have hyN : C[j] < N := HIN.out _ (List.getElem_mem hjc)
          have hno := HB2.out j hjt
          obtain ⟨y, hy⟩ : ∃ y, C[j] = y := ⟨_, rfl⟩
          rw [hy] at e1 hyN hno
          clear hy hcl
          have T5 : Hid _ := T4.out.below BW.out
          have P5 : Hid _ := P4.out.below BW.out
          obtain ⟨p0, p1⟩ := P5.out
          have r1 := T5.out.head x hxN
          obtain ⟨r2, -⟩ := (T5.out.row x hxN).cell y hyN
          simp only [encb, hno] at r2
          have hxi : (x : Int) < (N : Int) := by omega
          have hyi : (y : Int) < (N : Int) := by omega
          have hxn : ¬ (N : Int) ≤ (x : Int) := by omega
          have hyn : ¬ (N : Int) ≤ (y : Int) := by omega
          go_wp2_with fail
          go_roundw
          case rel => exact ⟨j + 1, by go_num, by omega, BW.out⟩
          case measure => simp [intOf]; omega
        · obtain rfl : j = i := by omega
          go_wp2_with fail
          go_roundw
          case rel => exact ⟨j + 1, by go_num, by omega, BW.out⟩
          case measure => simp [intOf]; omega
    · obtain rfl : i = C.length := by omega
      go_wp2_with fail
      have U5 : Hid _ := U4.out.below BW.out
      have T5 : Hid _ := T4.out.below BW.out
      have P5 : Hid _ := P4.out.below BW.out
      have B5 : Hid (Below w.heap.size w wr) := bthen B4.out BW.out
      clear U4 T4 P4 B4 BW I4
      generalize wr = w5 at *
      go_loopw [107] (fun z wq => ∃ x : Nat, z = .int .i64 x ∧ x ≤ N ∧ Below w5.heap.size w5 wq) (fun z _ => N - (intOf z).toNat)
      case atStart => exact ⟨0, rfl, Nat.zero_le _, Below.refl _ _⟩
      case round =>
        obtain ⟨x, rfl, hx, hb⟩ := hrel
        have BW : Hid (Below w5.heap.size w5 wr) := hb
        clear hb
        by_cases hxN : x < N
        · have hxi : (x : Int) < (N : Int) := by omega
          obtain ⟨q1, -⟩ := (U5.out.below BW.out).cell x hxN
          have hyN := HKL.out x hxN
          obtain ⟨h1, h2⟩ := HTO.out x hxN
          obtain ⟨y, hy⟩ : ∃ y, K x = y := ⟨_, rfl⟩
          rw [hy] at q1 hyN h1 h2
          clear hy
          have T6 : Hid _ := T5.out.below BW.out
          have P6 : Hid _ := P5.out.below BW.out
          obtain ⟨p0, p1⟩ := P6.out
          have r1 := T6.out.head x hxN
          have r2 := T6.out.head y hyN
          obtain ⟨r3, -⟩ := (T6.out.row x hxN).cell y hyN
          obtain ⟨r4, -⟩ := (T6.out.row y hyN).cell x hxN
          simp only [encb, h1, h2] at r3 r4
          have hyi : (y : Int) < (N : Int) := by omega
          have hyn : ¬ (N : Int) ≤ (y : Int) := by omega
          go_wp2_with fail
          go_roundw
          case rel => exact ⟨x + 1, by go_num, by omega, BW.out⟩
          case measure => simp [intOf]; omega
        · obtain rfl : x = N := by omega
          go_wp2_with fail
          go_ret
          exact ⟨rfl, bthen B5.out BW.out⟩
theorem walk (n : Int) (v : Value) (es : List E) (w : World) (hv : SlE w v es) (hlen : es.length ≤ 9223372036854775807) :
    Calls Try.prog 10 #[.agg #[.int .i64 n, v]] w fun e w' => e = .returned (.bool true) ∧ Below w.heap.size w w' := by
  by_cases hc : nck n es = 0
  · obtain ⟨hb, hn⟩ := bn_of hc
    rw [← hn]
    exact walk_yes n.toNat v es w hv hb
  · exact walk_net n v es w hv hlen hc
end Go.Proofs.Ytkklgnfimkojlaa.TKnots
