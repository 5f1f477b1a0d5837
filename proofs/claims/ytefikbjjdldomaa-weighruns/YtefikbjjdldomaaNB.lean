/-
  Contracts: Pos; the document's look at a net, and its Pos.
-/
import Derived.Test.YtefikbjjdldomaaNA
namespace Go.Proofs.Ytefikbjjdldomaa
open Go.RowKit
open Nm

set_option maxRecDepth 100000 in
set_option maxHeartbeats 8000000 in
theorem rnet_any (n : Int) (v : Value) (es : List E) (w : World) (hv : SlE w v es) (hlen : es.length ≤ 9223372036854775807) :
    Calls Try.prog 88 #[.agg #[.int .i64 n, v]] w fun e w' => e = .returned (.int .i64 (nck n es)) ∧ Below w.heap.size w w' := by
  obtain ⟨a0, c0, rfl⟩ := hv.val
  have HV : Hid _ := hv
  clear hv
  by_cases h1 : n < 1
  · have HC : Hid _ := nck_n es (.inl h1)
    go_enter Try.func88, Try.ntmps88
    go_wp2_with fail
    go_ret
    exact ⟨ret_int HC.out.symm, balloc (Below.refl _ _) _⟩
  by_cases h2 : 64 < n
  · have HC : Hid _ := nck_n es (.inr h2)
    go_enter Try.func88, Try.ntmps88
    go_wp2_with fail
    go_ret
    exact ⟨ret_int HC.out.symm, balloc (Below.refl _ _) _⟩
  by_cases h3 : 600 < es.length
  · have HC : Hid _ := nck_l (n := n) (by omega) h3
    have h3i : (600 : Int) < (es.length : Int) := by omega
    go_enter Try.func88, Try.ntmps88
    go_wp2_with fail
    go_ret
    exact ⟨ret_int HC.out.symm, balloc (Below.refl _ _) _⟩
  have HC : Hid _ := nck_e (n := n) (by omega) h3
  have h3i : ¬ (600 : Int) < (es.length : Int) := by omega
  go_enter Try.func88, Try.ntmps88
  go_wp2_with fail
  have P0 : Hid _ := box2_new w n (.slice a0 es.length c0) 24
  have B0 : Hid (Below w.heap.size w (w.alloc (.cells #[.int .i64 n, .slice a0 es.length c0] 24))) := balloc (Below.refl _ _) _
  generalize w.alloc (.cells #[.int .i64 n, .slice a0 es.length c0] 24) = W0 at *
  have V0 : Hid _ := HV.out.below B0.out
  go_loopw [20] (fun z wr => ∃ k : Nat, z = .int .i64 k ∧ k ≤ es.length ∧ ech n es = ech n (es.drop k) ∧ Below W0.heap.size W0 wr) (fun z _ => es.length - (intOf z).toNat)
  case atStart => exact ⟨0, rfl, Nat.zero_le _, rfl, Below.refl _ _⟩
  case round =>
    obtain ⟨k, rfl, hk, he, hb⟩ := hrel
    have HE : Hid _ := he
    have HB : Hid (Below W0.heap.size W0 wr) := hb
    clear he hb
    by_cases hlt : k < es.length
    · have hki : (k : Int) < (es.length : Int) := by omega
      obtain ⟨b, off, cap, hveq, hc⟩ := (V0.out.below HB.out).some' (by omega)
      simp only [Value.slice.injEq] at hveq
      obtain ⟨rfl, -, rfl⟩ := hveq
      obtain ⟨d0, d1, d2⟩ := hc k hlt
      clear hc
      have HK : Hid _ := @ech_ok n es k HE.out hlt
      have HBD : Hid _ := @ech_bad n es k HE.out hlt
      obtain ⟨p, hp⟩ : ∃ p, at3 es k = p := ⟨_, rfl⟩
      rw [hp] at d0 d1 d2 HK HBD
      obtain ⟨x, y, z⟩ := p
      simp only at d0 d1 d2
      clear hp
      obtain ⟨p0, p1⟩ := (P0.out.below HB.out).below (balloc (Below.refl _ _) (.cells #[.int .i64 x, .int .i64 y, .int .i64 z] 66))
      have B3 : Hid (Below W0.heap.size W0 (wr.alloc (.cells #[.int .i64 x, .int .i64 y, .int .i64 z] 66))) := balloc HB.out _
      by_cases hxy : (0 ≤ x ∧ x < n) ∧ (0 ≤ y ∧ y < n)
      · have E1 : Hid _ := plc_yes hxy.1.1 hxy.1.2
        have E2 : Hid _ := plc_yes hxy.2.1 hxy.2.2
        obtain ⟨⟨o1, o2⟩, o3, o4⟩ := hxy
        by_cases hz : -10000 ≤ z ∧ z ≤ 10000
        · have HF : Hid _ := HK.out (code_0 E1.out E2.out hz)
          obtain ⟨z1, z2⟩ := hz
          rcases (show x < y ∨ y < x ∨ x = y by omega) with h | h | h
          · have h' : ¬ y < x := by omega
            go_wp2_with fail
            go_roundw
            case rel => exact ⟨k + 1, by go_num, by omega, HF.out, B3.out⟩
            case measure => simp [intOf]; omega
          · have h' : ¬ x < y := by omega
            go_wp2_with fail
            go_roundw
            case rel => exact ⟨k + 1, by go_num, by omega, HF.out, B3.out⟩
            case measure => simp [intOf]; omega
          · subst h
            go_wp2_with fail
            go_roundw
            case rel => exact ⟨k + 1, by go_num, by omega, HF.out, B3.out⟩
            case measure => simp [intOf]; omega
        · have HF : Hid _ := HBD.out (by rw [code_4 E1.out E2.out hz]; decide)
          rw [code_4 E1.out E2.out hz] at HF
          by_cases z1 : z < -10000
          · clear hz
            rcases (show x < y ∨ y < x ∨ x = y by omega) with h | h | h
            · have h' : ¬ y < x := by omega
              go_wp2_with fail
              go_ret
              exact ⟨ret_int (by rw [HC.out, HF.out]), bthen B0.out B3.out⟩
            · have h' : ¬ x < y := by omega
              go_wp2_with fail
              go_ret
              exact ⟨ret_int (by rw [HC.out, HF.out]), bthen B0.out B3.out⟩
            · subst h
              go_wp2_with fail
              go_ret
              exact ⟨ret_int (by rw [HC.out, HF.out]), bthen B0.out B3.out⟩
          · have z2 : 10000 < z := by omega
            clear hz
            rcases (show x < y ∨ y < x ∨ x = y by omega) with h | h | h
            · have h' : ¬ y < x := by omega
              go_wp2_with fail
              go_ret
              exact ⟨ret_int (by rw [HC.out, HF.out]), bthen B0.out B3.out⟩
            · have h' : ¬ x < y := by omega
              go_wp2_with fail
              go_ret
              exact ⟨ret_int (by rw [HC.out, HF.out]), bthen B0.out B3.out⟩
            · subst h
              go_wp2_with fail
              go_ret
              exact ⟨ret_int (by rw [HC.out, HF.out]), bthen B0.out B3.out⟩
      · have HF : Hid (ech n es = 1) := by
          have hcode : code n (x, y, z) = 1 := by
            by_cases hx : 0 ≤ x ∧ x < n
            · exact code_2 (plc_no (fun h => hxy ⟨hx, h⟩))
            · exact code_1 (plc_no hx)
          exact (HBD.out (by rw [hcode]; decide)).trans hcode
        rcases (show x < y ∨ y < x ∨ x = y by omega) with h | h | h
        · have h' : ¬ y < x := by omega
          by_cases m : x < 0
          · clear hxy
            go_wp2_with fail
            go_ret
            exact ⟨ret_int (by rw [HC.out, HF.out]), bthen B0.out B3.out⟩
          · have m2 : n ≤ y := by omega
            clear hxy
            go_wp2_with fail
            go_ret
            exact ⟨ret_int (by rw [HC.out, HF.out]), bthen B0.out B3.out⟩
        · have h' : ¬ x < y := by omega
          by_cases m : y < 0
          · clear hxy
            go_wp2_with fail
            go_ret
            exact ⟨ret_int (by rw [HC.out, HF.out]), bthen B0.out B3.out⟩
          · have m2 : n ≤ x := by omega
            clear hxy
            go_wp2_with fail
            go_ret
            exact ⟨ret_int (by rw [HC.out, HF.out]), bthen B0.out B3.out⟩
        · subst h
          by_cases m : x < 0
          · clear hxy
            go_wp2_with fail
            go_ret
            exact ⟨ret_int (by rw [HC.out, HF.out]), bthen B0.out B3.out⟩
          · have m2 : n ≤ x := by omega
            clear hxy
            go_wp2_with fail
            go_ret
            exact ⟨ret_int (by rw [HC.out, HF.out]), bthen B0.out B3.out⟩
    · have hke : k = es.length := by omega
      subst hke
      have HF : Hid _ := ech_end HE.out
      go_wp2_with fail
      go_ret
      exact ⟨ret_int (by rw [HC.out, HF.out]), bthen B0.out HB.out⟩
set_option maxRecDepth 100000 in
set_option maxHeartbeats 8000000 in
theorem npos_any (n : Int) (v : Value) (es : List E) (w : World) (hv : SlE w v es) (hlen : es.length ≤ 9223372036854775807) :
    Calls Try.prog 49 #[.agg #[.int .i64 n, v]] w fun e w' => e = .returned (.int .i64 (nps n es)) ∧ Below w.heap.size w w' := by
  obtain ⟨a0, c0, rfl⟩ := hv.val
  have HV : Hid _ := hv
  clear hv
  by_cases hc : nck n es = 0
  · have HC : Hid _ := hc
    clear hc
    go_enter Try.func49, Try.ntmps49
    go_wp2_with fail
    have P0 : Hid _ := box2_new w n (.slice a0 es.length c0) 24
    have B0 : Hid (Below w.heap.size w (w.alloc (.cells #[.int .i64 n, .slice a0 es.length c0] 24))) := balloc (Below.refl _ _) _
    generalize w.alloc (.cells #[.int .i64 n, .slice a0 es.length c0] 24) = W0 at *
    refine (ncheck_any n _ es W0 (HV.out.below B0.out) hlen).mono ?_
    rintro e w1 ⟨rfl, b1⟩
    rw [HC.out]
    have B1 : Hid (Below w.heap.size w w1) := bthen B0.out b1
    obtain ⟨p0, p1⟩ := P0.out.below b1
    clear b1
    go_wp2_with fail
    clear p0 p1
    have V1 : Hid _ := HV.out.below B1.out
    go_loopw [14] (fun z wr => ∃ k : Nat, z = .int .i64 k ∧ k ≤ es.length ∧ (∀ i, i < k → 1 ≤ (at3 es i).2.2) ∧ Below w1.heap.size w1 wr) (fun z _ => es.length - (intOf z).toNat)
    case atStart => exact ⟨0, rfl, Nat.zero_le _, fun i hi => absurd hi (by omega), Below.refl _ _⟩
    case round =>
      obtain ⟨k, rfl, hk, he, hb⟩ := hrel
      have HE : Hid _ := he
      have HB : Hid (Below w1.heap.size w1 wr) := hb
      clear he hb
      by_cases hlt : k < es.length
      · have hki : (k : Int) < (es.length : Int) := by omega
        obtain ⟨b, off, cap, hveq, hcl⟩ := (V1.out.below HB.out).some' (by omega)
        simp only [Value.slice.injEq] at hveq
        obtain ⟨rfl, -, rfl⟩ := hveq
        obtain ⟨d0, d1, d2⟩ := hcl k hlt
        clear hcl
        obtain ⟨p, hp⟩ : ∃ p, at3 es k = p := ⟨_, rfl⟩
        rw [hp] at d0 d1 d2
        have HP : Hid _ := hp
        clear hp
        obtain ⟨x, y, z⟩ := p
        simp only at d0 d1 d2
        by_cases hz : z < 1
        · have HF : Hid _ := nps_low HC.out hlt (by rw [HP.out]; exact hz)
          go_wp2_with fail
          go_ret
          exact ⟨ret_int (by rw [HF.out]), bthen B1.out (balloc HB.out _)⟩
        · go_wp2_with fail
          go_roundw
          case rel =>
            refine ⟨k + 1, by go_num, by omega, fun i hi => ?_, balloc HB.out _⟩
            rcases (show i < k ∨ i = k by omega) with h | rfl
            · exact HE.out i h
            · rw [HP.out]; show 1 ≤ z; omega
          case measure => simp [intOf]; omega
      · have hke : k = es.length := by omega
        subst hke
        have HF : Hid _ := nps_ok HC.out HE.out
        go_wp2_with fail
        go_ret
        exact ⟨ret_int (by rw [HF.out]), bthen B1.out HB.out⟩
  · have HF : Hid _ := nps_bad hc
    have hz : (nck n es != 0) = true := by simp [hc]
    clear hc
    go_enter Try.func49, Try.ntmps49
    go_wp2_with fail
    have B0 : Hid (Below w.heap.size w (w.alloc (.cells #[.int .i64 n, .slice a0 es.length c0] 24))) := balloc (Below.refl _ _) _
    generalize w.alloc (.cells #[.int .i64 n, .slice a0 es.length c0] 24) = W0 at *
    refine (ncheck_any n _ es W0 (HV.out.below B0.out) hlen).mono ?_
    rintro e w1 ⟨rfl, b1⟩
    go_wp2_with fail
    go_ret
    exact ⟨ret_int (by rw [HF.out]), bthen B0.out b1⟩
theorem pos1_any (x y z : Int) (w : World) : Calls Try.prog 89 #[.agg #[.int .i64 x, .int .i64 y, .int .i64 z]] w fun e w' => e = .returned (.bool (decide (z ≤ 0))) ∧ Below w.heap.size w w' := by
  go_enter Try.func89, Try.ntmps89
  go_wp2_with fail
  go_ret
  exact ⟨rfl, balloc (Below.refl _ _) _⟩
set_option maxRecDepth 100000 in
set_option maxHeartbeats 8000000 in
/-- slices.IndexFunc with the document's question: the first edge that costs less than 1, or -1. -/
theorem idxPos_any (v : Value) (es : List E) (w : World) (hv : SlE w v es) (hlen : es.length ≤ 9223372036854775807) :
    Calls Try.prog 90 #[v, .func (.func 89) #[] #[]] w fun e w' => ((∃ i : Nat, e = .returned (.int .i64 i) ∧ i < es.length ∧ (at3 es i).2.2 < 1) ∨ (e = .returned (.int .i64 (-1)) ∧ ∀ i, i < es.length → 1 ≤ (at3 es i).2.2)) ∧ Below w.heap.size w w' := by
  obtain ⟨a0, c0, rfl⟩ := hv.val
  have HV : Hid _ := hv
  clear hv
  go_enter Try.func90, Try.ntmps90
  go_wp2_with fail
  go_loopw [8] (fun z wr => ∃ k : Nat, z = .int .i64 k ∧ k ≤ es.length ∧ (∀ i, i < k → 1 ≤ (at3 es i).2.2) ∧ Below w.heap.size w wr) (fun z _ => es.length - (intOf z).toNat)
  case atStart => exact ⟨0, rfl, Nat.zero_le _, fun i hi => absurd hi (by omega), Below.refl _ _⟩
  case round =>
    obtain ⟨k, rfl, hk, he, hb⟩ := hrel
    have HE : Hid _ := he
    have HB : Hid (Below w.heap.size w wr) := hb
    clear he hb
    by_cases hlt : k < es.length
    · have hki : (k : Int) < (es.length : Int) := by omega
      obtain ⟨b, off, cap, hveq, hcl⟩ := (HV.out.below HB.out).some' (by omega)
      simp only [Value.slice.injEq] at hveq
      obtain ⟨rfl, -, rfl⟩ := hveq
      obtain ⟨d0, d1, d2⟩ := hcl k hlt
      clear hcl
      obtain ⟨p, hp⟩ : ∃ p, at3 es k = p := ⟨_, rfl⟩
      rw [hp] at d0 d1 d2
      have HP : Hid _ := hp
      clear hp
      obtain ⟨x, y, z⟩ := p
      simp only at d0 d1 d2
      go_wp2_with fail
      refine (pos1_any x y z wr).mono ?_
      rintro e w2 ⟨rfl, b2⟩
      have B2 : Hid (Below w.heap.size w w2) := bthen HB.out b2
      clear b2
      by_cases hz : z ≤ 0
      · go_wp2_with fail
        go_ret
        exact ⟨.inl ⟨k, rfl, hlt, by rw [HP.out]; show z < 1; omega⟩, B2.out⟩
      · go_wp2_with fail
        go_roundw
        case rel =>
          refine ⟨k + 1, by go_num, by omega, fun i hi => ?_, B2.out⟩
          rcases (show i < k ∨ i = k by omega) with h | rfl
          · exact HE.out i h
          · rw [HP.out]; show 1 ≤ z; omega
        case measure => simp [intOf]; omega
    · have hke : k = es.length := by omega
      subst hke
      go_wp2_with fail
      go_ret
      exact ⟨.inr ⟨rfl, HE.out⟩, HB.out⟩
set_option maxRecDepth 100000 in
set_option maxHeartbeats 8000000 in
theorem conPos_any (v : Value) (es : List E) (w : World) (hv : SlE w v es) (hlen : es.length ≤ 9223372036854775807) :
    Calls Try.prog 62 #[v, .func (.func 89) #[] #[]] w fun e w' => ((e = .returned (.bool true) ∧ ∃ i : Nat, i < es.length ∧ (at3 es i).2.2 < 1) ∨ (e = .returned (.bool false) ∧ ∀ i, i < es.length → 1 ≤ (at3 es i).2.2)) ∧ Below w.heap.size w w' := by
  obtain ⟨a0, c0, rfl⟩ := hv.val
  have HV : Hid _ := hv
  clear hv
  go_enter Try.func62, Try.ntmps62
  go_wp2_with fail
  refine (idxPos_any _ es w HV.out hlen).mono ?_
  rintro e w1 ⟨(⟨i, rfl, hi, hl⟩ | ⟨rfl, ha⟩), b1⟩
  · have HI : Hid _ := hi
    have HL : Hid _ := hl
    have hi0 : (0 : Int) ≤ (i : Int) := by omega
    clear hi hl
    go_wp2_with fail
    go_ret
    exact ⟨.inl ⟨rfl, i, HI.out, HL.out⟩, b1⟩
  · have HA : Hid _ := ha
    clear ha
    go_wp2_with fail
    go_ret
    exact ⟨.inr ⟨rfl, HA.out⟩, b1⟩
set_option maxRecDepth 100000 in
set_option maxHeartbeats 8000000 in
theorem rpos_any (n : Int) (v : Value) (es : List E) (w : World) (hv : SlE w v es) (hlen : es.length ≤ 9223372036854775807) :
    Calls Try.prog 59 #[.agg #[.int .i64 n, v]] w fun e w' => e = .returned (.int .i64 (nps n es)) ∧ Below w.heap.size w w' := by
  obtain ⟨a0, c0, rfl⟩ := hv.val
  have HV : Hid _ := hv
  clear hv
  by_cases hc : nck n es = 0
  · have HC : Hid _ := hc
    clear hc
    go_enter Try.func59, Try.ntmps59
    go_wp2_with fail
    have P0 : Hid _ := box2_new w n (.slice a0 es.length c0) 24
    have B0 : Hid (Below w.heap.size w (w.alloc (.cells #[.int .i64 n, .slice a0 es.length c0] 24))) := balloc (Below.refl _ _) _
    generalize w.alloc (.cells #[.int .i64 n, .slice a0 es.length c0] 24) = W0 at *
    refine (rnet_any n _ es W0 (HV.out.below B0.out) hlen).mono ?_
    rintro e w1 ⟨rfl, b1⟩
    rw [HC.out]
    have B1 : Hid (Below w.heap.size w w1) := bthen B0.out b1
    obtain ⟨p0, p1⟩ := P0.out.below b1
    clear b1
    go_wp2_with fail
    clear p0 p1
    refine (conPos_any _ es w1 (HV.out.below B1.out) hlen).mono ?_
    rintro e w2 ⟨(⟨rfl, i, hi, hl⟩ | ⟨rfl, ha⟩), b2⟩
    · have HF : Hid _ := nps_low HC.out hi hl
      have B2 : Hid (Below w.heap.size w w2) := bthen B1.out b2
      clear b2 hi hl
      go_wp2_with fail
      go_ret
      exact ⟨ret_int (by rw [HF.out]), B2.out⟩
    · have HF : Hid _ := nps_ok HC.out ha
      have B2 : Hid (Below w.heap.size w w2) := bthen B1.out b2
      clear b2 ha
      go_wp2_with fail
      go_ret
      exact ⟨ret_int (by rw [HF.out]), B2.out⟩
  · have HF : Hid _ := nps_bad hc
    have hz : (nck n es != 0) = true := by simp [hc]
    clear hc
    go_enter Try.func59, Try.ntmps59
    go_wp2_with fail
    have B0 : Hid (Below w.heap.size w (w.alloc (.cells #[.int .i64 n, .slice a0 es.length c0] 24))) := balloc (Below.refl _ _) _
    generalize w.alloc (.cells #[.int .i64 n, .slice a0 es.length c0] 24) = W0 at *
    refine (rnet_any n _ es W0 (HV.out.below B0.out) hlen).mono ?_
    rintro e w1 ⟨rfl, b1⟩
    go_wp2_with fail
    go_ret
    exact ⟨ret_int (by rw [HF.out]), bthen B0.out b1⟩
end Go.Proofs.Ytefikbjjdldomaa
