/-
  The law fellkeep.CompOrder, walked.
-/
import Derived.Test.YtkklgnfimkojlaaKD
import Derived.Test.YtkklgnfimkojlaaKX
import Derived.Test.YtkklgnfimkojlaaTW
namespace Go.Proofs.Ytkklgnfimkojlaa.COrder
open Go.RowKit
open Nm Wm Dm Bm Fm Fl Km
attribute [local go_sem ↓] Go.wp_at_zero Go.wp_at_succ

theorem ord2 : ints (ord (lk (kn (fwb (fun _ => true) [(0, 1, 5)] 2)) [(0, 1, 5)]) (kl (kn (fwb (fun _ => true) [(0, 1, 5)] 2)) 2)) = [0, 1] := by kernel_rfl
set_option maxRecDepth 100000 in
set_option maxHeartbeats 8000000 in
theorem walk_net (n : Int) (v : Value) (es : List E) (w : World) (hv : SlE w v es) (hlen : es.length ≤ 9223372036854775807) (hc : nck n es ≠ 0) :
    Calls Try.prog 6 #[.agg #[.int .i64 n, v]] w fun e w' => e = .returned (.bool true) ∧ Below w.heap.size w w' := by
  obtain ⟨a0, c0, rfl⟩ := hv.val
  have HV : Hid _ := hv
  have HC : Hid _ := hc
  obtain ⟨k1, hk1⟩ : ∃ k, nck n es = k := ⟨_, rfl⟩
  have HK : Hid _ := hk1
  have z3 : (k1 == k1) = true := by simp
  have z4 : (k1 != 0) = true := by rw [← hk1]; simp [hc]
  clear hv hc hk1
  go_enter Try.func6, Try.ntmps6
  go_wp2_with fail
  have P0 : Hid _ := box2_new w (n : Int) (.slice a0 es.length c0) 24
  have B0 : Hid (Below w.heap.size w (w.alloc (.cells #[.int .i64 n, .slice a0 es.length c0] 24))) := balloc (Below.refl _ _) _
  generalize w.alloc (.cells #[.int .i64 n, .slice a0 es.length c0] 24) = W0 at *
  refine (two_any W0).mono ?_
  rintro e w1 ⟨X1, rfl, e1, b1⟩
  have E1 : Hid _ := e1
  have P1 : Hid _ := P0.out.below b1
  have B1 : Hid (Below w.heap.size w w1) := bthen B0.out b1
  clear e1 b1 P0 B0
  go_wp2_with fail
  refine (cord_yes 2 _ _ w1 E1.out rnt_two).mono ?_
  rintro e w2 ⟨ov2, rfl, i2, b2⟩
  rw [ord2] at i2
  have U2 : Hid _ := i2.sl
  have P2 : Hid _ := P1.out.below b2
  have B2 : Hid (Below w.heap.size w w2) := bthen B1.out b2
  obtain ⟨a2, c2, rfl⟩ := U2.out.val
  clear i2 b2 P1 B1 E1
  go_wp2_with fail
  have L3 : Hid _ := lit_nums w2 [0, 1] #[.int .i64 0, .int .i64 1] 2 rfl rfl
  have b3 : Below w2.heap.size w2 (w2.alloc (.cells #[.int .i64 0, .int .i64 1] 3)) := balloc (Below.refl _ _) _
  have U3 : Hid _ := U2.out.below b3
  have P3 : Hid _ := P2.out.below b3
  have B3 : Hid (Below w.heap.size w (w2.alloc (.cells #[.int .i64 0, .int .i64 1] 3))) := bthen B2.out b3
  clear b3 P2 B2 U2
  generalize w2.alloc (.cells #[.int .i64 0, .int .i64 1] 3) = W3 at *
  generalize w2.heap.size = X3 at *
  refine (iequal_yes _ _ _ W3 U3.out L3.out (by decide)).mono ?_
  rintro e w4 ⟨rfl, b4⟩
  have P4 : Hid _ := P3.out.below b4
  have B4 : Hid (Below w.heap.size w w4) := bthen B3.out b4
  obtain ⟨p0, p1⟩ := P4.out
  clear b4 P3 B3 U3 L3
  go_wp2_with fail
  clear p0 p1
  refine (cof_net n _ es w4 (HV.out.below B4.out) hlen HC.out).mono ?_
  rintro e w5 ⟨rfl, b5⟩
  rw [HK.out]
  have P5 : Hid _ := P4.out.below b5
  have B5 : Hid (Below w.heap.size w w5) := bthen B4.out b5
  obtain ⟨p0, p1⟩ := P5.out
  clear b5 P4 B4
  go_wp2_with fail
  clear p0 p1
  refine (cord_net n _ es w5 (HV.out.below B5.out) hlen HC.out).mono ?_
  rintro e w6 ⟨rfl, b6⟩
  rw [HK.out]
  have B6 : Hid (Below w.heap.size w w6) := bthen B5.out b6
  clear b6
  go_wp2_with fail
  go_ret
  exact ⟨rfl, B6.out⟩
set_option maxRecDepth 100000 in
set_option maxHeartbeats 8000000 in
theorem walk_yes (N : Nat) (v : Value) (es : List E) (w : World) (hv : SlE w v es) (hb : Rnt N es) :
    Calls Try.prog 6 #[.agg #[.int .i64 N, v]] w fun e w' => e = .returned (.bool true) ∧ Below w.heap.size w w' := by
  obtain ⟨a0, c0, rfl⟩ := hv.val
  have HV : Hid _ := hv
  have HB : Hid _ := hb
  have hn64 := hb.n64
  have hlen := hb.len
  have HLD : Hid _ := lds_fwb hb.inn
  have HPM : Hid _ := HLD.out.perm hb.inn
  have HON : Hid (∀ e ∈ es, kn (fwb (fun _ => true) es N) e.1.toNat ≠ kn (fwb (fun _ => true) es N) e.2.1.toNat → _) := fun e he hne => HLD.out.on hb.inn he hne
  have HKK : Hid _ := HLD.out.kok hb.inn
  obtain ⟨K, hK⟩ : ∃ K, kn (fwb (fun _ => true) es N) = K := ⟨_, rfl⟩
  rw [hK] at HPM HON HKK
  have HKE : Hid _ := hK
  obtain ⟨C, hC⟩ : ∃ C, ord (lk K es) (kl K N) = C := ⟨_, rfl⟩
  rw [hC] at HPM HON
  have HCE : Hid _ := hC
  have HND : Hid (C.Nodup) := by rw [← hC]; exact ord_nodup (lt_nodup (kl_lt _ _))
  have hcl : C.length ≤ 64 := by rw [HPM.out.length_eq]; have := kl_len K N; omega
  clear hv hb hK hC
  go_enter Try.func6, Try.ntmps6
  go_wp2_with fail
  have P0 : Hid _ := box2_new w (N : Int) (.slice a0 es.length c0) 24
  have B0 : Hid (Below w.heap.size w (w.alloc (.cells #[.int .i64 N, .slice a0 es.length c0] 24))) := balloc (Below.refl _ _) _
  generalize w.alloc (.cells #[.int .i64 N, .slice a0 es.length c0] 24) = W0 at *
  refine (two_any W0).mono ?_
  rintro e w1 ⟨X1, rfl, e1, b1⟩
  have E1 : Hid _ := e1
  have P1 : Hid _ := P0.out.below b1
  have B1 : Hid (Below w.heap.size w w1) := bthen B0.out b1
  clear e1 b1 P0 B0
  go_wp2_with fail
  refine (cord_yes 2 _ _ w1 E1.out rnt_two).mono ?_
  rintro e w2 ⟨ov2, rfl, i2, b2⟩
  rw [ord2] at i2
  have U2 : Hid _ := i2.sl
  have P2 : Hid _ := P1.out.below b2
  have B2 : Hid (Below w.heap.size w w2) := bthen B1.out b2
  obtain ⟨a2, c2, rfl⟩ := U2.out.val
  clear i2 b2 P1 B1 E1
  go_wp2_with fail
  have L3 : Hid _ := lit_nums w2 [0, 1] #[.int .i64 0, .int .i64 1] 2 rfl rfl
  have b3 : Below w2.heap.size w2 (w2.alloc (.cells #[.int .i64 0, .int .i64 1] 3)) := balloc (Below.refl _ _) _
  have U3 : Hid _ := U2.out.below b3
  have P3 : Hid _ := P2.out.below b3
  have B3 : Hid (Below w.heap.size w (w2.alloc (.cells #[.int .i64 0, .int .i64 1] 3))) := bthen B2.out b3
  clear b3 P2 B2 U2
  generalize w2.alloc (.cells #[.int .i64 0, .int .i64 1] 3) = W3 at *
  generalize w2.heap.size = X3 at *
  refine (iequal_yes _ _ _ W3 U3.out L3.out (by decide)).mono ?_
  rintro e w4 ⟨rfl, b4⟩
  have P4 : Hid _ := P3.out.below b4
  have B4 : Hid (Below w.heap.size w w4) := bthen B3.out b4
  obtain ⟨p0, p1⟩ := P4.out
  clear b4 P3 B3 U3 L3
  go_wp2_with fail
  clear p0 p1
  refine (cof_yes N _ es w4 (HV.out.below B4.out) HB.out).mono ?_
  rintro e w5 ⟨G, rfl, u5, -, b5⟩
  rw [HKE.out] at u5
  have U5 : Hid _ := u5
  have P5 : Hid _ := P4.out.below b5
  have B5 : Hid (Below w.heap.size w w5) := bthen B4.out b5
  obtain ⟨p0, p1⟩ := P5.out
  clear u5 b5 P4 B4
  go_wp2_with fail
  clear p0 p1
  refine (cord_yes N _ es w5 (HV.out.below B5.out) HB.out).mono ?_
  rintro e w6 ⟨ov, rfl, i6, b6⟩
  rw [HKE.out, HCE.out] at i6
  have I6 : Hid _ := i6.sl
  have U6 : Hid _ := U5.out.below b6
  have P6 : Hid _ := P5.out.below b6
  have B6 : Hid (Below w.heap.size w w6) := bthen B5.out b6
  obtain ⟨p0, p1⟩ := P6.out
  clear i6 b6 P5 B5 U5
  obtain ⟨ao, co, rfl⟩ := I6.out.val
  rw [ints_length] at I6 ⊢
  go_wp2_with fail
  clear p0 p1
  have HMM : Hid (∀ k, k < N → (k ∈ C ↔ k = K k)) := fun k hk => by rw [HPM.out.mem_iff, kl_mem]; exact ⟨fun h => h.2, fun h => ⟨hk, h⟩⟩
  go_loopw [54] (fun z wr => ∃ k : Nat, z = .int .i64 k ∧ k ≤ N ∧ Below w6.heap.size w6 wr) (fun z _ => N - (intOf z).toNat)
  case atStart => exact ⟨0, rfl, Nat.zero_le _, Below.refl _ _⟩
  case round =>
    obtain ⟨k, rfl, hk, hbr⟩ := hrel
    have BR : Hid (Below w6.heap.size w6 wr) := hbr
    clear hbr
    by_cases hlt : k < N
    · have hki : (k : Int) < (N : Int) := by omega
      obtain ⟨d0, -⟩ := (U6.out.below BR.out).cell k hlt
      have hmm := HMM.out k hlt
      by_cases h1 : k = K k
      · have t1 : ((k : Int) == ((K k : Nat) : Int)) = true := by rw [← h1]; simp
        have HC1 : Hid (decide (k ∈ C) = true) := decide_eq_true (hmm.2 h1)
        have H1 : Hid _ := h1
        clear h1 hmm
        go_wp2_with fail
        refine (contains_any _ C k wr (I6.out.below BR.out) (by omega)).mono ?_
        rintro e w7 ⟨rfl, rfl⟩
        rw [HC1.out]
        go_wp2_with fail
        go_roundw
        case rel => exact ⟨k + 1, by go_num, by omega, BR.out⟩
        case measure => simp [intOf]; omega
      · have t1 : ((k : Int) == ((K k : Nat) : Int)) = false := by simp; omega
        have HC1 : Hid (decide (k ∈ C) = false) := decide_eq_false (fun h => h1 (hmm.1 h))
        have H1 : Hid _ := h1
        clear h1 hmm
        go_wp2_with fail
        refine (contains_any _ C k wr (I6.out.below BR.out) (by omega)).mono ?_
        rintro e w7 ⟨rfl, rfl⟩
        rw [HC1.out]
        go_wp2_with fail
        go_roundw
        case rel => exact ⟨k + 1, by go_num, by omega, BR.out⟩
        case measure => simp [intOf]; omega
    · obtain rfl : N = k := by omega
      have I7 : Hid _ := I6.out.below BR.out
      have U7 : Hid _ := U6.out.below BR.out
      have P7 : Hid _ := P6.out.below BR.out
      have B7 : Hid (Below w.heap.size w wr) := bthen B6.out BR.out
      clear P6 B6 U6 I6 BR
      obtain ⟨w7, hw7⟩ : ∃ w7, w7 = wr := ⟨_, rfl⟩
      subst hw7
      go_wp2_with fail
      go_loopw [69] (fun z wr => ∃ i : Nat, z = .int .i64 i ∧ i ≤ C.length ∧ Below w7.heap.size w7 wr) (fun z _ => C.length - (intOf z).toNat)
      case atStart => exact ⟨0, rfl, Nat.zero_le _, Below.refl _ _⟩
      case round =>
        obtain ⟨i, rfl, hi, hbr⟩ := hrel
        have BR : Hid (Below w7.heap.size w7 wr) := hbr
        clear hbr
        by_cases hlt : i < C.length
        · have hii : (i : Int) < (C.length : Int) := by omega
          obtain ⟨b, off, cap, hveq, hc, hle⟩ := (I7.out.below BR.out).some2 (by rw [ints_length]; omega)
          rw [ints_length] at hveq hc hle
          simp only [Value.slice.injEq] at hveq
          obtain ⟨rfl, -, rfl⟩ := hveq
          have d0 := hc i hlt
          rw [ints_at hlt] at d0
          have ST : Hid (SlI wr (.slice (some ⟨b, off, none⟩) i co) (ints (C.take i))) := by
            have e : (ints (C.take i)).length = i := by rw [ints_length, List.length_take]; omega
            refine .row b off co (by rw [e]) (fun j hj => ?_) (by rw [e]; omega)
            rw [e] at hj
            rw [hc j (by omega), ints_at (show j < C.length by omega), ints_at (show j < (C.take i).length by rw [List.length_take]; omega), List.getElem_take]
          have HNI : Hid (decide (C[i] ∈ C.take i) = false) := decide_eq_false (fun hm => by
            obtain ⟨j, hj, e⟩ := List.mem_iff_getElem.1 hm
            rw [List.length_take] at hj
            rw [List.getElem_take] at e
            have e1 := ix_at HND.out (show j < C.length by omega)
            have e2 := ix_at HND.out hlt
            rw [e, e2] at e1
            omega)
          obtain ⟨x, hx⟩ : ∃ x, C[i] = x := ⟨_, rfl⟩
          rw [hx] at d0 HNI
          have hic : (i : Int) ≤ (C.length : Int) := by omega
          have hicap : i ≤ co := by omega
          have hcc : (C.length : Int) ≤ (co : Int) := by omega
          clear hc hx
          go_wp2_with fail
          refine (contains_any _ (C.take i) x wr ST.out (by rw [List.length_take]; omega)).mono ?_
          rintro e w8 ⟨rfl, rfl⟩
          rw [HNI.out]
          go_wp2_with fail
          go_roundw
          case rel => exact ⟨i + 1, by go_num, by omega, BR.out⟩
          case measure => simp [intOf]; omega
        · have hiC : i = C.length := by omega
          have I8 : Hid _ := I7.out.below BR.out
          have U8 : Hid _ := U7.out.below BR.out
          have P8 : Hid _ := P7.out.below BR.out
          have B8 : Hid (Below w.heap.size w wr) := bthen B7.out BR.out
          clear P7 B7 U7 I7 BR
          obtain ⟨w8, hw8⟩ : ∃ w8, w8 = wr := ⟨_, rfl⟩
          subst hw8
          obtain ⟨p0, p1⟩ := P8.out
          go_wp2_with fail
          clear p0 p1
          go_loopw [83] (fun z wr => ∃ k : Nat, z = .int .i64 k ∧ k ≤ es.length ∧ Below w8.heap.size w8 wr) (fun z _ => es.length - (intOf z).toNat)
          case atStart => exact ⟨0, rfl, Nat.zero_le _, Below.refl _ _⟩
          case round =>
            obtain ⟨k, rfl, hk, hbr⟩ := hrel
            have BR : Hid (Below w8.heap.size w8 wr) := hbr
            have BW : Hid (Below w.heap.size w wr) := bthen B8.out hbr
            clear hbr
            by_cases hlt : k < es.length
            · have hki : (k : Int) < (es.length : Int) := by omega
              have HME : Hid _ := mem_at hlt
              obtain ⟨b0, off, cap, hveq, hc⟩ := (HV.out.below BW.out).some' (by omega)
              simp only [Value.slice.injEq] at hveq
              obtain ⟨rfl, -, rfl⟩ := hveq
              obtain ⟨e0, e1, e2⟩ := hc k hlt
              clear hc
              have hok := HB.out.ok _ (mem_at hlt)
              obtain ⟨p, hpe⟩ : ∃ p, at3 es k = p := ⟨_, rfl⟩
              rw [hpe] at e0 e1 e2 hok
              have HPE : Hid _ := hpe
              clear hpe
              obtain ⟨x, y, c⟩ := p
              simp only at e0 e1 e2 hok
              obtain ⟨ok1, ok2, ok3, ok4, ok5, ok6⟩ := hok
              obtain ⟨x, rfl⟩ := Int.eq_ofNat_of_zero_le ok1
              obtain ⟨y, rfl⟩ := Int.eq_ofNat_of_zero_le ok3
              have hxN : x < N := by omega
              have hyN : y < N := by omega
              have kxN : K x < N := HKK.out.lt x hxN
              have kyN : K y < N := HKK.out.lt y hyN
              have hfm := HPM.out.mem_iff.2 (HKK.out.frm HME.out)
              have htm := HPM.out.mem_iff.2 (HKK.out.tox HME.out)
              have hon := HON.out _ HME.out
              rw [HPE.out] at hfm htm hon
              simp only [Int.toNat_natCast] at hfm htm hon
              have A9 : Hid (Below wr.heap.size wr (wr.alloc (.cells #[.int .i64 x, .int .i64 y, .int .i64 c] 34))) := balloc (Below.refl _ _) _
              have D9 : Hid _ := box3_new wr (x : Int) (y : Int) (.int .i64 c) 34
              have I9 : Hid _ := (I8.out.below BR.out).below A9.out
              have U9 : Hid _ := (U8.out.below BR.out).below A9.out
              have B9 : Hid (Below w8.heap.size w8 (wr.alloc (.cells #[.int .i64 x, .int .i64 y, .int .i64 c] 34))) := balloc BR.out _
              go_upto_region 23 with fail
              clear e0 e1 e2
              generalize wr.alloc (.cells #[.int .i64 x, .int .i64 y, .int .i64 c] 34) = W9 at *
              generalize wr.heap.size = Y at *
              obtain ⟨d0, d1, d2⟩ := D9.out
              obtain ⟨g1, -⟩ := U9.out.cell x hxN
              obtain ⟨g2, -⟩ := U9.out.cell y hyN
              have h1 : ixz C (K x) = ((ix C (K x) : Nat) : Int) := ixz_in hfm
              have h2 : ixz C (K y) = ((ix C (K y) : Nat) : Int) := ixz_in htm
              have hcmp : ¬ ixz C (K y) < ixz C (K x) := by
                rw [h1, h2]
                by_cases h : K x = K y
                · rw [h]; omega
                · have := hon h; omega
              clear h1 h2 hon hfm htm
              go_quiet (first
                | (go_at_call 26; exact Calls.quiet_of_same (index_any _ C _ _ (I9.out.drewN _) (by omega))))
              go_wp2_with fail
              go_roundw
              case rel => exact ⟨k + 1, by go_num, by omega, bdrewN B9.out nq⟩
              case measure => simp [intOf]; omega
            · have hke : k = es.length := by omega
              have B9 : Hid (Below w.heap.size w wr) := bthen B8.out BR.out
              go_wp2_with fail
              go_ret
              exact ⟨rfl, B9.out⟩
theorem walk (n : Int) (v : Value) (es : List E) (w : World) (hv : SlE w v es) (hlen : es.length ≤ 9223372036854775807) :
    Calls Try.prog 6 #[.agg #[.int .i64 n, v]] w fun e w' => e = .returned (.bool true) ∧ Below w.heap.size w w' := by
  by_cases hc : nck n es = 0
  · obtain ⟨hb, hn⟩ := bn_of hc
    rw [← hn]
    exact walk_yes n.toNat v es w hv hb
  · exact walk_net n v es w hv hlen hc
end Go.Proofs.Ytkklgnfimkojlaa.COrder
