/-
  The law fellkeep.DagTight, walked.
-/
import Derived.Test.YtkklgnfimkojlaaKN
import Derived.Test.YtkklgnfimkojlaaKY
import Derived.Test.YtkklgnfimkojlaaTW
namespace Go.Proofs.Ytkklgnfimkojlaa.GTight
open Go.RowKit
open Nm Wm Dm Bm Fm Fl Km
attribute [local go_sem ↓] Go.wp_at_zero Go.wp_at_succ

theorem ord2 : ints (ordk 2 [(0, 1, 5)]) = [0, 1] := by kernel_rfl
theorem okd2 : okd 2 [(0, 1, 5)] := by
  refine ⟨?_, by simp⟩
  have := congrArg List.length ord2
  rw [ints_length] at this
  rw [this]; decide
theorem mo2' : (mo [(0, 1, 5)] (ordk 2 [(0, 1, 5)]) (ordk 2 [(0, 1, 5)]).length) = (mo [(0, 1, 5)] [0, 1] 2) := by kernel_rfl
theorem mo2 : lst 2 (mo [(0, 1, 5)] [0, 1] 2) = [0, 5] := by kernel_rfl
set_option maxRecDepth 100000 in
set_option maxHeartbeats 8000000 in
theorem walk_no (n z : Int) (v : Value) (es : List E) (w : World) (hz : z ≠ 0) (hd : ∀ W, SlE W v es → Calls Try.prog 17 #[.agg #[.int .i64 n, v]] W fun e w' => e = .returned (.tuple #[.slice none 0 0, .int .i64 z]) ∧ Below W.heap.size W w') (hv : SlE w v es) :
    Calls Try.prog 9 #[.agg #[.int .i64 n, v]] w fun e w' => e = .returned (.bool true) ∧ Below w.heap.size w w' := by
  obtain ⟨a0, c0, rfl⟩ := hv.val
  have HV : Hid _ := hv
  have HD : Hid _ := hd
  have HZ0 : Hid _ := hz
  have hz : (z != 0) = true := by simp [hz]
  clear hv hd
  go_enter Try.func9, Try.ntmps9
  go_wp2_with fail
  have P0 : Hid _ := box2_new w (n : Int) (.slice a0 es.length c0) 24
  have B0 : Hid (Below w.heap.size w (w.alloc (.cells #[.int .i64 n, .slice a0 es.length c0] 24))) := balloc (Below.refl _ _) _
  generalize w.alloc (.cells #[.int .i64 n, .slice a0 es.length c0] 24) = W0 at *
  refine (two_any W0).mono ?_
  rintro e w1 ⟨X1, rfl, e1, b1⟩
  have E1 : Hid _ := e1
  have P1 : Hid _ := P0.out.below b1
  have B1 : Hid (Below w.heap.size w w1) := bthen B0.out b1
  clear b1 e1 P0 B0
  go_wp2_with fail
  refine (dlong_yes 2 _ _ w1 E1.out rnt_two okd2).mono ?_
  rintro e w2 ⟨G2, rfl, u2, -, b2⟩
  rw [mo2'] at u2
  have U2 : Hid (SlI w2 (.slice (some ⟨G2, 0, none⟩) 2 2) [0, 5]) := by have := u2.sl; rw [mo2] at this; exact this
  have P2 : Hid _ := P1.out.below b2
  have B2 : Hid (Below w.heap.size w w2) := bthen B1.out b2
  clear b2 u2 P1 B1 E1
  go_wp2_with fail
  have L3 : Hid _ := lit_nums w2 [0, 5] #[.int .i64 0, .int .i64 5] 2 rfl rfl
  have b3 : Below w2.heap.size w2 (w2.alloc (.cells #[.int .i64 0, .int .i64 5] 3)) := balloc (Below.refl _ _) _
  have U3 : Hid _ := U2.out.below b3
  have P3 : Hid _ := P2.out.below b3
  have B3 : Hid (Below w.heap.size w (w2.alloc (.cells #[.int .i64 0, .int .i64 5] 3))) := bthen B2.out b3
  clear b3 P2 B2 U2
  generalize w2.alloc (.cells #[.int .i64 0, .int .i64 5] 3) = W3 at *
  generalize w2.heap.size = X3 at *
  refine (iequal_yes _ _ _ W3 U3.out L3.out (by decide)).mono ?_
  rintro e w4 ⟨rfl, b4⟩
  have P4 : Hid _ := P3.out.below b4
  have B4 : Hid (Below w.heap.size w w4) := bthen B3.out b4
  obtain ⟨p0, p1⟩ := P4.out
  clear b4 P3 B3 U3 L3
  go_wp2_with fail
  clear p0 p1
  refine (dlong_no n z _ es w4 HZ0.out HD.out (HV.out.below B4.out)).mono ?_
  rintro e w5 ⟨rfl, b5⟩
  have B5 : Hid (Below w.heap.size w w5) := bthen B4.out b5
  clear b5
  have L6 : Hid _ := cell_new w5 #[.slice none 0 0] 25 0 _ rfl
  have B6 : Hid (Below w.heap.size w (w5.alloc (.cells #[.slice none 0 0] 25))) := balloc B5.out _
  have l6 := L6.out
  go_wp2_with fail
  go_ret
  exact ⟨rfl, B6.out⟩
set_option maxRecDepth 100000 in
set_option maxHeartbeats 8000000 in
theorem walk_yes (N : Nat) (v : Value) (es : List E) (w : World) (hv : SlE w v es) (hb : Rnt N es) (ho : okd N es) :
    Calls Try.prog 9 #[.agg #[.int .i64 N, v]] w fun e w' => e = .returned (.bool true) ∧ Below w.heap.size w w' := by
  obtain ⟨a0, c0, rfl⟩ := hv.val
  have HV : Hid _ := hv
  have HB : Hid _ := hb
  have HO : Hid _ := ho
  have hn64 := hb.n64
  have hlen := hb.len
  have HF : Hid (Fwd N es (ordk N es)) := (lds_fwb hb.inn).fwd hb.inn (okd_acy ho)
  have HCL : Hid ((ordk N es).length = N) := by
    have := ((lds_fwb hb.inn).full hb.inn (okd_acy ho)).length_eq
    rw [List.length_range] at this; exact this
  have HM : Hid (Mo N es (ordk N es) N) := mo_is HF.out hb.inn (fun e he => (hb.nat he).2.2.2) N (by rw [HCL.out]; exact Nat.le_refl _)
  have HDL : Hid (∀ W, SlE W (.slice a0 es.length c0) es → Calls Try.prog 18 #[.agg #[.int .i64 N, .slice a0 es.length c0]] W fun e w' => ∃ G, e = .returned (.tuple #[.slice (some ⟨G, 0, none⟩) N N, .int .i64 0]) ∧ Ur w' G N (mo es (ordk N es) N) ∧ W.heap.size ≤ G ∧ Below W.heap.size W w') := fun W hW => by
    have := dlong_yes N _ es W hW hb ho
    rw [HCL.out] at this; exact this
  obtain ⟨C, hC⟩ : ∃ C, ordk N es = C := ⟨_, rfl⟩
  rw [hC] at HF HCL HM HDL
  obtain ⟨f, hf⟩ : ∃ f, mo es C N = f := ⟨_, rfl⟩
  have HFE : Hid _ := hf
  have HLO : Hid (∀ t, 0 ≤ f t ∧ f t ≤ 650000) := fun t => by
    rw [← hf]; have := HM.out.lo t; have := HM.out.hi t; omega
  have HRL : Hid (∀ e ∈ es, f e.1.toNat + e.2.2 ≤ f e.2.1.toNat) := fun e he => by
    rw [← hf]
    exact HM.out.rel e he (by have := ix_lt (HF.out.all _ (hb.inn e he).1); have := HCL.out; omega)
  have HFR : Hid (∀ t, f t = 0 ∨ es.any (fun e => decide (e.2.1.toNat = t) && (f e.1.toNat + e.2.2 == f t)) = true) := fun t => by
    rw [← hf]
    rcases HM.out.frm t with h | ⟨e, he, h1, -, h2⟩
    · exact .inl h
    · right; rw [List.any_eq_true]; exact ⟨e, he, by rw [h2]; simp [h1]⟩
  rw [hf] at HDL
  clear hv hb hC ho hf HM HF HCL
  go_enter Try.func9, Try.ntmps9
  go_wp2_with fail
  have P0 : Hid _ := box2_new w (N : Int) (.slice a0 es.length c0) 24
  have B0 : Hid (Below w.heap.size w (w.alloc (.cells #[.int .i64 N, .slice a0 es.length c0] 24))) := balloc (Below.refl _ _) _
  generalize w.alloc (.cells #[.int .i64 N, .slice a0 es.length c0] 24) = W0 at *
  refine (two_any W0).mono ?_
  rintro e w1 ⟨X1, rfl, e1, b1⟩
  have E1 : Hid _ := e1
  have P1 : Hid _ := P0.out.below b1
  have B1 : Hid (Below w.heap.size w w1) := bthen B0.out b1
  clear b1 e1 P0 B0
  go_wp2_with fail
  refine (dlong_yes 2 _ _ w1 E1.out rnt_two okd2).mono ?_
  rintro e w2 ⟨G2, rfl, u2, -, b2⟩
  rw [mo2'] at u2
  have U2 : Hid (SlI w2 (.slice (some ⟨G2, 0, none⟩) 2 2) [0, 5]) := by have := u2.sl; rw [mo2] at this; exact this
  have P2 : Hid _ := P1.out.below b2
  have B2 : Hid (Below w.heap.size w w2) := bthen B1.out b2
  clear b2 u2 P1 B1 E1
  go_wp2_with fail
  have L3 : Hid _ := lit_nums w2 [0, 5] #[.int .i64 0, .int .i64 5] 2 rfl rfl
  have b3 : Below w2.heap.size w2 (w2.alloc (.cells #[.int .i64 0, .int .i64 5] 3)) := balloc (Below.refl _ _) _
  have U3 : Hid _ := U2.out.below b3
  have P3 : Hid _ := P2.out.below b3
  have B3 : Hid (Below w.heap.size w (w2.alloc (.cells #[.int .i64 0, .int .i64 5] 3))) := bthen B2.out b3
  clear b3 P2 B2 U2
  generalize w2.alloc (.cells #[.int .i64 0, .int .i64 5] 3) = W3 at *
  generalize w2.heap.size = X3 at *
  refine (iequal_yes _ _ _ W3 U3.out L3.out (by decide)).mono ?_
  rintro e w4 ⟨rfl, b4⟩
  have P4 : Hid _ := P3.out.below b4
  have B4 : Hid (Below w.heap.size w w4) := bthen B3.out b4
  obtain ⟨p0, p1⟩ := P4.out
  clear b4 P3 B3 U3 L3
  go_wp2_with fail
  clear p0 p1
  refine (HDL.out w4 (HV.out.below B4.out)).mono ?_
  rintro e w5 ⟨G, rfl, u5, hG, b5⟩
  have U5 : Hid _ := u5
  have HG : Hid _ := hG
  have P5 : Hid _ := P4.out.below b5
  have B5 : Hid (Below w.heap.size w w5) := bthen B4.out b5
  clear u5 b5 hG P4 B4
  have L6 : Hid _ := cell_new w5 #[.slice (some ⟨G, 0, none⟩) N N] 25 0 _ rfl
  have A6 : Hid (Below w5.heap.size w5 (w5.alloc (.cells #[.slice (some ⟨G, 0, none⟩) N N] 25))) := balloc (Below.refl _ _) _
  have U6 : Hid _ := U5.out.below A6.out
  have P6 : Hid _ := P5.out.below A6.out
  have B6 : Hid (Below w.heap.size w (w5.alloc (.cells #[.slice (some ⟨G, 0, none⟩) N N] 25))) := balloc B5.out _
  have l6 := L6.out
  obtain ⟨p0, p1⟩ := P6.out
  clear U5 P5 B5
  go_wp2_with fail
  clear p0 p1 l6 A6
  generalize w5.alloc (.cells #[.slice (some ⟨G, 0, none⟩) N N] 25) = w6 at *
  obtain ⟨LB, hLB⟩ : ∃ LB, w5.heap.size = LB := ⟨_, rfl⟩
  rw [hLB] at L6 ⊢
  clear hLB
  go_loopw [42] (fun z wr => ∃ k : Nat, z = .int .i64 k ∧ k ≤ es.length ∧ Below w6.heap.size w6 wr) (fun z _ => es.length - (intOf z).toNat)
  case atStart => exact ⟨0, rfl, Nat.zero_le _, Below.refl _ _⟩
  case round =>
    obtain ⟨k, rfl, hk, hb⟩ := hrel
    have BW : Hid (Below w6.heap.size w6 wr) := hb
    clear hb
    by_cases hlt : k < es.length
    · have hki : (k : Int) < (es.length : Int) := by omega
      have HR0 : Hid _ := HRL.out _ (mem_at hlt)
      obtain ⟨b0, off, cap, hveq, hc⟩ := ((HV.out.below B6.out).below BW.out).some' (by omega)
      simp only [Value.slice.injEq] at hveq
      obtain ⟨rfl, -, rfl⟩ := hveq
      obtain ⟨e0, e1, e2⟩ := hc k hlt
      clear hc
      have hok := HB.out.ok _ (mem_at hlt)
      obtain ⟨p, hpe⟩ : ∃ p, at3 es k = p := ⟨_, rfl⟩
      rw [hpe] at e0 e1 e2 hok HR0
      clear hpe
      obtain ⟨x, y, c⟩ := p
      simp only at e0 e1 e2 hok HR0
      obtain ⟨ok1, ok2, ok3, ok4, ok5, ok6⟩ := hok
      obtain ⟨x, rfl⟩ := Int.eq_ofNat_of_zero_le ok1
      obtain ⟨y, rfl⟩ := Int.eq_ofNat_of_zero_le ok3
      have hxN : x < N := by omega
      have hyN : y < N := by omega
      have A1 : Hid (Below wr.heap.size wr (wr.alloc (.cells #[.int .i64 x, .int .i64 y, .int .i64 c] 34))) := balloc (Below.refl _ _) _
      have D1 : Hid _ := box3_new wr (x : Int) (y : Int) (.int .i64 c) 34
      have BX : Hid (Below w6.heap.size w6 (wr.alloc (.cells #[.int .i64 x, .int .i64 y, .int .i64 c] 34))) := bthen BW.out A1.out
      obtain ⟨d0, d1, d2⟩ := D1.out
      obtain ⟨q1, -⟩ := (U6.out.below BX.out).cell x hxN
      obtain ⟨q2, -⟩ := (U6.out.below BX.out).cell y hyN
      have l6 := kept BX.out L6.out
      obtain ⟨h1, h2⟩ := HLO.out x
      obtain ⟨h3, h4⟩ := HLO.out y
      have h5 : f x + c ≤ f y := HR0.out
      obtain ⟨a, ha⟩ : ∃ a, f x = a := ⟨_, rfl⟩
      obtain ⟨b, hb⟩ : ∃ b, f y = b := ⟨_, rfl⟩
      rw [ha] at q1 h1 h2 h5
      rw [hb] at q2 h3 h4 h5
      clear ha hb
      have hxi : (x : Int) < (N : Int) := by omega
      have hyi : (y : Int) < (N : Int) := by omega
      obtain ⟨sm, hsm⟩ : ∃ sm, a + c = sm := ⟨_, rfl⟩
      have hw : IntKind.i64.wrap sm = sm := by rw [IntKind.wrap_i64]; omega
      have hnl : ¬ b < sm := by omega
      go_upto_region 12 with fail
      clear e0 e1 e2
      generalize wr.alloc (.cells #[.int .i64 x, .int .i64 y, .int .i64 c] 34) = w7 at *
      generalize wr.heap.size = X at *
      go_quiet (fail)
      go_wp2_with fail
      go_roundw
      case rel => exact ⟨k + 1, by go_num, by omega, bdrewN BX.out nq⟩
      case measure => simp [intOf]; omega
    · obtain rfl : k = es.length := by omega
      have l6 := kept BW.out L6.out
      go_wp2_with fail
      have B8 : Hid (Below w.heap.size w wr) := bthen B6.out BW.out
      have P8 : Hid _ := P6.out.below BW.out
      have U8 : Hid _ := U6.out.below BW.out
      have L8 : Hid _ := kept BW.out L6.out
      clear l6 B6 P6 U6 L6 BW
      generalize wr = w8 at *
      go_loopw [63] (fun z wr => ∃ i : Nat, z = .int .i64 i ∧ i ≤ N ∧ Below w8.heap.size w8 wr) (fun z _ => N - (intOf z).toNat)
      case atStart => exact ⟨0, rfl, Nat.zero_le _, Below.refl _ _⟩
      case round =>
        obtain ⟨i, rfl, hi, hb⟩ := hrel
        have BW : Hid (Below w8.heap.size w8 wr) := hb
        clear hb
        by_cases hlt : i < N
        · have hii : (i : Int) < (N : Int) := by omega
          obtain ⟨q1, -⟩ := (U8.out.below BW.out).cell i hlt
          obtain ⟨h1, h2⟩ := HLO.out i
          go_upto_region 18 with fail
          have hz : (wr.alloc (.cells #[.int .i64 (i : Int)] 3)).heap.size = wr.heap.size + 1 := by simp
          have B9 : Hid (Below wr.heap.size wr ((wr.alloc (.cells #[.int .i64 i] 3)).alloc (.cells #[.int .i64 (f i)] 3))) := balloc (balloc (Below.refl _ _) _) _
          have a9 : Below (wr.heap.size + 1) (wr.alloc (.cells #[.int .i64 (i : Int)] 3)) ((wr.alloc (.cells #[.int .i64 i] 3)).alloc (.cells #[.int .i64 (f i)] 3)) := by rw [← hz]; exact balloc (Below.refl _ _) _
          have V9 : Hid (((wr.alloc (.cells #[.int .i64 i] 3)).alloc (.cells #[.int .i64 (f i)] 3)).cell? ⟨wr.heap.size, 0, none⟩ = some (.int .i64 (i : Int))) := kept (by rw [hz]; exact a9) (cell_new wr #[.int .i64 (i : Int)] 3 0 _ rfl)
          have M9 : Hid (((wr.alloc (.cells #[.int .i64 i] 3)).alloc (.cells #[.int .i64 (f i)] 3)).cell? ⟨wr.heap.size + 1, 0, none⟩ = some (.int .i64 (f i))) := by
            have := cell_new (wr.alloc (.cells #[.int .i64 (i : Int)] 3)) #[.int .i64 (f i)] 3 0 _ rfl
            rw [hz] at this; exact this
          have BX : Hid (Below w8.heap.size w8 ((wr.alloc (.cells #[.int .i64 i] 3)).alloc (.cells #[.int .i64 (f i)] 3))) := bthen BW.out B9.out
          clear hz a9 B9 BW q1
          have HFI : Hid _ := HFR.out i
          generalize ((wr.alloc (.cells #[.int .i64 i] 3)).alloc (.cells #[.int .i64 (f i)] 3)) = w9 at *
          obtain ⟨VB, hVB⟩ : ∃ VB, wr.heap.size = VB := ⟨_, rfl⟩
          obtain ⟨MB, hMB⟩ : ∃ MB, wr.heap.size + 1 = MB := ⟨_, rfl⟩
          rw [hVB] at V9
          rw [hMB] at M9
          rw [hMB, hVB]
          clear hVB hMB
          obtain ⟨a, ha⟩ : ∃ a, f i = a := ⟨_, rfl⟩
          rw [ha] at h1 h2 M9 HFI
          have m9 := M9.out
          have v9 := V9.out
          have l9 := kept BX.out L8.out
          obtain ⟨p0, p1⟩ := P8.out.below BX.out
          clear ha
          by_cases hq : a = 0
          · subst hq
            go_wp2_with fail
            go_roundw
            case rel => exact ⟨i + 1, by go_num, by omega, BX.out⟩
            case measure => simp [intOf]; omega
          · have HAN : Hid _ := HFI.out.resolve_left hq
            have hgt : 0 < a := by omega
            clear HFI hq
            have Q9 : Hid (Q30.Asks w9 VB LB MB N (fun e => decide (e.2.1.toNat = i) && (f e.1.toNat + e.2.2 == a))) := ⟨fun w' hb x y c hx hy h5 h6 => Q30.ask N x y VB LB MB i c a _ f w' hx hy ⟨h5, h6⟩ (by have := HLO.out x; omega) (kept hb (kept BX.out L8.out)) ((U8.out.below BX.out).sl.below hb) (kept hb V9.out) (kept hb M9.out)⟩
            go_wp2_with fail
            refine (Q30.con VB LB MB N _ es _ w9 (HV.out.below (bthen B8.out BX.out)) HB.out Q9.out).mono ?_
            rintro e w10 ⟨rfl, b10⟩
            rw [HAN.out]
            have B10 : Hid (Below w8.heap.size w8 w10) := bthen BX.out b10
            clear b10
            go_wp2_with fail
            go_roundw
            case rel => exact ⟨i + 1, by go_num, by omega, B10.out⟩
            case measure => simp [intOf]; omega
        · obtain rfl : i = N := by omega
          go_wp2_with fail
          go_ret
          exact ⟨rfl, bthen B8.out BW.out⟩
theorem walk (n : Int) (v : Value) (es : List E) (w : World) (hv : SlE w v es) (hlen : es.length ≤ 9223372036854775807) :
    Calls Try.prog 9 #[.agg #[.int .i64 n, v]] w fun e w' => e = .returned (.bool true) ∧ Below w.heap.size w w' := by
  by_cases hc : nck n es = 0
  · obtain ⟨hb, hn⟩ := bn_of hc
    rw [← hn]
    by_cases ho : okd n.toNat es
    · exact walk_yes n.toNat v es w hv hb ho
    · exact walk_no n.toNat 6 v es w (by decide) (fun W hW => (dord n.toNat _ es W hW hb).mono (by
        rintro e w' ⟨⟨h1, _⟩ | ⟨_, h1⟩, h3⟩
        · exact absurd h1 ho
        · exact ⟨h1, h3⟩)) hv
  · exact walk_no n (nck n es) v es w hc (fun W hW => dord_net n v es W hW hlen hc) hv
end Go.Proofs.Ytkklgnfimkojlaa.GTight
