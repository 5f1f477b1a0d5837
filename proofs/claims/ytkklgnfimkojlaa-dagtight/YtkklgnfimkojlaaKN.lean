/-
  Contract: dag's Long.
-/
import Derived.Test.YtkklgnfimkojlaaKM
namespace Go.Proofs.Ytkklgnfimkojlaa
open Go.RowKit
open Nm Wm Dm Bm Fm Fl Km
attribute [local go_sem ↓] Go.wp_at_zero Go.wp_at_succ

set_option maxRecDepth 100000 in
set_option maxHeartbeats 8000000 in
theorem dlong_no (n : Int) (z : Int) (v : Value) (es : List E) (w : World) (hz : z ≠ 0) (hd : ∀ W, SlE W v es → Calls Try.prog 17 #[.agg #[.int .i64 n, v]] W fun e w' => e = .returned (.tuple #[.slice none 0 0, .int .i64 z]) ∧ Below W.heap.size W w') (hv : SlE w v es) :
    Calls Try.prog 18 #[.agg #[.int .i64 n, v]] w fun e w' => e = .returned (.tuple #[.slice none 0 0, .int .i64 z]) ∧ Below w.heap.size w w' := by
  obtain ⟨a0, c0, rfl⟩ := hv.val
  have HV : Hid _ := hv
  have HC : Hid _ := hd
  have hz : (z != 0) = true := by simp [hz]
  clear hv hd
  go_enter Try.func18, Try.ntmps18
  go_wp2_with fail
  have B0 : Hid (Below w.heap.size w (w.alloc (.cells #[.int .i64 n, .slice a0 es.length c0] 24))) := balloc (Below.refl _ _) _
  generalize w.alloc (.cells #[.int .i64 n, .slice a0 es.length c0] 24) = W0 at *
  refine (HC.out W0 (HV.out.below B0.out)).mono ?_
  rintro e w1 ⟨rfl, b1⟩
  have B1 : Hid (Below w.heap.size w w1) := bthen B0.out b1
  clear b1 B0
  go_wp2_with fail
  go_ret2
  exact ⟨rfl, B1.out⟩
set_option maxRecDepth 100000 in
set_option maxHeartbeats 8000000 in
theorem dlong_yes (N : Nat) (v : Value) (es : List E) (w : World) (hv : SlE w v es) (hb : Rnt N es) (ho : okd N es) :
    Calls Try.prog 18 #[.agg #[.int .i64 N, v]] w fun e w' => ∃ G, e = .returned (.tuple #[.slice (some ⟨G, 0, none⟩) N N, .int .i64 0]) ∧ Ur w' G N (mo es (ordk N es) (ordk N es).length) ∧ w.heap.size ≤ G ∧ Below w.heap.size w w' := by
  obtain ⟨a0, c0, rfl⟩ := hv.val
  have HV : Hid _ := hv
  have HB : Hid _ := hb
  have hn64 := hb.n64
  have HC : Hid (∀ W, SlE W (.slice a0 es.length c0) es → Calls Try.prog 17 #[.agg #[.int .i64 N, .slice a0 es.length c0]] W fun e w' => ∃ ov, e = .returned (.tuple #[ov, .int .i64 0]) ∧ Is w' W.heap.size ov (ints (ordk N es)) ∧ Below W.heap.size W w') := fun W hW => (dord N _ es W hW hb).mono (by
    rintro e w' ⟨⟨_, ov, h1, h2⟩ | ⟨h1, _⟩, h3⟩
    · exact ⟨ov, h1, h2, h3⟩
    · exact absurd ho h1)
  have HF : Hid (Fwd N es (ordk N es)) := (lds_fwb hb.inn).fwd hb.inn (okd_acy ho)
  obtain ⟨C, hC⟩ : ∃ C, ordk N es = C := ⟨_, rfl⟩
  have HCE : Hid _ := hC
  rw [hC] at HC HF ⊢
  have HMO : Hid (∀ k, k ≤ C.length → Mo N es C k) := fun k hk => mo_is HF.out hb.inn (fun e he => (hb.nat he).2.2.2) k hk
  have hcl : C.length ≤ 64 := by
    have := sub_len C (List.range N) HF.out.nd (fun x hx => List.mem_range.2 (HF.out.in_ x hx))
    rw [List.length_range] at this; omega
  have hlen := hb.len
  clear hv hb hC ho
  go_enter Try.func18, Try.ntmps18
  go_wp2_with fail
  have P0 : Hid _ := box2_new w (N : Int) (.slice a0 es.length c0) 24
  have B0 : Hid (Below w.heap.size w (w.alloc (.cells #[.int .i64 N, .slice a0 es.length c0] 24))) := balloc (Below.refl _ _) _
  generalize w.alloc (.cells #[.int .i64 N, .slice a0 es.length c0] 24) = W0 at *
  refine (HC.out W0 (HV.out.below B0.out)).mono ?_
  rintro e w1 ⟨ov, rfl, i1, b1⟩
  have I1 : Hid _ := i1.sl
  have P1 : Hid _ := P0.out.below b1
  have B1 : Hid (Below w.heap.size w w1) := bthen B0.out b1
  obtain ⟨p0, p1⟩ := P1.out
  have hmk := made_ur N hn64 w1
  clear i1 b1 P0 B0 HC
  obtain ⟨ao, co, rfl⟩ := I1.out.val
  rw [ints_length] at I1 ⊢
  go_wp2_with fail
  clear p0 p1 hmk
  have U2 : Hid (Ur (w1.alloc (.cells (Array.ofFn (n := N) fun _ => .int .i64 0) 3)) w1.heap.size N (mo es C 0)) := Ur.mk (d := fun _ => 0) (heap_alloc_new w1 _)
  have I2 : Hid _ := I1.out.below (balloc (Below.refl _ _) (.cells (Array.ofFn (n := N) fun _ => .int .i64 0) 3))
  have P2 : Hid _ := P1.out.below (balloc (Below.refl _ _) (.cells (Array.ofFn (n := N) fun _ => .int .i64 0) 3))
  have B2 : Hid (Below w.heap.size w (w1.alloc (.cells (Array.ofFn (n := N) fun _ => .int .i64 0) 3))) := balloc B1.out _
  have HZ : Hid (w.heap.size ≤ w1.heap.size) := B1.out.size
  have HZ1 : Hid (w.heap.size < w1.heap.size) := World.block_lt_of_cell? w1 ⟨w.heap.size, 0, none⟩ P1.out.g0
  have OG : Hid (∀ b off c, 0 < C.length → Value.slice ao C.length co = .slice (some ⟨b, off, none⟩) C.length c → b ≠ w1.heap.size) := fun b off c h0 e => by
    obtain ⟨b', off', c', h1, h2, _⟩ := I1.out.some2 (by rw [ints_length]; exact h0)
    rw [e, ints_length] at h1
    simp only [Value.slice.injEq, Option.some.injEq, Addr.mk.injEq] at h1
    obtain ⟨⟨rfl, rfl, _⟩, _⟩ := h1
    have := World.block_lt_of_cell? w1 ⟨b, off + 0, none⟩ (h2 0 (by rw [ints_length]; exact h0))
    simp only at this
    omega
  generalize w1.alloc (.cells (Array.ofFn (n := N) fun _ => .int .i64 0) 3) = W2 at *
  generalize w1.heap.size = G at *
  clear I1 P1 B1
  have VG : Hid (∀ W, W2.grownBy W (some G) → SlE W (.slice a0 es.length c0) es) := fun W hg => (HV.out.below B2.out).grown hg (fun hl a c o e => by
    obtain ⟨b', off', c', h1, h2⟩ := HV.out.some' hl
    rw [e] at h1
    simp only [Value.slice.injEq, Option.some.injEq, Addr.mk.injEq] at h1
    obtain ⟨⟨rfl, _, _⟩, _⟩ := h1
    have := World.block_lt_of_cell? w ⟨a, off' + 0 * 3, none⟩ (h2 0 hl).1
    simp only at this
    have := HZ.out; omega)
  have GNE : Hid (w.heap.size ≠ G) := by have := HZ1.out; unfold Hid; omega
  go_loopw [24] (fun z wr => ∃ k : Nat, z = .int .i64 k ∧ k ≤ C.length ∧ Ur wr G N (mo es C k) ∧ W2.grownBy wr (some G)) (fun z _ => C.length - (intOf z).toNat)
  case atStart => exact ⟨0, rfl, Nat.zero_le _, U2.out, grown_refl _ _⟩
  case round =>
    obtain ⟨k, rfl, hk, hu, hg⟩ := hrel
    clear U2
    have UR : Hid _ := hu
    have GR : Hid _ := hg
    clear hu hg
    by_cases hlt : k < C.length
    · have hki : (k : Int) < (C.length : Int) := by omega
      obtain ⟨bo, off, cap, hveq, hcl, _⟩ := I2.out.some2 (by rw [ints_length]; omega)
      rw [ints_length] at hveq hcl
      have hbo := OG.out bo off cap (by omega) hveq
      simp only [Value.slice.injEq] at hveq
      obtain ⟨rfl, -, rfl⟩ := hveq
      have e0 := grown_cell GR.out hbo (hcl k hlt)
      rw [ints_at hlt] at e0
      have hvN : C[k] < N := HF.out.in_ _ (List.getElem_mem hlt)
      have hget : C.getD k 0 = C[k] := by simp [List.getD_eq_getElem?_getD, hlt]
      obtain ⟨x0, hx0⟩ : ∃ x0, C[k] = x0 := ⟨_, rfl⟩
      rw [hx0] at e0 hvN hget
      have HG : Hid _ := hget
      have hix : ix C x0 = k := by rw [← hx0]; exact ix_at HF.out.nd hlt
      have HMI : Hid (∀ i, i ≤ es.length → Mi es x0 (mo es C k) i) := fun i hi => mi_is (fun e he h1 h2 => by have := HF.out.on e he; rw [h1, h2] at this; omega) _ i hi
      have HBD : Hid (∀ i, i ≤ es.length → ∀ t, 0 ≤ mi es x0 (mo es C k) i t ∧ mi es x0 (mo es C k) i t ≤ 650000) := fun i hi t => by
        have h1 := HMI.out i hi
        have h2 := HMO.out k hk
        have h3 := h1.ge t
        have h4 := h2.lo t
        refine ⟨by omega, ?_⟩
        rcases h1.frm t with h | ⟨e, he, _, _, h5⟩
        · have := h2.hi t; omega
        · have := h2.hi x0; have := (HB.out.nat he).2.2.2; omega
      have HNX : Hid (mo es C (k + 1) = mi es x0 (mo es C k) es.length) := by unfold Hid; rw [mo, HG.out]
      have p1 := grown_cell GR.out GNE.out P2.out.g1
      clear hcl hx0 hget hix
      go_wp2_with fail
      clear p1 e0
      obtain ⟨M, hM⟩ : ∃ M, mo es C k = M := ⟨_, rfl⟩
      rw [hM] at UR HNX HBD HMI
      clear hM
      go_loopw [31] (fun z wr => ∃ i : Nat, z = .int .i64 i ∧ i ≤ es.length ∧ Ur wr G N (mi es x0 M i) ∧ W2.grownBy wr (some G)) (fun z _ => es.length - (intOf z).toNat)
      case atStart => exact ⟨0, rfl, Nat.zero_le _, UR.out, GR.out⟩
      case round =>
        obtain ⟨i, rfl, hi, hu, hg⟩ := hrel
        clear UR GR
        have UR : Hid _ := hu
        have GR : Hid _ := hg
        clear hu hg
        by_cases hil : i < es.length
        · have hii : (i : Int) < (es.length : Int) := by omega
          obtain ⟨b0, off2, cap2, hveq, hc⟩ := (VG.out wr GR.out).some' (by omega)
          simp only [Value.slice.injEq] at hveq
          obtain ⟨rfl, -, rfl⟩ := hveq
          obtain ⟨e0, e1, e2⟩ := hc i hil
          clear hc
          have hok := HB.out.ok _ (mem_at hil)
          obtain ⟨p, hpe⟩ : ∃ p, at3 es i = p := ⟨_, rfl⟩
          rw [hpe] at e0 e1 e2 hok
          have HPE : Hid _ := hpe
          clear hpe
          obtain ⟨x, y, c⟩ := p
          simp only at e0 e1 e2 hok
          obtain ⟨ok1, ok2, ok3, ok4, ok5, ok6⟩ := hok
          obtain ⟨x, rfl⟩ := Int.eq_ofNat_of_zero_le ok1
          obtain ⟨y, rfl⟩ := Int.eq_ofNat_of_zero_le ok3
          have hyN : y < N := by omega
          have A1 : Hid (Below wr.heap.size wr (wr.alloc (.cells #[.int .i64 x, .int .i64 y, .int .i64 c] 34))) := balloc (Below.refl _ _) _
          have D1 : Hid _ := box3_new wr (x : Int) (y : Int) (.int .i64 c) 34
          have U3 : Hid _ := UR.out.below A1.out
          have G3 : Hid (W2.grownBy (wr.alloc (.cells #[.int .i64 x, .int .i64 y, .int .i64 c] 34)) (some G)) := grown_trans GR.out (grown_below A1.out)
          obtain ⟨d0, d1, d2⟩ := D1.out
          have QX : Hid (G < wr.heap.size) := UR.out.lt
          by_cases hx : x = x0
          · have HY : Hid _ := mi_yes (M := M) HPE.out hx
            have t1 : ((x : Int) == (x0 : Int)) = true := by simp [hx]
            have HX : Hid _ := hx
            clear hx
            obtain ⟨q1, q2⟩ := U3.out.cell y hyN
            obtain ⟨q3, -⟩ := U3.out.cell x0 hvN
            obtain ⟨b1, b2⟩ := HBD.out i hi y
            obtain ⟨b3, b4⟩ := HBD.out i hi x0
            obtain ⟨a, ha⟩ : ∃ a, mi es x0 M i y = a := ⟨_, rfl⟩
            obtain ⟨m, hm⟩ : ∃ m, mi es x0 M i x0 = m := ⟨_, rfl⟩
            rw [ha] at q1 b1 b2 HY
            rw [hm] at q3 b3 b4 HY
            clear ha hm
            go_upto_region 12 with fail
            generalize wr.alloc (.cells #[.int .i64 x, .int .i64 y, .int .i64 c] 34) = W3 at *
            generalize wr.heap.size = X at *
            have hyi : (y : Int) < (N : Int) := by omega
            have hvi : (x0 : Int) < (N : Int) := by omega
            obtain ⟨sm, hsm⟩ : ∃ sm, m + c = sm := ⟨_, rfl⟩
            have hw : IntKind.i64.wrap sm = sm := by rw [IntKind.wrap_i64]; omega
            clear e0 e1 e2
            by_cases hle : a < sm
            · have hnl : ¬ sm ≤ a := by omega
              refine wp_region_last_lit 17 rfl (by kernel_rfl) (by kernel_rfl) ?_
              simp only [List.take_succ_cons, List.take_zero]
              repeat (quiet_step (fail))
              refine wpQuiet_nil ?_
              intro w9 hw9
              obtain ⟨np, rfl⟩ := hw9
              have U8 : Hid _ := U3.out.below (bdrewN (Below.refl _ _) np)
              have U9 : Hid _ := U8.out.put y (max a (m + c))
              rw [← HY.out] at U9
              have G9 : Hid (W2.grownBy (W3.drewN np) (some G)) := grown_drewN G3.out np
              obtain ⟨q8, q9⟩ := U8.out.cell y hyN
              have HMX : Hid (max a (m + c) = sm) := by unfold Hid; omega
              rw [HMX.out] at U9
              refine wpOp_step rfl (fun K hK => ?_)
              go_simp
              refine hK _ _ ?_
              clear hK K
              go_wp2_with fail
              go_roundw
              case rel => exact ⟨i + 1, by go_num, by omega, U9.out, grown_setCell G9.out⟩
              case measure => simp [intOf]; omega
            · have hle2 : sm ≤ a := by omega
              refine wp_region_last_lit 17 rfl (by kernel_rfl) (by kernel_rfl) ?_
              simp only [List.take_succ_cons, List.take_zero]
              repeat (quiet_step (fail))
              refine wpQuiet_nil ?_
              intro w9 hw9
              obtain ⟨np, rfl⟩ := hw9
              have U8 : Hid _ := U3.out.below (bdrewN (Below.refl _ _) np)
              have U9 : Hid _ := U8.out.put y (max a (m + c))
              rw [← HY.out] at U9
              have G9 : Hid (W2.grownBy (W3.drewN np) (some G)) := grown_drewN G3.out np
              obtain ⟨q8, q9⟩ := U8.out.cell y hyN
              have HMX : Hid (max a (m + c) = a) := by unfold Hid; omega
              rw [HMX.out] at U9
              refine wpOp_step rfl (fun K hK => ?_)
              go_simp
              refine hK _ _ ?_
              clear hK K
              go_wp2_with fail
              go_roundw
              case rel => exact ⟨i + 1, by go_num, by omega, U9.out, grown_setCell G9.out⟩
              case measure => simp [intOf]; omega
          · have HY : Hid _ := mi_no (M := M) HPE.out hx
            have t1 : ((x : Int) == (x0 : Int)) = false := by simp; omega
            have HX : Hid _ := hx
            clear hx
            go_wp2_with fail
            go_roundw
            case rel => exact ⟨i + 1, by go_num, by omega, by rw [HY.out]; exact U3.out, G3.out⟩
            case measure => simp [intOf]; omega
        · obtain rfl : i = es.length := by omega
          go_wp2_with fail
          go_roundw
          case rel => exact ⟨k + 1, by go_num, by omega, by rw [HNX.out]; exact UR.out, GR.out⟩
          case measure => simp [intOf]; omega
    · have hke : k = C.length := by omega
      subst hke
      go_wp2_with fail
      go_ret2
      exact ⟨G, rfl, UR.out, HZ.out, B2.out.trans ⟨GR.out.os, GR.out.tape, GR.out.output, GR.out.size, fun x hx => GR.out.block x (by have := B2.out.size; omega) (fun e => by have := Option.some.inj e; have := HZ.out; omega)⟩⟩
end Go.Proofs.Ytkklgnfimkojlaa
