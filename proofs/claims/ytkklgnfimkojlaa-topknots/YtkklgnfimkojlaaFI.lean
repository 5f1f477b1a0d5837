/-
  Contract: between of truth values.
-/
import Derived.Test.YtkklgnfimkojlaaFH
import Derived.Test.YtkklgnfimkojlaaNB
namespace Go.Proofs.Ytkklgnfimkojlaa
open Go.RowKit
open Nm Wm Dm Bm Fm Fl
attribute [local go_sem ↓] Go.wp_at_zero Go.wp_at_succ

abbrev reach0 (es : List E) : Nat → Nat → Bool := sed or (fun _ => true) es (st false true) es.length
set_option maxRecDepth 100000 in
set_option maxHeartbeats 8000000 in
theorem between_net_or (n : Int) (v : Value) (es : List E) (w : World) (hv : SlE w v es) (HL : es.length ≤ 9223372036854775807) (hc : nck n es ≠ 0) :
    Calls Try.prog 49 #[.agg #[.int .i64 n, v], .agg #[.bool false, .bool true, .func (.func 50) #[] #[], .func (.func 51) #[] #[], .func (.func 52) #[] #[]]] w fun e w' => e = .returned (.tuple #[.slice none 0 0, .int .i64 (nck n es)]) ∧ Below w.heap.size w w' := by
  obtain ⟨a0, c0, rfl⟩ := hv.val
  have HV : Hid _ := hv
  have hz : (nck n es != 0) = true := by simp [hc]
  clear hv hc
  go_enter Try.func49, Try.ntmps49
  go_wp2_with fail
  have P0 : Hid _ := box2_new w n (.slice a0 es.length c0) 24
  have B0 : Hid (Below w.heap.size w (w.alloc (.cells #[.int .i64 n, .slice a0 es.length c0] 24))) := balloc (Below.refl _ _) _
  have hz0 : (w.alloc (.cells #[.int .i64 n, .slice a0 es.length c0] 24)).heap.size = w.heap.size + 1 := by simp
  generalize w.alloc (.cells #[.int .i64 n, .slice a0 es.length c0] 24) = W0 at *
  have M1 : Hid _ := bm5_b W0 (.bool false) (.bool true) (.func (.func 50) #[] #[]) (.func (.func 51) #[] #[]) (.func (.func 52) #[] #[])
  have P1 : Hid _ := P0.out.below (balloc (Below.refl _ _) (.cells #[.bool false, .bool true, .func (.func 50) #[] #[], .func (.func 51) #[] #[], .func (.func 52) #[] #[]] 66))
  have B1 : Hid (Below w.heap.size w (W0.alloc (.cells #[.bool false, .bool true, .func (.func 50) #[] #[], .func (.func 51) #[] #[], .func (.func 52) #[] #[]] 66))) := balloc B0.out _
  rw [hz0] at M1
  clear hz0 P0 B0
  generalize W0.alloc (.cells #[.bool false, .bool true, .func (.func 50) #[] #[], .func (.func 51) #[] #[], .func (.func 52) #[] #[]] 66) = W1 at *
  refine (ncheck_any n _ es W1 (HV.out.below B1.out) HL).mono ?_
  rintro e w2 ⟨rfl, b2⟩
  have B2 : Hid (Below w.heap.size w w2) := bthen B1.out b2
  clear b2
  go_wp2_with fail
  go_ret2
  exact ⟨rfl, B2.out⟩
set_option maxRecDepth 100000 in
set_option maxHeartbeats 8000000 in
theorem between_or (N : Nat) (v : Value) (es : List E) (w : World) (hv : SlE w v es) (hb : Rnt N es) :
    Calls Try.prog 49 #[.agg #[.int .i64 N, v], .agg #[.bool false, .bool true, .func (.func 50) #[] #[], .func (.func 51) #[] #[], .func (.func 52) #[] #[]]] w fun e w' => ∃ R Gs, e = .returned (.tuple #[.slice (some ⟨R, 0, none⟩) N N, .int .i64 0]) ∧ Tb w' R N N Gs (allf or and N (reach0 es) N) ∧ Below w.heap.size w w' := by
  obtain ⟨a0, c0, rfl⟩ := hv.val
  have HV : Hid _ := hv
  have HB : Hid _ := hb
  have HC : Hid _ := hb.nck
  have hn64 := hb.n64
  have hlen := hb.len
  clear hv hb
  go_enter Try.func49, Try.ntmps49
  go_wp2_with fail
  have P0 : Hid _ := box2_new w (N : Int) (.slice a0 es.length c0) 24
  have B0 : Hid (Below w.heap.size w (w.alloc (.cells #[.int .i64 N, .slice a0 es.length c0] 24))) := balloc (Below.refl _ _) _
  have hz0 : (w.alloc (.cells #[.int .i64 N, .slice a0 es.length c0] 24)).heap.size = w.heap.size + 1 := by simp
  generalize w.alloc (.cells #[.int .i64 N, .slice a0 es.length c0] 24) = W0 at *
  have M1 : Hid _ := bm5_b W0 (.bool false) (.bool true) (.func (.func 50) #[] #[]) (.func (.func 51) #[] #[]) (.func (.func 52) #[] #[])
  have P1 : Hid _ := P0.out.below (balloc (Below.refl _ _) (.cells #[.bool false, .bool true, .func (.func 50) #[] #[], .func (.func 51) #[] #[], .func (.func 52) #[] #[]] 66))
  have B1 : Hid (Below w.heap.size w (W0.alloc (.cells #[.bool false, .bool true, .func (.func 50) #[] #[], .func (.func 51) #[] #[], .func (.func 52) #[] #[]] 66))) := balloc B0.out _
  rw [hz0] at M1
  clear hz0 P0 B0
  generalize W0.alloc (.cells #[.bool false, .bool true, .func (.func 50) #[] #[], .func (.func 51) #[] #[], .func (.func 52) #[] #[]] 66) = W1 at *
  refine (ncheck_any N _ es W1 (HV.out.below B1.out) (by omega)).mono ?_
  rintro e w2 ⟨rfl, b2⟩
  rw [HC.out]
  have P2 : Hid _ := P1.out.below b2
  have M2 : Hid _ := M1.out.below b2
  have B2 : Hid (Below w.heap.size w w2) := bthen B1.out b2
  clear b2 P1 M1 B1
  obtain ⟨p0, p1⟩ := P2.out
  obtain ⟨m0, m1, m2, m3, m4⟩ := M2.out.cell
  go_wp2_with fail
  clear p0 p1 m0 m1 m2 m3 m4
  refine (straight_or N 51 _ _ _ es w2 (HV.out.below B2.out) HB.out).mono ?_
  rintro e w3 ⟨R, Gs, rfl, t3, hgl, b3⟩
  have T3 : Hid _ := t3
  have M3 : Hid _ := M2.out.below b3
  have GL : Hid (∀ i, i < N → w.heap.size ≤ Gs i) := fun i hi => Nat.le_trans B2.out.size (hgl i hi)
  have B3 : Hid (Below w.heap.size w w3) := bthen B2.out b3
  have MX : Hid (∀ i, i < N → w.heap.size + 1 < Gs i) := fun i hi => Nat.lt_of_lt_of_le M2.out.lt (hgl i hi)
  clear t3 b3 hgl M2 P2 B2
  go_wp2_with fail
  have M3L : Hid (w.heap.size + 1 < w3.heap.size) := M3.out.lt
  go_loopw [22] (fun z wr => ∃ k : Nat, z = .int .i64 k ∧ k ≤ N ∧ Tb wr R N N Gs (allf or and N (reach0 es) k) ∧ Bm5 wr (w.heap.size + 1) (.bool false) (.bool true) (.func (.func 50) #[] #[]) (.func (.func 51) #[] #[]) (.func (.func 52) #[] #[]) ∧ Below w.heap.size w wr) (fun z _ => N - (intOf z).toNat)
  case atStart => exact ⟨0, rfl, Nat.zero_le _, T3.out, M3.out, B3.out⟩
  case round =>
    obtain ⟨k, rfl, hk, ht, hm, hbr⟩ := hrel
    have TR : Hid _ := ht
    have MR : Hid _ := hm
    have BR : Hid (Below w.heap.size w wr) := hbr
    clear ht hm hbr T3 M3 B3
    by_cases hlt : k < N
    · have hki : (k : Int) < (N : Int) := by omega
      have HN1 : Hid (allf or and N (reach0 es) (k + 1) = midf or and N k (allf or and N (reach0 es) k) N) := rfl
      obtain ⟨TK, hTK⟩ : ∃ TK, allf or and N (reach0 es) k = TK := ⟨_, rfl⟩
      rw [hTK] at HN1 TR
      clear hTK
      go_wp2_with fail
      go_loopw [27] (fun z wr => ∃ i : Nat, z = .int .i64 i ∧ i ≤ N ∧ Tb wr R N N Gs (midf or and N k TK i) ∧ Bm5 wr (w.heap.size + 1) (.bool false) (.bool true) (.func (.func 50) #[] #[]) (.func (.func 51) #[] #[]) (.func (.func 52) #[] #[]) ∧ Below w.heap.size w wr) (fun z _ => N - (intOf z).toNat)
      case atStart => exact ⟨0, rfl, Nat.zero_le _, TR.out, MR.out, BR.out⟩
      case round =>
        obtain ⟨i, rfl, hi, ht, hm, hbr⟩ := hrel
        clear TR MR BR
        have TR : Hid _ := ht
        have MR : Hid _ := hm
        have BR : Hid (Below w.heap.size w wr) := hbr
        clear ht hm hbr
        by_cases hil : i < N
        · have hii : (i : Int) < (N : Int) := by omega
          have HN2 : Hid (midf or and N k TK (i + 1) = rowf or and k i (midf or and N k TK i) N) := rfl
          obtain ⟨TI, hTI⟩ : ∃ TI, midf or and N k TK i = TI := ⟨_, rfl⟩
          rw [hTI] at HN2 TR
          clear hTI
          go_wp2_with fail
          go_loopw [32] (fun z wr => ∃ j : Nat, z = .int .i64 j ∧ j ≤ N ∧ Tb wr R N N Gs (rowf or and k i TI j) ∧ Bm5 wr (w.heap.size + 1) (.bool false) (.bool true) (.func (.func 50) #[] #[]) (.func (.func 51) #[] #[]) (.func (.func 52) #[] #[]) ∧ Below w.heap.size w wr) (fun z _ => N - (intOf z).toNat)
          case atStart => exact ⟨0, rfl, Nat.zero_le _, TR.out, MR.out, BR.out⟩
          case round =>
            obtain ⟨j, rfl, hj, ht, hm, hbr⟩ := hrel
            clear TR MR BR
            have TR : Hid _ := ht
            have MR : Hid _ := hm
            have BR : Hid (Below w.heap.size w wr) := hbr
            clear ht hm hbr
            by_cases hjl : j < N
            · have hji : (j : Int) < (N : Int) := by omega
              have HN3 : Hid (rowf or and k i TI (j + 1) = upt (rowf or and k i TI j) i j (or (rowf or and k i TI j i j) (and (rowf or and k i TI j i k) (rowf or and k i TI j k j)))) := rfl
              obtain ⟨TJ, hTJ⟩ : ∃ TJ, rowf or and k i TI j = TJ := ⟨_, rfl⟩
              rw [hTJ] at HN3 TR
              clear hTJ
              obtain ⟨m0, m1, m2, m3, m4⟩ := MR.out.cell
              have h1 := TR.out.head i hil
              have h2 := TR.out.head k hlt
              obtain ⟨c1, -⟩ := (TR.out.row i hil).cell k hlt
              obtain ⟨c2, -⟩ := (TR.out.row k hlt).cell j hjl
              obtain ⟨c3, -⟩ := (TR.out.row i hil).cell j hjl
              generalize TJ i k = x at *
              generalize TJ k j = y at *
              obtain ⟨z, hz⟩ : ∃ z, TJ i j = z := ⟨_, rfl⟩
              have HZ : Hid _ := hz
              rw [hz] at HN3
              clear hz c3
              go_wp2_with fail
              go_quiet (first
                | (go_at_call 51; exact Calls.quiet_of_same (fboth x y _)))
              go_wp2_with fail
              have T8 : Hid _ := TR.out.below (bdrewN (Below.refl _ _) nq)
              have M8 : Hid _ := MR.out.below (bdrewN (Below.refl _ _) nq)
              have B8 : Hid (Below w.heap.size w (wr.drewN nq)) := bdrewN BR.out nq
              clear m0 m1 m2 m3 m4 h1 h2 c1 c2
              generalize wr.drewN nq = W8 at *
              obtain ⟨m0, m1, m2, m3, m4⟩ := M8.out.cell
              have h1 := T8.out.head i hil
              obtain ⟨c3, -⟩ := (T8.out.row i hil).cell j hjl
              rw [HZ.out] at c3
              refine wp_region_last_lit 17 rfl (by kernel_rfl) (by kernel_rfl) ?_
              simp only [List.take_succ_cons, List.take_zero]
              repeat (quiet_step (first
                | (go_at_call 52; exact Calls.quiet_of_same (feither z (and x y) _))))
              refine wpQuiet_nil ?_
              intro w9 hw9
              obtain ⟨np, rfl⟩ := hw9
              have T9 : Hid _ := T8.out.below (bdrewN (Below.refl _ _) np)
              have M9 : Hid _ := M8.out.below (bdrewN (Below.refl _ _) np)
              have B9 : Hid (Below w.heap.size w (W8.drewN np)) := bdrewN B8.out np
              obtain ⟨q0, q1⟩ := (T9.out.row i hil).cell j hjl
              have GM : Hid (w.heap.size + 1 ≠ Gs i) := fun e => by have := MX.out i hil; omega
              refine wpOp_step rfl (fun K hK => ?_)
              go_simp
              refine hK _ _ ?_
              clear hK K
              go_wp2_with fail
              go_roundw
              case rel =>
                refine ⟨j + 1, by go_num, by omega, ?_, ?_, ?_⟩
                · rw [HN3.out]; exact T9.out.put i j hil (or z (and x y))
                · exact M9.out.frame (Below.heap_setCell _ _ _ _ GM.out)
                · exact Below.setCell B9.out (GL.out i hil) _
              case measure => simp [intOf]; omega
            · obtain rfl : j = N := by omega
              go_wp2_with fail
              go_roundw
              case rel => exact ⟨i + 1, by go_num, by omega, by rw [HN2.out]; exact TR.out, MR.out, BR.out⟩
              case measure => simp [intOf]; omega
        · obtain rfl : i = N := by omega
          go_wp2_with fail
          go_roundw
          case rel => exact ⟨k + 1, by go_num, by omega, by rw [HN1.out]; exact TR.out, MR.out, BR.out⟩
          case measure => simp [intOf]; omega
    · obtain rfl : k = N := by omega
      go_wp2_with fail
      go_ret2
      exact ⟨_, _, rfl, TR.out, BR.out⟩
end Go.Proofs.Ytkklgnfimkojlaa
