/-
  Contract: All.
-/
import Derived.Test.YtlmichnnpameeaaJD
import Derived.Test.YtlmichnnpameeaaJB
import Derived.Test.YtlmichnnpameeaaTB
namespace Go.Proofs.Ytlmichnnpameeaa
open Go.RowKit
open Nm Wm Dm Bm Jm Zm Am

theorem hh_of {N : Nat} {es : List E} (hb : Rnt N es) (hs : (rns es (fun _ => 0) N).s = -1) : Hh N es (lst N (rns es (fun _ => 0) N).d) := by
  have hl := rns_yes hb (fun v hv => (zero_zero N v hv).2) hs
  have hF : far = 1099511627776 := rfl
  refine ⟨lst_length _ _, fun i hi => ?_, fun i hi => ?_, fun e he => ?_⟩
  · rw [lst_at hi]; exact hl.low hb (fun v hv => (zero_zero N v hv).1) i hi
  · rw [lst_at hi]; exact rns_down es (fun _ => 0) N i
  · have hn := hb.nat he
    rw [lst_at hn.1, lst_at hn.2.1]
    have h0 := rns_down es (fun _ => 0) N e.1.toNat
    exact hl.rel e he (by omega)
set_option maxRecDepth 100000 in
set_option maxHeartbeats 8000000 in
theorem jall_net (n : Int) (v : Value) (es : List E) (w : World) (hv : SlE w v es) (hlen : es.length ≤ 9223372036854775807) (hc : nck n es ≠ 0) :
    Calls Try.prog 20 #[.agg #[.int .i64 n, v]] w fun e w' => e = .returned (.tuple #[.slice none 0 0, .int .i64 (nck n es)]) ∧ Below w.heap.size w w' := by
  obtain ⟨a0, c0, rfl⟩ := hv.val
  have HV : Hid _ := hv
  have HC : Hid _ := hc
  have hz : (nck n es != 0) = true := by simp [hc]
  clear hv hc
  go_enter Try.func20, Try.ntmps20
  go_wp2_with fail
  have B0 : Hid (Below w.heap.size w (w.alloc (.cells #[.int .i64 n, .slice a0 es.length c0] 24))) := balloc (Below.refl _ _) _
  generalize w.alloc (.cells #[.int .i64 n, .slice a0 es.length c0] 24) = W0 at *
  refine (lift_net n _ es W0 (HV.out.below B0.out) hlen HC.out).mono ?_
  rintro e w1 ⟨rfl, b1⟩
  have B1 : Hid (Below w.heap.size w w1) := bthen B0.out b1
  clear b1
  go_wp2_with fail
  go_ret2
  exact ⟨rfl, B1.out⟩
set_option maxRecDepth 100000 in
set_option maxHeartbeats 8000000 in
theorem jall_no (N : Nat) (v : Value) (es : List E) (w : World) (hv : SlE w v es) (hb : Rnt N es) (hs : (rns es (fun _ => 0) N).s ≠ -1) :
    Calls Try.prog 20 #[.agg #[.int .i64 N, v]] w fun e w' => e = .returned (.tuple #[.slice none 0 0, .int .i64 6]) ∧ Below w.heap.size w w' := by
  obtain ⟨a0, c0, rfl⟩ := hv.val
  have HV : Hid _ := hv
  have HB : Hid _ := hb
  have HS : Hid _ := hs
  clear hv hb hs
  go_enter Try.func20, Try.ntmps20
  go_wp2_with fail
  have B0 : Hid (Below w.heap.size w (w.alloc (.cells #[.int .i64 N, .slice a0 es.length c0] 24))) := balloc (Below.refl _ _) _
  generalize w.alloc (.cells #[.int .i64 N, .slice a0 es.length c0] 24) = W0 at *
  refine (lift_no N _ es W0 (HV.out.below B0.out) HB.out HS.out).mono ?_
  rintro e w1 ⟨rfl, b1⟩
  have B1 : Hid (Below w.heap.size w w1) := bthen B0.out b1
  clear b1
  go_wp2_with fail
  go_ret2
  exact ⟨rfl, B1.out⟩
set_option maxRecDepth 100000 in
set_option maxHeartbeats 8000000 in
theorem jall_yes (N : Nat) (v : Value) (es : List E) (w : World) (hv : SlE w v es) (hb : Rnt N es) (hs : (rns es (fun _ => 0) N).s = -1) :
    Calls Try.prog 20 #[.agg #[.int .i64 N, v]] w fun e w' => ∃ R, e = .returned (.tuple #[.slice (some ⟨R, 0, none⟩) N N, .int .i64 0]) ∧ SlT w' (.slice (some ⟨R, 0, none⟩) N N) (tbl N (fun s => spr es (Dm.start s) (N - 1))) ∧ Below w.heap.size w w' := by
  obtain ⟨a0, c0, rfl⟩ := hv.val
  have HV : Hid _ := hv
  have HB : Hid _ := hb
  have HS : Hid _ := hs
  have HH : Hid _ := hh_of hb hs
  have hn64 := hb.n64
  have hmk := made_tbl N hn64
  clear hv hb hs
  go_enter Try.func20, Try.ntmps20
  go_wp2_with fail
  have P0 : Hid _ := box2_new w (N : Int) (.slice a0 es.length c0) 24
  have B0 : Hid (Below w.heap.size w (w.alloc (.cells #[.int .i64 N, .slice a0 es.length c0] 24))) := balloc (Below.refl _ _) _
  generalize w.alloc (.cells #[.int .i64 N, .slice a0 es.length c0] 24) = W0 at *
  refine (lift_yes N _ es W0 (HV.out.below B0.out) HB.out HS.out).mono ?_
  rintro e w1 ⟨G1, rfl, _, ur1, b1⟩
  obtain ⟨hh, hhe⟩ : ∃ hh, lst N (rns es (fun _ => 0) N).d = hh := ⟨_, rfl⟩
  have U1 : Hid (SlI w1 (.slice (some ⟨G1, 0, none⟩) N N) hh) := by rw [← hhe]; exact ur1.sl
  rw [hhe] at HH
  have P1 : Hid _ := P0.out.below b1
  have B1 : Hid (Below w.heap.size w w1) := bthen B0.out b1
  obtain ⟨p0, p1⟩ := P1.out
  clear b1 ur1 hhe P0 B0
  go_wp2_with fail
  clear p0 p1
  refine (level_any N _ _ es hh w1 (HV.out.below B1.out) U1.out HB.out HH.out.len (fun i hi => ⟨by have := HH.out.lo i hi; omega, by have := HH.out.hi i hi; omega⟩)).mono ?_
  rintro e w2 ⟨G2, rfl, _, r2, b2⟩
  have FL : (es.map (lvl hh)).length = es.length := List.length_map _
  have f2 : SlE w2 (.slice (some ⟨G2, 0, none⟩) es.length es.length) (es.map (lvl hh)) := r2.sl FL (fun i hi => at3_map _ hi)
  have U3 : Hid _ := (U1.out.below b2).below (balloc (Below.refl _ _) (.cells #[.int .i64 N, .slice (some ⟨G2, 0, none⟩) es.length es.length] 24))
  have F3 : Hid _ := f2.below (balloc (Below.refl _ _) (.cells #[.int .i64 N, .slice (some ⟨G2, 0, none⟩) es.length es.length] 24))
  have N3 : Hid _ := bn_new w2 (.int .i64 N) (.slice (some ⟨G2, 0, none⟩) es.length es.length)
  have P3 : Hid _ := (P1.out.below b2).below (balloc (Below.refl _ _) (.cells #[.int .i64 N, .slice (some ⟨G2, 0, none⟩) es.length es.length] 24))
  have B3 : Hid (Below w.heap.size w (w2.alloc (.cells #[.int .i64 N, .slice (some ⟨G2, 0, none⟩) es.length es.length] 24))) := balloc (bthen B1.out b2) _
  obtain ⟨p0, p1⟩ := P3.out
  clear b2 r2 f2 FL P1 B1 U1
  go_wp2_with fail
  clear p0 p1 hmk
  have HZ3 : Hid ((w2.alloc (.cells #[.int .i64 N, .slice (some ⟨G2, 0, none⟩) es.length es.length] 24)).heap.size = w2.heap.size + 1) := by unfold Hid; simp
  generalize w2.alloc (.cells #[.int .i64 N, .slice (some ⟨G2, 0, none⟩) es.length es.length] 24) = W3 at *
  have hz3 : W3.heap.size = w2.heap.size + 1 := HZ3.out
  obtain ⟨F, hF⟩ : ∃ F, w2.heap.size = F := ⟨_, rfl⟩
  rw [hF] at N3 hz3 ⊢
  clear hF HZ3
  have WL : Hid (w.heap.size ≤ W3.heap.size) := B3.out.size
  have HF3 : Hid (F + 1 = W3.heap.size) := hz3.symm
  have T4 : Hid _ := tr_made W3 N (fun s => spr es (Dm.start s) (N - 1))
  rw [hz3] at T4
  have U4 : Hid _ := U3.out.below (balloc (Below.refl _ _) (.cells (Array.ofFn (n := N) fun _ => .slice none 0 0) 41))
  have F4 : Hid _ := F3.out.below (balloc (Below.refl _ _) (.cells (Array.ofFn (n := N) fun _ => .slice none 0 0) 41))
  have N4 : Hid _ := N3.out.below (balloc (Below.refl _ _) (.cells (Array.ofFn (n := N) fun _ => .slice none 0 0) 41))
  have B4 : Hid (Below W3.heap.size W3 (W3.alloc (.cells (Array.ofFn (n := N) fun _ => .slice none 0 0) 41))) := balloc (Below.refl _ _) _
  clear hz3
  generalize W3.alloc (.cells (Array.ofFn (n := N) fun _ => .slice none 0 0) 41) = W4 at *
  go_loopw [25] (fun z wr => ∃ k : Nat, z = .int .i64 k ∧ k ≤ N ∧ Tr wr (F + 1) N k (fun s => spr es (Dm.start s) (N - 1)) ∧ Below W3.heap.size W3 wr) (fun z _ => N - (intOf z).toNat)
  case atStart => exact ⟨0, rfl, Nat.zero_le _, T4.out, B4.out⟩
  case round =>
    obtain ⟨k, rfl, hk, htr, hbr⟩ := hrel
    have TR : Hid _ := htr
    have BR : Hid (Below W3.heap.size W3 wr) := hbr
    clear htr hbr T4 U4 F4 N4 B4
    by_cases hlt : k < N
    · have hki : (k : Int) < (N : Int) := by omega
      obtain ⟨n0, n1⟩ := (N3.out.below BR.out).cell
      go_wp2_with fail
      refine (row_any N k _ _ es hh wr (F3.out.below BR.out) (U3.out.below BR.out) HB.out HH.out hlt).mono ?_
      rintro e w5 ⟨G5, rfl, hG5, ur5, b5⟩
      have U5 : Hid _ := ur5
      have T5 : Hid _ := TR.out.below b5
      have B5 : Hid (Below W3.heap.size W3 w5) := bthen BR.out b5
      have GN : Hid (G5 ≠ F + 1) := by have := TR.out.lt; unfold Hid; omega
      obtain ⟨⟨u5, c5⟩, f5⟩ := T5.out.cell k hlt
      clear ur5 b5 hG5 n0 n1
      go_wp2_with fail
      go_roundw
      case rel => exact ⟨k + 1, by go_num, by omega, T5.out.put hlt U5.out GN.out, Below.setCell B5.out (by have := HF3.out; simp; omega) _⟩
      case measure => simp [intOf]; omega
    · have hke : k = N := by omega
      subst hke
      go_wp2_with fail
      go_ret2
      exact ⟨F + 1, rfl, TR.out.slt, bthen B3.out BR.out⟩
end Go.Proofs.Ytlmichnnpameeaa
