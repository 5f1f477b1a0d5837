/-
  The walk of the law fellkeep.GridBack: it returns true, and writes nothing that was there.
-/
import Derived.Test.YtpikbnolbjaebaaDoorDG
namespace Go.Proofs.YtpikbnolbjaebaaDoor.GBack
open Go.RowKit
open Gm

/-- What a move is, and that it has a move back. -/
theorem back_of {W H n : Int} {cs : List Int} (hg : Gd W H cs) (h0 : 0 ≤ n) (hn : n < (cs.length : Int)) {f t k : Int} (h : (f, t, k) ∈ moves (cl cs W H) W (n % W) (n / W)) :
    f = n ∧ 0 ≤ t ∧ t < (cs.length : Int) ∧ (t, f, k) ∈ moves (cl cs W H) W (t % W) (t / W) := by
  obtain ⟨k0, k1, k2, k3, k4⟩ := coords hg.w1 h0 (show n < W * H by rw [← hg.len]; exact hn)
  obtain ⟨hne, s, hs, ho, he⟩ := mem_moves h
  have hin := cl_in (opn_iff.1 ho).1
  obtain ⟨j1, j2⟩ := idx hin.1 hin.2.1 hin.2.2.1 hin.2.2.2
  have hb := moves_back (W := W) hne hs ho
  rw [← he] at hb
  have ht : t = (n / W + s.2.1) * W + (n % W + s.1) := by
    have := congrArg (fun e => e.2.1) he
    simp only [edge] at this
    omega
  have hf : f = n := by
    have := congrArg (fun e => e.1) he
    simp only [edge] at this
    omega
  obtain ⟨c1, c2⟩ := coords_of (W := W) (y := n / W + s.2.1) hin.1 hin.2.1
  rw [← ht] at c1 c2 j2
  rw [hg.len]
  refine ⟨hf, by omega, j2, ?_⟩
  rw [c1, c2]
  exact hb

set_option maxRecDepth 100000 in
set_option maxHeartbeats 8000000 in
theorem walk (W H n : Int) (v : Value) (cs : List Int) (w : World) (hv : SlI w v cs) (hlen : cs.length ≤ 9223372036854775807) (hs : Steps w) :
    Calls Tryd.prog 4 #[.agg #[.int .i64 W, .int .i64 H, v], .int .i64 n] w fun e w' => e = .returned (.bool true) ∧ Below w.heap.size w w' := by
  obtain ⟨a, c, rfl⟩ := hv.val
  have HV : Hid _ := hv
  have HS : Hid _ := hs
  clear hv hs
  go_enter Tryd.func4, Tryd.ntmps4
  go_wp2_with fail
  obtain ⟨W0, hW0⟩ : ∃ W0, W0 = w.alloc (.cells #[.int .i64 W, .int .i64 H, .slice a cs.length c] 24) := ⟨_, rfl⟩
  obtain ⟨X, hX⟩ : ∃ X, X = w.heap.size := ⟨_, rfl⟩
  have P0 : Hid (Box3 W0 X W H (.slice a cs.length c)) := by rw [hW0, hX]; exact box3_start w W H _
  have B0 : Hid (Below w.heap.size w W0) := by rw [hW0]; exact balloc (Below.refl _ _) _
  have hs0 : X + 1 = W0.heap.size := by rw [hW0, hX]; simp
  rw [← hW0, ← hX]
  clear hW0 hX
  refine (moves_ok 2 1 0 _ [1, 2] _ (lit_cells hs0) gd_two (by decide) (by decide) ((HS.out.below B0.out).below (balloc (Below.refl _ _) _))).mono ?_
  rintro e w1 ⟨u, rfl, es1, b1⟩
  rw [moves_two0] at es1
  have E1 : Hid _ := es1
  have BA : Hid (Below W0.heap.size W0 w1) := bthen (balloc (Below.refl _ _) _) b1
  have P1 : Hid _ := P0.out.below BA.out
  have B1 : Hid (Below w.heap.size w w1) := bthen B0.out BA.out
  obtain ⟨au, cu, rfl⟩ := es1.val
  clear es1 b1 P0 B0 BA hs0
  go_wp2_with fail
  refine (eequal_yes _ _ [(0, 1, 15)] _ (E1.out.below (balloc (Below.refl _ _) _)) (lit_edge rfl 0 1 15) (by decide)).mono ?_
  rintro e w2 ⟨rfl, q, rfl⟩
  have BB : Hid (Below w1.heap.size w1 ((w1.alloc (.cells #[.int .i64 0, .int .i64 1, .int .i64 15] 32)).drewN q)) := bdrewN (balloc (Below.refl _ _) _) q
  have P2 : Hid _ := P1.out.below BB.out
  have B2 : Hid (Below w.heap.size w ((w1.alloc (.cells #[.int .i64 0, .int .i64 1, .int .i64 15] 32)).drewN q)) := bthen B1.out BB.out
  generalize (w1.alloc (.cells #[.int .i64 0, .int .i64 1, .int .i64 15] 32)).drewN q = W2 at *
  obtain ⟨p0, p1, p2⟩ := P2.out
  clear E1 BB P1 B1
  go_wp2_with fail
  refine (moves_gen W H n _ cs W2 (HV.out.below B2.out) hlen (HS.out.below B2.out)).mono ?_
  rintro e w3 ⟨u3, z, rfl, an3, b3⟩
  have A3 : Hid (Ans w3 W H n cs u3 z) := an3
  have P3 : Hid _ := P2.out.below b3
  have B3 : Hid (Below w.heap.size w w3) := bthen B2.out b3
  clear an3 b3 P2 B2 p0 p1 p2
  rcases A3.out with ⟨hz, rfl⟩ | ⟨rfl, hg, hn0, hn1, hsl⟩
  · have hz1 : (z != 0) = true := by simp [hz]
    go_wp2_with fail
    go_ret
    exact ⟨rfl, B3.out⟩
  obtain ⟨a3, c3, rfl⟩ := hsl.val
  have hml := moves_length (cl cs W H) W (n % W) (n / W)
  have HBK : Hid _ := @back_of W H n cs hg hn0 hn1
  have HG : Hid _ := hg
  have E3 : Hid _ := hsl
  clear A3 hg hsl
  generalize moves (cl cs W H) W (n % W) (n / W) = es at *
  go_wp2_with fail
  go_loopw [41] (fun x wr => ∃ k : Nat, x = .int .i64 k ∧ k ≤ es.length ∧ Below w3.heap.size w3 wr) (fun x _ => es.length - (intOf x).toNat)
  case atStart => exact ⟨0, rfl, Nat.zero_le _, Below.refl _ _⟩
  case round =>
    obtain ⟨k, rfl, hk, hb⟩ := hrel
    have HB : Hid (Below w3.heap.size w3 wr) := hb
    clear hb
    by_cases hlt : k < es.length
    · have hki : (k : Int) < (es.length : Int) := by omega
      obtain ⟨g, cap, hveq, hc⟩ := (E3.out.below HB.out).some' (by omega)
      simp only [Value.slice.injEq] at hveq
      obtain ⟨rfl, -, rfl⟩ := hveq
      obtain ⟨d0, d1, d2⟩ := hc k hlt
      have hmem := at3_mem es k hlt
      clear hc
      generalize at3 es k = p at *
      obtain ⟨f, t, cost⟩ := p
      simp only at d0 d1 d2
      obtain ⟨rfl, ht0, ht1, hbk⟩ := HBK.out hmem
      have HM : Hid _ := hbk
      clear hmem hbk
      obtain ⟨p0, p1, p2⟩ := (P3.out.below HB.out).below (balloc (Below.refl _ _) (.cells #[.int .i64 f, .int .i64 t, .int .i64 cost] 32))
      go_wp2_with fail
      obtain ⟨W4, hW4⟩ : ∃ W4, W4 = wr.alloc (.cells #[.int .i64 f, .int .i64 t, .int .i64 cost] 32) := ⟨_, rfl⟩
      obtain ⟨Y, hY⟩ : ∃ Y, Y = wr.heap.size := ⟨_, rfl⟩
      have BA : Hid (Below wr.heap.size wr W4) := by rw [hW4]; exact balloc (Below.refl _ _) _
      have Q4 : Hid (Box3 W4 Y f t (.int .i64 cost)) := by rw [hW4, hY]; exact box3_new wr _ _ _ _
      have B4 : Hid (Below w3.heap.size w3 W4) := bthen HB.out BA.out
      rw [← hW4, ← hY]
      clear hW4 hY BA p0 p1 p2
      have T4 : Hid (Below w.heap.size w W4) := bthen B3.out B4.out
      refine (moves_ok W H t _ cs W4 (HV.out.below T4.out) HG.out ht0 ht1 (HS.out.below T4.out)).mono ?_
      rintro e w5 ⟨u5, rfl, es5, b5⟩
      have E5 : Hid _ := es5
      have B5 : Hid (Below w3.heap.size w3 w5) := bthen B4.out b5
      obtain ⟨p0, p1, p2⟩ := Q4.out.below b5
      obtain ⟨a5, c5, rfl⟩ := es5.val
      clear es5 b5
      go_wp2_with fail
      refine (contains_yes _ _ t f cost w5 E5.out (Nat.le_trans (moves_length _ _ _ _) (by omega)) HM.out).mono ?_
      rintro e w6 ⟨rfl, b6⟩
      have B6 : Hid (Below w3.heap.size w3 w6) := bthen B5.out b6
      clear b6
      go_wp2_with fail
      go_roundw
      case rel => exact ⟨k + 1, by go_num, by omega, B6.out⟩
      case measure => simp [intOf]; omega
    · have hke : k = es.length := by omega
      subst hke
      have h8 : (es.length : Int) ≤ 8 := by omega
      go_wp2_with fail
      go_ret
      exact ⟨rfl, bthen B3.out HB.out⟩
end Go.Proofs.YtpikbnolbjaebaaDoor.GBack
