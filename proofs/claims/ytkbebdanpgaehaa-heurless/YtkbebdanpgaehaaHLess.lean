/-
  The law HeurLess.
-/
import Derived.Test.YtkbebdanpgaehaaEO
import Derived.Test.YtkbebdanpgaehaaHChecks
import Derived.Test.YtkbebdanpgaehaaOpenN
namespace Go.Proofs.Ytkbebdanpgaehaa.HLess
open Go.RowKit Go.Deep
open Nm Wm Dm HChecks

set_option maxRecDepth 100000 in
set_option maxHeartbeats 16000000 in
theorem walk_no (n t : Int) (v u : Value) (es : List E) (p : List Int) (w : World) (hv : SlE w v es) (hu : SlI w u p) (hlen : es.length ≤ 9223372036854775807) (hl : p.length ≤ 9223372036854775807) (hc : ofc n es p t ≠ 0) :
    Calls Try.prog 7 #[.agg #[.int .i64 n, v], u, .int .i64 t] w fun e w' => e = .returned (.bool true) ∧ Below w.heap.size w w' := by
  obtain ⟨a0, c0, rfl⟩ := hv.val
  obtain ⟨a1, c1, rfl⟩ := hu.val
  have HV : Hid _ := hv
  have HU : Hid _ := hu
  have HC : Hid _ := hc
  have hz : (ofc n es p t != 0) = true := by simp [hc]
  clear hc
  clear hv hu
  go_enter Try.func7, Try.ntmps7
  have P0 : Hid _ := box2_new w n (.slice a0 es.length c0) 24
  have B0 : Hid (Below w.heap.size w (w.alloc (.cells #[.int .i64 n, .slice a0 es.length c0] 24))) := balloc (Below.refl _ _) _
  go_wp2_with fail
  generalize w.alloc (.cells #[.int .i64 n, .slice a0 es.length c0] 24) = W0 at *
  refine (two_any W0).mono ?_
  rintro e w1 ⟨X, rfl, e1, b1⟩
  have B1 : Hid (Below W0.heap.size W0 w1) := b1
  have E1 : Hid _ := e1.below (balloc (Below.refl _ _) (.cells #[.int .i64 0] 3))
  have L1 : Hid _ := lit_nums w1 [0] #[.int .i64 0] 1 rfl rfl
  clear b1 e1
  go_wp2_with fail
  refine (of_two0 _ _ _ E1.out L1.out).mono ?_
  rintro e w2 ⟨X2, rfl, g2, b2⟩
  have B2 : Hid (Below W0.heap.size W0 w2) := bthen (balloc B1.out _) b2
  have G2 : Hid _ := g2.below (balloc (Below.refl _ _) (.cells #[.int .i64 5, .int .i64 0] 3))
  have L2 : Hid _ := lit_nums w2 [5, 0] #[.int .i64 5, .int .i64 0] 2 rfl rfl
  clear b2 g2 E1 L1 B1
  go_wp2_with fail
  refine (iequal_yes _ _ [5, 0] _ G2.out L2.out (by simp)).mono ?_
  rintro e w3 ⟨rfl, b3⟩
  have B3 : Hid (Below W0.heap.size W0 w3) := bthen (balloc B2.out _) b3
  have Z3 : Hid (Below w.heap.size w w3) := bthen B0.out B3.out
  have P3 : Hid _ := P0.out.below B3.out
  clear b3 G2 L2 B2 B3 P0 B0
  obtain ⟨p0, p1⟩ := P3.out
  go_wp2_with fail
  clear p0 p1
  refine (of_no n t _ _ es p w3 (HV.out.below Z3.out) (HU.out.below Z3.out) hlen hl HC.out).mono ?_
  rintro e w4 ⟨rfl, b4⟩
  have Z4 : Hid (Below w.heap.size w w4) := bthen Z3.out b4
  clear b4
  go_wp2_with fail
  go_ret
  exact ⟨rfl, Z4.out⟩
set_option maxRecDepth 100000 in
set_option maxHeartbeats 16000000 in
theorem walk_yes (N t : Nat) (v u : Value) (es : List E) (p : List Int) (w : World) (hv : SlE w v es) (hu : SlI w u p) (hlen : es.length ≤ 9223372036854775807) (hl : p.length ≤ 9223372036854775807) (hc : mrk N es p = 0) (ht : t < N) :
    Calls Try.prog 7 #[.agg #[.int .i64 N, v], u, .int .i64 t] w fun e w' => e = .returned (.bool true) ∧ Below w.heap.size w w' := by
  obtain ⟨a0, c0, rfl⟩ := hv.val
  obtain ⟨a1, c1, rfl⟩ := hu.val
  have HV : Hid _ := hv
  have HU : Hid _ := hu
  have HC : Hid _ := hc
  obtain ⟨M, hM, hp, hnp, hp4, hpl⟩ := mrk_good hc
  obtain rfl : N = M := by omega
  have hn64 := hp.n64
  have HP : Hid _ := hp
  have HNP : Hid _ := hnp
  have HLK : Hid (lk N es [(t : Int)] = 0) := lk_at hnp ht
  have AG : Hid (Agr N t es (lst N (grt N es p t))) := grt_agr hp (fun x hx => isd_ex x _ _ hv hp hx) hpl ht
  have HGU : Hid (gus N es t (lst N (grt N es p t)) = 0) := gus_of HLK.out AG.out
  have hti : (t : Int) < (N : Int) := by omega
  clear hc hM hp hnp hpl
  clear hv hu
  go_enter Try.func7, Try.ntmps7
  have P0 : Hid _ := box2_new w (N : Int) (.slice a0 es.length c0) 24
  have B0 : Hid (Below w.heap.size w (w.alloc (.cells #[.int .i64 N, .slice a0 es.length c0] 24))) := balloc (Below.refl _ _) _
  go_wp2_with fail
  generalize w.alloc (.cells #[.int .i64 N, .slice a0 es.length c0] 24) = W0 at *
  refine (two_any W0).mono ?_
  rintro e w1 ⟨X, rfl, e1, b1⟩
  have B1 : Hid (Below W0.heap.size W0 w1) := b1
  have E1 : Hid _ := e1.below (balloc (Below.refl _ _) (.cells #[.int .i64 0] 3))
  have L1 : Hid _ := lit_nums w1 [0] #[.int .i64 0] 1 rfl rfl
  clear b1 e1
  go_wp2_with fail
  refine (of_two0 _ _ _ E1.out L1.out).mono ?_
  rintro e w2 ⟨X2, rfl, g2, b2⟩
  have B2 : Hid (Below W0.heap.size W0 w2) := bthen (balloc B1.out _) b2
  have G2 : Hid _ := g2.below (balloc (Below.refl _ _) (.cells #[.int .i64 5, .int .i64 0] 3))
  have L2 : Hid _ := lit_nums w2 [5, 0] #[.int .i64 5, .int .i64 0] 2 rfl rfl
  clear b2 g2 E1 L1 B1
  go_wp2_with fail
  refine (iequal_yes _ _ [5, 0] _ G2.out L2.out (by simp)).mono ?_
  rintro e w3 ⟨rfl, b3⟩
  have B3 : Hid (Below W0.heap.size W0 w3) := bthen (balloc B2.out _) b3
  have Z3 : Hid (Below w.heap.size w w3) := bthen B0.out B3.out
  have P3 : Hid _ := P0.out.below B3.out
  clear b3 G2 L2 B2 B3 P0 B0
  obtain ⟨p0, p1⟩ := P3.out
  go_wp2_with fail
  clear p0 p1
  refine (of_yes N t _ _ es p w3 (HV.out.below Z3.out) (HU.out.below Z3.out) hlen hl HC.out ht).mono ?_
  rintro e w4 ⟨G, rfl, ur, b4⟩
  have GR : Hid _ := ur.sl
  have HLL : Hid ((lst N (grt N es p t)).length = N) := lst_length _ _
  generalize lst N (grt N es p t) = h at *
  have P4 : Hid _ := P3.out.below b4
  have Z4 : Hid (Below w.heap.size w w4) := bthen Z3.out b4
  clear b4 ur P3 Z3
  obtain ⟨p0, p1⟩ := P4.out
  go_wp2_with fail
  clear p0 p1
  refine (hcheck_any N t _ _ es h _ (HV.out.below Z4.out) GR.out hlen (by have := HLL.out; omega)).mono ?_
  rintro e w5 ⟨rfl, b5⟩
  rw [HGU.out]
  have P6 : Hid _ := P4.out.below b5
  have G6 : Hid _ := GR.out.below b5
  have Z6 : Hid (Below w.heap.size w w5) := bthen Z4.out b5
  clear b5 P4 Z4 GR
  obtain ⟨p0, p1⟩ := P6.out
  go_wp2_with fail
  clear p0 p1
  go_loopw [47] (fun z wr => ∃ k : Nat, z = .int .i64 k ∧ k ≤ N ∧ Below w5.heap.size w5 wr) (fun z _ => N - (intOf z).toNat)
  case atStart => exact ⟨0, rfl, Nat.zero_le _, Below.refl _ _⟩
  case round =>
    obtain ⟨k, rfl, hk, hb⟩ := hrel
    have HB : Hid (Below w5.heap.size w5 wr) := hb
    clear hb
    by_cases hlt : k < N
    · have hki : (k : Int) < (N : Int) := by omega
      obtain ⟨p0, p1⟩ := P6.out.below HB.out
      go_wp2_with fail
      clear p0 p1
      refine (dist_yes N k _ es _ ((HV.out.below Z6.out).below HB.out) HNP.out HP.out hlt).mono ?_
      rintro e w7 ⟨D, d, rfl, hD, ur, hd, b7⟩
      have HLE : Hid (h.getD k 0 ≤ d t) := AG.out.le HP.out hd hlt ht
      have HB7 : Hid (Below w5.heap.size w5 w7) := bthen HB.out b7
      obtain ⟨f0, -⟩ := ur.cell t ht
      obtain ⟨oa, fa, ca', hveq, hca⟩ := (G6.out.below HB7.out).some' (by have := HLL.out; omega)
      have l1 := hca k (by have := HLL.out; omega)
      simp only [Value.slice.injEq, Option.some.injEq, Addr.mk.injEq] at hveq
      obtain ⟨⟨rfl, rfl, -⟩, -, -⟩ := hveq
      rw [Nat.zero_add] at l1
      obtain ⟨p0, p1⟩ := P6.out.below HB7.out
      clear hca b7 hd ur
      obtain ⟨q, hqe⟩ : ∃ q, h.getD k 0 = q := ⟨_, rfl⟩
      rw [hqe] at HLE l1
      obtain ⟨x, hxe⟩ : ∃ x, d t = x := ⟨_, rfl⟩
      rw [hxe] at HLE f0
      have hpx : ¬ x < q := by have := HLE.out; omega
      clear hqe hxe HLE
      go_wp2_with fail
      go_quiet (fail)
      go_wp2_with fail
      go_roundw
      case rel => exact ⟨k + 1, by go_num, by omega, bdrewN HB7.out _⟩
      case measure => simp [intOf]; omega
    · obtain rfl : k = N := by omega
      obtain ⟨p0, p1⟩ := P6.out.below HB.out
      go_wp2_with fail
      go_ret
      exact ⟨rfl, bthen Z6.out HB.out⟩
theorem walk (n t : Int) (v u : Value) (es : List E) (p : List Int) (w : World) (hv : SlE w v es) (hu : SlI w u p) (hlen : es.length ≤ 9223372036854775807) (hl : p.length ≤ 9223372036854775807) :
    Calls Try.prog 7 #[.agg #[.int .i64 n, v], u, .int .i64 t] w fun e w' => e = .returned (.bool true) ∧ Below w.heap.size w w' := by
  by_cases hc : ofc n es p t = 0
  · obtain ⟨M, s, rfl, rfl, hs, hm⟩ := ofc_zero hc
    exact walk_yes M s v u es p w hv hu hlen hl hm hs
  · exact walk_no n t v u es p w hv hu hlen hl hc
end Go.Proofs.Ytkbebdanpgaehaa.HLess
