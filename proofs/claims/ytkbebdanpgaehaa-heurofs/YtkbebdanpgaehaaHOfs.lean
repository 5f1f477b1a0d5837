/-
  The law HeurOfs.
-/
import Derived.Test.YtkbebdanpgaehaaEK
import Derived.Test.YtkbebdanpgaehaaEL
import Derived.Test.YtkbebdanpgaehaaEM
import Derived.Test.YtkbebdanpgaehaaOpenN
namespace Go.Proofs.Ytkbebdanpgaehaa.HOfs
open Go.RowKit
open Nm Wm Dm

theorem lk_at {N t : Nat} {es : List E} (h : nps N es = 0) (ht : t < N) : lk N es [(t : Int)] = 0 := by
  refine lk_ok h (fun k hk => ?_)
  have hk0 : k = 0 := by simpa using hk
  subst hk0
  exact plc_yes (by simp) (by simp; omega)
set_option maxRecDepth 100000 in
set_option maxHeartbeats 16000000 in
theorem walk_marks (n t : Int) (v u : Value) (es : List E) (p : List Int) (w : World) (hv : SlE w v es) (hu : SlI w u p) (hlen : es.length ≤ 9223372036854775807) (hl : p.length ≤ 9223372036854775807) (hc : mrk n es p ≠ 0) :
    Calls Try.prog 6 #[.agg #[.int .i64 n, v], u, .int .i64 t] w fun e w' => e = .returned (.bool true) ∧ Below w.heap.size w w' := by
  obtain ⟨a0, c0, rfl⟩ := hv.val
  obtain ⟨a1, c1, rfl⟩ := hu.val
  have HV : Hid _ := hv
  have HU : Hid _ := hu
  have HC : Hid _ := hc
  obtain ⟨k1, hk1⟩ : ∃ k, mrk n es p = k := ⟨_, rfl⟩
  have HK : Hid _ := hk1
  have z1 : (k1 == k1) = true := by simp
  have z2 : (k1 == 0) = false := by simp; rw [← hk1]; exact hc
  have z3 : (k1 != 0) = true := by simp; rw [← hk1]; exact hc
  clear hc hk1
  clear hv hu
  go_enter Try.func6, Try.ntmps6
  go_wp2_with fail
  have P0 : Hid _ := box2_new w n (.slice a0 es.length c0) 24
  have B0 : Hid (Below w.heap.size w (w.alloc (.cells #[.int .i64 n, .slice a0 es.length c0] 24))) := balloc (Below.refl _ _) _
  generalize w.alloc (.cells #[.int .i64 n, .slice a0 es.length c0] 24) = W0 at *
  refine (of_marks n t _ _ es p W0 (HV.out.below B0.out) (HU.out.below B0.out) hlen hl HC.out).mono ?_
  rintro e w1 ⟨rfl, b1⟩
  rw [HK.out]
  have P1 : Hid _ := P0.out.below b1
  have B1 : Hid (Below w.heap.size w w1) := bthen B0.out b1
  clear b1 P0 B0
  obtain ⟨p0, p1⟩ := P1.out
  go_wp2_with fail
  clear p0 p1
  refine (rmarks_no n _ _ es p w1 (HV.out.below B1.out) (HU.out.below B1.out) hlen hl HC.out).mono ?_
  rintro e w2 ⟨rfl, b2⟩
  rw [HK.out]
  have B2 : Hid (Below w.heap.size w (w2.alloc (.cells #[.slice none 0 0, .slice none 0 0] 31))) := balloc (bthen B1.out b2) _
  clear b2 P1 B1
  go_wp2_with fail
  go_ret
  exact ⟨rfl, B2.out⟩
set_option maxRecDepth 100000 in
set_option maxHeartbeats 16000000 in
theorem walk_arg (N : Nat) (t : Int) (v u : Value) (es : List E) (p : List Int) (w : World) (hv : SlE w v es) (hu : SlI w u p) (hlen : es.length ≤ 9223372036854775807) (hl : p.length ≤ 9223372036854775807) (hc : mrk N es p = 0) (ht : plc N t = false) :
    Calls Try.prog 6 #[.agg #[.int .i64 N, v], u, .int .i64 t] w fun e w' => e = .returned (.bool true) ∧ Below w.heap.size w w' := by
  obtain ⟨a0, c0, rfl⟩ := hv.val
  obtain ⟨a1, c1, rfl⟩ := hu.val
  have HV : Hid _ := hv
  have HU : Hid _ := hu
  have HC : Hid _ := hc
  obtain ⟨M, hM, hp, hnp, hp4, hpl⟩ := mrk_good hc
  obtain rfl : N = M := by omega
  have hn64 := hp.n64
  have HP : Hid _ := hp
  have HL : Hid _ := hpl
  have HES : Hid (∀ v, v < N → IsD N es v (cst N es v)) := fun x hx => isd_ex x _ _ hv hp hx
  have HPT : Hid _ := ht
  have HLK : Hid (lk N es [t] = 1) := lk_out (k := 0) hnp (by simp) ht
  clear hc hM hp hnp hpl ht
  clear hv hu
  go_enter Try.func6, Try.ntmps6
  go_wp2_with fail
  have P0 : Hid _ := box2_new w (N : Int) (.slice a0 es.length c0) 24
  have B0 : Hid (Below w.heap.size w (w.alloc (.cells #[.int .i64 N, .slice a0 es.length c0] 24))) := balloc (Below.refl _ _) _
  generalize w.alloc (.cells #[.int .i64 N, .slice a0 es.length c0] 24) = W0 at *
  refine (of_arg N t _ _ es p W0 (HV.out.below B0.out) (HU.out.below B0.out) hlen hl HC.out HPT.out).mono ?_
  rintro e w1 ⟨rfl, b1⟩
  have P1 : Hid _ := P0.out.below b1
  have B1 : Hid (Below w.heap.size w w1) := bthen B0.out b1
  clear b1 P0 B0
  obtain ⟨p0, p1⟩ := P1.out
  go_wp2_with fail
  clear p0 p1
  refine (rmarks_yes N _ _ es p w1 (HV.out.below B1.out) (HU.out.below B1.out) hlen hl HC.out).mono ?_
  rintro e w2 ⟨vF, vT, rfl, sF, sT, b2⟩
  have RF : Hid _ := rt_frw HP.out HES.out HL.out hp4
  have RT : Hid _ := rt_trw HP.out HES.out HL.out hp4
  have HLT : Hid ((trw N es p).length = (frw N es p).length) := by unfold Hid; rw [trw_length, frw_length]
  generalize frw N es p = rF at *
  generalize trw N es p = rT at *
  obtain ⟨aF, cF, rfl⟩ := sF.val
  obtain ⟨aT, cT, rfl⟩ := sT.val
  have SF2 : Hid _ := sF.below (balloc (Below.refl _ _) (.cells #[.slice aF rF.length cF, .slice aT rT.length cT] 31))
  have ST2 : Hid _ := sT.below (balloc (Below.refl _ _) (.cells #[.slice aF rF.length cF, .slice aT rT.length cT] 31))
  have P2 : Hid _ := (P1.out.below b2).below (balloc (Below.refl _ _) (.cells #[.slice aF rF.length cF, .slice aT rT.length cT] 31))
  have B2 : Hid (Below w.heap.size w (w2.alloc (.cells #[.slice aF rF.length cF, .slice aT rT.length cT] 31))) := balloc (bthen B1.out b2) _
  have T2 : Hid _ := bt_new w2 (.slice aF rF.length cF) (.slice aT rT.length cT)
  obtain ⟨TB, htb⟩ : ∃ b, w2.heap.size = b := ⟨_, rfl⟩
  rw [htb] at T2
  have L3 : Hid _ := lit_nums (w2.alloc (.cells #[.slice aF rF.length cF, .slice aT rT.length cT] 31)) [(t : Int)] #[.int .i64 t] 1 rfl rfl
  have hzz : (w2.alloc (.cells #[.slice aF rF.length cF, .slice aT rT.length cT] 31)).heap.size = w2.heap.size + 1 := by simp
  rw [hzz, htb] at L3
  clear hzz
  have B3 : Hid (Below (w2.alloc (.cells #[.slice aF rF.length cF, .slice aT rT.length cT] 31)).heap.size (w2.alloc (.cells #[.slice aF rF.length cF, .slice aT rT.length cT] 31)) ((w2.alloc (.cells #[.slice aF rF.length cF, .slice aT rT.length cT] 31)).alloc (.cells #[.int .i64 t] 3))) := balloc (Below.refl _ _) _
  obtain ⟨p0, p1⟩ := P2.out
  clear b2 P1 B1 sF sT
  go_wp2_with fail
  clear p0 p1 htb
  generalize w2.alloc (.cells #[.slice aF rF.length cF, .slice aT rT.length cT] 31) = W2 at *
  refine (rlook_any N _ _ es [(t : Int)] _ ((HV.out.below B2.out).below B3.out) L3.out hlen (by simp)).mono ?_
  rintro e w4 ⟨rfl, b4⟩
  rw [HLK.out]
  have D4 : Hid (Below W2.heap.size W2 w4) := bthen B3.out b4
  have B4 : Hid (Below w.heap.size w w4) := bthen B2.out D4.out
  clear b4
  go_wp2_with fail
  go_ret
  exact ⟨rfl, B4.out⟩
set_option maxRecDepth 100000 in
set_option maxHeartbeats 16000000 in
theorem walk_yes (N t : Nat) (v u : Value) (es : List E) (p : List Int) (w : World) (hv : SlE w v es) (hu : SlI w u p) (hlen : es.length ≤ 9223372036854775807) (hl : p.length ≤ 9223372036854775807) (hc : mrk N es p = 0) (ht : t < N) :
    Calls Try.prog 6 #[.agg #[.int .i64 N, v], u, .int .i64 t] w fun e w' => e = .returned (.bool true) ∧ Below w.heap.size w w' := by
  obtain ⟨a0, c0, rfl⟩ := hv.val
  obtain ⟨a1, c1, rfl⟩ := hu.val
  have HV : Hid _ := hv
  have HU : Hid _ := hu
  have HC : Hid _ := hc
  obtain ⟨M, hM, hp, hnp, hp4, hpl⟩ := mrk_good hc
  obtain rfl : N = M := by omega
  have hn64 := hp.n64
  have HP : Hid _ := hp
  have HL : Hid _ := hpl
  have HES : Hid (∀ v, v < N → IsD N es v (cst N es v)) := fun x hx => isd_ex x _ _ hv hp hx
  have HLK : Hid (lk N es [(t : Int)] = 0) := lk_at hnp ht
  have HGR : Hid (∀ x, gre (frw N es p) (trw N es p) x t (frw N es p).length = grt N es p t x) := fun x => by rw [frw_length]; rfl
  clear hc hM hp hnp hpl
  clear hv hu
  go_enter Try.func6, Try.ntmps6
  go_wp2_with fail
  have P0 : Hid _ := box2_new w (N : Int) (.slice a0 es.length c0) 24
  have B0 : Hid (Below w.heap.size w (w.alloc (.cells #[.int .i64 N, .slice a0 es.length c0] 24))) := balloc (Below.refl _ _) _
  generalize w.alloc (.cells #[.int .i64 N, .slice a0 es.length c0] 24) = W0 at *
  refine (of_yes N t _ _ es p W0 (HV.out.below B0.out) (HU.out.below B0.out) hlen hl HC.out ht).mono ?_
  rintro e w1 ⟨G, rfl, hG, b1⟩
  have G1 : Hid _ := hG
  clear hG
  have P1 : Hid _ := P0.out.below b1
  have B1 : Hid (Below w.heap.size w w1) := bthen B0.out b1
  clear b1 P0 B0
  obtain ⟨p0, p1⟩ := P1.out
  go_wp2_with fail
  clear p0 p1
  refine (rmarks_yes N _ _ es p w1 (HV.out.below B1.out) (HU.out.below B1.out) hlen hl HC.out).mono ?_
  rintro e w2 ⟨vF, vT, rfl, sF, sT, b2⟩
  have RF : Hid _ := rt_frw HP.out HES.out HL.out hp4
  have RT : Hid _ := rt_trw HP.out HES.out HL.out hp4
  have HLT : Hid ((trw N es p).length = (frw N es p).length) := by unfold Hid; rw [trw_length, frw_length]
  generalize frw N es p = rF at *
  generalize trw N es p = rT at *
  obtain ⟨aF, cF, rfl⟩ := sF.val
  obtain ⟨aT, cT, rfl⟩ := sT.val
  have SF2 : Hid _ := sF.below (balloc (Below.refl _ _) (.cells #[.slice aF rF.length cF, .slice aT rT.length cT] 31))
  have ST2 : Hid _ := sT.below (balloc (Below.refl _ _) (.cells #[.slice aF rF.length cF, .slice aT rT.length cT] 31))
  have P2 : Hid _ := (P1.out.below b2).below (balloc (Below.refl _ _) (.cells #[.slice aF rF.length cF, .slice aT rT.length cT] 31))
  have B2 : Hid (Below w.heap.size w (w2.alloc (.cells #[.slice aF rF.length cF, .slice aT rT.length cT] 31))) := balloc (bthen B1.out b2) _
  have T2 : Hid _ := bt_new w2 (.slice aF rF.length cF) (.slice aT rT.length cT)
  have G2 : Hid _ := (G1.out.below b2).below (balloc (Below.refl _ _) (.cells #[.slice aF rF.length cF, .slice aT rT.length cT] 31))
  obtain ⟨TB, htb⟩ : ∃ b, w2.heap.size = b := ⟨_, rfl⟩
  rw [htb] at T2
  have L3 : Hid _ := lit_nums (w2.alloc (.cells #[.slice aF rF.length cF, .slice aT rT.length cT] 31)) [(t : Int)] #[.int .i64 t] 1 rfl rfl
  have hzz : (w2.alloc (.cells #[.slice aF rF.length cF, .slice aT rT.length cT] 31)).heap.size = w2.heap.size + 1 := by simp
  rw [hzz, htb] at L3
  clear hzz
  have B3 : Hid (Below (w2.alloc (.cells #[.slice aF rF.length cF, .slice aT rT.length cT] 31)).heap.size (w2.alloc (.cells #[.slice aF rF.length cF, .slice aT rT.length cT] 31)) ((w2.alloc (.cells #[.slice aF rF.length cF, .slice aT rT.length cT] 31)).alloc (.cells #[.int .i64 t] 3))) := balloc (Below.refl _ _) _
  obtain ⟨p0, p1⟩ := P2.out
  clear b2 P1 B1 sF sT
  go_wp2_with fail
  clear p0 p1 htb
  generalize w2.alloc (.cells #[.slice aF rF.length cF, .slice aT rT.length cT] 31) = W2 at *
  refine (rlook_any N _ _ es [(t : Int)] _ ((HV.out.below B2.out).below B3.out) L3.out hlen (by simp)).mono ?_
  rintro e w4 ⟨rfl, b4⟩
  rw [HLK.out]
  have D4 : Hid (Below W2.heap.size W2 w4) := bthen B3.out b4
  have B4 : Hid (Below w.heap.size w w4) := bthen B2.out D4.out
  clear b4
  have P4 : Hid _ := P2.out.below D4.out
  have G4 : Hid _ := G2.out.below D4.out
  have SF4 : Hid _ := SF2.out.below D4.out
  have ST4 : Hid _ := ST2.out.below D4.out
  have T4 : Hid _ := T2.out.below D4.out
  clear P2 SF2 ST2 T2 G2 L3 B3 D4
  obtain ⟨p0, p1⟩ := P4.out
  go_wp2_with fail
  clear p0 p1
  go_loopw [44, 11] (fun z o wr => ∃ k : Nat, z = .int .i64 k ∧ k ≤ N ∧ Is wr w4.heap.size o (lst k (grt N es p t)) ∧ Below w4.heap.size w4 wr) (fun z _ _ => N - (intOf z).toNat)
  case atStart => exact ⟨0, rfl, Nat.zero_le _, Is.nil _ _, Below.refl _ _⟩
  case round =>
    obtain ⟨k, rfl, hk, hi, hb⟩ := hrel
    have HI : Hid _ := hi
    have HB : Hid (Below w4.heap.size w4 wr) := hb
    clear hi hb
    have hkl : (lst k (grt N es p t)).length = k := lst_length _ _
    obtain ⟨ao, co, rfl⟩ := HI.out.valn hkl
    by_cases hlt : k < N
    · have hki : (k : Int) < (N : Int) := by omega
      have HKN : Hid (lst (k + 1) (grt N es p t) = lst k (grt N es p t) ++ [grt N es p t k]) := lst_next _ _
      generalize lst k (grt N es p t) = L at *
      have HKL : Hid _ := hkl
      clear hkl
      obtain ⟨t0, t1⟩ := (T4.out.below HB.out).cell
      go_wp2_with fail
      refine (rbound_any N k t _ _ rF rT wr (SF4.out.below HB.out) (ST4.out.below HB.out) HLT.out RF.out RT.out hlt ht).mono ?_
      rintro e w5 ⟨rfl, b5⟩
      rw [HGR.out]
      have I5 : Hid _ := HI.out.below b5
      have B5 : Hid (Below w4.heap.size w4 w5) := bthen HB.out b5
      generalize grt N es p t k = y at *
      clear b5 t0 t1
      obtain ⟨i1, hi1, hy0, hy1, hy2⟩ := info3_parts
      have hown : w5.ownsRow w4.heap.size 3 1 (.slice ao k co) k (L.map (fun z => .int .i64 z)) := by have := I5.out.own; rw [HKL.out] at this; exact this
      have hsz := B5.out.size
      go_wp2_with (at_builtin; refine wpList_append_lies _ rfl _ _ _ rfl w4.heap.size 3 i1 _ 1 8 Try.underlying25 hi1 hy0 hy1 hy2 rfl (by omega) (.slice ao k co) k (L.map (fun z => .int .i64 z)) rfl (hown.alloc _) ⟨w5.heap.size, 0, none⟩ 1 1 [.int .i64 y] rfl rfl (World.news_of_block (cs := #[.int .i64 y]) (t := 3) (fr := (0, 0)) (heap_alloc_new _ _)) (by simp [Value.oneCell']) (by omega) (by unfold maxLen; omega) (by omega) (by simp; omega) (w5.heap.size + 1) (by simp) ?_; intro g8 cap8 w8 hown8 hgrow hat hlt8; have B8 : Hid (Below w4.heap.size w4 w8) := (by exact (balloc B5.out _).grown hgrow (by simp; omega) (fun x hx => (ownBlock_lt hown x hx).1)); have I8 : Hid _ := (Is.next HKN.out HKL.out.symm hown8); clear hown8 hgrow hat hlt8)
      go_roundw
      case rel => exact ⟨k + 1, by go_num, by omega, I8.out, B8.out⟩
      case measure => simp [intOf]; omega
    · obtain rfl : k = N := by omega
      have S1 : Hid _ := (G4.out.below HB.out).sl
      have S2 : Hid _ := HI.out.sl
      generalize lst k (grt k es p t) = L at *
      have HKL : Hid _ := hkl
      clear hkl
      go_wp2_with fail
      refine (iequal_yes _ _ L wr S1.out S2.out (by have := HKL.out; omega)).mono ?_
      rintro e w6 ⟨rfl, b6⟩
      have B6 : Hid (Below w.heap.size w w6) := bthen (bthen B4.out HB.out) b6
      clear b6
      go_wp2_with fail
      go_ret
      exact ⟨rfl, B6.out⟩
theorem walk (n t : Int) (v u : Value) (es : List E) (p : List Int) (w : World) (hv : SlE w v es) (hu : SlI w u p) (hlen : es.length ≤ 9223372036854775807) (hl : p.length ≤ 9223372036854775807) :
    Calls Try.prog 6 #[.agg #[.int .i64 n, v], u, .int .i64 t] w fun e w' => e = .returned (.bool true) ∧ Below w.heap.size w w' := by
  by_cases hc : mrk n es p = 0
  · obtain ⟨M, rfl, _⟩ := mrk_good hc
    cases hp : plc (M : Int) t
    · exact walk_arg M t v u es p w hv hu hlen hl hc hp
    · obtain ⟨s, rfl, hs⟩ := plc_nat hp
      exact walk_yes M s v u es p w hv hu hlen hl hc (by omega)
  · exact walk_marks n t v u es p w hv hu hlen hl hc
end Go.Proofs.Ytkbebdanpgaehaa.HOfs
