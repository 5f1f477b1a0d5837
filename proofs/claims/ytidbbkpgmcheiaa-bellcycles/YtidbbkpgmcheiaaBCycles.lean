/-
  The law BellCycles.
-/
import Derived.Test.YtidbbkpgmcheiaaBG
import Derived.Test.YtidbbkpgmcheiaaWD
import Derived.Test.YtidbbkpgmcheiaaIX
import Derived.Test.YtidbbkpgmcheiaaBE
import Derived.Test.YtidbbkpgmcheiaaNB
namespace Go.Proofs.Ytidbbkpgmcheiaa
open Go.RowKit
open Nm Wm Dm Bm Ry
attribute [local go_sem ↓] Go.wp_at_zero Go.wp_at_succ

namespace BCycles
set_option maxRecDepth 100000 in
set_option maxHeartbeats 16000000 in
theorem walk_net (n : Int) (v : Value) (es : List E) (w : World) (hv : SlE w v es) (hlen : es.length ≤ 9223372036854775807) (hc : nck n es ≠ 0) :
    Calls Try.prog 4 #[.agg #[.int .i64 n, v]] w fun e w' => e = .returned (.bool true) ∧ Below w.heap.size w w' := by
  obtain ⟨a0, c0, rfl⟩ := hv.val
  have HV : Hid _ := hv
  obtain ⟨k, hk⟩ : ∃ k, nck n es = k := ⟨_, rfl⟩
  have HK : Hid _ := hk
  have HC : Hid _ := hc
  have z1 : (k == 0) = false := by rw [← hk]; simp [hc]
  have z2 : (k != 0) = true := by rw [← hk]; simp [hc]
  have z3 : (k == k) = true := by simp
  clear hv hc hk
  go_enter Try.func4, Try.ntmps4
  go_wp2_with fail
  have P0 : Hid _ := box2_new w n (.slice a0 es.length c0) 24
  have B0 : Hid (Below w.heap.size w (w.alloc (.cells #[.int .i64 n, .slice a0 es.length c0] 24))) := balloc (Below.refl _ _) _
  generalize w.alloc (.cells #[.int .i64 n, .slice a0 es.length c0] 24) = W0 at *
  refine (cycle_net n _ es W0 (HV.out.below B0.out) hlen HC.out).mono ?_
  rintro e w1 ⟨rfl, b1⟩
  rw [HK.out]
  have B1 : Hid (Below w.heap.size w w1) := bthen B0.out b1
  obtain ⟨p0, p1⟩ := P0.out.below b1
  clear b1
  go_wp2_with fail
  clear p0 p1
  refine (rnet_any n _ es w1 (HV.out.below B1.out) hlen).mono ?_
  rintro e w2 ⟨rfl, b2⟩
  rw [HK.out]
  go_wp2_with fail
  go_ret
  exact ⟨rfl, bthen B1.out b2⟩
set_option maxRecDepth 100000 in
set_option maxHeartbeats 16000000 in
theorem walk_none (N : Nat) (v : Value) (es : List E) (w : World) (hv : SlE w v es) (hb : Rnt N es) (hs : (rns es (fun _ => 0) N).s = -1) :
    Calls Try.prog 4 #[.agg #[.int .i64 N, v]] w fun e w' => e = .returned (.bool true) ∧ Below w.heap.size w w' := by
  obtain ⟨a0, c0, rfl⟩ := hv.val
  have HV : Hid _ := hv
  have HB : Hid _ := hb
  have HC : Hid _ := hb.nck
  have HSK : Hid _ := hs
  have hn1 := hb.n1
  have hn64 := hb.n64
  have hlen : es.length ≤ 9223372036854775807 := by have := hb.len; omega
  have HF : Hid (Fx N es (fun _ => 0)) := (fx_iff hb (fun v hv => (zero_zero N v hv).2)).2 hs
  clear hv hb hs
  go_enter Try.func4, Try.ntmps4
  go_wp2_with fail
  have P0 : Hid _ := box2_new w (N : Int) (.slice a0 es.length c0) 24
  have B0 : Hid (Below w.heap.size w (w.alloc (.cells #[.int .i64 N, .slice a0 es.length c0] 24))) := balloc (Below.refl _ _) _
  generalize w.alloc (.cells #[.int .i64 N, .slice a0 es.length c0] 24) = W0 at *
  refine (cycle_none N _ es W0 (HV.out.below B0.out) HB.out HSK.out).mono ?_
  rintro e w1 ⟨rfl, b1⟩
  have B1 : Hid (Below w.heap.size w w1) := bthen B0.out b1
  have P1 : Hid _ := P0.out.below b1
  obtain ⟨p0, p1⟩ := P1.out
  clear b1 P0 B0
  go_wp2_with fail
  clear p0 p1
  refine (rnet_any N _ es w1 (HV.out.below B1.out) hlen).mono ?_
  rintro e w2 ⟨rfl, b2⟩
  rw [HC.out]
  have B2 : Hid (Below w.heap.size w w2) := bthen B1.out b2
  have P2 : Hid _ := P1.out.below b2
  obtain ⟨p0, p1⟩ := P2.out
  clear b2 P1 B1
  go_wp2_with fail
  clear p0 p1
  refine (ranybad_no N _ es w2 (HV.out.below B2.out) HB.out HF.out).mono ?_
  rintro e w3 ⟨rfl, b3⟩
  go_wp2_with fail
  go_ret
  exact ⟨rfl, bthen B2.out b3⟩
set_option maxRecDepth 100000 in
set_option maxHeartbeats 16000000 in
theorem walk_yes (N : Nat) (v : Value) (es : List E) (w : World) (hv : SlE w v es) (hb : Rnt N es) (hs : (rns es (fun _ => 0) N).s ≠ -1) :
    Calls Try.prog 4 #[.agg #[.int .i64 N, v]] w fun e w' => e = .returned (.bool true) ∧ Below w.heap.size w w' := by
  obtain ⟨a0, c0, rfl⟩ := hv.val
  have HV : Hid _ := hv
  have HB : Hid _ := hb
  have HC : Hid _ := hb.nck
  have HSK : Hid _ := hs
  have hn1 := hb.n1
  have hn64 := hb.n64
  have hlen : es.length ≤ 9223372036854775807 := by have := hb.len; omega
  have HF : Hid (¬ Fx N es (fun _ => 0)) := fun h => hs ((fx_iff hb (fun v hv => (zero_zero N v hv).2)).1 h)
  clear hv hb hs
  go_enter Try.func4, Try.ntmps4
  go_wp2_with fail
  have P0 : Hid _ := box2_new w (N : Int) (.slice a0 es.length c0) 24
  have B0 : Hid (Below w.heap.size w (w.alloc (.cells #[.int .i64 N, .slice a0 es.length c0] 24))) := balloc (Below.refl _ _) _
  generalize w.alloc (.cells #[.int .i64 N, .slice a0 es.length c0] 24) = W0 at *
  refine (cycle_yes N _ es W0 (HV.out.below B0.out) HB.out HSK.out).mono ?_
  rintro e w1 ⟨g, cap, l, rg, rfl, is1, b1⟩
  have I1 : Hid _ := is1
  have RG : Hid _ := rg
  clear is1 rg
  have B1 : Hid (Below w.heap.size w w1) := bthen B0.out b1
  have P1 : Hid _ := P0.out.below b1
  obtain ⟨p0, p1⟩ := P1.out
  clear b1 P0 B0
  go_wp2_with fail
  clear p0 p1
  refine (rnet_any N _ es w1 (HV.out.below B1.out) hlen).mono ?_
  rintro e w2 ⟨rfl, b2⟩
  rw [HC.out]
  have B2 : Hid (Below w.heap.size w w2) := bthen B1.out b2
  have P2 : Hid _ := P1.out.below b2
  obtain ⟨p0, p1⟩ := P2.out
  have I2 : Hid _ := I1.out.below b2
  clear b2 P1 B1
  go_wp2_with fail
  clear p0 p1
  refine (ranybad_yes N _ es w2 (HV.out.below B2.out) HB.out HF.out).mono ?_
  rintro e w3 ⟨rfl, b3⟩
  have B3 : Hid (Below w.heap.size w w3) := bthen B2.out b3
  have P3 : Hid _ := P2.out.below b3
  have I3 : Hid _ := I2.out.below b3
  obtain ⟨p0, p1⟩ := P3.out
  have hl1 := RG.out.l1
  have hlN := RG.out.lN
  have hlz' : (l.length : Int) ≠ 0 := by omega
  have hlz : ((l.length : Int) == 0) = false := beq_eq_false_iff_ne.2 hlz'
  have hlg : ¬ (N : Int) < (l.length : Int) := by omega
  have hdec : decide (N < l.length) = false := by simp; omega
  obtain ⟨gx, ox, cpx, hsl, hcl, hcp⟩ := I3.out.sl.some2 (by omega)
  simp only [Value.slice.injEq, Option.some.injEq, Addr.mk.injEq] at hsl
  obtain ⟨⟨rfl, rfl, -⟩, -, rfl⟩ := hsl
  have HSL : Hid (∀ w', Below w3.heap.size w3 w' → SlI w' (.slice (some ⟨g, 0, none⟩) l.length cap) l) := fun w' hb => I3.out.sl.below hb
  have HCL : Hid (∀ w', Below w3.heap.size w3 w' → ∀ i, i < l.length → w'.cell? ⟨g, i, none⟩ = some (.int .i64 (l.getD i 0))) := fun w' hb i hi => by
    have := kept hb (hcl i hi)
    rw [Nat.zero_add] at this
    exact this
  clear b3 P2 B2 hcl
  go_wp2_with fail
  clear p0 p1
  go_loopw [49] (fun z wr => ∃ k : Nat, z = .int .i64 k ∧ k ≤ l.length ∧ Below w3.heap.size w3 wr) (fun z _ => l.length - (intOf z).toNat)
  case atStart => exact ⟨0, rfl, Nat.zero_le _, Below.refl _ _⟩
  case round =>
    obtain ⟨k, rfl, hk, hbr⟩ := hrel
    have BR : Hid (Below w3.heap.size w3 wr) := hbr
    clear hbr
    by_cases hlt : k < l.length
    · have hki : (k : Int) < (l.length : Int) := by omega
      have c0 := HCL.out wr BR.out k hlt
      have SK : Hid (SlI wr (.slice (some ⟨g, 0, none⟩) k cap) (l.take k)) := by
        refine SlI.row g 0 cap (by rw [List.length_take]; congr; omega) (fun i hi => ?_) (by rw [List.length_take]; omega)
        rw [List.length_take] at hi
        have := HCL.out wr BR.out i (by omega)
        rw [Nat.zero_add, this]
        simp [List.getD_eq_getElem?_getD, show i < k by omega]
      have HAP : Hid (∀ i, i < (l.take k).length → l.getD k 0 ≠ (l.take k).getD i 0) := by
        intro i hi
        rw [List.length_take] at hi
        have := RG.out.apart i k (by omega) hlt
        simp only [List.getD_eq_getElem?_getD, List.getElem?_take, show i < k by omega, if_true] at this ⊢
        exact fun h => this h.symm
      have HTL : Hid ((l.take k).length ≤ 9223372036854775807) := by unfold Hid; rw [List.length_take]; omega
      obtain ⟨x, hx⟩ : ∃ x, l.getD k 0 = x := ⟨_, rfl⟩
      rw [hx] at c0 HAP
      clear hx
      go_wp2_with fail
      refine (contains_no _ (l.take k) x wr SK.out HTL.out HAP.out).mono ?_
      rintro e w4 ⟨rfl, hw4⟩
      have BR4 : Hid (Below w3.heap.size w3 w4) := by rw [hw4]; exact BR.out
      clear c0 hw4
      go_wp2_with fail
      go_roundw
      case rel => exact ⟨k + 1, by go_num, by omega, BR4.out⟩
      case measure => simp [intOf]; omega
    · have hke : k = l.length := by omega
      subst hke
      obtain ⟨p0, p1⟩ := P3.out.below BR.out
      have cz := HCL.out wr BR.out 0 (by omega)
      obtain ⟨x, hx⟩ : ∃ x, l.getD 0 0 = x := ⟨_, rfl⟩
      rw [hx] at cz
      obtain ⟨c, hwc, hneg⟩ := RG.out.cost
      rw [hx] at hwc
      have HW : Hid (wcode N es (l ++ [x]) = (c, 0)) := by
        refine wcode_some HB.out.nck (by simp) (by simp; omega) ?_ hwc
        rw [List.all_eq_true]
        intro y hy
        have : y ∈ l := by
          rcases List.mem_append.1 hy with h | h
          · exact h
          · have := List.mem_singleton.1 h
            rw [this, ← hx, List.getD_eq_getElem?_getD, List.getElem?_eq_getElem (by omega)]
            exact List.getElem_mem _
        have := RG.out.in_ y this
        exact plc_yes this.1 this.2
      clear hx hwc
      obtain ⟨i0, hi0, hz0, hz1, hz2⟩ := info3_parts
      have hl0 : (0 : Int) < (l.length : Int) := by omega
      have hl0' : 0 < l.length := hl1
      have BW : Hid (Below w.heap.size w wr) := bthen B3.out BR.out
      have HS0 : Hid (∀ w', Below wr.heap.size wr w' → SlI w' (.slice (some ⟨g, 0, none⟩) l.length cap) l) := fun w' hb => HSL.out w' (bthen BR.out hb)
      have PB : Hid _ := P3.out.below BR.out
      have CZ : Hid _ := cz
      go_wp2_with fail
      go_region_held3 (fun w' => w'.cell? ⟨w.heap.size, 0, none⟩ = some (.int .i64 N) ∧ w'.cell? ⟨w.heap.size, 1, none⟩ = some (.slice a0 es.length c0) ∧ w'.cell? ⟨g, 0, none⟩ = some (.int .i64 x)) (first | go_keep | exact ⟨kept BB.out PB.out.g0, kept BB.out PB.out.g1, kept BB.out CZ.out⟩)
        (first
         | (go_at_call 22; refine (iclone_any _ l _ (HS0.out _ (by first | exact Below.drew (Below.refl _ _) | exact balloc (Below.drew (Below.refl _ _)) _)) (by omega)).mono ?_; rintro e w4 ⟨v4, rfl, i4, b4⟩; have BB : Hid (Below wr.heap.size wr w4) := (by first | exact bthen (Below.drew (Below.refl _ _)) b4 | exact bthen (balloc (Below.drew (Below.refl _ _)) _) b4); have B4 : Hid _ := b4; have I4 : Hid _ := i4; clear b4 i4)
         | (go_at_call 21; refine (rwalk_any N _ _ es (l ++ [x]) w5 ((HV.out.below BW.out).below BB.out) IS5.out hlen (by simp; omega)).mono ?_; rintro e w6 ⟨rfl, b6⟩; rw [HW.out]; have BB : Hid (Below wr.heap.size wr w6) := (by exact bthen BB.out b6); clear b6; (try dsimp only))
         | (refine step_append_lies _ (by rfl) _ _ _ (by rfl) wr.heap.size 3 i0 _ 1 8 Try.underlying25 hi0 hz0 hz1 hz2 rfl (by omega) v4 l.length (l.map (fun z => .int .i64 z)) (by rfl) (I4.out.own.alloc _) ⟨w4.heap.size, 0, none⟩ 1 1 [.int .i64 x] (by rfl) rfl (World.news_of_block (cs := #[.int .i64 x]) (t := 3) (fr := (0, 0)) (heap_alloc_new _ _)) (by simp [Value.oneCell']) (by omega) (by unfold maxLen; omega) (by omega) (by have := BB.out.size; simp; omega) (w4.heap.size + 1) (by simp) ?_; intro gg cap' w5 hown5 hgrow hat hlt5; have BB : Hid (Below wr.heap.size wr w5) := (by exact (balloc BB.out _).grown hgrow (by have := BB.out.size; simp; omega) (fun k hk => (ownBlock_lt I4.out.own k hk).1)); have IS5 : Hid _ := (Is.next (m := l ++ [x]) rfl rfl hown5).sl; clear hown5 hgrow hat hlt5)
         | (refine step_append_lies _ (by rfl) _ _ _ (by rfl) wr.heap.size 3 i0 _ 1 8 Try.underlying25 hi0 hz0 hz1 hz2 rfl (by omega) v4 l.length (l.map (fun z => .int .i64 z)) (by rfl) ((I4.out.mono (b' := wr.heap.size) (by simp)).own) ⟨wr.heap.size, 0, none⟩ 1 1 [.int .i64 x] (by rfl) rfl (World.news_of_block (cs := #[.int .i64 x]) (t := 3) (fr := (0, 0)) ((B4.out.block _ (by simp)).trans (heap_alloc_new wr.drew _))) (by simp [Value.oneCell']) (by omega) (by unfold maxLen; omega) (by omega) BB.out.size w4.heap.size rfl ?_; intro gg cap' w5 hown5 hgrow hat hlt5; have BB : Hid (Below wr.heap.size wr w5) := (by exact BB.out.grown hgrow BB.out.size (fun k hk => (ownBlock_lt (I4.out.mono (b' := wr.heap.size) (by simp)).own k hk).1)); have IS5 : Hid _ := (Is.next (m := l ++ [x]) rfl rfl hown5).sl; clear hown5 hgrow hat hlt5)
         | fail)
      all_goals
        go_wp2_with fail
        go_ret
        exact ⟨rfl, bthen BW.out BB.out⟩
theorem walk (n : Int) (v : Value) (es : List E) (w : World) (hv : SlE w v es) (hlen : es.length ≤ 9223372036854775807) :
    Calls Try.prog 4 #[.agg #[.int .i64 n, v]] w fun e w' => e = .returned (.bool true) ∧ Below w.heap.size w w' := by
  by_cases hc : nck n es = 0
  · obtain ⟨hb, hn⟩ := bn_of hc
    rw [← hn]
    by_cases hs : (rns es (fun _ => 0) n.toNat).s = -1
    · exact walk_none n.toNat v es w hv hb hs
    · exact walk_yes n.toNat v es w hv hb hs
  · exact walk_net n v es w hv hlen hc
end BCycles
end Go.Proofs.Ytidbbkpgmcheiaa
