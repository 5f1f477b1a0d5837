/-
  Contracts: Flat.
-/
import Derived.Test.YtidbbkpgmcheiaaJB
namespace Go.Proofs.Ytidbbkpgmcheiaa
open Go.RowKit
open Nm Wm Dm Bm Jm

set_option maxRecDepth 100000 in
set_option maxHeartbeats 8000000 in
theorem flat_net (n : Int) (v u : Value) (es : List E) (hs : List Int) (w : World) (hv : SlE w v es) (hu : SlI w u hs) (hlen : es.length ≤ 9223372036854775807) (hc : nck n es ≠ 0) :
    Calls Try.prog 25 #[.agg #[.int .i64 n, v], u] w fun e w' => e = .returned (.tuple #[.agg #[.int .i64 0, .slice none 0 0], .int .i64 (nck n es)]) ∧ Below w.heap.size w w' := by
  obtain ⟨a0, c0, rfl⟩ := hv.val
  obtain ⟨a1, c1, rfl⟩ := hu.val
  have HV : Hid _ := hv
  have hz : (nck n es != 0) = true := by simp [hc]
  clear hv hu hc
  go_enter Try.func25, Try.ntmps25
  go_wp2_with fail
  have P0 : Hid _ := box2_new w (n : Int) (.slice a0 es.length c0) 24
  have B0 : Hid (Below w.heap.size w (w.alloc (.cells #[.int .i64 n, .slice a0 es.length c0] 24))) := balloc (Below.refl _ _) _
  have hz0 : (w.alloc (.cells #[.int .i64 n, .slice a0 es.length c0] 24)).heap.size = w.heap.size + 1 := by simp
  generalize w.alloc (.cells #[.int .i64 n, .slice a0 es.length c0] 24) = W0 at *
  have N1 : Hid _ := bn_new W0 (.int .i64 0) (.slice none 0 0)
  rw [hz0] at N1
  have P1 : Hid _ := P0.out.below (balloc (Below.refl _ _) (.cells #[.int .i64 0, .slice none 0 0] 24))
  have B1 : Hid (Below w.heap.size w (W0.alloc (.cells #[.int .i64 0, .slice none 0 0] 24))) := balloc B0.out _
  generalize W0.alloc (.cells #[.int .i64 0, .slice none 0 0] 24) = W1 at *
  clear hz0 B0 P0
  refine (ncheck_any n _ es W1 (HV.out.below B1.out) hlen).mono ?_
  rintro e w2 ⟨rfl, b2⟩
  have N2 : Hid _ := N1.out.below b2
  have P2 : Hid _ := P1.out.below b2
  have B2 : Hid (Below w.heap.size w w2) := bthen B1.out b2
  clear b2 N1 P1 B1
  clear P2
  obtain ⟨g0, g1⟩ := N2.out.cell
  obtain ⟨f0, f1⟩ := N2.out.frozen
  go_wp2_with fail
  refine bodyPost_ret (v := .tuple #[.agg #[.int .i64 0, .slice none 0 0], .int .i64 (nck n es)]) ?_ rfl ?_
  · simp [results, Try.results25, go_sem, *]
  · exact ⟨rfl, Below.setCell (Below.setCell B2.out (by simp) _) (by simp) _⟩
set_option maxRecDepth 100000 in
set_option maxHeartbeats 8000000 in
theorem flat_arg (n : Int) (v u : Value) (es : List E) (hs : List Int) (w : World) (hv : SlE w v es) (hu : SlI w u hs) (hlen : es.length ≤ 9223372036854775807) (hc : nck n es = 0) (hn64 : n ≤ 64) (hh : ¬ ((hs.length : Int) = n ∧ hgt hs = true)) :
    Calls Try.prog 25 #[.agg #[.int .i64 n, v], u] w fun e w' => e = .returned (.tuple #[.agg #[.int .i64 0, .slice none 0 0], .int .i64 1]) ∧ Below w.heap.size w w' := by
  have HH : Hid (∀ w', Below w.heap.size w w' → Calls Try.prog 58 #[.agg #[.int .i64 n, v], u] w' fun e w'' => e = .returned (.bool false) ∧ Below w'.heap.size w' w'') := by
    intro w' hb
    by_cases hl : (hs.length : Int) = n
    · have hg : hgt hs = false := by
        cases e : hgt hs with
        | false => rfl
        | true => exact absurd ⟨hl, e⟩ hh
      have := heights_at hs.length v u es hs w' (hv.below hb) (hu.below hb) rfl (by omega)
      rw [hg, hl] at this
      exact this
    · exact heights_len n v u es hs w' (hv.below hb) (hu.below hb) hl
  obtain ⟨a0, c0, rfl⟩ := hv.val
  obtain ⟨a1, c1, rfl⟩ := hu.val
  have HV : Hid _ := hv
  have HC : Hid _ := hc
  clear hv hu hc hh
  go_enter Try.func25, Try.ntmps25
  go_wp2_with fail
  have P0 : Hid _ := box2_new w (n : Int) (.slice a0 es.length c0) 24
  have B0 : Hid (Below w.heap.size w (w.alloc (.cells #[.int .i64 n, .slice a0 es.length c0] 24))) := balloc (Below.refl _ _) _
  have hz0 : (w.alloc (.cells #[.int .i64 n, .slice a0 es.length c0] 24)).heap.size = w.heap.size + 1 := by simp
  generalize w.alloc (.cells #[.int .i64 n, .slice a0 es.length c0] 24) = W0 at *
  have N1 : Hid _ := bn_new W0 (.int .i64 0) (.slice none 0 0)
  rw [hz0] at N1
  have P1 : Hid _ := P0.out.below (balloc (Below.refl _ _) (.cells #[.int .i64 0, .slice none 0 0] 24))
  have B1 : Hid (Below w.heap.size w (W0.alloc (.cells #[.int .i64 0, .slice none 0 0] 24))) := balloc B0.out _
  generalize W0.alloc (.cells #[.int .i64 0, .slice none 0 0] 24) = W1 at *
  clear hz0 B0 P0
  refine (ncheck_any n _ es W1 (HV.out.below B1.out) hlen).mono ?_
  rintro e w2 ⟨rfl, b2⟩
  have N2 : Hid _ := N1.out.below b2
  have P2 : Hid _ := P1.out.below b2
  have B2 : Hid (Below w.heap.size w w2) := bthen B1.out b2
  clear b2 N1 P1 B1
  rw [HC.out]
  obtain ⟨p0, p1⟩ := P2.out
  go_wp2_with fail
  clear p0 p1
  refine (HH.out w2 B2.out).mono ?_
  rintro e w3 ⟨rfl, b3⟩
  have N3 : Hid _ := N2.out.below b3
  have B3 : Hid (Below w.heap.size w w3) := bthen B2.out b3
  clear b3 N2 P2 B2
  obtain ⟨g0, g1⟩ := N3.out.cell
  obtain ⟨f0, f1⟩ := N3.out.frozen
  go_wp2_with fail
  refine bodyPost_ret (v := .tuple #[.agg #[.int .i64 0, .slice none 0 0], .int .i64 1]) ?_ rfl ?_
  · simp [results, Try.results25, go_sem, *]
  · exact ⟨rfl, Below.setCell (Below.setCell B3.out (by simp) _) (by simp) _⟩
/-- What Flat answers where net and heights are right. -/
structure Fl (w w' : World) (N : Nat) (es : List E) (hs : List Int) (e : Ending) : Prop where
  is : (fch (es.map (lvl hs)) = 0 ∧ ∃ G, e = .returned (.tuple #[.agg #[.int .i64 N, .slice (some ⟨G, 0, none⟩) es.length es.length], .int .i64 0]) ∧ w.heap.size ≤ G ∧ Er w' G es.length (fun i => lvl hs (at3 es i))) ∨
    (fch (es.map (lvl hs)) ≠ 0 ∧ e = .returned (.tuple #[.agg #[.int .i64 0, .slice none 0 0], .int .i64 (fch (es.map (lvl hs)))]))
set_option maxRecDepth 100000 in
set_option maxHeartbeats 8000000 in
theorem flat_any (N : Nat) (v u : Value) (es : List E) (hs : List Int) (w : World) (hv : SlE w v es) (hu : SlI w u hs) (hb : Rnt N es) (hn : hs.length = N) (hh : hgt hs = true) :
    Calls Try.prog 25 #[.agg #[.int .i64 N, v], u] w fun e w' => Fl w w' N es hs e ∧ Below w.heap.size w w' := by
  obtain ⟨a0, c0, rfl⟩ := hv.val
  obtain ⟨a1, c1, rfl⟩ := hu.val
  have HV : Hid _ := hv
  have HU : Hid _ := hu
  have HB : Hid _ := hb
  have HC : Hid _ := hb.nck
  have HH : Hid _ := hh
  have HN : Hid _ := hn
  have hn64 := hb.n64
  have hlen6 := hb.len
  have hlen : es.length ≤ 9223372036854775807 := by omega
  have HR : Hid (∀ i, i < N → -1000000000 ≤ hs.getD i 0 ∧ hs.getD i 0 ≤ 1000000000) := by
    intro i hi
    have := hgt_at hh (i := i) (by omega)
    omega
  clear hv hu hb hh hn
  go_enter Try.func25, Try.ntmps25
  go_wp2_with fail
  have P0 : Hid _ := box2_new w (N : Int) (.slice a0 es.length c0) 24
  have B0 : Hid (Below w.heap.size w (w.alloc (.cells #[.int .i64 N, .slice a0 es.length c0] 24))) := balloc (Below.refl _ _) _
  have hz0 : (w.alloc (.cells #[.int .i64 N, .slice a0 es.length c0] 24)).heap.size = w.heap.size + 1 := by simp
  generalize w.alloc (.cells #[.int .i64 N, .slice a0 es.length c0] 24) = W0 at *
  have N1 : Hid _ := bn_new W0 (.int .i64 0) (.slice none 0 0)
  rw [hz0] at N1
  have P1 : Hid _ := P0.out.below (balloc (Below.refl _ _) (.cells #[.int .i64 0, .slice none 0 0] 24))
  have B1 : Hid (Below w.heap.size w (W0.alloc (.cells #[.int .i64 0, .slice none 0 0] 24))) := balloc B0.out _
  generalize W0.alloc (.cells #[.int .i64 0, .slice none 0 0] 24) = W1 at *
  clear hz0 B0 P0
  refine (ncheck_any N _ es W1 (HV.out.below B1.out) hlen).mono ?_
  rintro e w2 ⟨rfl, b2⟩
  have N2 : Hid _ := N1.out.below b2
  have P2 : Hid _ := P1.out.below b2
  have B2 : Hid (Below w.heap.size w w2) := bthen B1.out b2
  clear b2 N1 P1 B1
  rw [HC.out]
  obtain ⟨p0, p1⟩ := P2.out
  go_wp2_with fail
  clear p0 p1
  refine (heights_at N _ _ es hs w2 (HV.out.below B2.out) (HU.out.below B2.out) HN.out hn64).mono ?_
  rintro e w3 ⟨rfl, b3⟩
  rw [HH.out]
  have N3 : Hid _ := N2.out.below b3
  have P3 : Hid _ := P2.out.below b3
  have B3 : Hid (Below w.heap.size w w3) := bthen B2.out b3
  obtain ⟨p0, p1⟩ := P3.out
  clear b3 N2 P2 B2
  go_wp2_with fail
  clear p0 p1
  refine (level_any N _ _ es hs w3 (HV.out.below B3.out) (HU.out.below B3.out) HB.out HN.out HR.out).mono ?_
  rintro e w4 ⟨G, rfl, hG, r4, b4⟩
  obtain ⟨m, hm⟩ : ∃ m, es.length = m := ⟨_, rfl⟩
  have HM : Hid _ := hm
  rw [hm] at r4 hlen6 ⊢
  have GW : Hid (w.heap.size + 1 < G) := by have := N3.out.lt; unfold Hid; omega
  have GL : Hid (G < w4.heap.size) := r4.lt
  have R5 : Hid _ := r4.below (balloc (Below.refl _ _) (.cells #[.int .i64 N, .slice (some ⟨G, 0, none⟩) m m] 24))
  have N5 : Hid _ := (N3.out.below b4).below (balloc (Below.refl _ _) (.cells #[.int .i64 N, .slice (some ⟨G, 0, none⟩) m m] 24))
  have M5 : Hid _ := bn_new w4 (.int .i64 N) (.slice (some ⟨G, 0, none⟩) m m)
  have B5 : Hid (Below w.heap.size w (w4.alloc (.cells #[.int .i64 N, .slice (some ⟨G, 0, none⟩) m m] 24))) := balloc (bthen B3.out b4) _
  obtain ⟨n0, n1⟩ := M5.out.cell
  clear b4 r4 hm hG N3 P3 B3
  go_wp2_with fail
  clear n0 n1
  generalize w4.alloc (.cells #[.int .i64 N, .slice (some ⟨G, 0, none⟩) m m] 24) = W5 at *
  obtain ⟨F, hF⟩ : ∃ F, w4.heap.size = F := ⟨_, rfl⟩
  rw [hF] at M5 GL ⊢
  clear hF
  go_loopw [27] (fun z wr => ∃ k : Nat, z = .int .i64 k ∧ k ≤ m ∧ fch (es.map (lvl hs)) = fch ((es.map (lvl hs)).drop k) ∧ Below W5.heap.size W5 wr) (fun z _ => m - (intOf z).toNat)
  case atStart => exact ⟨0, rfl, Nat.zero_le _, rfl, Below.refl _ _⟩
  case round =>
    obtain ⟨k, rfl, hk, hfc, hbr⟩ := hrel
    have HFC : Hid _ := hfc
    have HBR : Hid (Below W5.heap.size W5 wr) := hbr
    clear hfc hbr
    have NR : Hid _ := N5.out.below HBR.out
    have BR : Hid (Below w.heap.size w wr) := bthen B5.out HBR.out
    by_cases hlt : k < m
    · have hki : (k : Int) < (m : Int) := by omega
      have hlt' : k < (es.map (lvl hs)).length := by have := HM.out; rw [List.length_map]; omega
      obtain ⟨t0, t1, t2⟩ := (R5.out.below HBR.out).cell k hlt
      have HA : Hid (at3 (es.map (lvl hs)) k = lvl hs (at3 es k)) := at3_map _ (by have := HM.out; omega)
      obtain ⟨p, hpe⟩ : ∃ p, lvl hs (at3 es k) = p := ⟨_, rfl⟩
      rw [hpe] at t0 t1 t2 HA
      clear hpe
      obtain ⟨x, y, c⟩ := p
      simp only at t0 t1 t2
      have HCC : Hid ((at3 (es.map (lvl hs)) k).2.2 = c) := by rw [HA.out]; rfl
      obtain ⟨y0, y1, y2⟩ := box3_new wr x y (.int .i64 c) 44
      have NR2 : Hid _ := NR.out.below (balloc (Below.refl _ _) (.cells #[.int .i64 x, .int .i64 y, .int .i64 c] 44))
      have BR2 : Hid (Below w.heap.size w (wr.alloc (.cells #[.int .i64 x, .int .i64 y, .int .i64 c] 44))) := balloc BR.out _
      have HBR2 : Hid (Below W5.heap.size W5 (wr.alloc (.cells #[.int .i64 x, .int .i64 y, .int .i64 c] 44))) := balloc HBR.out _
      obtain ⟨g0, g1⟩ := NR2.out.cell
      obtain ⟨f0, f1⟩ := NR2.out.frozen
      by_cases h1 : c < 0
      · have HV4 : Hid (fch (es.map (lvl hs)) = 4) := fch_low HFC.out hlt' (by rw [HCC.out]; exact h1)
        go_wp2_with fail
        refine bodyPost_ret (v := .tuple #[.agg #[.int .i64 0, .slice none 0 0], .int .i64 4]) ?_ rfl ?_
        · simp [results, Try.results25, go_sem, *]
        · exact ⟨⟨.inr (by rw [HV4.out]; exact ⟨by omega, rfl⟩)⟩, Below.setCell (Below.setCell BR2.out (by simp) _) (by simp) _⟩
      · by_cases h2 : 10000 < c
        · have HV4 : Hid (fch (es.map (lvl hs)) = 2) := fch_high HFC.out hlt' (by rw [HCC.out]; exact h1) (by rw [HCC.out]; exact h2)
          go_wp2_with fail
          refine bodyPost_ret (v := .tuple #[.agg #[.int .i64 0, .slice none 0 0], .int .i64 2]) ?_ rfl ?_
          · simp [results, Try.results25, go_sem, *]
          · exact ⟨⟨.inr (by rw [HV4.out]; exact ⟨by omega, rfl⟩)⟩, Below.setCell (Below.setCell BR2.out (by simp) _) (by simp) _⟩
        · have HNX : Hid _ := fch_next HFC.out hlt' (by rw [HCC.out]; exact h1) (by rw [HCC.out]; exact h2)
          go_wp2_with fail
          go_roundw
          case rel => exact ⟨k + 1, by go_num, by omega, HNX.out, HBR2.out⟩
          case measure => simp [intOf]; omega
    · have hke : k = m := by omega
      subst hke
      have HV0 : Hid (fch (es.map (lvl hs)) = 0) := fch_end (by have h1 := HFC.out; have h2 := HM.out; rw [List.length_map, h2]; exact h1)
      obtain ⟨n0, n1⟩ := (M5.out.below HBR.out).cell
      obtain ⟨g0, g1⟩ := NR.out.cell
      obtain ⟨f0, f1⟩ := NR.out.frozen
      go_wp2_with fail
      have RR : Hid (Er ((wr.setCell ⟨w.heap.size + 1, 0, none⟩ (.int .i64 N)).setCell ⟨w.heap.size + 1, 1, none⟩ (.slice (some ⟨G, 0, none⟩) k k)) G k (fun i => lvl hs (at3 es i))) := by
        have hne : G ≠ w.heap.size + 1 := by have := GW.out; omega
        refine Er.frame (w := wr) (R5.out.below HBR.out) ?_
        rw [Below.heap_setCell _ _ _ _ hne, Below.heap_setCell _ _ _ _ hne]
      refine bodyPost_ret (v := .tuple #[.agg #[.int .i64 N, .slice (some ⟨G, 0, none⟩) k k], .int .i64 0]) ?_ rfl ?_
      · simp [results, Try.results25, go_sem, *]
      · exact ⟨⟨.inl ⟨HV0.out, G, by rw [HM.out], by have := GW.out; omega, by rw [HM.out]; exact RR.out⟩⟩, Below.setCell (Below.setCell BR.out (by simp) _) (by simp) _⟩
end Go.Proofs.Ytidbbkpgmcheiaa
