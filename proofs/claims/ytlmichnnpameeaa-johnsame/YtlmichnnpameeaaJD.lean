/-
  Contract: row.
-/
import Derived.Test.YtlmichnnpameeaaDK
import Derived.Test.YtlmichnnpameeaaAm
import Derived.Test.YtlmichnnpameeaaBD
namespace Go.Proofs.Ytlmichnnpameeaa
open Go.RowKit
open Nm Wm Dm Bm Jm Zm Am

def part2 (f g : Nat → Int) (k i : Nat) : Int := if i < k then f i else g i
theorem part2_same {f g : Nat → Int} {k : Nat} (h : f k = g k) (i : Nat) : part2 f g k i = part2 f g (k + 1) i := by
  unfold part2
  by_cases h1 : i < k
  · rw [if_pos h1, if_pos (by omega)]
  · by_cases h2 : i = k
    · subst h2; rw [if_neg h1, if_pos (by omega), h]
    · rw [if_neg h1, if_neg (by omega)]
theorem part2_put {f g : Nat → Int} {k : Nat} {x : Int} (h : f k = x) (i : Nat) : upd (part2 f g k) k x i = part2 f g (k + 1) i := by
  by_cases h2 : i = k
  · subst h2; rw [upd_same]; unfold part2; rw [if_pos (by omega), h]
  · rw [upd_other _ _ h2]
    unfold part2
    by_cases h1 : i < k
    · rw [if_pos h1, if_pos (by omega)]
    · rw [if_neg h1, if_neg (by omega)]

set_option maxRecDepth 100000 in
set_option maxHeartbeats 8000000 in
theorem row_any (N s : Nat) (v u : Value) (es : List E) (hs : List Int) (w : World) (hv : SlE w v (es.map (lvl hs))) (hu : SlI w u hs) (hb : Rnt N es) (hh : Hh N es hs) (hsN : s < N) :
    Calls Try.prog 44 #[.agg #[.int .i64 N, v], u, .int .i64 s] w fun e w' => ∃ G, e = .returned (.slice (some ⟨G, 0, none⟩) N N) ∧ w.heap.size ≤ G ∧ Ur w' G N (spr es (Dm.start s) (N - 1)) ∧ Below w.heap.size w w' := by
  obtain ⟨L, hL⟩ : ∃ L, es.map (lvl hs) = L := ⟨_, rfl⟩
  have HQ : Hid (Qn N L) := by rw [← hL]; exact hh.qn hb
  have HLO : Hid (∀ d, Ls N L (Dm.start s) d → Ls N es (Dm.start s) (off hs s d)) := by rw [← hL]; exact fun d hd => ls_off hb hh hsN hd
  rw [hL] at hv
  clear hL
  obtain ⟨a0, c0, rfl⟩ := hv.val
  obtain ⟨a1, c1, rfl⟩ := hu.val
  have HV : Hid _ := hv
  have HU : Hid _ := hu
  have HB : Hid _ := hb
  have HH : Hid _ := hh
  have hn64 := hb.n64
  have hsl : hs.length = N := hh.len
  have HSL : Hid _ := hsl
  have hsi : (s : Int) < (hs.length : Int) := by omega
  have hs0 := hh.lo s hsN
  have hs1 := hh.hi s hsN
  clear hv hu hb hh hsl
  go_enter Try.func44, Try.ntmps44
  go_wp2_with fail
  have B0 : Hid (Below w.heap.size w (w.alloc (.cells #[.int .i64 N, .slice a0 L.length c0] 24))) := balloc (Below.refl _ _) _
  generalize w.alloc (.cells #[.int .i64 N, .slice a0 L.length c0] 24) = W0 at *
  refine (costs_any N s _ L W0 (HV.out.below B0.out) HQ.out hsN).mono ?_
  rintro e w1 ⟨G, d, rfl, hG, ur, hd, b1⟩
  have U1 : Hid _ := ur
  have HD : Hid _ := hd
  have HG : Hid (W0.heap.size ≤ G) := hG
  have W0L : Hid (w.heap.size ≤ W0.heap.size) := B0.out.size
  have B1 : Hid (Below w.heap.size w w1) := bthen B0.out b1
  have HOF : Hid (∀ i, i < N → off hs s d i = spr es (Dm.start s) (N - 1) i) := fun i hi => ((HLO.out d hd).spr HB.out.inn (fun v hv => (start_zero N s v hv).2) (by omega) i hi).symm
  clear ur hd hG b1
  go_wp2_with fail
  go_loopw [15] (fun z wr => ∃ k : Nat, z = .int .i64 k ∧ k ≤ N ∧ Ur wr G N (part2 (off hs s d) d k) ∧ Below w.heap.size w wr) (fun z _ => N - (intOf z).toNat)
  case atStart => exact ⟨0, rfl, Nat.zero_le _, U1.out.congr (fun i _ => by unfold part2; rw [if_neg (by omega)]), B1.out⟩
  case round =>
    obtain ⟨k, rfl, hk, hur, hbr⟩ := hrel
    have UR : Hid _ := hur
    have BR : Hid (Below w.heap.size w wr) := hbr
    clear hur hbr
    by_cases hlt : k < N
    · have hki : (k : Int) < (N : Int) := by omega
      obtain ⟨ck, fk⟩ := UR.out.cell k hlt
      have hpk : part2 (off hs s d) d k k = d k := by unfold part2; rw [if_neg (by omega)]
      rw [hpk] at ck
      clear hpk
      by_cases hf : d k = 1099511627776
      · have HSM : Hid (off hs s d k = d k) := by unfold Hid off; rw [if_pos hf, hf]
        rw [hf] at ck
        clear hf
        go_wp2_with fail
        go_roundw
        case rel => exact ⟨k + 1, by go_num, by omega, UR.out.congr (fun i _ => part2_same HSM.out i), BR.out⟩
        case measure => simp [intOf]; omega
      · have HOX : Hid (off hs s d k = d k - hs.getD s 0 + hs.getD k 0) := by unfold Hid off; rw [if_neg hf]
        have hdb := ls_high HQ.out HD.out hlt (by have := HD.out.hi k hlt; have hF : far = 1099511627776 := rfl; omega)
        obtain ⟨hd0, hd1⟩ := hdb
        have hk0 := HH.out.lo k hlt
        have hk1 := HH.out.hi k hlt
        have hfb : (d k == 1099511627776) = false := by simp [hf]
        have hfb2 : (d k != 1099511627776) = true := by simp [hf]
        obtain ⟨bu, ou, cu, huq, huc⟩ := (HU.out.below BR.out).some' (by have := HSL.out; omega)
        simp only [Value.slice.injEq] at huq
        obtain ⟨rfl, -, rfl⟩ := huq
        have u0 := huc s (by have := HSL.out; omega)
        have u1 := huc k (by have := HSL.out; omega)
        have hki2 : (k : Int) < (hs.length : Int) := by have := HSL.out; omega
        clear huc
        have BNE : Hid (bu < w.heap.size) := by
          obtain ⟨b2, o2, c2, hq, hcq⟩ := HU.out.some' (by have := HSL.out; omega)
          simp only [Value.slice.injEq, Option.some.injEq, Addr.mk.injEq] at hq
          obtain ⟨⟨rfl, rfl, -⟩, -, rfl⟩ := hq
          exact World.block_lt_of_cell? w ⟨bu, ou + s, none⟩ (hcq s (by have := HSL.out; omega))
        have PUT : Hid _ := UR.out.put k (d k - hs.getD s 0 + hs.getD k 0)
        generalize hs.getD s 0 = ds at *
        generalize hs.getD k 0 = dk at *
        obtain ⟨x, hx⟩ : ∃ x, d k = x := ⟨_, rfl⟩
        rw [hx] at ck hfb hfb2 PUT hd0 hd1 HOX hf
        clear hx
        have GNE : Hid (bu ≠ G) := by have := BNE.out; have := HG.out; have := W0L.out; unfold Hid; omega
        have hw1 : IntKind.i64.wrap (x - ds) = x - ds := by rw [IntKind.wrap_i64]; omega
        have hw2 : IntKind.i64.wrap (x - ds + dk) = x - ds + dk := by rw [IntKind.wrap_i64]; omega
        have KEEP : Hid ((wr.setCell ⟨G, k, none⟩ (.int .i64 (x - ds + dk))).drew.cell? ⟨bu, ou + s, none⟩ = some (.int .i64 ds) ∧ (wr.setCell ⟨G, k, none⟩ (.int .i64 (x - ds + dk))).drew.cell? ⟨bu, ou + k, none⟩ = some (.int .i64 dk)) := ⟨cell_put GNE.out u0, cell_put GNE.out u1⟩
        go_wp2_with fail
        go_region_held3 (fun w' => w'.cell? ⟨bu, ou + s, none⟩ = some (.int .i64 ds) ∧ w'.cell? ⟨bu, ou + k, none⟩ = some (.int .i64 dk)) (first | exact KEEP.out | go_keep) (fail)
        all_goals
          go_wp2_with fail
          go_roundw
          case rel => exact ⟨k + 1, by go_num, by omega, (PUT.out.congr (fun i _ => part2_put HOX.out i)).below (Below.drew (Below.refl _ _)), Below.drew (Below.setCell BR.out (by have := HG.out; have := W0L.out; simp; omega) _)⟩
          case measure => simp [intOf]; omega
    · have hke : k = N := by omega
      subst hke
      go_wp2_with fail
      go_ret
      exact ⟨G, rfl, by have := HG.out; have := W0L.out; omega, UR.out.congr (fun i hi => by unfold part2; rw [if_pos hi]; exact HOF.out i hi), BR.out⟩
end Go.Proofs.Ytlmichnnpameeaa
