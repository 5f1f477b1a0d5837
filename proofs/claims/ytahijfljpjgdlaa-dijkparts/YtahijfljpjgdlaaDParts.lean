/-
  The law fellkeep.DijkParts, walked.
-/
import Derived.Test.YtahijfljpjgdlaaYE
import Derived.Test.YtahijfljpjgdlaaYF
import Derived.Deep.DeepCutAuto
namespace Go.Proofs.Ytahijfljpjgdlaa.DParts
open Go.RowKit
open Nm Wm Dm Cm Ym
attribute [local go_sem ↓] Go.wp_at_zero Go.wp_at_succ

theorem lk_cases {n s : Int} {es : List E} (h : lk n es [s] = 0) : nps n es = 0 ∧ plc n s = true := by
  obtain ⟨h1, h2⟩ := lk_zero h
  refine ⟨h1, ?_⟩
  simpa using h2
theorem lk_cases2 {n s t : Int} {es : List E} (h : lk n es [s, t] = 0) : nps n es = 0 ∧ plc n s = true ∧ plc n t = true := by
  obtain ⟨h1, h2⟩ := lk_zero h
  refine ⟨h1, ?_⟩
  simpa using h2
theorem lk_second {n s t : Int} {es : List E} (h : lk n es [s, t] ≠ 0) (h1 : lk n es [s] = 0) : lk n es [s, t] = 1 := by
  obtain ⟨a, b⟩ := lk_cases h1
  cases ht : plc n t
  · exact lk_out (k := 1) a (by simp) ht
  · refine absurd (lk_ok a (fun k hk => ?_)) h
    rcases (show k = 0 ∨ k = 1 by simp at hk; omega) with rfl | rfl
    · exact b
    · exact ht

set_option maxRecDepth 100000 in
set_option maxHeartbeats 8000000 in
theorem walk_bad (n s t i k : Int) (v : Value) (es : List E) (w : World) (hv : SlE w v es) (hlen : es.length ≤ 9223372036854775807) (hc : lk n es [s, t] ≠ 0) :
    Calls Try.prog 7 #[.agg #[.int .i64 n, v], .int .i64 s, .int .i64 t, .int .i64 i, .int .i64 k] w fun e w' => e = .returned (.bool true) ∧ Below w.heap.size w w' := by
  obtain ⟨a0, c0, rfl⟩ := hv.val
  have HV : Hid _ := hv
  have HC : Hid (lk n es [s, t] ≠ 0) := hc
  have hz : (lk n es [s, t] != 0) = true := by simp [hc]
  clear hv hc
  go_enter Try.func7, Try.ntmps7
  go_wp2_with fail
  have P0 : Hid _ := box2_new w n (.slice a0 es.length c0) 24
  have B0 : Hid (Below w.heap.size w (w.alloc (.cells #[.int .i64 n, .slice a0 es.length c0] 24))) := balloc (Below.refl _ _) _
  generalize w.alloc (.cells #[.int .i64 n, .slice a0 es.length c0] 24) = W0 at *
  refine (two_any W0).mono ?_
  rintro e w1 ⟨X1, rfl, e1, b1⟩
  have E1 : Hid _ := e1
  have P1 : Hid _ := P0.out.below b1
  have B1 : Hid (Below w.heap.size w w1) := bthen B0.out b1
  clear e1 b1 P0 B0
  go_wp2_with fail
  refine (way_two11 _ w1 E1.out).mono ?_
  rintro e w2 ⟨u2, rfl, i2, b2⟩
  obtain ⟨a2, c2, rfl⟩ := i2.val
  have I2 : Hid _ := i2
  have P2 : Hid _ := P1.out.below b2
  have B2 : Hid (Below w.heap.size w w2) := bthen B1.out b2
  clear i2 b2 P1 B1 E1
  go_wp2_with fail
  have b3 : Below w2.heap.size w2 (w2.alloc (.cells #[.slice a2 1 c2, .int .i64 0] 34)) := balloc (Below.refl _ _) _
  have hz3 : (w2.alloc (.cells #[.slice a2 1 c2, .int .i64 0] 34)).heap.size = w2.heap.size + 1 := by simp
  generalize w2.alloc (.cells #[.slice a2 1 c2, .int .i64 0] 34) = W3 at *
  have L3 : Hid _ := lit_nums W3 [1] #[.int .i64 1] 1 rfl rfl
  rw [hz3] at L3
  have b4 : Below w2.heap.size w2 (W3.alloc (.cells #[.int .i64 1] 3)) := balloc b3 _
  generalize W3.alloc (.cells #[.int .i64 1] 3) = W4 at *
  refine (same_yes _ _ 0 [1] W4 (I2.out.below b4) L3.out (by simp)).mono ?_
  rintro e w5 ⟨rfl, b5⟩
  have P5 : Hid _ := (P2.out.below b4).below b5
  have B5 : Hid (Below w.heap.size w w5) := bthen (bthen B2.out b4) b5
  obtain ⟨p0, p1⟩ := P5.out
  clear b3 b4 b5 P2 B2 I2 L3 hz3
  go_wp2_with fail
  clear p0 p1
  refine (way_bad n s t _ es w5 (HV.out.below B5.out) hlen HC.out).mono ?_
  rintro e w6 ⟨rfl, b6⟩
  have B6 : Hid (Below w.heap.size w w6) := bthen B5.out b6
  clear b6 P5 B5
  generalize lk n es [s, t] = k2 at *
  obtain ⟨q0, q1⟩ := (bw_new w6 (.slice none 0 0) (.int .i64 0)).cell
  go_wp2_with fail
  go_ret
  exact ⟨rfl, balloc B6.out _⟩

theorem part_sl {w : World} {g cap m lo n : Nat} {p : List Int} (hm : p.length = m) (h : SlI w (.slice (some ⟨g, 0, none⟩) m cap) p) (h0 : 0 < m) (hc : m ≤ cap) (hn : lo + n ≤ m) : SlI w (.slice (some ⟨g, lo, none⟩) n (cap - lo)) ((p.drop lo).take n) := by
  subst hm
  obtain ⟨g', o', c', hveq, hcl⟩ := h.some' h0
  simp only [Value.slice.injEq, Option.some.injEq, Addr.mk.injEq] at hveq
  obtain ⟨⟨rfl, rfl, -⟩, -, rfl⟩ := hveq
  have hl : ((p.drop lo).take n).length = n := by simp; omega
  refine .row g lo (cap - lo) (by rw [hl]) (fun i hi => ?_) (by rw [hl]; omega)
  rw [hl] at hi
  have := hcl (lo + i) (by omega)
  rw [Nat.zero_add] at this
  rw [this]
  simp [List.getD_eq_getElem?_getD, hi, List.getElem?_drop]

set_option maxRecDepth 100000 in
set_option maxHeartbeats 16000000 in
theorem walk_yes (N a b : Nat) (i k : Int) (v : Value) (es : List E) (w : World) (hv : SlE w v es) (hps : nps N es = 0) (hp : Pn N es) (ha : a < N) (hb : b < N) :
    Calls Try.prog 7 #[.agg #[.int .i64 N, v], .int .i64 a, .int .i64 b, .int .i64 i, .int .i64 k] w fun e w' => e = .returned (.bool true) ∧ Below w.heap.size w w' := by
  obtain ⟨a0, c0, rfl⟩ := hv.val
  have HV : Hid _ := hv
  have HPS : Hid _ := hps
  have HP : Hid _ := hp
  have hlen := hp.len
  have hn64 := hp.n64
  clear hv hps hp
  go_enter Try.func7, Try.ntmps7
  go_wp2_with fail
  have P0 : Hid _ := box2_new w (N : Int) (.slice a0 es.length c0) 24
  have B0 : Hid (Below w.heap.size w (w.alloc (.cells #[.int .i64 N, .slice a0 es.length c0] 24))) := balloc (Below.refl _ _) _
  generalize w.alloc (.cells #[.int .i64 N, .slice a0 es.length c0] 24) = W0 at *
  refine (two_any W0).mono ?_
  rintro e w1 ⟨X1, rfl, e1, b1⟩
  have E1 : Hid _ := e1
  have P1 : Hid _ := P0.out.below b1
  have B1 : Hid (Below w.heap.size w w1) := bthen B0.out b1
  clear e1 b1 P0 B0
  go_wp2_with fail
  refine (way_two11 _ w1 E1.out).mono ?_
  rintro e w2 ⟨u2, rfl, i2, b2⟩
  obtain ⟨a2, c2, rfl⟩ := i2.val
  have I2 : Hid _ := i2
  have P2 : Hid _ := P1.out.below b2
  have B2 : Hid (Below w.heap.size w w2) := bthen B1.out b2
  clear i2 b2 P1 B1 E1
  go_wp2_with fail
  have b3 : Below w2.heap.size w2 (w2.alloc (.cells #[.slice a2 1 c2, .int .i64 0] 34)) := balloc (Below.refl _ _) _
  have hz3 : (w2.alloc (.cells #[.slice a2 1 c2, .int .i64 0] 34)).heap.size = w2.heap.size + 1 := by simp
  generalize w2.alloc (.cells #[.slice a2 1 c2, .int .i64 0] 34) = W3 at *
  have L3 : Hid _ := lit_nums W3 [1] #[.int .i64 1] 1 rfl rfl
  rw [hz3] at L3
  have b4 : Below w2.heap.size w2 (W3.alloc (.cells #[.int .i64 1] 3)) := balloc b3 _
  generalize W3.alloc (.cells #[.int .i64 1] 3) = W4 at *
  refine (same_yes _ _ 0 [1] W4 (I2.out.below b4) L3.out (by simp)).mono ?_
  rintro e w5 ⟨rfl, b5⟩
  have P5 : Hid _ := (P2.out.below b4).below b5
  have B5 : Hid (Below w.heap.size w w5) := bthen (bthen B2.out b4) b5
  obtain ⟨p0, p1⟩ := P5.out
  clear b3 b4 b5 P2 B2 I2 L3 hz3
  go_wp2_with fail
  clear p0 p1
  refine (way_yes N a b _ es w5 (HV.out.below B5.out) HPS.out HP.out ha hb).mono ?_
  rintro e w6 ⟨b6, d, hd, h⟩
  have HD : Hid _ := hd
  have P6 : Hid _ := P5.out.below b6
  have B6 : Hid (Below w.heap.size w w6) := bthen B5.out b6
  clear b6 P5 B5 hd
  rcases h with ⟨hf, rfl⟩ | ⟨hf, g, cap, m, p, rfl, hwp, hpl, hcap, hsl⟩
  · clear hf
    obtain ⟨q0, q1⟩ := (bw_new w6 (.slice none 0 0) (.int .i64 0)).cell
    go_wp2_with fail
    go_ret
    exact ⟨rfl, balloc B6.out _⟩
  · have HWP : Hid _ := hwp
    have HSL : Hid _ := hsl
    have HPL : Hid _ := hpl
    have hmN : m + 1 ≤ 64 := by have := hwp.len; omega
    clear hwp hsl hpl hf
    generalize d b = x at *
    have hm0 : ((m : Int) + 1 == 0) = false := beq_eq_false_iff_ne.2 (by omega)
    obtain ⟨q0, q1⟩ := (bw_new w6 (.slice (some ⟨g, 0, none⟩) (m + 1) cap) (.int .i64 x)).cell
    have HW1 : Hid _ := wi_le i m
    have HW2 : Hid _ := wi_le k m
    go_wp2_with fail
    have P7 : Hid _ := P6.out.below (balloc (Below.refl _ _) (.cells #[.slice (some ⟨g, 0, none⟩) (m + 1) cap, .int .i64 x] 34))
    have S7 : Hid _ := HSL.out.below (balloc (Below.refl _ _) (.cells #[.slice (some ⟨g, 0, none⟩) (m + 1) cap, .int .i64 x] 34))
    have B7 : Hid (Below w.heap.size w (w6.alloc (.cells #[.slice (some ⟨g, 0, none⟩) (m + 1) cap, .int .i64 x] 34))) := balloc B6.out _
    have W7 : Hid _ := bw_new w6 (.slice (some ⟨g, 0, none⟩) (m + 1) cap) (.int .i64 x)
    generalize w6.alloc (.cells #[.slice (some ⟨g, 0, none⟩) (m + 1) cap, .int .i64 x] 34) = W7' at *
    obtain ⟨X, hX⟩ : ∃ X, w6.heap.size = X := ⟨_, rfl⟩
    rw [hX] at W7 q0 q1 ⊢
    clear hX P6 B6 HSL
    go_quiet ((go_at_call 23; exact Calls.quiet_of_same (within_any _ m _ (by omega))))
    have P8 : Hid _ := P7.out.below (bdrewN (Below.refl _ _) nq)
    have S8 : Hid _ := S7.out.below (bdrewN (Below.refl _ _) nq)
    have W8 : Hid _ := W7.out.below (bdrewN (Below.refl _ _) nq)
    have B8 : Hid (Below w.heap.size w (W7'.drewN nq)) := bdrewN B7.out nq
    generalize W7'.drewN nq = w8 at *
    clear q0 q1 P7 S7 W7 B7
    have hj1 := HW1.out
    have hj2 := HW2.out
    generalize wi i m = j1 at *
    generalize wi k m = j2 at *
    clear HW1 HW2
    go_upto_region 8 with fail
    go_cut [3, 4] (fun zi zk wc => wc = w8 ∧ ∃ lo q : Nat, zi = .int .i64 lo ∧ zk = .int .i64 ((lo : Int) + (q : Int)) ∧ lo + q ≤ m)
    case first =>
      rcases (show j1 < j2 ∨ j2 < j1 ∨ j1 = j2 by omega) with h | h | h
      · have hi : (j1 : Int) < (j2 : Int) := by omega
        go_wp2_with fail
        go_meet
        exact ⟨rfl, j1, j2 - j1, rfl, by rw [show (j1 : Int) + ((j2 - j1 : Nat) : Int) = (j2 : Int) by omega], by omega⟩
      · have hi : (j2 : Int) < (j1 : Int) := by omega
        go_wp2_with fail
        go_meet
        exact ⟨rfl, j2, j1 - j2, rfl, by rw [show (j2 : Int) + ((j1 - j2 : Nat) : Int) = (j1 : Int) by omega], by omega⟩
      · subst h
        go_wp2_with fail
        go_meet
        exact ⟨rfl, j1, 0, rfl, by simp, by omega⟩
    case rest =>
      obtain ⟨hwe, lo, q, rfl, rfl, hq⟩ := hcut
      rw [hwe]
      clear hwe wc
      have e1 : (lo : Int) + (q : Int) + 1 ≤ (m : Int) + 1 := by omega
      have e2 : (lo : Int) ≤ (lo : Int) + (q : Int) + 1 := by omega
      have e3 : (lo : Int) + (q : Int) + 1 ≤ (cap : Int) := by omega
      have e4 : ¬ cap = lo := by omega
      obtain ⟨q0, q1⟩ := W8.out.cell
      obtain ⟨p0, p1⟩ := P8.out
      go_wp2_with fail
      clear q0 q1 p0 p1
      rw [show lo + q + 1 - lo = q + 1 by omega]
      obtain ⟨r, hr⟩ : ∃ r, (p.drop lo).take (q + 1) = r := ⟨_, rfl⟩
      have hrl : r.length = q + 1 := by rw [← hr]; have := HPL.out; simp; omega
      have hrg : ∀ j, j < q + 1 → r.getD j 0 = p.getD (lo + j) 0 := fun j hj => by rw [← hr]; simp [List.getD_eq_getElem?_getD, hj, List.getElem?_drop]
      have htl : Tl es (fun x => d x.toNat) r := by rw [← hr]; exact tl_part HWP.out.tl lo (q + 1) (by have := HPL.out; omega)
      have hrng : ∀ i, i < r.length → 0 ≤ r.getD i 0 ∧ r.getD i 0 < N := fun i hi => by rw [hrl] at hi; rw [hrg i hi]; exact HWP.out.rng (lo + i) (by have := HPL.out; omega)
      have hfin : ∀ i, i < r.length → d (r.getD i 0).toNat < far := fun i hi => by rw [hrl] at hi; rw [hrg i hi]; exact HWP.out.fin (lo + i) (by have := HPL.out; omega)
      obtain ⟨c, hwc⟩ : ∃ c, wc es r = some c := ⟨_, tl_wc r (by omega) htl⟩
      obtain ⟨u, hu, huN⟩ : ∃ u : Nat, r.getD 0 0 = (u : Int) ∧ u < N := by
        have := hrng 0 (by omega)
        exact ⟨(r.getD 0 0).toNat, by omega, by omega⟩
      obtain ⟨y, hy, hyN⟩ : ∃ y : Nat, r.getD q 0 = (y : Int) ∧ y < N := by
        have := hrng q (by omega)
        exact ⟨(r.getD q 0).toNat, by omega, by omega⟩
      have hwcd : wcode N es r = (c, 0) := wcode_some (nps_nck HPS.out) (by omega) (by omega) (all_at (fun k hk => plc_yes (hrng k hk).1 (hrng k hk).2)) hwc
      have HLE : Hid (∀ t, IsD N es u t → c = t y ∧ t y < far) := fun t ht => by
        have h9 := tl_least (q := r) HP.out HD.out ht huN (by have := hfin 0 (by omega); rw [hu] at this; exact this) (by omega) hu hrng hfin htl
        rw [hrl, show q + 1 - 1 = q by omega, hy, Int.toNat_natCast, hwc] at h9
        exact ⟨by have := h9.1; simp at this; exact this, h9.2⟩
      have HRS : Hid _ := part_sl HPL.out S8.out (by omega) hcap (show lo + (q + 1) ≤ m + 1 by omega)
      rw [hr] at HRS
      have hcd : w8.cell? ⟨g, lo, none⟩ = some (.int .i64 u) ∧ w8.cell? ⟨g, lo + q, none⟩ = some (.int .i64 y) := by
        obtain ⟨g', o', c', hveq, hcl⟩ := HRS.out.some' (by omega)
        simp only [Value.slice.injEq, Option.some.injEq, Addr.mk.injEq] at hveq
        obtain ⟨⟨rfl, rfl, -⟩, -, rfl⟩ := hveq
        have h1 := hcl 0 (by omega)
        have h2 := hcl q (by omega)
        rw [hu] at h1
        rw [hy] at h2
        exact ⟨h1, h2⟩
      have HCD : Hid _ := hcd
      have HWC : Hid _ := hwcd
      have HRL : Hid _ := hrl
      clear hr hrg htl hrng hfin hwc hu hy hwcd hcd hrl
      have hco := cost_any N (.slice a0 es.length c0) (.slice (some ⟨g, lo, none⟩) (q + 1) (cap - lo)) es r w8 (HV.out.below B8.out) HRS.out (by omega) (by have := HRL.out; omega)
      rw [HWC.out] at hco
      refine hco.mono ?_
      rintro e w9 ⟨rfl, b9⟩
      have P9 : Hid _ := P8.out.below b9
      have B9 : Hid (Below w.heap.size w w9) := bthen B8.out b9
      have k0 := kept b9 HCD.out.1
      have k1 := kept b9 HCD.out.2
      obtain ⟨p0, p1⟩ := P9.out
      clear b9 hco P8 B8 S8 W8 HRS
      have f1 : (0 : Int) < (q : Int) + 1 := by omega
      have f2 : (q : Int) < (q : Int) + 1 := by omega
      have HWA : Hid (∀ w', Below w9.heap.size w9 w' → Calls Try.prog 15 #[.agg #[.int .i64 N, .slice a0 es.length c0], .int .i64 u, .int .i64 y] w' fun e w'' => ∃ g2 m2 cap2, e = .returned (.tuple #[.agg #[.slice (some ⟨g2, 0, none⟩) (m2 + 1) cap2, .int .i64 c], .int .i64 0]) ∧ Below w'.heap.size w' w'') := fun w' hb => by
        refine (way_yes N u y _ es w' (HV.out.below (bthen B9.out hb)) HPS.out HP.out huN hyN).mono ?_
        rintro e w'' ⟨b10, d2, hd2, h2⟩
        obtain ⟨hcy, hyf⟩ := HLE.out d2 hd2
        have hF : far = 1099511627776 := rfl
        rcases h2 with ⟨hf2, _⟩ | ⟨_, g2, cap2, m2, p2, rfl, _⟩
        · exfalso; omega
        · exact ⟨g2, m2, cap2, by rw [hcy], b10⟩
      have f3 : IntKind.i64.wrap (q : Int) = (q : Int) := by rw [IntKind.wrap_i64]; omega
      have K0 : Hid _ := k0
      have K1 : Hid _ := k1
      go_wp2_with fail
      have n1 : ¬ w.heap.size = w9.heap.size := by have := World.block_lt_of_cell? w9 ⟨w.heap.size, 0, none⟩ p0; simp at this; omega
      have n2 : ¬ w9.heap.size = w.heap.size := fun h => n1 h.symm
      have n3 : ¬ g = w9.heap.size := by have := World.block_lt_of_cell? w9 ⟨g, lo, none⟩ k0; simp at this; omega
      have n4 : ¬ w9.heap.size = g := fun h => n3 h.symm
      go_region_held3 (fun w' => w'.cell? ⟨w.heap.size, 0, none⟩ = some (.int .i64 N) ∧ w'.cell? ⟨w.heap.size, 1, none⟩ = some (.slice a0 es.length c0) ∧ w'.cell? ⟨g, lo, none⟩ = some (.int .i64 u) ∧ w'.cell? ⟨g, lo + q, none⟩ = some (.int .i64 y)) (first | go_keep | exact KEEP.out | exact ⟨kept_alloc KEEP.out.1, kept_alloc KEEP.out.2.1, kept_alloc KEEP.out.2.2.1, kept_alloc KEEP.out.2.2.2⟩)
        (first
         | (go_at_call 15; refine (HWA.out _ (by exact Below.drew (Below.refl _ _))).mono ?_; rintro e w10 ⟨g2, m2, cap2, rfl, b10⟩; have BB : Hid (Below w9.heap.size w9 w10) := (by exact bthen (Below.drew (Below.refl _ _)) b10); clear b10; have KEEP : Hid (w10.cell? ⟨w.heap.size, 0, none⟩ = some (.int .i64 N) ∧ w10.cell? ⟨w.heap.size, 1, none⟩ = some (.slice a0 es.length c0) ∧ w10.cell? ⟨g, lo, none⟩ = some (.int .i64 u) ∧ w10.cell? ⟨g, lo + q, none⟩ = some (.int .i64 y)) := ⟨kept BB.out P9.out.g0, kept BB.out P9.out.g1, kept BB.out K0.out, kept BB.out K1.out⟩)
         | (go_at_call 15; refine (HWA.out _ (by exact Below.drew (balloc (Below.refl _ _) _))).mono ?_; rintro e w10 ⟨g2, m2, cap2, rfl, b10⟩; have BB : Hid (Below w9.heap.size w9 w10) := (by exact bthen (Below.drew (balloc (Below.refl _ _) _)) b10); obtain ⟨y0, y1⟩ := ((bw_new w9 (.slice none 0 0) (.int .i64 0)).below (bthen (Below.drew (Below.refl _ _)) b10)).cell; obtain ⟨z0, z1⟩ := ((bw_new w9 (.slice none 0 0) (.int .i64 0)).below (bthen (Below.drew (Below.refl _ _)) b10)).frozen; clear b10; have KEEP : Hid (w10.cell? ⟨w.heap.size, 0, none⟩ = some (.int .i64 N) ∧ w10.cell? ⟨w.heap.size, 1, none⟩ = some (.slice a0 es.length c0) ∧ w10.cell? ⟨g, lo, none⟩ = some (.int .i64 u) ∧ w10.cell? ⟨g, lo + q, none⟩ = some (.int .i64 y)) := ⟨kept BB.out P9.out.g0, kept BB.out P9.out.g1, kept BB.out K0.out, kept BB.out K1.out⟩)
         | fail)
      all_goals
        obtain ⟨x0, x1⟩ := (bw_new w10 (.slice (some ⟨g2, 0, none⟩) (m2 + 1) cap2) (.int .i64 c)).cell
        go_wp2_with fail
        go_ret
        first
        | exact ⟨rfl, balloc (bthen B9.out BB.out) _⟩
        | exact ⟨rfl, Below.setCell (Below.setCell (bthen B9.out BB.out) B9.out.size _) B9.out.size _⟩

theorem walk (n s t i k : Int) (v : Value) (es : List E) (w : World) (hv : SlE w v es) (hlen : es.length ≤ 9223372036854775807) :
    Calls Try.prog 7 #[.agg #[.int .i64 n, v], .int .i64 s, .int .i64 t, .int .i64 i, .int .i64 k] w fun e w' => e = .returned (.bool true) ∧ Below w.heap.size w w' := by
  by_cases hc : lk n es [s, t] = 0
  · obtain ⟨h1, h2, h3⟩ := lk_cases2 hc
    obtain ⟨hg, hp, hn⟩ := pn_of h1
    obtain ⟨a, rfl, ha⟩ := plc_nat h2
    obtain ⟨b, rfl, hb⟩ := plc_nat h3
    rw [← hn] at h1 ha hb ⊢
    exact walk_yes n.toNat a b i k v es w hv h1 hp (by omega) (by omega)
  · exact walk_bad n s t i k v es w hv hlen hc
end Go.Proofs.Ytahijfljpjgdlaa.DParts
