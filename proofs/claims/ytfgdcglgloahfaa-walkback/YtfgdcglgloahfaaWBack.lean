/-
  The law fellkeep.WalkBack, walked.
-/
import Derived.Test.YtfgdcglgloahfaaWB
import Derived.Test.YtfgdcglgloahfaaRV
namespace Go.Proofs.Ytfgdcglgloahfaa.WBack
open Go.RowKit
open Nm Wm Cm

theorem one_cost : wcode 1 [] [0] = (0, 0) := by kernel_rfl
theorem two_cost : wcode 1 [] [0, 0] = (0, 5) := by kernel_rfl
theorem one_any (w : World) (u : Value) (hu : SlI w u [0]) :
    Calls Try.prog 9 #[.agg #[.int .i64 1, .slice none 0 0], u] w fun e w' => e = .returned (.tuple #[.int .i64 0, .int .i64 0]) ∧ Below w.heap.size w w' := by
  have := cost_any 1 (.slice none 0 0) u [] [0] w (.no _ _ rfl rfl) hu (by simp) (by simp)
  rw [one_cost] at this
  exact this
theorem two_any (w : World) (u : Value) (hu : SlI w u [0, 0]) :
    Calls Try.prog 9 #[.agg #[.int .i64 1, .slice none 0 0], u] w fun e w' => e = .returned (.tuple #[.int .i64 0, .int .i64 5]) ∧ Below w.heap.size w w' := by
  have := cost_any 1 (.slice none 0 0) u [] [0, 0] w (.no _ _ rfl rfl) hu (by simp) (by simp)
  rw [two_cost] at this
  exact this

/-- Cloned and reversed. -/
theorem rev_any (v : Value) (l : List Int) (base : Nat) (w : World) (h : Is w base v l) (hl : l.length ≤ 35184372087808) (hb : base ≤ w.heap.size) :
    Calls Try.prog 25 #[v] w fun e w' => e = .returned (.tuple #[]) ∧ SlI w' v l.reverse ∧ Below base w w' := by
  rcases h.rw with ⟨rfl, rfl⟩ | ⟨g, cap, rfl, hg, hr⟩
  · refine (reverse_nil none 0 w).mono ?_
    rintro e w' ⟨rfl, rfl⟩
    exact ⟨rfl, .no _ _ rfl rfl, Below.refl _ _⟩
  · refine (reverse_any g cap l w hr hl).mono ?_
    rintro e w' ⟨rfl, h1, h2⟩
    have := (h1.is (base := base) hg).sl
    rw [List.length_reverse] at this
    exact ⟨rfl, this, (Below.refl _ _).grown h2 hb (fun k hk => by cases hk; exact hg)⟩

set_option maxRecDepth 100000 in
set_option maxHeartbeats 16000000 in
theorem walk (n : Int) (v u : Value) (es : List E) (p : List Int) (w : World) (hv : SlE w v es) (hu : SlI w u p) (hlen : es.length ≤ 9223372036854775807) (hl : p.length ≤ 17592186043904) :
    Calls Try.prog 8 #[.agg #[.int .i64 n, v], u] w fun e w' => e = .returned (.bool true) ∧ Below w.heap.size w w' := by
  obtain ⟨a0, c0, rfl⟩ := hv.val
  obtain ⟨a1, c1, rfl⟩ := hu.val
  have HV : Hid _ := hv
  have HU : Hid _ := hu
  clear hv hu
  go_enter Try.func8, Try.ntmps8
  go_wp2_with fail
  have P0 : Hid _ := box2_new w n (.slice a0 es.length c0) 24
  have B0 : Hid (Below w.heap.size w (w.alloc (.cells #[.int .i64 n, .slice a0 es.length c0] 24))) := balloc (Below.refl _ _) _
  have hz0 : (w.alloc (.cells #[.int .i64 n, .slice a0 es.length c0] 24)).heap.size = w.heap.size + 1 := by simp
  generalize w.alloc (.cells #[.int .i64 n, .slice a0 es.length c0] 24) = W0 at *
  have L1 : Hid _ := lit_nums W0 [0] #[.int .i64 0] 1 rfl rfl
  rw [hz0] at L1
  have b1 : Below W0.heap.size W0 (W0.alloc (.cells #[.int .i64 0] 3)) := balloc (Below.refl _ _) _
  generalize W0.alloc (.cells #[.int .i64 0] 3) = W1 at *
  refine (one_any W1 _ L1.out).mono ?_
  rintro e w2 ⟨rfl, b2⟩
  have P2 : Hid _ := (P0.out.below b1).below b2
  have B2 : Hid (Below w.heap.size w w2) := bthen (bthen B0.out b1) b2
  clear b1 b2 hz0 P0 B0 L1
  go_wp2_with fail
  have L3 : Hid _ := lit_nums w2 [0, 0] #[.int .i64 0, .int .i64 0] 2 rfl rfl
  have b3 : Below w2.heap.size w2 (w2.alloc (.cells #[.int .i64 0, .int .i64 0] 3)) := balloc (Below.refl _ _) _
  generalize w2.alloc (.cells #[.int .i64 0, .int .i64 0] 3) = W3 at *
  refine (two_any W3 _ L3.out).mono ?_
  rintro e w4 ⟨rfl, b4⟩
  have P4 : Hid _ := (P2.out.below b3).below b4
  have B4 : Hid (Below w.heap.size w w4) := bthen (bthen B2.out b3) b4
  clear b3 b4 P2 B2 L3
  obtain ⟨p0, p1⟩ := P4.out
  go_wp2_with fail
  clear p0 p1
  by_cases hc : nck n es = 0
  · have hg := nck_zero.1 hc
    have hl6 := hg.len
    have HBK : Hid _ := wcode_back hg p
    have HTY : Hid (∀ w v, SlE w v es → _) := fun w v hv => turn_yes n v es w hv hg
    have hlm : (es.map trn).length ≤ 600 := by simp; omega
    generalize es.map trn = fs at *
    obtain ⟨r, hr⟩ : ∃ r, p.reverse = r := ⟨_, rfl⟩
    have hrl : r.length ≤ 17592186043904 := by rw [← hr]; simp; omega
    rw [hr] at HBK
    have HR : Hid _ := hr
    have HC1 : Hid (∀ w v va, SlE w v es → SlI w va p → _) := fun w v va hv hu => cost_any n v va es p w hv hu hlen (by omega)
    have HC2 : Hid (∀ w v va, SlE w v fs → SlI w va r → _) := fun w v va hv hu => cost_any n v va fs r w hv hu (by omega) (by omega)
    rw [HBK.out] at HC2
    clear hc hg hr HBK
    generalize (wcode n es p).1 = x at *
    generalize (wcode n es p).2 = f at *
    refine (HTY.out w4 _ (HV.out.below B4.out)).mono ?_
    rintro e w5 ⟨ut, rfl, o5, b5⟩
    obtain ⟨at', ct, rfl⟩ := o5.sl.val
    have O5 : Hid _ := o5.sl
    have P5 : Hid _ := P4.out.below b5
    have B5 : Hid (Below w.heap.size w w5) := bthen B4.out b5
    clear o5 b5 P4 B4
    go_wp2_with fail
    have Q6 : Hid _ := box2_new w5 n (.slice at' fs.length ct) 24
    have b6 : Below w5.heap.size w5 (w5.alloc (.cells #[.int .i64 n, .slice at' fs.length ct] 24)) := balloc (Below.refl _ _) _
    have HX : Hid (w.heap.size ≤ w5.heap.size) := B5.out.size
    generalize w5.alloc (.cells #[.int .i64 n, .slice at' fs.length ct] 24) = W6 at *
    obtain ⟨X, hX⟩ : ∃ X, w5.heap.size = X := ⟨_, rfl⟩
    have O6 : Hid _ := O5.out.below b6
    have P6 : Hid _ := P5.out.below b6
    have B6 : Hid (Below w.heap.size w W6) := bthen B5.out b6
    rw [hX] at Q6 HX ⊢
    clear b6 hX O5 P5 B5
    refine (iclone_any _ p W6 (HU.out.below B6.out) hl).mono ?_
    rintro e w7 ⟨uc, rfl, i7, b7⟩
    obtain ⟨ac, cc, rfl⟩ := i7.sl.val
    have I7 : Hid _ := i7
    have B67 : Hid (Below W6.heap.size W6 w7) := b7
    clear i7 b7
    go_wp2_with fail
    refine (rev_any _ p W6.heap.size w7 I7.out (by omega) B67.out.size).mono ?_
    rintro e w8 ⟨rfl, i8, b8⟩
    rw [HR.out] at i8
    have B68 : Below W6.heap.size W6 w8 := B67.out.trans b8
    have I8 : Hid _ := i8
    have O8 : Hid _ := O6.out.below B68
    have P8 : Hid _ := P6.out.below B68
    have Q8 : Hid _ := Q6.out.below B68
    have B8 : Hid (Below w.heap.size w w8) := bthen B6.out B68
    clear i8 b8 B68 B67 I7 O6 P6 Q6 B6
    obtain ⟨p0, p1⟩ := P8.out
    go_wp2_with fail
    clear p0 p1
    refine (HC1.out w8 _ _ (HV.out.below B8.out) (HU.out.below B8.out)).mono ?_
    rintro e w9 ⟨rfl, b9⟩
    have I9 : Hid _ := I8.out.below b9
    have O9 : Hid _ := O8.out.below b9
    have B9 : Hid (Below w.heap.size w w9) := bthen B8.out b9
    obtain ⟨p0, p1⟩ := Q8.out.below b9
    clear b9
    go_wp2_with fail
    clear p0 p1
    refine (HC2.out w9 _ _ O9.out I9.out).mono ?_
    rintro e w10 ⟨rfl, b10⟩
    have B10 : Hid (Below w.heap.size w w10) := bthen B9.out b10
    clear b10
    go_wp2_with fail
    go_ret
    exact ⟨rfl, B10.out⟩
  · have hz : (nck n es != 0) = true := by simp [hc]
    have HC : Hid _ := hc
    clear hc
    refine (turn_bad n _ es w4 (HV.out.below B4.out) hlen HC.out).mono ?_
    rintro e w5 ⟨rfl, b5⟩
    have B5 : Hid (Below w.heap.size w w5) := bthen B4.out b5
    clear b5
    go_wp2_with fail
    go_ret
    exact ⟨rfl, balloc B5.out _⟩
end Go.Proofs.Ytfgdcglgloahfaa.WBack
