/-
  Two places and an edge, from all to all; tables that are written out; the same tables of truth values; Within.
-/
import Derived.Test.YtlmichnnpameeaaFJ
import Derived.Test.YtlmichnnpameeaaTW
import Derived.Test.YtlmichnnpameeaaRD
namespace Go.Proofs.Ytlmichnnpameeaa
open Go.RowKit
open Nm Wm Dm Bm Fm Fl
attribute [local go_sem ↓] Go.wp_at_zero Go.wp_at_succ

/-- Within m. -/
def wi (k : Int) (m : Nat) : Nat := (IntKind.u64.wrap k).toNat % m
theorem wi_lt (k : Int) {m : Nat} (h : 1 ≤ m) : wi k m < m := Nat.mod_lt _ (by omega)
set_option maxRecDepth 100000 in
set_option maxHeartbeats 4000000 in
theorem within_any (k : Int) (m : Nat) (w : World) (h1 : 1 ≤ m) (hn : m ≤ 64) :
    Calls Try.prog 24 #[.int .i64 k, .int .i64 m] w fun e w' => e = .returned (.int .i64 (wi k m)) ∧ w' = w := by
  have hw : IntKind.u64.wrap (m : Int) = (m : Int) := by rw [IntKind.wrap_u64]; omega
  have hk0 : 0 ≤ IntKind.u64.wrap k := by rw [IntKind.wrap_u64]; omega
  have HX : Hid _ := wi_lt k h1
  have HE : Hid (wi k m = (IntKind.u64.wrap k).toNat % m) := rfl
  generalize wi k m = j at *
  generalize hx : IntKind.u64.wrap k = x at *
  obtain ⟨y, rfl⟩ := Int.eq_ofNat_of_zero_le hk0
  have hmod : (y : Int).tmod (m : Int) = (j : Int) := by rw [HE.out, Int.tmod_eq_emod_of_nonneg (by omega), Int.toNat_natCast]; rfl
  have hjm := HX.out
  have hj : IntKind.i64.wrap (j : Int) = (j : Int) := by rw [IntKind.wrap_i64]; omega
  have hju : IntKind.u64.wrap (j : Int) = (j : Int) := by rw [IntKind.wrap_u64]; omega
  have hm0 : ¬ (m : Int) = 0 := by omega
  clear hk0
  go_enter Try.func24, Try.ntmps24
  go_wp2_with fail
  go_ret
  exact ⟨rfl, rfl⟩

/-- Two rows of two, written out. -/
theorem lit_tv {α : Type} {tr te : TypeId} (enc : α → Value) (w : World) (T : Nat → Nat → α) (c0 c1 : Array Value) (h0 : c0 = Array.ofFn (n := 2) fun i => enc (T 0 i)) (h1 : c1 = Array.ofFn (n := 2) fun i => enc (T 1 i)) :
    Tv tr te enc (((w.alloc (.cells c0 te)).alloc (.cells c1 te)).alloc (.cells #[.slice (some ⟨w.heap.size, 0, none⟩) 2 2, .slice (some ⟨w.heap.size + 1, 0, none⟩) 2 2] tr)) (w.heap.size + 1 + 1) 2 2 (fun i => w.heap.size + i) T := by
  have s1 : (w.alloc (.cells c0 te)).heap.size = w.heap.size + 1 := by simp
  have s2 : ((w.alloc (.cells c0 te)).alloc (.cells c1 te)).heap.size = w.heap.size + 1 + 1 := by simp
  have u0 : Uv te enc (w.alloc (.cells c0 te)) w.heap.size 2 (T 0) := ⟨by rw [← h0]; exact heap_alloc_new _ _⟩
  have u1 : Uv te enc ((w.alloc (.cells c0 te)).alloc (.cells c1 te)) (w.heap.size + 1) 2 (T 1) := ⟨by rw [← h1, ← s1]; exact heap_alloc_new _ _⟩
  refine ⟨⟨_, by rw [← s2]; exact heap_alloc_new _ _, rfl, fun i hi => ?_⟩, fun i hi => by omega, fun i hi => ?_, fun i j hi hj hij => by omega⟩
  · rcases (show i = 0 ∨ i = 1 by omega) with rfl | rfl <;> rfl
  · rcases (show i = 0 ∨ i = 1 by omega) with rfl | rfl
    · exact (u0.below (balloc (Below.refl _ _) _)).below (balloc (Below.refl _ _) _)
    · exact u1.below (balloc (Below.refl _ _) _)

set_option maxRecDepth 100000 in
set_option maxHeartbeats 8000000 in
theorem beqf_yes (R R' N : Nat) (Gs Gs' : Nat → Nat) (T T' : Nat → Nat → Bool) (w : World) (hv : Tb w R N N Gs T) (hu : Tb w R' N N Gs' T') (he : ∀ i j, i < N → j < N → T' i j = T i j) (hl : N ≤ 64) :
    Calls Try.prog 50 #[.slice (some ⟨R, 0, none⟩) N N, .slice (some ⟨R', 0, none⟩) N N, .func (.func 17) #[] #[]] w fun e w' => e = .returned (.bool true) ∧ Below w.heap.size w w' := by
  have HV : Hid _ := hv
  have HU : Hid _ := hu
  have HE : Hid _ := he
  clear hv hu he
  go_enter Try.func50, Try.ntmps50
  go_wp2_with fail
  go_loopw [17] (fun x wr => ∃ k : Nat, x = .int .i64 k ∧ k ≤ N ∧ Below w.heap.size w wr) (fun x _ => N - (intOf x).toNat)
  case atStart => exact ⟨0, rfl, Nat.zero_le _, Below.refl _ _⟩
  case round =>
    obtain ⟨k, rfl, hk, hbr⟩ := hrel
    have BR : Hid (Below w.heap.size w wr) := hbr
    clear hbr
    by_cases hlt : k < N
    · have hki : (k : Int) < (N : Int) := by omega
      have VR : Hid _ := HV.out.below BR.out
      have UR : Hid _ := HU.out.below BR.out
      have h1 := VR.out.head k hlt
      have h2 := UR.out.head k hlt
      go_wp2_with fail
      refine (bequal_yes _ _ N _ _ wr (VR.out.row k hlt) (UR.out.row k hlt) (fun i hi => HE.out k i hlt hi) hl).mono ?_
      rintro e w1 ⟨rfl, b1⟩
      have B1 : Hid (Below w.heap.size w w1) := bthen BR.out b1
      clear b1
      go_wp2_with fail
      go_roundw
      case rel => exact ⟨k + 1, by go_num, by omega, B1.out⟩
      case measure => simp [intOf]; omega
    · obtain rfl : k = N := by omega
      go_wp2_with fail
      go_ret
      exact ⟨rfl, BR.out⟩
set_option maxRecDepth 100000 in
set_option maxHeartbeats 8000000 in
theorem bsameRows_yes (R R' N : Nat) (Gs Gs' : Nat → Nat) (T T' : Nat → Nat → Bool) (w : World) (hv : Tb w R N N Gs T) (hu : Tb w R' N N Gs' T') (he : ∀ i j, i < N → j < N → T' i j = T i j) (hl : N ≤ 64) :
    Calls Try.prog 27 #[.slice (some ⟨R, 0, none⟩) N N, .slice (some ⟨R', 0, none⟩) N N] w fun e w' => e = .returned (.bool true) ∧ Below w.heap.size w w' := by
  have HE : Hid _ := fun (_ : Unit) => beqf_yes R R' N Gs Gs' T T' w hv hu he hl
  clear hv hu he
  go_enter Try.func27, Try.ntmps27
  go_wp2_with fail
  refine (HE.out ()).mono ?_
  rintro e w1 ⟨rfl, b1⟩
  have B1 : Hid _ := b1
  clear b1
  go_wp2_with fail
  go_ret
  exact ⟨rfl, B1.out⟩

/-- What is asked of two places and an edge. -/
def two_i (a b c d : Int) : Nat → Nat → Int := fun i j => if i = 0 then (if j = 0 then a else b) else (if j = 0 then c else d)
def two_b (a b c d : Bool) : Nat → Nat → Bool := fun i j => if i = 0 then (if j = 0 then a else b) else (if j = 0 then c else d)
theorem two_good : (rns [(0, 1, 5)] (fun _ => 0) 2).s = -1 := by decide
theorem two_all : tbl 2 (fun s => spr [(0, 1, 5)] (Dm.start s) (2 - 1)) = tbl 2 (two_i 0 5 1099511627776 0) := by decide
theorem two_wide : ∀ i j, i < 2 → j < 2 → two_i 1099511627776 5 (-1099511627776) 1099511627776 i j = fww [(0, 1, 5)] 2 i j := by
  intro i j hi hj
  rcases (show i = 0 ∨ i = 1 by omega) with rfl | rfl <;> rcases (show j = 0 ∨ j = 1 by omega) with rfl | rfl <;> decide
theorem two_reach : ∀ i j, i < 2 → j < 2 → two_b true true false true i j = fwb (fun _ => true) [(0, 1, 5)] 2 i j := by
  intro i j hi hj
  rcases (show i = 0 ∨ i = 1 by omega) with rfl | rfl <;> rcases (show j = 0 ∨ j = 1 by omega) with rfl | rfl <;> decide
theorem lit_two (w : World) (a b c d : Int) : SlT (((w.alloc (.cells #[.int .i64 a, .int .i64 b] 3)).alloc (.cells #[.int .i64 c, .int .i64 d] 3)).alloc (.cells #[.slice (some ⟨w.heap.size, 0, none⟩) 2 2, .slice (some ⟨w.heap.size + 1, 0, none⟩) 2 2] 41)) (.slice (some ⟨w.heap.size + 1 + 1, 0, none⟩) 2 2) (tbl 2 (two_i a b c d)) :=
  Tv.slt (lit_tv enci w (two_i a b c d) _ _ (by simp [Array.ofFn_succ, two_i, enci]) (by simp [Array.ofFn_succ, two_i, enci]))
theorem lit_twob (w : World) (a b c d : Bool) : Tb (((w.alloc (.cells #[.bool a, .bool b] 4)).alloc (.cells #[.bool c, .bool d] 4)).alloc (.cells #[.slice (some ⟨w.heap.size, 0, none⟩) 2 2, .slice (some ⟨w.heap.size + 1, 0, none⟩) 2 2] 36)) (w.heap.size + 1 + 1) 2 2 (fun i => w.heap.size + i) (two_b a b c d) :=
  lit_tv encb w (two_b a b c d) _ _ (by simp [Array.ofFn_succ, two_b, encb]) (by simp [Array.ofFn_succ, two_b, encb])
end Go.Proofs.Ytlmichnnpameeaa
