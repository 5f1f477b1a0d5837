/-
  Contracts: begin, ring.
-/
import Derived.Test.YtlmichnnpameeaaBA0
import Derived.Test.YtlmichnnpameeaaRV
import Derived.Test.YtlmichnnpameeaaRy
import Derived.Deep.LoopGhost
namespace Go.Proofs.Ytlmichnnpameeaa
open Go.RowKit
open Nm Wm Dm Bm Ry
attribute [local go_sem ↓] Go.wp_at_zero Go.wp_at_succ

set_option maxRecDepth 100000 in
set_option maxHeartbeats 8000000 in
theorem begin_any (N G : Nat) (d : Nat → Int) (w0 w : World) (h1 : 1 ≤ N) (hn : N ≤ 64) (hu : Ur w G N d) (oG : w0.heap.size ≤ G) (hb : Below w0.heap.size w0 w) :
    Calls Try.prog 58 #[.slice (some ⟨G, 0, none⟩) N N] w fun e w' => ∃ B A, e = .returned (.pointer (some ⟨B, 0, none⟩)) ∧ w.heap.size ≤ A ∧ Sb w0 w B G A N d (fun _ => -1) w' := by
  have HU : Hid _ := hu
  have HB : Hid (Below w0.heap.size w0 w) := hb
  have OG : Hid (w0.heap.size ≤ G) := oG
  clear hu hb oG
  go_enter Try.func58, Try.ntmps58
  go_wp2_with fail
  have L1 : Hid _ := cell_new w #[.int .i64 (-1)] 3 0 _ rfl
  have U1 : Hid _ := HU.out.below (balloc (Below.refl _ _) (.cells #[.int .i64 (-1)] 3))
  have B1 : Hid (Below w0.heap.size w0 (w.alloc (.cells #[.int .i64 (-1)] 3))) := balloc HB.out _
  have Z1 : Hid ((w.alloc (.cells #[.int .i64 (-1)] 3)).heap.size = w.heap.size + 1) := by unfold Hid; simp
  have BW1 : Hid (Below w.heap.size w (w.alloc (.cells #[.int .i64 (-1)] 3))) := balloc (Below.refl _ _) _
  generalize w.alloc (.cells #[.int .i64 (-1)] 3) = W1 at *
  refine (repeat_any w.heap.size N (-1) W1 h1 hn L1.out).mono ?_
  rintro e w2 ⟨rfl, ur2, b2⟩
  have U2 : Hid _ := U1.out.below b2
  have A2 : Hid _ := ur2
  have B2 : Hid (Below w0.heap.size w0 w2) := bthen B1.out b2
  have Z2 : Hid (W1.heap.size < w2.heap.size) := ur2.lt
  have BW : Hid (Below w.heap.size w w2) := bthen BW1.out b2
  clear ur2 b2
  go_wp2_with fail
  go_ret
  have hb := balloc (Below.refl w2.heap.size w2) (.cells #[.slice (some ⟨G, 0, none⟩) N N, .slice (some ⟨W1.heap.size, 0, none⟩) N N] 84)
  have q1 := HU.out.lt
  have q2 := HB.out.size
  have q3 := Z1.out
  have q4 := Z2.out
  have q5 := OG.out
  exact ⟨w2.heap.size, W1.heap.size, rfl, by omega, by omega, by omega, by omega, by omega, by omega, by omega, heap_alloc_new _ _, U2.out.below hb, A2.out.below hb, bthen B2.out hb, by have := bthen BW.out hb; exact this.size, fun k h1 _ _ => (bthen BW.out hb).block _ h1⟩

theorem lit_is1 (w : World) (x : Int) (base : Nat) (hb : base ≤ w.heap.size) : Is (w.alloc (.cells #[.int .i64 x] 3)) base (.slice (some ⟨w.heap.size, 0, none⟩) 1 1) [x] := by
  refine ⟨⟨by simp, .inr ⟨w.heap.size, 1, #[.int .i64 x], rfl, hb, heap_alloc_new _ _, by simp, by unfold maxLen; omega, by simp, ?_⟩⟩⟩
  simp

end Go.Proofs.Ytlmichnnpameeaa
