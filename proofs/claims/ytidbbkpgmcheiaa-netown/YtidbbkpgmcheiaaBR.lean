/-
  Contracts: begin, ring.
-/
import Derived.Test.YtidbbkpgmcheiaaBA0
import Derived.Test.YtidbbkpgmcheiaaRV
import Derived.Test.YtidbbkpgmcheiaaRy
import Derived.Deep.LoopGhost
namespace Go.Proofs.Ytidbbkpgmcheiaa
open Go.RowKit
open Nm Wm Dm Bm Ry
attribute [local go_sem ↓] Go.wp_at_zero Go.wp_at_succ

set_option maxRecDepth 100000 in
set_option maxHeartbeats 8000000 in
theorem begin_any (N G : Nat) (d : Nat → Int) (w0 w : World) (h1 : 1 ≤ N) (hn : N ≤ 64) (hu : Ur w G N d) (oG : w0.heap.size ≤ G) (hb : Below w0.heap.size w0 w) :
    Calls Try.prog 52 #[.slice (some ⟨G, 0, none⟩) N N] w fun e w' => ∃ B A, e = .returned (.pointer (some ⟨B, 0, none⟩)) ∧ w.heap.size ≤ A ∧ Sb w0 w B G A N d (fun _ => -1) w' := by
  have HU : Hid _ := hu
  have HB : Hid (Below w0.heap.size w0 w) := hb
  have OG : Hid (w0.heap.size ≤ G) := oG
  clear hu hb oG
  go_enter Try.func52, Try.ntmps52
  go_wp2_with fail
  have L1 : Hid _ := cell_new w #[.int .i64 (-1)] 3 0 _ rfl
  have U1 : Hid _ := HU.out.below (balloc (Below.refl _ _) (.cells #[.int .i64 (-1)] 3))
  have B1 : Hid (Below w0.heap.size w0 (w.alloc (.cells #[.int .i64 (-1)] 3))) := balloc HB.out _
  have Z1 : Hid ((w.alloc (.cells #[.int .i64 (-1)] 3)).heap.size = w.heap.size + 1) := by unfold Hid; simp
  have BW1 : Hid (Below w.heap.size w (w.alloc (.cells #[.int .i64 (-1)] 3))) := balloc (Below.refl _ _) _
  generalize w.alloc (.cells #[.int .i64 (-1)] 3) = W1 at *
  refine (repeat_any w.heap.size N (-1) W1 h1 hn L1.out).mono ?_
  rintro e w2 ⟨rfl, ur2, b2⟩
  have U2 : Hid _ := U1.out.below b2
  have A2 : Hid _ := ur2
  have B2 : Hid (Below w0.heap.size w0 w2) := bthen B1.out b2
  have Z2 : Hid (W1.heap.size < w2.heap.size) := ur2.lt
  have BW : Hid (Below w.heap.size w w2) := bthen BW1.out b2
  clear ur2 b2
  go_wp2_with fail
  go_ret
  have hb := balloc (Below.refl w2.heap.size w2) (.cells #[.slice (some ⟨G, 0, none⟩) N N, .slice (some ⟨W1.heap.size, 0, none⟩) N N] 82)
  have q1 := HU.out.lt
  have q2 := HB.out.size
  have q3 := Z1.out
  have q4 := Z2.out
  have q5 := OG.out
  exact ⟨w2.heap.size, W1.heap.size, rfl, by omega, by omega, by omega, by omega, by omega, by omega, by omega, heap_alloc_new _ _, U2.out.below hb, A2.out.below hb, bthen B2.out hb, by have := bthen BW.out hb; exact this.size, fun k h1 _ _ => (bthen BW.out hb).block _ h1⟩

theorem lit_is1 (w : World) (x : Int) (base : Nat) (hb : base ≤ w.heap.size) : Is (w.alloc (.cells #[.int .i64 x] 3)) base (.slice (some ⟨w.heap.size, 0, none⟩) 1 1) [x] := by
  refine ⟨⟨by simp, .inr ⟨w.heap.size, 1, #[.int .i64 x], rfl, hb, heap_alloc_new _ _, by simp, by unfold maxLen; omega, by simp, ?_⟩⟩⟩
  simp

set_option maxRecDepth 100000 in
set_option maxHeartbeats 8000000 in
theorem ring_any (N B G A m s : Nat) (d a : Nat → Int) (p : Nat → Nat) (w0 F w : World) (hst : Sb w0 F B G A N d a w) (h64 : N ≤ 64)
    (hgo : ∀ k, itr p k s < N ∧ a (itr p k s) = (itr p (k + 1) s : Nat)) (m1 : 1 ≤ m) (mN : m ≤ N) (hback : itr p (N + m) s = itr p N s) (hfirst : ∀ k, 1 ≤ k → k < m → itr p (N + k) s ≠ itr p N s) :
    Calls Try.prog 54 #[.pointer (some ⟨B, 0, none⟩), .int .i64 s] w fun e w' => ∃ g cap, e = .returned (.slice (some ⟨g, 0, none⟩) m cap) ∧ Is w' w0.heap.size (.slice (some ⟨g, 0, none⟩) m cap) (cyc (fun k => itr p (N + k) s) m).reverse ∧ Below w0.heap.size w0 w' := by
  have HS : Hid _ := hst
  have HGO : Hid _ := hgo
  have HBK : Hid _ := hback
  have HFI : Hid _ := hfirst
  clear hst hgo hback hfirst
  obtain ⟨s0, s1⟩ := HS.out.cells
  go_enter Try.func54, Try.ntmps54
  go_wp2_with fail
  go_loopw [14, 5] (fun z u wr => ∃ i : Nat, z = .int .i64 i ∧ i ≤ N ∧ u = .int .i64 (itr p i s) ∧ wr = w) (fun z _ _ => N - (intOf z).toNat)
  case atStart => exact ⟨0, rfl, Nat.zero_le _, rfl, rfl⟩
  case round =>
    obtain ⟨i, rfl, hi, rfl, rfl⟩ := hrel
    by_cases hlt : i < N
    · have hii : (i : Int) < (N : Int) := by omega
      obtain ⟨g1, g2⟩ := HGO.out i
      obtain ⟨c1, f1⟩ := HS.out.ahead.cell (itr p i s) g1
      rw [g2] at c1
      obtain ⟨y, hy⟩ : ∃ y, itr p (i + 1) s = y := ⟨_, rfl⟩
      have HY : Hid _ := hy
      rw [hy] at c1
      clear hy g2
      obtain ⟨x, hx⟩ : ∃ x, itr p i s = x := ⟨_, rfl⟩
      rw [hx] at c1 f1 g1 ⊢
      clear hx
      have hxi : (x : Int) < (N : Int) := by omega
      go_wp2_with fail
      go_roundw
      case rel => exact ⟨i + 1, by go_num, by omega, by rw [HY.out], by first | trivial | rfl⟩
      case measure => simp [intOf]; omega
    · have hie : i = N := by omega
      subst hie
      obtain ⟨g1, g2⟩ := HGO.out i
      obtain ⟨c1, f1⟩ := HS.out.ahead.cell (itr p i s) g1
      rw [g2] at c1
      obtain ⟨f, hf⟩ : ∃ f : Nat → Nat, f = fun k => itr p (i + k) s := ⟨_, rfl⟩
      have HF : Hid _ := hf
      have HFN : Hid (∀ k, f k < i ∧ a (f k) = (f (k + 1) : Nat)) := fun k => by rw [hf]; exact HGO.out (i + k)
      have hx : itr p i s = f 0 := by rw [hf]; rfl
      have hy : itr p (i + 1) s = f 1 := by rw [hf]
      have HBF : Hid (f m = f 0) := by rw [hf]; exact HBK.out
      have HFF : Hid (∀ k, 1 ≤ k → k < m → f k ≠ f 0) := by rw [hf]; exact HFI.out
      rw [hx] at c1 f1 g1 ⊢
      rw [hy] at c1
      clear hf hx hy g2 HBK HFI
      have hxi : (f 0 : Int) < (i : Int) := by omega
      have k1 := kept_alloc (x := .cells #[.int .i64 (f 0)] 3) s1
      have k2 := kept_alloc (x := .cells #[.int .i64 (f 0)] 3) c1
      have I1 : Hid _ := lit_is1 wr (f 0 : Int) wr.heap.size (Nat.le_refl _)
      have B1 : Hid (Below wr.heap.size wr (wr.alloc (.cells #[.int .i64 (f 0)] 3))) := balloc (Below.refl _ _) _
      go_wp2_with fail
      generalize hW1 : wr.alloc (.cells #[.int .i64 (f 0)] 3) = W1 at *
      clear k1 k2 s0 s1 c1 f1 hW1
      obtain ⟨wo, hwo⟩ : ∃ wo, wo = wr := ⟨_, rfl⟩
      subst hwo
      go_loopg [6, 7] m (fun gk u z wr => ∃ k g cap : Nat, k + gk = m ∧ 1 ≤ gk ∧ u = .slice (some ⟨g, 0, none⟩) (k + 1) cap ∧ z = .int .i64 (f (k + 1)) ∧ Is wr wo.heap.size (.slice (some ⟨g, 0, none⟩) (k + 1) cap) (cyc f (k + 1)) ∧ Below wo.heap.size wo wr)
      case atStart => exact ⟨0, wo.heap.size, 1, by omega, m1, rfl, rfl, I1.out, B1.out⟩
      case round =>
        clear I1 B1
        obtain ⟨k, g, cap, hk, hg1, rfl, rfl, his, hb⟩ := hrel
        have HI : Hid _ := his
        have HB : Hid (Below wo.heap.size wo wr) := hb
        have HL : Hid _ := cyc_length f (k + 1)
        clear his hb
        by_cases he : f (k + 1) = f 0
        · have hkm : k + 1 = m := by
            rcases (show k + 1 < m ∨ k + 1 = m by omega) with h | h
            · exact absurd he (HFF.out (k + 1) (by omega) h)
            · exact h
          have heb : ((f (k + 1) : Int) != (f 0 : Int)) = false := by simp [he]
          subst hkm
          clear he
          have HRW : Hid (Rw wr g cap (cyc f (k + 1)) ∧ wo.heap.size ≤ g) := by
            rcases HI.out.rw with ⟨h1, _⟩ | ⟨g', cap', h1, h2, h3⟩
            · cases h1
            · simp only [Value.slice.injEq, Option.some.injEq, Addr.mk.injEq] at h1
              obtain ⟨⟨rfl, -, -⟩, -, rfl⟩ := h1
              exact ⟨h3, h2⟩
          have hr := reverse_any g cap (cyc f (k + 1)) wr HRW.out.1 (by rw [HL.out]; omega)
          rw [HL.out] at hr
          have HR : Hid _ := fun (_ : Unit) => hr
          clear hr
          go_wp2_with fail
          refine (HR.out ()).mono ?_
          rintro e w2 ⟨rfl, r2, gr2⟩
          have R2 : Hid _ := r2
          have B2 : Hid (Below wo.heap.size wo w2) := below_grown HB.out gr2 HRW.out.2 HB.out.size
          clear r2 gr2
          go_wp2_with fail
          go_ret
          have q1 := HS.out.below
          refine ⟨g, cap, rfl, ?_, bthen q1 B2.out⟩
          have := R2.out.is (base := w0.heap.size) (by have := HRW.out.2; have := q1.size; omega)
          rw [List.length_reverse, HL.out] at this
          rw [← HF.out]
          exact this
        · have hkm : k + 1 < m := by
            rcases (show k + 1 < m ∨ k + 1 = m by omega) with h | h
            · exact h
            · rw [h] at he; exact absurd HBF.out he
          have heb : ((f (k + 1) : Int) != (f 0 : Int)) = true := by simp; omega
          obtain ⟨y1, y2⟩ := HFN.out (k + 1)
          obtain ⟨c2, f2⟩ := (HS.out.kept HB.out).ahead.cell (f (k + 1)) y1
          rw [y2] at c2
          have C2 : Hid (∀ w', Below wo.heap.size wo w' → w'.cell? ⟨A, f (k + 1), none⟩ = some (.int .i64 (f (k + 1 + 1)))) := fun w' hb' => by
            rw [((HS.out.kept hb').ahead.cell (f (k + 1)) y1).1, y2]
          have S2 : Hid (∀ w', Below wo.heap.size wo w' → w'.cell? ⟨B, 1, none⟩ = some (.slice (some ⟨A, 0, none⟩) i i)) := fun w' hb' => (HS.out.kept hb').cells.2
          have HNX : Hid _ := cyc_next f (k + 1)
          obtain ⟨x, hx⟩ : ∃ x, f (k + 1) = x := ⟨_, rfl⟩
          rw [hx] at y1 C2 heb HNX ⊢
          have hxi : (x : Int) < (i : Int) := by omega
          have hown := HI.out.own
          rw [HL.out] at hown
          have hwz := HB.out.size
          obtain ⟨i0, hi0, hz0, hz1, hz2⟩ := info3_parts
          have HNW : Hid ((wr.alloc (.cells #[.int .i64 x] 3)).heap[wr.heap.size]? = some (.cells #[.int .i64 x] 3)) := heap_alloc_new wr _
          clear he hx c2 f2 y2
          go_wp2_with (first
            | (at_builtin; refine wpList_append_lies _ rfl _ _ _ rfl wo.heap.size 3 i0 _ 1 8 Try.underlying25 hi0 hz0 hz1 hz2 rfl (by omega) (.slice (some ⟨g, 0, none⟩) (k + 1) cap) (k + 1) ((cyc f (k + 1)).map (fun z => .int .i64 z)) rfl (hown.alloc _) ⟨wr.heap.size, 0, none⟩ 1 1 [.int .i64 x] rfl rfl (World.news_of_block (cs := #[.int .i64 x]) (t := 3) (fr := (0, 0)) HNW.out) (by simp [Value.oneCell']) (by omega) (by unfold maxLen; omega) (by omega) (by simp; omega) (wr.heap.size + 1) (by simp) ?_; intro gg cap' w3 hown3 hgrow hat hlt3; have B3 : Hid (Below wo.heap.size wo w3) := (by exact (balloc HB.out _).grown hgrow (by simp; omega) (fun k hk => (ownBlock_lt hown k hk).1)); have c3 := C2.out w3 B3.out; have s3 := S2.out w3 B3.out; clear hgrow hat)
            | go_in)
          go_roundg (gk - 1)
          case measure => omega
          case rel => exact ⟨k + 1, gg, cap', by omega, by omega, rfl, rfl, by rw [HNX.out]; exact Is.next rfl HL.out.symm hown3, B3.out⟩
end Go.Proofs.Ytidbbkpgmcheiaa
