/-
  Contracts: the least place of a knot; the knots.
-/
import Derived.Test.YtkklgnfimkojlaaFJ
import Derived.Test.YtkklgnfimkojlaaMU
import Derived.Test.YtkklgnfimkojlaaKp
namespace Go.Proofs.Ytkklgnfimkojlaa
open Go.RowKit
open Nm Wm Dm Bm Fm Fl Km
attribute [local go_sem ↓] Go.wp_at_zero Go.wp_at_succ

theorem Tv.other {α : Type} {tr te : TypeId} {enc : α → Value} {w : World} {R N k g o : Nat} {v : Value} {Gs : Nat → Nat} {T : Nat → Nat → α} (h : Tv tr te enc w R N k Gs T) (h1 : R ≠ g) (h2 : ∀ i, i < k → Gs i ≠ g) : Tv tr te enc (w.setCell ⟨g, o, none⟩ v) R N k Gs T := by
  obtain ⟨cur, a1, a2, a3⟩ := h.at_
  exact ⟨⟨cur, (Below.heap_setCell _ _ _ _ h1).trans a1, a2, a3⟩, h.off, fun i hi => (h.row i hi).frame (Below.heap_setCell _ _ _ _ (h2 i hi)), h.inj⟩
set_option maxRecDepth 100000 in
set_option maxHeartbeats 8000000 in
theorem least_any (N R v : Nat) (Gs : Nat → Nat) (T : Nat → Nat → Bool) (w : World) (ht : Tb w R N N Gs T) (hv : v < N) (hn64 : N ≤ 64) :
    Calls Try.prog 32 #[.slice (some ⟨R, 0, none⟩) N N, .int .i64 v] w fun e w' => e = .returned (.int .i64 (kn T v : Nat)) ∧ Below w.heap.size w w' := by
  have HT : Hid _ := ht
  clear ht
  go_enter Try.func32, Try.ntmps32
  go_wp2_with fail
  go_loopw [7] (fun z wr => ∃ u : Nat, z = .int .i64 u ∧ u ≤ v ∧ (∀ x, x < u → bth T x v = false) ∧ Below w.heap.size w wr) (fun z _ => v - (intOf z).toNat)
  case atStart => exact ⟨0, rfl, Nat.zero_le _, fun x hx => absurd hx (by omega), Below.refl _ _⟩
  case round =>
    obtain ⟨u, rfl, hu, hall, hbr⟩ := hrel
    have HA : Hid _ := hall
    have BR : Hid (Below w.heap.size w wr) := hbr
    have HR : Hid _ := HT.out.below hbr
    clear hall hbr
    by_cases hlt : u < v
    · have hui : (u : Int) < (v : Int) := by omega
      have hvi : (v : Int) < (N : Int) := by omega
      have hun : (u : Int) < (N : Int) := by omega
      have h1 := HR.out.head u (by omega)
      have h2 := HR.out.head v hv
      obtain ⟨c1, -⟩ := (HR.out.row u (by omega)).cell v hv
      obtain ⟨c2, -⟩ := (HR.out.row v hv).cell u (by omega)
      cases ha : T u v with
      | false =>
        rw [ha] at c1
        have HB : Hid (bth T u v = false) := by unfold Hid bth; rw [ha]; rfl
        clear ha
        go_wp2_with fail
        go_roundw
        case rel =>
          exact ⟨u + 1, by go_num, by omega, fun x hx => by
            rcases (show x < u ∨ x = u by omega) with h | rfl
            · exact HA.out x h
            · exact HB.out, BR.out⟩
        case measure => simp [intOf]; omega
      | true =>
        rw [ha] at c1
        have HX : Hid _ := ha
        clear ha
        cases hb : T v u with
        | false =>
          rw [hb] at c2
          have HB : Hid (bth T u v = false) := by unfold Hid bth; rw [hb, Bool.and_false]
          clear hb
          go_wp2_with fail
          go_roundw
          case rel =>
            exact ⟨u + 1, by go_num, by omega, fun x hx => by
              rcases (show x < u ∨ x = u by omega) with h | rfl
              · exact HA.out x h
              · exact HB.out, BR.out⟩
          case measure => simp [intOf]; omega
        | true =>
          rw [hb] at c2
          have HY : Hid (kn T v = u) := kn_eq ⟨by omega, fun _ => by unfold bth; rw [HX.out, hb]; rfl, HA.out⟩
          clear hb
          go_wp2_with fail
          go_ret
          exact ⟨by rw [HY.out]; rfl, BR.out⟩
    · obtain rfl : u = v := by omega
      have HY : Hid (kn T u = u) := kn_eq ⟨Nat.le_refl _, fun h => absurd h (Nat.lt_irrefl _), HA.out⟩
      go_wp2_with fail
      go_ret
      exact ⟨by rw [HY.out]; rfl, BR.out⟩
set_option maxRecDepth 100000 in
set_option maxHeartbeats 8000000 in
theorem cof_net (n : Int) (v : Value) (es : List E) (w : World) (hv : SlE w v es) (hlen : es.length ≤ 9223372036854775807) (hc : nck n es ≠ 0) :
    Calls Try.prog 11 #[.agg #[.int .i64 n, v]] w fun e w' => e = .returned (.tuple #[.slice none 0 0, .int .i64 (nck n es)]) ∧ Below w.heap.size w w' := by
  obtain ⟨a0, c0, rfl⟩ := hv.val
  have HV : Hid _ := hv
  have HC : Hid _ := hc
  have hz : (nck n es != 0) = true := by simp [hc]
  clear hv hc
  go_enter Try.func11, Try.ntmps11
  go_wp2_with fail
  have B0 : Hid (Below w.heap.size w (w.alloc (.cells #[.int .i64 n, .slice a0 es.length c0] 24))) := balloc (Below.refl _ _) _
  generalize w.alloc (.cells #[.int .i64 n, .slice a0 es.length c0] 24) = W0 at *
  refine (freach_net n _ es W0 (HV.out.below B0.out) hlen HC.out).mono ?_
  rintro e w1 ⟨rfl, b1⟩
  have B1 : Hid (Below w.heap.size w w1) := bthen B0.out b1
  clear b1 B0
  go_wp2_with fail
  go_ret2
  exact ⟨rfl, B1.out⟩
set_option maxRecDepth 100000 in
set_option maxHeartbeats 8000000 in
theorem cof_yes (N : Nat) (v : Value) (es : List E) (w : World) (hv : SlE w v es) (hb : Rnt N es) :
    Calls Try.prog 11 #[.agg #[.int .i64 N, v]] w fun e w' => ∃ G, e = .returned (.tuple #[.slice (some ⟨G, 0, none⟩) N N, .int .i64 0]) ∧ Ur w' G N (fun x => (kn (fwb (fun _ => true) es N) x : Nat)) ∧ w.heap.size ≤ G ∧ Below w.heap.size w w' := by
  obtain ⟨a0, c0, rfl⟩ := hv.val
  have HV : Hid _ := hv
  have HB : Hid _ := hb
  have hn64 := hb.n64
  clear hv hb
  obtain ⟨K, hK⟩ : ∃ K, (fun x => ((kn (fwb (fun _ => true) es N) x : Nat) : Int)) = K := ⟨_, rfl⟩
  rw [hK]
  have HK : Hid _ := hK
  clear hK
  go_enter Try.func11, Try.ntmps11
  go_wp2_with fail
  have P0 : Hid _ := box2_new w (N : Int) (.slice a0 es.length c0) 24
  have B0 : Hid (Below w.heap.size w (w.alloc (.cells #[.int .i64 N, .slice a0 es.length c0] 24))) := balloc (Below.refl _ _) _
  generalize w.alloc (.cells #[.int .i64 N, .slice a0 es.length c0] 24) = W0 at *
  refine (freach_yes N _ es W0 (HV.out.below B0.out) HB.out).mono ?_
  rintro e w1 ⟨R, Gs, rfl, t1, b1⟩
  have T1 : Hid _ := t1
  have P1 : Hid _ := P0.out.below b1
  have B1 : Hid (Below w.heap.size w w1) := bthen B0.out b1
  clear b1 B0 P0 t1
  obtain ⟨p0, p1⟩ := P1.out
  have hmk := made_ur N hn64 w1
  go_wp2_with fail
  clear p0 p1 hmk P1
  have U2 : Hid (Ur (w1.alloc (.cells (Array.ofFn (n := N) fun _ => .int .i64 0) 3)) w1.heap.size N (fun x => if x < 0 then K x else 0)) := (Ur.mk (d := fun _ => 0) (heap_alloc_new w1 _)).congr (fun x hx => by simp)
  have T2 : Hid _ := T1.out.below (balloc (Below.refl _ _) (.cells (Array.ofFn (n := N) fun _ => .int .i64 0) 3))
  have B2 : Hid (Below w.heap.size w (w1.alloc (.cells (Array.ofFn (n := N) fun _ => .int .i64 0) 3))) := balloc B1.out _
  have HZ : Hid (w.heap.size ≤ w1.heap.size) := B1.out.size
  have NE : Hid (∀ i, i < N → Gs i ≠ w1.heap.size) := fun i hi => by have := (T1.out.row i hi).lt; omega
  have NR : Hid (R ≠ w1.heap.size) := by have := T1.out.lt; unfold Hid; omega
  generalize w1.alloc (.cells (Array.ofFn (n := N) fun _ => .int .i64 0) 3) = W2 at *
  generalize w1.heap.size = G at *
  clear T1 B1
  go_loopw [21] (fun z wr => ∃ k : Nat, z = .int .i64 k ∧ k ≤ N ∧ Tb wr R N N Gs (fwb (fun _ => true) es N) ∧ Ur wr G N (fun x => if x < k then K x else 0) ∧ Below w.heap.size w wr) (fun z _ => N - (intOf z).toNat)
  case atStart => exact ⟨0, rfl, Nat.zero_le _, T2.out, U2.out, B2.out⟩
  case round =>
    obtain ⟨k, rfl, hk, ht, hu, hbr⟩ := hrel
    clear T2 U2 B2
    have TR : Hid _ := ht
    have UR : Hid _ := hu
    have BR : Hid (Below w.heap.size w wr) := hbr
    clear ht hu hbr
    by_cases hlt : k < N
    · have hki : (k : Int) < (N : Int) := by omega
      have hF : Hid ((kn (fwb (fun _ => true) es N) k : Nat) = K k) := by unfold Hid; rw [← HK.out]
      obtain ⟨c1, f1⟩ := UR.out.cell k hlt
      go_wp2_with fail
      refine (least_any N R k Gs _ wr TR.out hlt hn64).mono ?_
      rintro e w5 ⟨rfl, b5⟩
      rw [hF.out]
      have T5 : Hid _ := TR.out.below b5
      have U5 : Hid _ := UR.out.below b5
      have B5 : Hid (Below w.heap.size w w5) := bthen BR.out b5
      clear b5 c1 f1
      obtain ⟨c1, f1⟩ := U5.out.cell k hlt
      go_wp2_with fail
      go_roundw
      case rel =>
        refine ⟨k + 1, by go_num, by omega, T5.out.other NR.out NE.out, (U5.out.put k (K k)).congr (fun x hx => ?_), Below.setCell B5.out HZ.out _⟩
        · unfold upd; dsimp only; by_cases e : x = k
          · subst e; rw [if_pos rfl, if_pos (by omega)]
          · rw [if_neg e]; by_cases h2 : x < k
            · rw [if_pos h2, if_pos (by omega)]
            · rw [if_neg h2, if_neg (by omega)]
      case measure => simp [intOf]; omega
    · obtain rfl : k = N := by omega
      go_wp2_with fail
      go_ret2
      exact ⟨G, rfl, UR.out.congr (fun x hx => by rw [if_pos hx]), HZ.out, BR.out⟩
end Go.Proofs.Ytkklgnfimkojlaa
