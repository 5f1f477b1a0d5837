/-
  Contract: Way.
-/
import Derived.Test.YtahijfljpjgdlaaYB
import Derived.Test.YtahijfljpjgdlaaDL
namespace Go.Proofs.Ytahijfljpjgdlaa
open Go.RowKit
open Nm Wm Dm Ym
attribute [local go_sem ↓] Go.wp_at_zero Go.wp_at_succ

/-- A box of a way. -/
structure Bw (w : World) (k : Nat) (a b : Value) : Prop where
  at_ : w.heap[k]? = some (.cells #[a, b] 34 (0, 0))
theorem Bw.lt {w : World} {k : Nat} {a b : Value} (h : Bw w k a b) : k < w.heap.size := by
  rcases Nat.lt_or_ge k w.heap.size with hlt | hge
  · exact hlt
  · have := h.at_; rw [Array.getElem?_eq_none hge] at this; cases this
theorem Bw.cell {w : World} {k : Nat} {a b : Value} (h : Bw w k a b) : w.cell? ⟨k, 0, none⟩ = some a ∧ w.cell? ⟨k, 1, none⟩ = some b := by
  have := h.at_; simp [World.cell?, this]
theorem Bw.frozen {w : World} {k : Nat} {a b : Value} (h : Bw w k a b) : w.frozen? ⟨k, 0, none⟩ = false ∧ w.frozen? ⟨k, 1, none⟩ = false := by
  have := h.at_; simp [World.frozen?, this]
theorem Bw.below {w w' : World} {k : Nat} {a b : Value} (h : Bw w k a b) (hb : Below w.heap.size w w') : Bw w' k a b := ⟨(hb.block _ h.lt).trans h.at_⟩
theorem bw_new (w : World) (a b : Value) : Bw (w.alloc (.cells #[a, b] 34)) w.heap.size a b := ⟨heap_alloc_new w _⟩

set_option maxRecDepth 100000 in
set_option maxHeartbeats 4000000 in
theorem way_bad (n s t : Int) (v : Value) (es : List E) (w : World) (hv : SlE w v es) (hlen : es.length ≤ 9223372036854775807) (hc : lk n es [s, t] ≠ 0) :
    Calls Try.prog 15 #[.agg #[.int .i64 n, v], .int .i64 s, .int .i64 t] w fun e w' => e = .returned (.tuple #[.agg #[.slice none 0 0, .int .i64 0], .int .i64 (lk n es [s, t])]) ∧ Below w.heap.size w w' := by
  obtain ⟨a0, c0, rfl⟩ := hv.val
  have HV : Hid _ := hv
  have hz : (lk n es [s, t] != 0) = true := by simp [hc]
  clear hv hc
  go_enter Try.func15, Try.ntmps15
  go_wp2_with fail
  have B0 : Hid (Below w.heap.size w (w.alloc (.cells #[.int .i64 n, .slice a0 es.length c0] 24))) := balloc (Below.refl _ _) _
  have hz0 : (w.alloc (.cells #[.int .i64 n, .slice a0 es.length c0] 24)).heap.size = w.heap.size + 1 := by simp
  generalize w.alloc (.cells #[.int .i64 n, .slice a0 es.length c0] 24) = W0 at *
  have N1 : Hid _ := bw_new W0 (.slice none 0 0) (.int .i64 0)
  rw [hz0] at N1
  have B1 : Hid (Below w.heap.size w (W0.alloc (.cells #[.slice none 0 0, .int .i64 0] 34))) := balloc B0.out _
  have hz1 : (W0.alloc (.cells #[.slice none 0 0, .int .i64 0] 34)).heap.size = w.heap.size + 1 + 1 := by simp; omega
  generalize W0.alloc (.cells #[.slice none 0 0, .int .i64 0] 34) = W1 at *
  have L1 : Hid _ := lit_nums W1 [s, t] #[.int .i64 s, .int .i64 t] 2 rfl rfl
  rw [hz1] at L1
  have N2 : Hid _ := N1.out.below (balloc (Below.refl _ _) (.cells #[.int .i64 s, .int .i64 t] 3))
  have B2 : Hid (Below w.heap.size w (W1.alloc (.cells #[.int .i64 s, .int .i64 t] 3))) := balloc B1.out _
  generalize W1.alloc (.cells #[.int .i64 s, .int .i64 t] 3) = W2 at *
  clear hz0 hz1 B0 B1 N1
  refine (look_any n _ _ es [s, t] W2 (HV.out.below B2.out) L1.out hlen (by simp)).mono ?_
  rintro e w2 ⟨rfl, b2⟩
  have B3 : Hid (Below w.heap.size w w2) := bthen B2.out b2
  obtain ⟨g0, g1⟩ := (N2.out.below b2).cell
  obtain ⟨f0, f1⟩ := (N2.out.below b2).frozen
  clear b2 N2 B2
  go_wp2_with fail
  refine bodyPost_ret (v := .tuple #[.agg #[.slice none 0 0, .int .i64 0], .int .i64 (lk n es [s, t])]) ?_ rfl ?_
  · simp [results, Try.results15, go_sem, *]
  · exact ⟨rfl, Below.setCell (Below.setCell B3.out (by simp) _) (by simp) _⟩

theorem lk_two {N s t : Nat} {es : List E} (hc : nps N es = 0) (hs : s < N) (ht : t < N) : lk N es [(s : Int), (t : Int)] = 0 := lk_ok hc (fun k hk => by
  rcases (show k = 0 ∨ k = 1 by simp at hk; omega) with rfl | rfl
  · exact plc_yes (by simp) (by simpa using hs)
  · exact plc_yes (by simp) (by simpa using ht))

/-- What Way answers where all is right: costs d; none, if it is far; else the way back. -/
structure Wy (N : Nat) (es : List E) (s t : Nat) (w w' : World) (e : Ending) : Prop where
  is : ∃ d, IsD N es s d ∧ ((d t = 1099511627776 ∧ e = .returned (.tuple #[.agg #[.slice none 0 0, .int .i64 0], .int .i64 5])) ∨ (d t < 1099511627776 ∧ ∃ g cap k, e = .returned (.tuple #[.agg #[.slice (some ⟨g, 0, none⟩) (k + 1) cap, .int .i64 (d t)], .int .i64 0]) ∧ Bk N es s d t k ∧ anc (ah N es d) t k = s ∧ Is w' w.heap.size (.slice (some ⟨g, 0, none⟩) (k + 1) cap) (bp (ah N es d) t k).reverse))

set_option maxRecDepth 100000 in
set_option maxHeartbeats 8000000 in
theorem way_any (N s t : Nat) (v : Value) (es : List E) (w : World) (hv : SlE w v es) (hc : nps N es = 0) (hp : Pn N es) (hs : s < N) (ht : t < N) :
    Calls Try.prog 15 #[.agg #[.int .i64 N, v], .int .i64 s, .int .i64 t] w fun e w' => Wy N es s t w w' e ∧ Below w.heap.size w w' := by
  obtain ⟨a0, c0, rfl⟩ := hv.val
  have HV : Hid _ := hv
  have HP : Hid _ := hp
  have hlen := hp.len
  have HK : Hid _ := lk_two hc hs ht
  have htN : (t : Int) < (N : Int) := by omega
  clear hv hc hp
  go_enter Try.func15, Try.ntmps15
  go_wp2_with fail
  have P0 : Hid _ := box2_new w (N : Int) (.slice a0 es.length c0) 24
  have B0 : Hid (Below w.heap.size w (w.alloc (.cells #[.int .i64 N, .slice a0 es.length c0] 24))) := balloc (Below.refl _ _) _
  have hz0 : (w.alloc (.cells #[.int .i64 N, .slice a0 es.length c0] 24)).heap.size = w.heap.size + 1 := by simp
  generalize w.alloc (.cells #[.int .i64 N, .slice a0 es.length c0] 24) = W0 at *
  have N1 : Hid _ := bw_new W0 (.slice none 0 0) (.int .i64 0)
  rw [hz0] at N1
  have P1 : Hid _ := P0.out.below (balloc (Below.refl _ _) (.cells #[.slice none 0 0, .int .i64 0] 34))
  have B1 : Hid (Below w.heap.size w (W0.alloc (.cells #[.slice none 0 0, .int .i64 0] 34))) := balloc B0.out _
  have hz1 : (W0.alloc (.cells #[.slice none 0 0, .int .i64 0] 34)).heap.size = w.heap.size + 1 + 1 := by simp; omega
  generalize W0.alloc (.cells #[.slice none 0 0, .int .i64 0] 34) = W1 at *
  have L1 : Hid _ := lit_nums W1 [(s : Int), (t : Int)] #[.int .i64 s, .int .i64 t] 2 rfl rfl
  rw [hz1] at L1
  have N2 : Hid _ := N1.out.below (balloc (Below.refl _ _) (.cells #[.int .i64 s, .int .i64 t] 3))
  have P2 : Hid _ := P1.out.below (balloc (Below.refl _ _) (.cells #[.int .i64 s, .int .i64 t] 3))
  have B2 : Hid (Below w.heap.size w (W1.alloc (.cells #[.int .i64 s, .int .i64 t] 3))) := balloc B1.out _
  generalize W1.alloc (.cells #[.int .i64 s, .int .i64 t] 3) = W2 at *
  clear hz0 hz1 P0 B0 P1 B1 N1
  refine (look_any N _ _ es [(s : Int), (t : Int)] W2 (HV.out.below B2.out) L1.out (by omega) (by simp)).mono ?_
  rintro e w3 ⟨rfl, b3⟩
  rw [HK.out]
  have B3 : Hid (Below w.heap.size w w3) := bthen B2.out b3
  have P3 : Hid _ := P2.out.below b3
  have N3 : Hid _ := N2.out.below b3
  obtain ⟨p0, p1⟩ := P3.out
  clear b3 P2 B2 N2 L1
  go_wp2_with fail
  refine (costs_any N s _ es w3 (HV.out.below B3.out) HP.out hs).mono ?_
  rintro e w4 ⟨G, d, rfl, hG, u4, d4, b4⟩
  have hG1 : ¬ G = w.heap.size + 1 := by have := N3.out.lt; omega
  have hG2 : ¬ w.heap.size + 1 = G := by omega
  clear hG
  have U4 : Hid _ := u4
  have D4 : Hid _ := d4
  have P4 : Hid _ := P3.out.below b4
  have N4 : Hid _ := N3.out.below b4
  have B4 : Hid (Below w.heap.size w w4) := bthen B3.out b4
  have hd0 := d4.lo t ht
  have hd1 := d4.hi t ht
  have hF : far = 1099511627776 := rfl
  rw [hF] at hd1
  obtain ⟨c1, _⟩ := u4.cell t ht
  clear u4 d4 b4 p0 p1 P3 B3 N3 hF
  by_cases hf : d t < 1099511627776
  · have HDT : Hid _ := hf
    have hfb : (d t == 1099511627776) = false := by simp; omega
    obtain ⟨p0, p1⟩ := P4.out
    obtain ⟨x, hx⟩ : ∃ x, d t = x := ⟨_, rfl⟩
    have HX : Hid _ := hx
    rw [hx] at c1 hfb hd0 hd1
    clear hf hx
    have c2 := c1
    have C1 : Hid _ := c1
    have HBA : Hid _ := fun w' (hb : Below w4.heap.size w4 w') => back_any N s t G (.slice a0 es.length c0) es d w' (HV.out.below (bthen B4.out hb)) HP.out D4.out (U4.out.below hb) ht HDT.out
    go_wp2_with fail
    go_region_held3 (fun w' => w'.cell? ⟨w.heap.size, 0, none⟩ = some (.int .i64 N) ∧ w'.cell? ⟨w.heap.size, 1, none⟩ = some (.slice a0 es.length c0) ∧ w'.cell? ⟨G, t, none⟩ = some (.int .i64 x)) (first | go_keep | exact KEEP.out)
      (first
       | (go_at_call 32; refine (HBA.out _ (by exact Below.drew (Below.refl _ _))).mono ?_; rintro e w5 ⟨g5, cap5, k5, rfl, bk5, an5, i5, b5⟩; have BK5 : Hid _ := bk5; have AN5 : Hid _ := an5; have I5 : Hid (Is w5 w4.heap.size _ _) := i5; have BB : Hid (Below w4.heap.size w4 w5) := (by exact bthen (Below.drew (Below.refl _ _)) b5); clear bk5 an5 i5 b5; have KEEP : Hid (w5.cell? ⟨w.heap.size, 0, none⟩ = some (.int .i64 N) ∧ w5.cell? ⟨w.heap.size, 1, none⟩ = some (.slice a0 es.length c0) ∧ w5.cell? ⟨G, t, none⟩ = some (.int .i64 x)) := ⟨kept BB.out P4.out.g0, kept BB.out P4.out.g1, kept BB.out C1.out⟩; obtain ⟨g0, g1⟩ := (N4.out.below BB.out).cell; obtain ⟨f0, f1⟩ := (N4.out.below BB.out).frozen)
       | fail)
    all_goals
      go_wp2_with fail
      have hl4 := N4.out.lt
      have hs4 := B4.out.size
      refine bodyPost_ret (v := .tuple #[.agg #[.slice (some ⟨g5, 0, none⟩) (k5 + 1) cap5, .int .i64 x], .int .i64 0]) ?_ rfl ?_
      · simp [results, Try.results15, go_sem, *]
      · exact ⟨⟨d, D4.out, .inr ⟨HDT.out, g5, cap5, k5, by rw [HX.out], BK5.out, AN5.out, ((I5.out.other hl4).other hl4).mono hs4⟩⟩, Below.setCell (Below.setCell (bthen B4.out BB.out) (by simp) _) (by simp) _⟩
  · have HE : Hid (d t = 1099511627776) := by unfold Hid; omega
    rw [HE.out] at c1
    clear hf hd0 hd1
    obtain ⟨g0, g1⟩ := N4.out.cell
    obtain ⟨f0, f1⟩ := N4.out.frozen
    go_wp2_with fail
    refine bodyPost_ret (v := .tuple #[.agg #[.slice none 0 0, .int .i64 0], .int .i64 5]) ?_ rfl ?_
    · simp [results, Try.results15, go_sem, *]
    · exact ⟨⟨d, D4.out, .inl ⟨HE.out, rfl⟩⟩, Below.setCell (Below.setCell B4.out (by simp) _) (by simp) _⟩
end Go.Proofs.Ytahijfljpjgdlaa
