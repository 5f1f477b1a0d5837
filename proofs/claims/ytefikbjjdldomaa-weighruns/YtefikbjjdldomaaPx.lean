/-
  The two keys of the program. Contracts: star.Look and star.Run, whatever is handed in. What star.Run answers of two places and an edge. What a search with guesses that agree answers, said of what it costs.
-/
import Derived.Test.YtefikbjjdldomaaKY
import Derived.Test.YtefikbjjdldomaaPG
import Derived.Test.YtefikbjjdldomaaFL
import Derived.Test.YtefikbjjdldomaaTW
import Derived.Test.YtefikbjjdldomaaSl
namespace Go.Proofs.Ytefikbjjdldomaa
open Go.RowKit

theorem pstarkey (w0 : World) : Ky w0 34 #[] (fun c g => c + g) where
  ent := enters_of Try.func34 (by kernel_rfl) rfl
  gives := by
    intro W c g _ h0 h1 h2 h3
    show Calls Try.prog 34 #[.int .i64 c, .int .i64 g] W _
    go_enter Try.func34, Try.ntmps34
    go_wp2_with fail
    go_ret
    exact ⟨rfl, 0, rfl⟩
set_option maxHeartbeats 4000000 in
theorem pweighkey (w0 : World) (V : Nat) (num den : Int) (hn : w0.cell? ⟨V, 0, none⟩ = some (.int .i64 num)) (hd : w0.cell? ⟨V, 1, none⟩ = some (.int .i64 den)) (n0 : 0 ≤ num) (n1 : num ≤ 1000000) (d0 : 0 ≤ den) (d1 : den ≤ 1000000) : Ky w0 46 #[.pointer (some ⟨V, 0, none⟩)] (fun c g => den * c + num * g) where
  ent := enters_of Try.func46 (by kernel_rfl) rfl
  gives := by
    intro W c g hb h0 h1 h2 h3
    show Calls Try.prog 46 #[.int .i64 c, .int .i64 g, .pointer (some ⟨V, 0, none⟩)] W _
    have k0 := kept hb hn
    have k1 := kept hb hd
    have m0 : 0 ≤ den * c := Int.mul_nonneg d0 h0
    have m1 : den * c ≤ 1000000 * 1099511627776 := Int.mul_le_mul d1 h1 h0 (by omega)
    have m2 : 0 ≤ num * g := Int.mul_nonneg n0 h2
    have m3 : num * g ≤ 1000000 * 1099511627776 := Int.mul_le_mul n1 h3 h2 (by omega)
    clear hn hd hb
    go_enter Try.func46, Try.ntmps46
    go_wp2_with fail
    go_ret
    exact ⟨rfl, 0, rfl⟩
end Go.Proofs.Ytefikbjjdldomaa
namespace Go.Proofs.Ytefikbjjdldomaa
open Go.RowKit
open _root_.Go.Proofs.Ytefikbjjdldomaa.Nm Wm Dm Sk

theorem hc_any (n t : Int) (v u : Value) (es : List E) (h : List Int) (w : World) (hv : SlE w v es) (hu : SlI w u h) (hlen : es.length ≤ 9223372036854775807) (hhl : h.length ≤ 9223372036854775807) :
    Calls Try.prog 37 #[.agg #[.int .i64 n, v], .int .i64 t, u] w fun e w' => e = .returned (.int .i64 (gus n es t h)) ∧ Below w.heap.size w w' := by
  by_cases hc : lk n es [t] = 0
  · obtain ⟨N, s, rfl, rfl, hs, hp⟩ := gs_gn hc
    exact hcheck_in N s v u es h w hv hu hhl hp hs hc
  · exact hcheck_look n t v u es h w hv hlen hc
set_option maxRecDepth 100000 in
set_option maxHeartbeats 8000000 in
/-- Look, whatever is handed in. -/
theorem slook_any (n s t : Int) (v u : Value) (es : List E) (h : List Int) (w : World) (hv : SlE w v es) (hu : SlI w u h) (hlen : es.length ≤ 9223372036854775807) (hhl : h.length ≤ 9223372036854775807) :
    Calls Try.prog 13 #[.agg #[.int .i64 n, v], .int .i64 s, .int .i64 t, u] w fun e w' => e = .returned (.int .i64 (sls n es s t h)) ∧ Below w.heap.size w w' := by
  obtain ⟨a0, c0, rfl⟩ := hv.val
  obtain ⟨a1, c1, rfl⟩ := hu.val
  have HV : Hid _ := hv
  have HU : Hid _ := hu
  clear hv hu
  go_enter Try.func13, Try.ntmps13
  go_wp2_with fail
  have hz0 : (w.alloc (.cells #[.int .i64 n, .slice a0 es.length c0] 24)).heap.size = w.heap.size + 1 := by simp
  have B0 : Hid (Below w.heap.size w (w.alloc (.cells #[.int .i64 n, .slice a0 es.length c0] 24))) := balloc (Below.refl _ _) _
  have P0 : Hid _ := box2_new w (n : Int) (.slice a0 es.length c0) 24
  generalize w.alloc (.cells #[.int .i64 n, .slice a0 es.length c0] 24) = W0 at *
  have L1 : Hid _ := lit_nums W0 [s, t] #[.int .i64 s, .int .i64 t] 2 rfl rfl
  rw [hz0] at L1
  have B1 : Hid (Below w.heap.size w (W0.alloc (.cells #[.int .i64 s, .int .i64 t] 3))) := balloc B0.out _
  have P1 : Hid _ := P0.out.below (balloc (Below.refl _ _) (.cells #[.int .i64 s, .int .i64 t] 3))
  generalize W0.alloc (.cells #[.int .i64 s, .int .i64 t] 3) = W1 at *
  clear hz0 P0 B0
  refine (look_any n _ _ es [s, t] W1 (HV.out.below B1.out) L1.out hlen (by simp)).mono ?_
  rintro e w2 ⟨rfl, b2⟩
  have B2 : Hid (Below w.heap.size w w2) := bthen B1.out b2
  obtain ⟨p0, p1⟩ := P1.out.below b2
  clear b2 P1
  by_cases hc : lk n es [s, t] = 0
  · have HE : Hid (sls n es s t h = gus n es t h) := by unfold Hid sls; rw [if_neg (by simp [hc])]
    rw [hc]
    clear hc
    go_wp2_with fail
    refine (hc_any n t _ _ es h w2 (HV.out.below B2.out) (HU.out.below B2.out) hlen hhl).mono ?_
    rintro e w3 ⟨rfl, b3⟩
    go_wp2_with fail
    go_ret
    exact ⟨ret_int HE.out.symm, bthen B2.out b3⟩
  · have HE : Hid (sls n es s t h = lk n es [s, t]) := by unfold Hid sls; rw [if_pos hc]
    have hz : (lk n es [s, t] != 0) = true := by simp [hc]
    clear hc
    go_wp2_with fail
    go_ret
    exact ⟨ret_int HE.out.symm, B2.out⟩

theorem gus_fx {N t : Nat} {es : List E} {h : List Int} (hc : lk N es [(t : Int)] = 0) (hg : gus N es t h = 0) : h.length = N ∧ ∀ v, v < N → 0 ≤ h.getD v 0 ∧ h.getD v 0 ≤ 1099511627776 := by
  have ha := agr_of hc hg
  exact ⟨ha.len, fun v hv => ha.lo v hv⟩
/-- A result's box, of three cells. -/
structure Rb (w : World) (B : Nat) (x y z : Value) : Prop where
  at_ : w.heap[B]? = some (.cells #[x, y, z] 29 (0, 0))
theorem Rb.lt {w : World} {B : Nat} {x y z : Value} (h : Rb w B x y z) : B < w.heap.size := heap_lt' h.at_
theorem Rb.below {w w' : World} {B : Nat} {x y z : Value} (h : Rb w B x y z) (hb : Below w.heap.size w w') : Rb w' B x y z := ⟨(hb.block B h.lt).trans h.at_⟩
theorem Rb.cell {w : World} {B : Nat} {x y z : Value} (h : Rb w B x y z) : w.cell? ⟨B, 0, none⟩ = some x ∧ w.cell? ⟨B, 1, none⟩ = some y ∧ w.cell? ⟨B, 2, none⟩ = some z := by simp [World.cell?, h.at_]
theorem Rb.frozen {w : World} {B : Nat} {x y z : Value} (h : Rb w B x y z) : w.frozen? ⟨B, 0, none⟩ = false ∧ w.frozen? ⟨B, 1, none⟩ = false ∧ w.frozen? ⟨B, 2, none⟩ = false := by simp [World.frozen?, h.at_]
theorem Rb.put {w : World} {B : Nat} {x y z : Value} (h : Rb w B x y z) (x' y' z' : Value) : Rb (((w.setCell ⟨B, 0, none⟩ x').setCell ⟨B, 1, none⟩ y').setCell ⟨B, 2, none⟩ z') B x' y' z' :=
  ⟨heap_setCell_same _ _ _ _ _ _ _ (heap_setCell_same _ _ _ _ _ _ _ (heap_setCell_same _ _ _ _ _ _ _ h.at_))⟩
theorem rb_below {w w1 : World} {B : Nat} (h : Below w.heap.size w w1) (hB : w.heap.size ≤ B) (x y z : Value) : Below w.heap.size w (((w1.setCell ⟨B, 0, none⟩ x).setCell ⟨B, 1, none⟩ y).setCell ⟨B, 2, none⟩ z) := Below.setCell (Below.setCell (Below.setCell h hB _) hB _) hB _
set_option maxRecDepth 100000 in
set_option maxHeartbeats 8000000 in
theorem srun_no (n s t : Int) (v u : Value) (es : List E) (h : List Int) (w : World) (hv : SlE w v es) (hu : SlI w u h) (hlen : es.length ≤ 9223372036854775807) (hhl : h.length ≤ 9223372036854775807) (hc : sls n es s t h ≠ 0) :
    Calls Try.prog 11 #[.agg #[.int .i64 n, v], .int .i64 s, .int .i64 t, u] w fun e w' => e = .returned (.tuple #[.agg #[.slice none 0 0, .int .i64 0, .slice none 0 0], .int .i64 (sls n es s t h)]) ∧ Below w.heap.size w w' := by
  obtain ⟨a0, c0, rfl⟩ := hv.val
  obtain ⟨a1, c1, rfl⟩ := hu.val
  have HV : Hid _ := hv
  have HU : Hid _ := hu
  have hz : (sls n es s t h != 0) = true := by simp [hc]
  clear hv hu hc
  go_enter Try.func11, Try.ntmps11
  go_wp2_with fail
  obtain ⟨RB, hRB⟩ : ∃ RB, w.heap.size + 1 = RB := ⟨_, rfl⟩
  have R1 : Hid (Rb ((w.alloc (.cells #[.int .i64 n, .slice a0 es.length c0] 24)).alloc (.cells #[.slice none 0 0, .int .i64 0, .slice none 0 0] 29)) RB (.slice none 0 0) (.int .i64 0) (.slice none 0 0)) := ⟨by rw [← hRB]; exact new_at _ _ (by simp)⟩
  have RL : Hid (w.heap.size ≤ RB) := by unfold Hid; omega
  have B1 : Hid (Below w.heap.size w ((w.alloc (.cells #[.int .i64 n, .slice a0 es.length c0] 24)).alloc (.cells #[.slice none 0 0, .int .i64 0, .slice none 0 0] 29))) := balloc (balloc (Below.refl _ _) _) _
  rw [hRB]
  clear hRB
  generalize (w.alloc (.cells #[.int .i64 n, .slice a0 es.length c0] 24)).alloc (.cells #[.slice none 0 0, .int .i64 0, .slice none 0 0] 29) = W1 at *
  refine (slook_any n s t _ _ es h W1 (HV.out.below B1.out) (HU.out.below B1.out) hlen hhl).mono ?_
  rintro e w2 ⟨rfl, b2⟩
  have B2 : Hid (Below w.heap.size w w2) := bthen B1.out b2
  have R2 : Hid _ := R1.out.below b2
  obtain ⟨k0, k1, k2⟩ := R2.out.cell
  obtain ⟨z0, z1, z2⟩ := R2.out.frozen
  clear b2
  go_wp2_with fail
  have R3 : Hid _ := R2.out.put (.slice none 0 0) (.int .i64 0) (.slice none 0 0)
  have B3 : Hid _ := rb_below B2.out RL.out (.slice none 0 0) (.int .i64 0) (.slice none 0 0)
  generalize ((w2.setCell ⟨RB, 0, none⟩ (.slice none 0 0)).setCell ⟨RB, 1, none⟩ (.int .i64 0)).setCell ⟨RB, 2, none⟩ (.slice none 0 0) = W3 at *
  clear k0 k1 k2 z0 z1 z2
  obtain ⟨k0, k1, k2⟩ := R3.out.cell
  exact bodyPost_ret (v := .tuple #[.agg #[.slice none 0 0, .int .i64 0, .slice none 0 0], .int .i64 (sls n es s t h)]) (by simp [results, Try.results11, go_sem, k0, k1, k2]) rfl ⟨rfl, B3.out⟩
set_option maxRecDepth 100000 in
set_option maxHeartbeats 8000000 in
theorem srun_yes (n s t : Nat) (v u : Value) (es : List E) (h : List Int) (w : World) (hv : SlE w v es) (hu : SlI w u h) (hlen : es.length ≤ 9223372036854775807) (hhl : h.length ≤ 9223372036854775807) (hs : s < n) (ht : t < n) (hp : Pn n es) (hc : sls n es s t h = 0) (hln : h.length = n) (hrg : ∀ v, v < n → 0 ≤ h.getD v 0 ∧ h.getD v 0 ≤ 1099511627776) :
    Calls Try.prog 11 #[.agg #[.int .i64 n, v], .int .i64 s, .int .i64 t, u] w fun e w' => Bk9 w n es h s t (fun c g => c + g) e w' := by
  obtain ⟨a0, c0, rfl⟩ := hv.val
  obtain ⟨a1, c1, rfl⟩ := hu.val
  have HV : Hid _ := hv
  have HU : Hid _ := hu
  have HC : Hid _ := hc
  have HP : Hid _ := hp
  have HRG : Hid _ := hrg
  have HLN : Hid _ := hln
  clear hv hu hc hrg hp hln
  go_enter Try.func11, Try.ntmps11
  go_wp2_with fail
  obtain ⟨RB, hRB⟩ : ∃ RB, w.heap.size + 1 = RB := ⟨_, rfl⟩
  have G1 : Hid (Box2 ((w.alloc (.cells #[.int .i64 n, .slice a0 es.length c0] 24)).alloc (.cells #[.slice none 0 0, .int .i64 0, .slice none 0 0] 29)) w.heap.size n (.slice a0 es.length c0)) := (box2_new w n (.slice a0 es.length c0) 24).below (balloc (Below.refl _ _) _)
  have R1 : Hid (Rb ((w.alloc (.cells #[.int .i64 n, .slice a0 es.length c0] 24)).alloc (.cells #[.slice none 0 0, .int .i64 0, .slice none 0 0] 29)) RB (.slice none 0 0) (.int .i64 0) (.slice none 0 0)) := ⟨by rw [← hRB]; exact new_at _ _ (by simp)⟩
  have RL : Hid (w.heap.size ≤ RB) := by unfold Hid; omega
  have B1 : Hid (Below w.heap.size w ((w.alloc (.cells #[.int .i64 n, .slice a0 es.length c0] 24)).alloc (.cells #[.slice none 0 0, .int .i64 0, .slice none 0 0] 29))) := balloc (balloc (Below.refl _ _) _) _
  rw [hRB]
  clear hRB
  generalize (w.alloc (.cells #[.int .i64 n, .slice a0 es.length c0] 24)).alloc (.cells #[.slice none 0 0, .int .i64 0, .slice none 0 0] 29) = W1 at *
  refine (slook_any n s t _ _ es h W1 (HV.out.below B1.out) (HU.out.below B1.out) hlen hhl).mono ?_
  rintro e w2 ⟨rfl, b2⟩
  have B2 : Hid (Below w.heap.size w w2) := bthen B1.out b2
  have R2 : Hid _ := R1.out.below b2
  obtain ⟨k0, k1, k2⟩ := R2.out.cell
  obtain ⟨z0, z1, z2⟩ := R2.out.frozen
  obtain ⟨g0, g1⟩ := G1.out.below b2
  rw [HC.out]
  have FX : Hid _ := (⟨HP.out, HV.out, HU.out, HLN.out, HRG.out, pstarkey w, fun x y g hxy => by omega, hs⟩ : Fx w ⟨n, .slice a0 es.length c0, .slice a1 h.length c1, 34, #[]⟩ es h s (fun c g => c + g)).below B2.out
  have BY : Hid _ := fun (_ : Unit) => byKeys_any FX.out t ht
  clear b2
  go_wp2_with fail
  refine (BY.out ()).mono ?_
  rintro e w3 (⟨h1, rfl, b3⟩ | ⟨s', o, vp, vo, h1, rfl, s1, s2, b3⟩)
  · have H1 : Hid _ := h1
    have B3 : Hid (Below w.heap.size w w3) := bthen B2.out b3
    have R3 : Hid _ := R2.out.below b3
    clear k0 k1 k2 z0 z1 z2 g0 g1 h1 b3 BY
    obtain ⟨k0, k1, k2⟩ := R3.out.cell
    obtain ⟨z0, z1, z2⟩ := R3.out.frozen
    go_wp2_with fail
    have R4 : Hid _ := R3.out.put (.slice none 0 0) (.int .i64 0) (.slice none 0 0)
    have B4 : Hid _ := rb_below B3.out RL.out (.slice none 0 0) (.int .i64 0) (.slice none 0 0)
    generalize ((w3.setCell ⟨RB, 0, none⟩ (.slice none 0 0)).setCell ⟨RB, 1, none⟩ (.int .i64 0)).setCell ⟨RB, 2, none⟩ (.slice none 0 0) = W4 at *
    clear k0 k1 k2 z0 z1 z2
    obtain ⟨k0, k1, k2⟩ := R4.out.cell
    exact bodyPost_ret (v := .tuple #[.agg #[.slice none 0 0, .int .i64 0, .slice none 0 0], .int .i64 5]) (by simp [results, Try.results11, go_sem, k0, k1, k2]) rfl (.inl ⟨H1.out, rfl, B4.out⟩)
  · have H1 : Hid _ := h1
    have B3 : Hid (Below w.heap.size w w3) := bthen B2.out b3
    have R3 : Hid _ := R2.out.below b3
    obtain ⟨ap, cp, rfl⟩ := s1.sl.val
    obtain ⟨ao, co, rfl⟩ := s2.sl.val
    have RX : Hid (RB < w2.heap.size) := R2.out.lt
    obtain ⟨lp, hlp⟩ : ∃ lp, (ints (way s' s t)).length = lp := ⟨_, rfl⟩
    obtain ⟨lo, hlo⟩ : ∃ lo, (ints o).length = lo := ⟨_, rfl⟩
    obtain ⟨ct, hct⟩ : ∃ ct, s'.c t = ct := ⟨_, rfl⟩
    rw [hlp] at s1 ⊢
    rw [hlo] at s2 ⊢
    rw [hct]
    have S1 : Hid _ := s1
    have S2 : Hid _ := s2
    have HCT : Hid _ := hct
    clear k0 k1 k2 z0 z1 z2 g0 g1 h1 b3 BY s1 s2 hlp hlo hct
    obtain ⟨k0, k1, k2⟩ := R3.out.cell
    obtain ⟨z0, z1, z2⟩ := R3.out.frozen
    go_wp2_with fail
    have R4 : Hid _ := R3.out.put (.slice ap lp cp) (.int .i64 ct) (.slice ao lo co)
    have B4 : Hid _ := rb_below B3.out RL.out (.slice ap lp cp) (.int .i64 ct) (.slice ao lo co)
    have S3 : Hid (Is (((w3.setCell ⟨RB, 0, none⟩ (.slice ap lp cp)).setCell ⟨RB, 1, none⟩ (.int .i64 ct)).setCell ⟨RB, 2, none⟩ (.slice ao lo co)) w2.heap.size (.slice ap lp cp) (ints (way s' s t))) := ((S1.out.other RX.out).other RX.out).other RX.out
    have S4 : Hid (Is (((w3.setCell ⟨RB, 0, none⟩ (.slice ap lp cp)).setCell ⟨RB, 1, none⟩ (.int .i64 ct)).setCell ⟨RB, 2, none⟩ (.slice ao lo co)) w2.heap.size (.slice ao lo co) (ints o)) := ((S2.out.other RX.out).other RX.out).other RX.out
    generalize ((w3.setCell ⟨RB, 0, none⟩ (.slice ap lp cp)).setCell ⟨RB, 1, none⟩ (.int .i64 ct)).setCell ⟨RB, 2, none⟩ (.slice ao lo co) = W4 at *
    clear k0 k1 k2 z0 z1 z2
    obtain ⟨k0, k1, k2⟩ := R4.out.cell
    refine bodyPost_ret (v := .tuple #[.agg #[.slice ap lp cp, .int .i64 ct, .slice ao lo co], .int .i64 0]) (by simp [results, Try.results11, go_sem, k0, k1, k2]) rfl (.inr ⟨s', o, _, _, H1.out, ?_, S3.out.mono B2.out.size, S4.out.mono B2.out.size, B4.out⟩)
    rw [HCT.out]
end Go.Proofs.Ytefikbjjdldomaa
namespace Go.Proofs.Ytefikbjjdldomaa
open Go.RowKit
open _root_.Go.Proofs.Ytefikbjjdldomaa.Nm Wm Dm Sk

/-- Found: a way, what it costs, and the order. -/
structure Fo (w0 w : World) (e : Ending) (c : Int) (p o : List Nat) : Prop where
  ex : ∃ vp vo, e = .returned (.tuple #[.agg #[vp, .int .i64 c, vo], .int .i64 0]) ∧ Is w w0.heap.size vp (ints p) ∧ Is w w0.heap.size vo (ints o) ∧ Below w0.heap.size w0 w
theorem bk9_of {w w' : World} {n a t : Nat} {es : List E} {hl : List Int} {ky : Int → Int → Int} {e : Ending} {c : Int} {p o : List Nat} (h : Bk9 w n es hl a t ky e w') (hs : (sea n es (gf hl) ky t (n + 1) (st0 (gf hl) a) []).map (fun x => (x.1.c t, way x.1 a t, x.2)) = some (c, p, o)) : Fo w w' e c p o := by
  rcases h with ⟨h1, _⟩ | ⟨s, o', vp, vo, h1, rfl, h2, h3, h4⟩
  · rw [h1] at hs; cases hs
  · rw [h1] at hs
    simp only [Option.map_some, Option.some.injEq, Prod.mk.injEq] at hs
    obtain ⟨rfl, rfl, rfl⟩ := hs
    exact ⟨vp, vo, rfl, h2, h3, h4⟩
theorem rng_two {a b : Int} (ha : 0 ≤ a ∧ a ≤ 1099511627776) (hb : 0 ≤ b ∧ b ≤ 1099511627776) : ∀ v, v < 2 → 0 ≤ [a, b].getD v 0 ∧ [a, b].getD v 0 ≤ 1099511627776 := by
  intro v hv
  obtain rfl | rfl : v = 0 ∨ v = 1 := by omega
  · exact ha
  · exact hb
theorem star_two0 (v u : Value) (w : World) (hv : SlE w v [(0, 1, 5)]) (hu : SlI w u [0, 0]) : Calls Try.prog 11 #[.agg #[.int .i64 2, v], .int .i64 0, .int .i64 1, u] w fun e w' => Fo w w' e 5 [0, 1] [0, 1] :=
  (srun_yes 2 0 1 v u _ _ w hv hu (by simp) (by simp) (by omega) (by omega) pn_two (by kernel_rfl) rfl (rng_two (by decide) (by decide))).mono fun e w' h => bk9_of h (by kernel_rfl)
theorem star_two5 (v u : Value) (w : World) (hv : SlE w v [(0, 1, 5)]) (hu : SlI w u [5, 0]) : Calls Try.prog 11 #[.agg #[.int .i64 2, v], .int .i64 0, .int .i64 1, u] w fun e w' => Fo w w' e 5 [0, 1] [0, 1] :=
  (srun_yes 2 0 1 v u _ _ w hv hu (by simp) (by simp) (by omega) (by omega) pn_two (by kernel_rfl) rfl (rng_two (by decide) (by decide))).mono fun e w' h => bk9_of h (by kernel_rfl)
theorem star_two1 (v u : Value) (w : World) (hv : SlE w v [(0, 1, 5)]) (hu : SlI w u [0, 0]) : Calls Try.prog 11 #[.agg #[.int .i64 2, v], .int .i64 1, .int .i64 1, u] w fun e w' => Fo w w' e 0 [1] [1] :=
  (srun_yes 2 1 1 v u _ _ w hv hu (by simp) (by simp) (by omega) (by omega) pn_two (by kernel_rfl) rfl (rng_two (by decide) (by decide))).mono fun e w' h => bk9_of h (by kernel_rfl)
/-- The key of sums, as the plain texts write it. -/
theorem key_one : (fun c g : Int => c + g) = fun c g => 1 * c + 1 * g := by funext c g; omega
end Go.Proofs.Ytefikbjjdldomaa
namespace Go.Proofs.Ytefikbjjdldomaa
open Go.RowKit
open _root_.Go.Proofs.Ytefikbjjdldomaa.Nm Wm Dm Sk

/-- The answer of a search without a weight. -/
def Sa (w w' : World) (N : Nat) (es : List E) (hl : List Int) (a t : Nat) (D : Nat → Int) (e : Ending) : Prop :=
  (D t = 1099511627776 ∧ e = .returned (.tuple #[.agg #[.slice none 0 0, .int .i64 0, .slice none 0 0], .int .i64 5]) ∧ Below w.heap.size w w') ∨
  ∃ s o vp vo, e = .returned (.tuple #[.agg #[vp, .int .i64 (D t), vo], .int .i64 0]) ∧ Is w' w.heap.size vp (ints (way s a t)) ∧ Is w' w.heap.size vo (ints o) ∧ Below w.heap.size w w' ∧ Str N (gf hl) t D s o ∧ Wgh N es a t 1 1 D s o
theorem sa_of {w w' : World} {N a t : Nat} {es : List E} {hl : List Int} {D : Nat → Int} {e : Ending} (hp : Pn N es) (hg : Agr N t es hl) (ha : a < N) (ht : t < N) (hD : IsD N es a D) (h : Bk9 w N es hl a t (fun c g => c + g) e w') : Sa w w' N es hl a t D e := by
  obtain ⟨d, hd⟩ := lv_ex (h := gf hl) w hp ha
  unfold Bk9 at h
  rw [key_one] at h
  have hw := weigh_fin (A := 1) (B := 1) hp hd hD hg ha ht (by omega) (by omega)
  rcases h with ⟨h1, h2, h3⟩ | ⟨s, o, vp, vo, h1, h2, h3, h4, h5⟩
  · exact .inl ⟨hw.2 h1, h2, h3⟩
  · have hs := star_fin hp hd hD hg ha ht s o h1
    have e1 := hs.ct
    rw [e1] at h2
    exact .inr ⟨s, o, vp, vo, h2, h3, h4, h5, hs, hw.1 s o h1⟩
/-- Without guesses. -/
def zer (n : Nat) : List Int := lst n (fun _ => 0)
theorem zer_at {n v : Nat} (h : v < n) : (zer n).getD v 0 = 0 := lst_at h
theorem agr_zer {n t : Nat} {es : List E} (hp : Pn n es) (ht : t < n) : Agr n t es (zer n) := by
  refine ⟨lst_length _ _, fun v hv => by rw [zer_at hv]; exact ⟨by omega, by omega⟩, zer_at ht, fun e he => ?_⟩
  obtain ⟨h1, h2, h3, _⟩ := hp.nat he
  rw [zer_at h1, zer_at h2]; omega
theorem lk_one {n s : Int} {es : List E} (h : lk n es [s] = 0) : nps n es = 0 ∧ plc n s = true := by
  obtain ⟨h1, h2⟩ := lk_zero h
  exact ⟨h1, List.all_eq_true.1 h2 s (by simp)⟩
theorem lk_pair {n s t : Int} {es : List E} (h0 : nps n es = 0) (h1 : plc n s = true) (h2 : plc n t = true) : lk n es [s, t] = 0 := lk_ok h0 (fun k hk => by
  have hk : k < 2 := by simpa using hk
  obtain rfl | rfl : k = 0 ∨ k = 1 := by omega
  · exact h1
  · exact h2)
theorem lk_sing {n s : Int} {es : List E} (h0 : nps n es = 0) (h1 : plc n s = true) : lk n es [s] = 0 := lk_ok h0 (fun k hk => by
  obtain rfl : k = 0 := by simpa using hk
  exact h1)
theorem sls_agr {n s t : Nat} {es : List E} {h : List Int} (h0 : nps n es = 0) (hs : s < n) (ht : t < n) (ha : Agr n t es h) : sls n es s t h = 0 := by
  unfold sls
  have p1 : plc n (s : Int) = true := plc_yes (by omega) (by omega)
  have p2 : plc n (t : Int) = true := plc_yes (by omega) (by omega)
  rw [if_neg (by simp [lk_pair h0 p1 p2])]
  exact gus_of (lk_sing h0 p2) ha
/-- star.Run where the guesses agree. -/
theorem srun_agr (n s t : Nat) (v u : Value) (es : List E) (h : List Int) (w : World) (D : Nat → Int) (hv : SlE w v es) (hu : SlI w u h) (hs : s < n) (ht : t < n) (hp : Pn n es) (h0 : nps n es = 0) (ha : Agr n t es h) (hD : IsD n es s D) :
    Calls Try.prog 11 #[.agg #[.int .i64 n, v], .int .i64 s, .int .i64 t, u] w fun e w' => Sa w w' n es h s t D e :=
  (srun_yes n s t v u es h w hv hu (by have := hp.len; omega) (by rw [ha.len]; have := hp.n64; omega) hs ht hp (sls_agr h0 hs ht ha) ha.len ha.lo).mono fun e w' hb => sa_of hp ha hs ht hD hb
/-- What is answered, by its parts. -/
def Rs9 (w' : World) (z0 : Nat) (N : Nat) (es : List E) (hl : List Int) (a t : Nat) (D : Nat → Int) (x : Value) (c : Int) (z : Value) (er : Int) : Prop :=
  (D t = 1099511627776 ∧ er = 5 ∧ c = 0 ∧ x = .slice none 0 0 ∧ z = .slice none 0 0) ∨ (er = 0 ∧ c = D t ∧ ∃ s o, Is w' z0 x (ints (way s a t)) ∧ Is w' z0 z (ints o) ∧ Str N (gf hl) t D s o ∧ Wgh N es a t 1 1 D s o)
theorem Rs9.below {w w' : World} {z0 N : Nat} {es : List E} {hl : List Int} {a t : Nat} {D : Nat → Int} {x : Value} {c : Int} {z : Value} {er : Int} (h : Rs9 w z0 N es hl a t D x c z er) (hb : Below w.heap.size w w') : Rs9 w' z0 N es hl a t D x c z er := by
  rcases h with h | ⟨h1, h2, s, o, h3, h4, h5⟩
  · exact .inl h
  · exact .inr ⟨h1, h2, s, o, h3.below hb, h4.below hb, h5⟩
theorem Rs9.put {w : World} {z0 N : Nat} {es : List E} {hl : List Int} {a t : Nat} {D : Nat → Int} {x : Value} {c : Int} {z : Value} {er : Int} (h : Rs9 w z0 N es hl a t D x c z er) {B : Nat} (hB : B < z0) (x1 x2 x3 : Value) : Rs9 (((w.setCell ⟨B, 0, none⟩ x1).setCell ⟨B, 1, none⟩ x2).setCell ⟨B, 2, none⟩ x3) z0 N es hl a t D x c z er := by
  rcases h with h | ⟨h1, h2, s, o, h3, h4, h5⟩
  · exact .inl h
  · exact .inr ⟨h1, h2, s, o, ((h3.other hB).other hB).other hB, ((h4.other hB).other hB).other hB, h5⟩
theorem srun_uni (n s t : Nat) (v u : Value) (es : List E) (h : List Int) (w : World) (D : Nat → Int) (hv : SlE w v es) (hu : SlI w u h) (hs : s < n) (ht : t < n) (hp : Pn n es) (h0 : nps n es = 0) (ha : Agr n t es h) (hD : IsD n es s D) :
    Calls Try.prog 11 #[.agg #[.int .i64 n, v], .int .i64 s, .int .i64 t, u] w fun e w' => ∃ ax lx cx c az lz cz er, e = .returned (.tuple #[.agg #[.slice ax lx cx, .int .i64 c, .slice az lz cz], .int .i64 er]) ∧ Rs9 w' w.heap.size n es h s t D (.slice ax lx cx) c (.slice az lz cz) er ∧ Below w.heap.size w w' :=
  (srun_agr n s t v u es h w D hv hu hs ht hp h0 ha hD).mono fun e w' hb => by
    rcases hb with ⟨h1, rfl, h2⟩ | ⟨s', o, vp, vo, rfl, i1, i2, h2, h3, h4⟩
    · exact ⟨none, 0, 0, 0, none, 0, 0, 5, rfl, .inl ⟨h1, rfl, rfl, rfl, rfl⟩, h2⟩
    · obtain ⟨ax, cx, rfl⟩ := i1.sl.val
      obtain ⟨az, cz, rfl⟩ := i2.sl.val
      exact ⟨ax, _, cx, _, az, _, cz, 0, rfl, .inr ⟨rfl, rfl, s', o, i1, i2, h3, h4⟩, h2⟩
end Go.Proofs.Ytefikbjjdldomaa
