/-
  What is known of a way that is told; the ways of two places.
-/
import Derived.Test.YtahijfljpjgdlaaYC
import Derived.Test.YtahijfljpjgdlaaYD
import Derived.Test.YtahijfljpjgdlaaTW
import Derived.Test.YtahijfljpjgdlaaWB
namespace Go.Proofs.Ytahijfljpjgdlaa
open Go.RowKit
open Nm Wm Dm Cm Ym

/-- A way. -/
structure Wp (N : Nat) (es : List E) (s t : Nat) (d : Nat → Int) (p : List Int) : Prop where
  len : p.length ≤ N
  first : p.getD 0 0 = (s : Int)
  last : p.getD (p.length - 1) 0 = (t : Int)
  cost : wc es p = some (d t)
  nodup : p.Nodup
  tl : Tl es (fun x => d x.toNat) p
  rng : ∀ i, i < p.length → 0 ≤ p.getD i 0 ∧ p.getD i 0 < N
  fin : ∀ i, i < p.length → d (p.getD i 0).toNat < far
theorem bk_path {N : Nat} {es : List E} {s t k : Nat} {d : Nat → Int} (hp : Pn N es) (h : IsD N es s d) (hb : Bk N es s d t k) (hs : anc (ah N es d) t k = s) : Wp N es s t d (bp (ah N es d) t k).reverse := by
  have hl : (bp (ah N es d) t k).reverse.length = k + 1 := by rw [List.length_reverse, bp_length]
  refine ⟨by rw [hl]; exact hb.short hp, ?_, ?_, bk_wc hp h hb hs, bk_nodup hp hb, bk_tl hp h hb, fun i hi => ?_, fun i hi => ?_⟩
  · rw [rev_at (Nat.zero_le _), Nat.sub_zero, hs]
  · rw [hl, rev_at (by omega), show k - (k + 1 - 1) = 0 by omega]; rfl
  · rw [hl] at hi
    rw [rev_at (by omega)]
    have := hb.lt (k - i) (by omega)
    omega
  · rw [hl] at hi
    rw [rev_at (by omega), Int.toNat_natCast]
    exact hb.fin (k - i) (by omega)
theorem Wp.all {N : Nat} {es : List E} {s t : Nat} {d : Nat → Int} {p : List Int} (h : Wp N es s t d p) : p.all (plc N) = true := all_at (fun k hk => plc_yes (h.rng k hk).1 (h.rng k hk).2)
theorem Wp.wcode {N : Nat} {es : List E} {s t : Nat} {d : Nat → Int} {p : List Int} (h : Wp N es s t d p) (hp : Pn N es) (hc : nck N es = 0) (h0 : 0 < p.length) : wcode N es p = (d t, 0) := by
  have := hp.n64
  have := h.len
  exact wcode_some hc (by omega) (by omega) h.all h.cost
theorem Wp.bnd {N : Nat} {es : List E} {s t : Nat} {d : Nat → Int} {p : List Int} (h : Wp N es s t d p) (hp : Pn N es) (h0 : 0 < p.length) : bnd p = 0 := by
  have := hp.n64
  have := h.len
  unfold Go.Proofs.Ytahijfljpjgdlaa.bnd; rw [if_neg (by omega), if_neg (by omega)]
theorem wf_small {x : Int} (h0 : 0 ≤ x) (h1 : x < 64) : (Lit.int .i64 x).wf = true := by
  simp only [Lit.wf, IntKind.min, IntKind.max, IntKind.signed, IntKind.bits, Bool.and_eq_true, decide_eq_true_eq, if_true]; omega
theorem Wp.wf {N : Nat} {es : List E} {s t : Nat} {d : Nat → Int} {p : List Int} (h : Wp N es s t d p) (hp : Pn N es) : ∀ k, k < p.length → (Lit.int .i64 (p.getD k 0)).wf = true := fun k hk => by
  have := h.rng k hk
  have := hp.n64
  exact wf_small (by omega) (by omega)
theorem nps_nck {n : Int} {es : List E} (h : nps n es = 0) : nck n es = 0 := nck_zero.2 (pn_of h).1

/-- Way where all is right, in the words of Wp. -/
theorem way_yes (N s t : Nat) (v : Value) (es : List E) (w : World) (hv : SlE w v es) (hc : nps N es = 0) (hp : Pn N es) (hs : s < N) (ht : t < N) :
    Calls Try.prog 15 #[.agg #[.int .i64 N, v], .int .i64 s, .int .i64 t] w fun e w' => Below w.heap.size w w' ∧ ∃ d, IsD N es s d ∧ ((d t = 1099511627776 ∧ e = .returned (.tuple #[.agg #[.slice none 0 0, .int .i64 0], .int .i64 5])) ∨ (d t < 1099511627776 ∧ ∃ g cap k p, e = .returned (.tuple #[.agg #[.slice (some ⟨g, 0, none⟩) (k + 1) cap, .int .i64 (d t)], .int .i64 0]) ∧ Wp N es s t d p ∧ p.length = k + 1 ∧ k + 1 ≤ cap ∧ SlI w' (.slice (some ⟨g, 0, none⟩) (k + 1) cap) p)) := by
  refine (way_any N s t v es w hv hc hp hs ht).mono ?_
  rintro e w' ⟨⟨d, hd, h⟩, hb⟩
  refine ⟨hb, d, hd, ?_⟩
  rcases h with h | ⟨hf, g, cap, k, he, hbk, han, his⟩
  · exact .inl h
  · have hl : (bp (ah N es d) t k).reverse.length = k + 1 := by rw [List.length_reverse, bp_length]
    refine .inr ⟨hf, g, cap, k, _, he, bk_path hp hd hbk han, hl, ?_, his.sl⟩
    obtain ⟨b, off, cap', hveq, _, hcap⟩ := his.sl.some2 (by omega)
    simp only [Value.slice.injEq] at hveq
    omega

theorem way_two01 (v : Value) (w : World) (hv : SlE w v [(0, 1, 5)]) : Calls Try.prog 15 #[.agg #[.int .i64 2, v], .int .i64 0, .int .i64 1] w fun e w' => ∃ u, e = .returned (.tuple #[.agg #[u, .int .i64 5], .int .i64 0]) ∧ SlI w' u [0, 1] ∧ Below w.heap.size w w' := by
  refine (way_any 2 0 1 v [(0, 1, 5)] w hv nps_two pn_two (by omega) (by omega)).mono ?_
  rintro e w' ⟨⟨d, hd, h⟩, hb⟩
  have h1 := hd.eq pn_two isd_two0 (v := 1) (by omega)
  simp only [Nat.one_ne_zero, if_false] at h1
  rcases h with ⟨h, _⟩ | ⟨hf, g, cap, k, rfl, hbk, han, his⟩
  · omega
  · have hk := hbk.short pn_two
    have hk1 : k = 1 := by
      rcases (show k = 0 ∨ k = 1 by omega) with rfl | rfl
      · cases han
      · rfl
    subst hk1
    have e : (bp (ah 2 [(0, 1, 5)] d) 1 1).reverse = [0, 1] := by
      rw [rev_next, han, bp_zero]; rfl
    rw [e] at his
    exact ⟨_, by rw [h1], his.sl, hb⟩
theorem way_two11 (v : Value) (w : World) (hv : SlE w v [(0, 1, 5)]) : Calls Try.prog 15 #[.agg #[.int .i64 2, v], .int .i64 1, .int .i64 1] w fun e w' => ∃ u, e = .returned (.tuple #[.agg #[u, .int .i64 0], .int .i64 0]) ∧ SlI w' u [1] ∧ Below w.heap.size w w' := by
  refine (way_any 2 1 1 v [(0, 1, 5)] w hv nps_two pn_two (by omega) (by omega)).mono ?_
  rintro e w' ⟨⟨d, hd, h⟩, hb⟩
  have h1 := hd.s0
  rcases h with ⟨h, _⟩ | ⟨hf, g, cap, k, rfl, hbk, han, his⟩
  · omega
  · have hk0 : k = 0 := by
      rcases (show k = 0 ∨ 0 < k by omega) with rfl | h
      · rfl
      · exact absurd rfl (hbk.ne 0 h)
    subst hk0
    rw [bp_zero] at his
    exact ⟨_, by rw [h1], his.sl, hb⟩
end Go.Proofs.Ytahijfljpjgdlaa
