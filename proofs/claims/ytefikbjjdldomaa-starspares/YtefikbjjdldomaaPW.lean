/-
  What a search has found is a walk: its cost, its ends. The costs of a net are there.
-/
import Derived.Test.YtefikbjjdldomaaPx
import Derived.Test.YtefikbjjdldomaaPM
import Derived.Test.YtefikbjjdldomaaDN
namespace Go.Proofs.Ytefikbjjdldomaa
open Go.RowKit
open _root_.Go.Proofs.Ytefikbjjdldomaa.Nm Wm Dm Sk

theorem d_ex {N s : Nat} (v : Value) (es : List E) (w : World) (hv : SlE w v es) (hp : Pn N es) (hs : s < N) : ∃ d, IsD N es s d := by
  obtain ⟨e, w', fr, ⟨G, d, -, -, -, hd, -⟩, -⟩ := costs_any N s v es w hv hp hs []
  exact ⟨d, hd⟩
theorem wgh_walk {N a t : Nat} {es : List E} {A B : Int} {D : Nat → Int} {s : S} {o : List Nat} (hp : Pn N es) (hg : nps N es = 0) (ha : a < N) (ht : t < N) (h : Wgh N es a t A B D s o) :
    wcode N es (ints (way s a t)) = (s.c t, 0) ∧ 0 < (way s a t).length ∧ (way s a t).length ≤ 64 ∧ (way s a t).getD 0 0 = a ∧ (way s a t).getD ((way s a t).length - 1) 0 = t := by
  obtain ⟨q, -, -, hd⟩ := h.dn
  obtain ⟨⟨q1, h1⟩, ⟨r1, h2⟩, h3, -, h5, h6⟩ := way_is hd hp ha t ht h.lt
  have hl := way_len hd hp ha ht h.lt
  have hn := hp.n64
  have hnc : nck (N : Int) es = 0 := nck_zero.2 (pn_of hg).1
  have hpos : 0 < (way s a t).length := by rw [h2]; simp
  refine ⟨wcode_some hnc ?_ ?_ ?_ h6, hpos, by omega, by rw [h2]; rfl, by rw [h1]; simp⟩
  · rw [ints_length]; omega
  · rw [ints_length]; omega
  · rw [List.all_eq_true]
    intro x hx
    simp only [ints, List.mem_map] at hx
    obtain ⟨k, hk, rfl⟩ := hx
    have := h3 k hk
    exact plc_yes (by omega) (by omega)
end Go.Proofs.Ytefikbjjdldomaa
