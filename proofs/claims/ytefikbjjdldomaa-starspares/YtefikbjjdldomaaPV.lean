/-
  What the answer's number 0 tells of a search without a weight.
-/
import Derived.Test.YtefikbjjdldomaaPN
import Derived.Test.YtefikbjjdldomaaPW
namespace Go.Proofs.Ytefikbjjdldomaa
open Go.RowKit
open _root_.Go.Proofs.Ytefikbjjdldomaa.Nm Wm Dm Sk

theorem ans_agr {N S T : Nat} {es : List E} {h : List Int} {D : Nat → Int} {key : Int → Int → Int} (w : World) (hp : Pn N es) (hS : S < N) (hT : T < N) (hg : Agr N T es h) (hD : IsD N es S D) (hk : key = fun c g => c + g) :
    (D T = far ∧ ans 0 (res N S T es h key) = (5, 0, [], [])) ∨ ∃ s' o, ans 0 (res N S T es h key) = (0, D T, ints (way s' S T), ints o) ∧ Str N (gf h) T D s' o ∧ Wgh N es S T 1 1 D s' o := by
  obtain ⟨d, hd⟩ := lv_ex (h := gf h) w hp hS
  subst hk
  unfold ans res
  rw [if_neg (by simp), key_one]
  simp only [Int.toNat_natCast]
  have hw := weigh_fin (A := 1) (B := 1) hp hd hD hg hS hT (by omega) (by omega)
  cases hs : sea N es (gf h) (fun c g => 1 * c + 1 * g) T (N + 1) (st0 (gf h) S) [] with
  | none => exact .inl ⟨hw.2 hs, rfl⟩
  | some x =>
    obtain ⟨s', o⟩ := x
    have h1 := star_fin hp hd hD hg hS hT s' o hs
    refine .inr ⟨s', o, ?_, h1, hw.1 s' o hs⟩
    simp only [Option.map_some]
    rw [h1.ct]
theorem ans_str {n s t : Int} {v : Value} {es : List E} {h : List Int} (w : World) (hv : SlE w v es) (hc : (ans (sls n es s t h) (res n s t es h (fun c g => c + g))).1 = 0) :
    ∃ (N S T : Nat) (D : Nat → Int) (s' : Sk.S) (o : List Nat), n = N ∧ s = S ∧ t = T ∧ S < N ∧ T < N ∧ Pn N es ∧ nps N es = 0 ∧ Agr N T es h ∧ IsD N es S D ∧ ans (sls n es s t h) (res n s t es h (fun c g => c + g)) = (0, D T, ints (way s' S T), ints o) ∧ Str N (gf h) T D s' o ∧ Wgh N es S T 1 1 D s' o := by
  have h0 : sls n es s t h = 0 := by
    refine Classical.byContradiction fun hq => ?_
    unfold ans at hc
    rw [if_pos hq] at hc
    exact hq hc
  obtain ⟨N, S, T, rfl, rfl, rfl, hS, hT, hp, hg, hl⟩ := sls_zero h0
  have ha := agr_of hl hg
  obtain ⟨D, hD⟩ := d_ex v es w hv hp hS
  rw [h0] at hc ⊢
  rcases ans_agr w hp hS hT ha hD rfl with ⟨-, h2⟩ | ⟨s', o, h2, h3, h4⟩
  · rw [h2] at hc
    exact absurd hc (by decide)
  · exact ⟨N, S, T, D, s', o, rfl, rfl, rfl, hS, hT, hp, (lk_zero hl).1, ha, hD, h2, h3, h4⟩
end Go.Proofs.Ytefikbjjdldomaa
