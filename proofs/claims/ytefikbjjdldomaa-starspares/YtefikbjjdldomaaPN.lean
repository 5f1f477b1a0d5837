/-
  What star.Run and weigh.Run answer, whatever is handed in, as one function of the input.
-/
import Derived.Test.YtefikbjjdldomaaPI
namespace Go.Proofs.Ytefikbjjdldomaa
open Go.RowKit
open _root_.Go.Proofs.Ytefikbjjdldomaa.Nm Wm Dm Sk

/-- What the search finds. -/
def res (n s t : Int) (es : List E) (h : List Int) (ky : Int → Int → Int) : Option (Int × List Nat × List Nat) :=
  (sea n.toNat es (gf h) ky t.toNat (n.toNat + 1) (st0 (gf h) s.toNat) []).map fun x => (x.1.c t.toNat, way x.1 s.toNat t.toNat, x.2)
/-- What is answered: an error's number, a cost, a path, an order. -/
def ans (code : Int) (r : Option (Int × List Nat × List Nat)) : Int × Int × List Int × List Int :=
  if code ≠ 0 then (code, 0, [], []) else match r with
  | none => (5, 0, [], [])
  | some x => (0, x.1, ints x.2.1, ints x.2.2)
structure Av (w0 w' : World) (A : Int × Int × List Int × List Int) (e : Ending) : Prop where
  ex : ∃ x z, e = .returned (.tuple #[.agg #[x, .int .i64 A.2.1, z], .int .i64 A.1]) ∧ Is w' w0.heap.size x A.2.2.1 ∧ Is w' w0.heap.size z A.2.2.2 ∧ Below w0.heap.size w0 w'
theorem Is.short {w : World} {b : Nat} {v : Value} {l : List Int} (h : Is w b v l) : l.length ≤ 9223372036854775807 := by
  rcases h.own.2 with ⟨_, h0⟩ | ⟨g, cap, cur, _, _, _, h2, h3, _⟩
  · omega
  · unfold maxLen at h3; omega
theorem av_no {w w' : World} {code : Int} {r : Option (Int × List Nat × List Nat)} {e : Ending} (hc : code ≠ 0) (he : e = .returned (.tuple #[.agg #[.slice none 0 0, .int .i64 0, .slice none 0 0], .int .i64 code])) (hb : Below w.heap.size w w') : Av w w' (ans code r) e := by
  unfold ans
  rw [if_pos hc]
  exact ⟨_, _, he, Is.nil _ _, Is.nil _ _, hb⟩
theorem av_bk {w w' : World} {n a t : Nat} {es : List E} {h : List Int} {ky : Int → Int → Int} {e : Ending} {code : Int} (hc : code = 0) (hb : Bk9 w n es h a t ky e w') : Av w w' (ans code (res n a t es h ky)) e := by
  subst hc
  unfold ans res
  rw [if_neg (by simp)]
  simp only [Int.toNat_natCast]
  rcases hb with ⟨h1, h2, h3⟩ | ⟨s, o, vp, vo, h1, h2, h3, h4, h5⟩
  · rw [h1]
    exact ⟨_, _, h2, Is.nil _ _, Is.nil _ _, h3⟩
  · rw [h1]
    exact ⟨_, _, h2, h3, h4, h5⟩
theorem srun_av (n s t : Int) (v u : Value) (es : List E) (h : List Int) (w : World) (hv : SlE w v es) (hu : SlI w u h) (hlen : es.length ≤ 9223372036854775807) (hhl : h.length ≤ 9223372036854775807) :
    Calls Try.prog 11 #[.agg #[.int .i64 n, v], .int .i64 s, .int .i64 t, u] w fun e w' => Av w w' (ans (sls n es s t h) (res n s t es h (fun c g => c + g))) e := by
  by_cases hc : sls n es s t h = 0
  · obtain ⟨N, S, T, rfl, rfl, rfl, hS, hT, hp, hg, hl⟩ := sls_zero hc
    obtain ⟨h1, h2⟩ := gus_fx hl hg
    exact (srun_yes N S T v u es h w hv hu hlen hhl hS hT hp hc h1 h2).mono fun e w' hb => av_bk hc hb
  · exact (srun_no n s t v u es h w hv hu hlen hhl hc).mono fun e w' hb => av_no hc hb.1 hb.2
/-- The number of the error of weigh.Run's input. -/
def wco (n s t num den : Int) (es : List E) (h : List Int) : Int := if sls n es s t h ≠ 0 then sls n es s t h else wtk num den
theorem wrun_av (n s t num den : Int) (v u : Value) (es : List E) (h : List Int) (w : World) (hv : SlE w v es) (hu : SlI w u h) (hlen : es.length ≤ 9223372036854775807) (hhl : h.length ≤ 9223372036854775807) :
    Calls Try.prog 19 #[.agg #[.int .i64 n, v], .int .i64 s, .int .i64 t, u, .agg #[.int .i64 num, .int .i64 den]] w fun e w' => Av w w' (ans (wco n s t num den es h) (res n s t es h (fun c g => den * c + num * g))) e := by
  unfold wco
  by_cases hc : sls n es s t h = 0
  · rw [if_neg (by simp [hc])]
    by_cases hw : wtk num den = 0
    · obtain ⟨N, S, T, rfl, rfl, rfl, hS, hT, hp, hg, hl⟩ := sls_zero hc
      obtain ⟨h1, h2⟩ := gus_fx hl hg
      exact (wrun_yes N S T num den v u es h w hv hu hlen hhl hS hT hp hc hw h1 h2).mono fun e w' hb => av_bk hw hb
    · exact (wrun_weight n s t num den v u es h w hv hu hlen hhl hc hw).mono fun e w' hb => av_no hw hb.1 hb.2
  · rw [if_pos hc]
    exact (wrun_look n s t num den v u es h w hv hu hlen hhl hc).mono fun e w' hb => av_no hc hb.1 hb.2
/-- With the weight 1 it is the search without a weight. -/
theorem ans_one (n s t : Int) (es : List E) (h : List Int) : ans (wco n s t 1 1 es h) (res n s t es h (fun c g => 1 * c + 1 * g)) = ans (sls n es s t h) (res n s t es h (fun c g => c + g)) := by
  have e1 : (fun c g : Int => 1 * c + 1 * g) = fun c g => c + g := by funext c g; omega
  have e2 : wco n s t 1 1 es h = sls n es s t h := by
    unfold wco
    by_cases hc : sls n es s t h = 0
    · rw [if_neg (by simp [hc]), hc]; rfl
    · rw [if_pos hc]
  rw [e1, e2]
/-- Without guesses the weight makes no difference. -/
theorem ans_zero (n s t num den : Int) (es : List E) (k : Nat) (hw : wtk num den = 0) : ans (wco n s t num den es (zer k)) (res n s t es (zer k) (fun c g => den * c + num * g)) = ans (sls n es s t (zer k)) (res n s t es (zer k) (fun c g => c + g)) := by
  obtain ⟨z1, z2, z3⟩ := wtk_zero hw
  have e2 : wco n s t num den es (zer k) = sls n es s t (zer k) := by
    unfold wco
    by_cases hc : sls n es s t (zer k) = 0
    · rw [if_neg (by simp [hc]), hc, hw]
    · rw [if_pos hc]
  have h0 : ∀ a, gf (zer k) a = 0 := by
    intro a
    by_cases ha : a < k
    · exact zer_at ha
    · unfold gf; rw [List.getD_eq_getElem?_getD, List.getElem?_eq_none (by rw [zer, lst_length]; omega)]; rfl
  have e1 : ∀ f s0 ord, sea n.toNat es (gf (zer k)) (fun c g => den * c + num * g) t.toNat f s0 ord = sea n.toNat es (gf (zer k)) (fun c g => c + g) t.toNat f s0 ord := by
    refine sea_congr (fun x y a b => ?_)
    rw [h0 a, h0 b]
    simp only [Int.mul_zero, Int.add_zero]
    constructor
    · intro hlt
      exact Int.lt_of_mul_lt_mul_left hlt (by omega)
    · intro hlt
      exact Int.mul_lt_mul_of_pos_left hlt (by omega)
  unfold res
  rw [e2, e1]
end Go.Proofs.Ytefikbjjdldomaa
