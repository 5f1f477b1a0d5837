/-
  Plain necks and widths: a net whose edges go both ways, with costs turned round.
-/
import Derived.Test.YtdgihpegdcoilaaKn
import Derived.Test.YtdgihpegdcoilaaFl
namespace Go.Proofs.Ytdgihpegdcoilaa.Tn
open Nm Wm Dm Bm Fm Fl Kk Un.Uf

/-- Each edge both ways, with its cost turned round. -/
def dbl (f : Int → Int) (es : List E) : List E := es.flatMap fun e => [(e.1, e.2.1, f e.2.2), (e.2.1, e.1, f e.2.2)]
theorem dbl_mem {f : Int → Int} {es : List E} {x : E} : x ∈ dbl f es ↔ ∃ e ∈ es, x = (e.1, e.2.1, f e.2.2) ∨ x = (e.2.1, e.1, f e.2.2) := by
  unfold dbl; simp [List.mem_flatMap]
theorem dbl_snoc (f : Int → Int) (es : List E) (e : E) : dbl f (es ++ [e]) = dbl f es ++ [(e.1, e.2.1, f e.2.2), (e.2.1, e.1, f e.2.2)] := by
  unfold dbl; rw [List.flatMap_append]; rfl
theorem dbl_length (f : Int → Int) (es : List E) : (dbl f es).length = 2 * es.length := by
  induction es with
  | nil => rfl
  | cons e r ih => unfold dbl at *; rw [List.flatMap_cons, List.length_append, ih]; simp; omega
theorem dbl_take {f : Int → Int} {es : List E} {k : Nat} (h : k < es.length) : dbl f (es.take (k + 1)) = dbl f (es.take k) ++ [((at3 es k).1, (at3 es k).2.1, f (at3 es k).2.2), ((at3 es k).2.1, (at3 es k).1, f (at3 es k).2.2)] := by
  rw [List.take_add_one, List.getElem?_eq_getElem h]
  have : at3 es k = es[k] := by unfold at3; simp [h]
  rw [this]
  exact dbl_snoc f _ _
theorem dbl_congr {f g : Int → Int} {es : List E} (h : ∀ e ∈ es, f e.2.2 = g e.2.2) : dbl f es = dbl g es := by
  unfold dbl
  induction es with
  | nil => rfl
  | cons e r ih => rw [List.flatMap_cons, List.flatMap_cons, ih (fun x hx => h x (by simp [hx])), h e (by simp)]

/-- What is in one group is joined. -/
theorem jn_two {G : Nat → Nat} {a b x y : Nat} (h : jn G a b x = jn G a b y) : G x = G y ∨ (G x = G a ∧ G y = G b) ∨ (G x = G b ∧ G y = G a) := by
  unfold jn at h
  split at h <;> split at h <;> omega
theorem grp_rel {R : Nat → Nat → Prop} (rr : ∀ x, R x x) (rs : ∀ x y, R x y → R y x) (rt : ∀ x y z, R x y → R y z → R x z) (l : List (Int × Int)) : (∀ p ∈ l, R p.1.toNat p.2.toNat) → ∀ x y, grp l x = grp l y → R x y := by
  refine rev_ind (P := fun l => (∀ p ∈ l, R p.1.toNat p.2.toNat) → ∀ x y, grp l x = grp l y → R x y) ?_ ?_ l
  · intro _ x y h
    have : x = y := h
    subst this; exact rr x
  · intro l p ih hp x y h
    have ihl := ih (fun q hq => hp q (by simp [hq]))
    rw [grp_snoc] at h
    have hpp := hp p (by simp)
    rcases jn_two h with h | ⟨h1, h2⟩ | ⟨h1, h2⟩
    · exact ihl x y h
    · exact rt _ _ _ (ihl _ _ h1) (rt _ _ _ hpp (ihl _ _ h2.symm))
    · exact rt _ _ _ (ihl _ _ h1) (rt _ _ _ (rs _ _ hpp) (ihl _ _ h2.symm))
/-- Joined by edges that cost no more is a walk over edges that bear no less. -/
theorem jc_wk {es : List E} (a b : Nat) (c : Int) : jc es a b c = true ↔ ∃ j, Wk (fun e => decide (-c ≤ e.2.2)) (dbl (fun z => -z) es) a j b := by
  have back : ∀ e ∈ dbl (fun z => -z) es, (e.2.1, e.1, e.2.2) ∈ dbl (fun z => -z) es := by
    intro e he
    obtain ⟨x, hx, h | h⟩ := dbl_mem.1 he
    · exact dbl_mem.2 ⟨x, hx, .inr (by rw [h])⟩
    · exact dbl_mem.2 ⟨x, hx, .inl (by rw [h])⟩
  constructor
  · intro h
    refine grp_rel (R := fun x y => ∃ j, Wk (fun e => decide (-c ≤ e.2.2)) (dbl (fun z => -z) es) x j y) (fun x => ⟨0, rfl⟩) ?_ (fun x y z ⟨i, hi⟩ ⟨j, hj⟩ => ⟨i + j, wk_app hi j z hj⟩) (pl es (upl es c)) ?_ a b (of_decide_eq_true h)
    · rintro x y ⟨j, hj⟩
      revert hj
      induction j generalizing y with
      | zero => intro h; rw [show y = x from h]; exact ⟨0, rfl⟩
      | succ j ih =>
        rintro ⟨e, he, hp, h1, h2⟩
        obtain ⟨i, hi⟩ := ih _ h2
        have := wk_app (wk_one (p := fun e => decide (-c ≤ e.2.2)) (back e he) hp) i x hi
        simp only at this
        rw [h1] at this
        exact ⟨_, this⟩
    · intro p hp
      obtain ⟨i, hi, rfl⟩ := List.mem_map.1 hp
      obtain ⟨hil, hc⟩ := mem_upl.1 hi
      have hm : ((at3 es i).1, (at3 es i).2.1, -(at3 es i).2.2) ∈ dbl (fun z => -z) es := dbl_mem.2 ⟨_, mem_at hil, .inl rfl⟩
      exact ⟨1, wk_one (p := fun e => decide (-c ≤ e.2.2)) (e := ((at3 es i).1, (at3 es i).2.1, -(at3 es i).2.2)) hm (decide_eq_true (by unfold cs at hc; simp only; omega))⟩
  · rintro ⟨j, hj⟩
    refine decide_eq_true ?_
    revert hj
    induction j generalizing b with
    | zero => intro h; rw [show b = a from h]
    | succ j ih =>
      rintro ⟨e, he, hp, h1, h2⟩
      rw [ih _ h2, ← h1]
      obtain ⟨x, hx, hh⟩ := dbl_mem.1 he
      obtain ⟨i, hi, rfl⟩ := List.mem_iff_getElem.1 hx
      have hat : at3 es i = es[i] := by unfold at3; simp [hi]
      have hcost : cs es i ≤ c := by
        unfold cs; rw [hat]
        have := of_decide_eq_true hp
        rcases hh with hh | hh <;> rw [hh] at this <;> simp only at this <;> omega
      have hr := (good_grp (pl es (upl es c))).resp (en es i) (List.mem_map.2 ⟨i, mem_upl.2 ⟨hi, hcost⟩, rfl⟩)
      unfold en at hr
      rw [hat] at hr
      rcases hh with hh | hh <;> rw [hh] <;> simp only
      · exact hr
      · exact hr.symm
theorem rnt_dbl {N : Nat} {es : List E} (hg : Gn N es) (h300 : es.length ≤ 300) : Rnt N (dbl (fun z => -z) es) := by
  refine ⟨by have := hg.n1; omega, by have := hg.n64; omega, by rw [dbl_length]; omega, fun e he => ?_⟩
  obtain ⟨x, hx, h⟩ := dbl_mem.1 he
  have := hg.ok x hx
  rcases h with h | h <;> rw [h] <;> simp only <;> omega
/-- The width of the net whose edges go both ways, costs turned round, is the neck turned over. -/
theorem wide_neck {N a b : Nat} {es : List E} (hg : Gn N es) (h300 : es.length ≤ 300) (hab : a ≠ b) :
    (nk es a b = (0, 5) ∧ fww (dbl (fun z => -z) es) N a b = -far) ∨ ∃ c, nk es a b = (c, 0) ∧ fww (dbl (fun z => -z) es) N a b = -c ∧ -10000 ≤ c ∧ c ≤ 10000 := by
  have hF : far = 1099511627776 := rfl
  have hr := rnt_dbl hg h300
  have hin := hr.inn
  have key : ∀ w, w < es.length → (jc es a b (cs es w) = true ↔ -(cs es w) ≤ fww (dbl (fun z => -z) es) N a b) := by
    intro w hw
    have hok := hg.ok _ (mem_at hw)
    have hcs : cs es w = (at3 es w).2.2 := rfl
    rw [jc_wk]
    exact (fww_iff (t := -(cs es w)) (by omega) (by omega) hin).symm
  have from_ : fww (dbl (fun z => -z) es) N a b = -far ∨ ∃ w, w < es.length ∧ fww (dbl (fun z => -z) es) N a b = -(cs es w) := by
    rcases fww_from (dbl (fun z => -z) es) N a b with h | h | ⟨e, he, h⟩
    · exact .inl h
    · exact absurd h (fww_off hr hab)
    · right
      obtain ⟨x, hx, hh⟩ := dbl_mem.1 he
      obtain ⟨i, hi, rfl⟩ := List.mem_iff_getElem.1 hx
      have hat : at3 es i = es[i] := by unfold at3; simp [hi]
      refine ⟨i, hi, ?_⟩
      rw [← h]
      unfold cs; rw [hat]
      rcases hh with hh | hh <;> rw [hh]
  rw [← rn_nk hab]
  rcases rn_is es a b es.length with ⟨r1, r2⟩ | ⟨w, r1, r2, r3, r4⟩
  · left
    refine ⟨r1, ?_⟩
    rcases from_ with h | ⟨w, hw, h⟩
    · exact h
    · have := (key w hw).2 (by rw [h]; exact Int.le_refl _)
      rw [r2 w hw] at this; cases this
  · right
    have hok := hg.ok _ (mem_at r1)
    have hcs : cs es w = (at3 es w).2.2 := rfl
    have h1 := (key w r1).1 r3
    refine ⟨cs es w, r2, ?_, by omega, by omega⟩
    rcases from_ with h | ⟨w', hw', h⟩
    · omega
    · have h2 := r4 w' hw' ((key w' hw').2 (by rw [h]; exact Int.le_refl _))
      omega
end Go.Proofs.Ytdgihpegdcoilaa.Tn
