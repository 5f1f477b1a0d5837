/-
  Plain nets: edges, what is wrong with them. No Go in sight. Plain walks: the cheapest edge, what a walk costs, in parts and back. No Go in sight. Plain lists: a walk without its loops. No Go in sight. Plain costs from one place: what they are, that they are one, how they are found. No Go in sight. Plain lists of pairs: their order by the first number, heaps as lists. No Go in sight. Plain lists of threes: their order by key, guess, place, heaps as lists. No Go in sight. Plain searches by keys: what is looked from, what it costs; with guesses that agree, and weights. No Go in sight. What lies in the heap of the search, against what waits: the least of it that still counts is what is picked.
-/
import Derived.KernelRfl
namespace Go.Proofs.Ytefikbjjdldomaa.Nm
set_option linter.unusedSimpArgs false

abbrev E := Int × Int × Int
def at3 (l : List E) (i : Nat) : E := l.getD i (0, 0, 0)
theorem drop_at {es : List E} {k : Nat} (h : k < es.length) : es.drop k = at3 es k :: es.drop (k + 1) := by
  rw [List.drop_eq_getElem_cons h]; congr 1; unfold at3; simp [h]
theorem mem_at {es : List E} {k : Nat} (h : k < es.length) : at3 es k ∈ es := by
  unfold at3; simp [List.getD_eq_getElem?_getD, h]

def plc (n v : Int) : Bool := decide (0 ≤ v ∧ v < n)
/-- What is wrong with one edge. -/
def code (n : Int) (e : E) : Int := if plc n e.1 = true ∧ plc n e.2.1 = true then if -10000 ≤ e.2.2 ∧ e.2.2 ≤ 10000 then 0 else 4 else 1
/-- What is wrong with the first edge that is wrong. -/
def ech (n : Int) : List E → Int
  | [] => 0
  | e :: r => if code n e = 0 then ech n r else code n e
def nck (n : Int) (es : List E) : Int := if n < 1 ∨ 64 < n then 1 else if 600 < es.length then 2 else ech n es
theorem nck_n {n : Int} (es : List E) (h : n < 1 ∨ 64 < n) : nck n es = 1 := by unfold nck; rw [if_pos h]
theorem nck_l {n : Int} {es : List E} (h : ¬ (n < 1 ∨ 64 < n)) (hl : 600 < es.length) : nck n es = 2 := by unfold nck; rw [if_neg h, if_pos hl]
theorem nck_e {n : Int} {es : List E} (h : ¬ (n < 1 ∨ 64 < n)) (hl : ¬ 600 < es.length) : nck n es = ech n es := by unfold nck; rw [if_neg h, if_neg hl]
theorem ech_ok {n : Int} {es : List E} {k : Nat} (hi : ech n es = ech n (es.drop k)) (h : k < es.length) (hc : code n (at3 es k) = 0) : ech n es = ech n (es.drop (k + 1)) := by
  rw [hi, drop_at h, ech, if_pos hc]
theorem ech_bad {n : Int} {es : List E} {k : Nat} (hi : ech n es = ech n (es.drop k)) (h : k < es.length) (hc : code n (at3 es k) ≠ 0) : ech n es = code n (at3 es k) := by
  rw [hi, drop_at h, ech, if_neg hc]
theorem ech_end {n : Int} {es : List E} (hi : ech n es = ech n (es.drop es.length)) : ech n es = 0 := by
  rw [hi, List.drop_length]; rfl
theorem plc_yes {n v : Int} (h0 : 0 ≤ v) (h1 : v < n) : plc n v = true := decide_eq_true ⟨h0, h1⟩
theorem plc_no {n v : Int} (h : ¬ (0 ≤ v ∧ v < n)) : plc n v = false := decide_eq_false h
theorem code_1 {n x y z : Int} (h : plc n x = false) : code n (x, y, z) = 1 := by unfold code; rw [if_neg (by simp [h])]
theorem code_2 {n x y z : Int} (h : plc n y = false) : code n (x, y, z) = 1 := by unfold code; rw [if_neg (by simp [h])]
theorem code_4 {n x y z : Int} (h1 : plc n x = true) (h2 : plc n y = true) (h : ¬ (-10000 ≤ z ∧ z ≤ 10000)) : code n (x, y, z) = 4 := by unfold code; rw [if_pos ⟨h1, h2⟩, if_neg h]
theorem code_0 {n x y z : Int} (h1 : plc n x = true) (h2 : plc n y = true) (h : -10000 ≤ z ∧ z ≤ 10000) : code n (x, y, z) = 0 := by unfold code; rw [if_pos ⟨h1, h2⟩, if_pos h]

/-- A net as it should be. -/
structure Gn (n : Int) (es : List E) : Prop where
  n1 : 1 ≤ n
  n64 : n ≤ 64
  len : es.length ≤ 600
  ok : ∀ e ∈ es, 0 ≤ e.1 ∧ e.1 < n ∧ 0 ≤ e.2.1 ∧ e.2.1 < n ∧ -10000 ≤ e.2.2 ∧ e.2.2 ≤ 10000
theorem code_zero {n : Int} {e : E} : code n e = 0 ↔ (0 ≤ e.1 ∧ e.1 < n ∧ 0 ≤ e.2.1 ∧ e.2.1 < n ∧ -10000 ≤ e.2.2 ∧ e.2.2 ≤ 10000) := by
  unfold code plc
  constructor
  · intro h
    split at h
    · rename_i h1
      split at h
      · rename_i h2
        have a := of_decide_eq_true h1.1
        have b := of_decide_eq_true h1.2
        exact ⟨a.1, a.2, b.1, b.2, h2.1, h2.2⟩
      · cases h
    · cases h
  · rintro ⟨a, b, c, d, e, f⟩
    rw [if_pos ⟨decide_eq_true ⟨a, b⟩, decide_eq_true ⟨c, d⟩⟩, if_pos ⟨e, f⟩]
theorem ech_zero {n : Int} {es : List E} : ech n es = 0 ↔ ∀ e ∈ es, code n e = 0 := by
  induction es with
  | nil => simp [ech]
  | cons e r ih =>
    rw [ech]
    by_cases h : code n e = 0
    · rw [if_pos h, ih]; simp [h]
    · rw [if_neg h]; simp [h]
theorem nck_zero {n : Int} {es : List E} : nck n es = 0 ↔ Gn n es := by
  constructor
  · intro h
    unfold nck at h
    split at h
    · cases h
    · rename_i h1
      split at h
      · cases h
      · exact ⟨by omega, by omega, by omega, fun e he => code_zero.1 (ech_zero.1 h e he)⟩
  · intro h
    have h1 := h.n1
    have h2 := h.n64
    have h3 := h.len
    rw [nck_e (by omega) (by omega)]
    exact ech_zero.2 (fun e he => code_zero.2 (h.ok e he))
/-- What Pos says. -/
def nps (n : Int) (es : List E) : Int := if nck n es ≠ 0 then nck n es else if es.all (fun e => decide (1 ≤ e.2.2)) = true then 0 else 4
theorem nps_bad {n : Int} {es : List E} (h : nck n es ≠ 0) : nps n es = nck n es := by unfold nps; rw [if_pos h]
theorem nps_low {n : Int} {es : List E} (h : nck n es = 0) {k : Nat} (hk : k < es.length) (hl : (at3 es k).2.2 < 1) : nps n es = 4 := by
  unfold nps
  rw [if_neg (by simp [h]), if_neg]
  intro ha
  rw [List.all_eq_true] at ha
  have := of_decide_eq_true (ha _ (mem_at hk))
  omega
theorem nps_ok {n : Int} {es : List E} (h : nck n es = 0) (ha : ∀ k, k < es.length → 1 ≤ (at3 es k).2.2) : nps n es = 0 := by
  unfold nps
  rw [if_neg (by simp [h]), if_pos]
  rw [List.all_eq_true]
  intro e he
  obtain ⟨k, hk, rfl⟩ := List.mem_iff_getElem.1 he
  have := ha k hk
  unfold at3 at this
  rw [List.getD_eq_getElem?_getD, List.getElem?_eq_getElem hk] at this
  exact decide_eq_true this
/-- The numbers of the edges from v, of the first k. -/
def outs (v : Int) (es : List E) : Nat → List Int
  | 0 => []
  | k + 1 => outs v es k ++ (if (at3 es k).1 = v then [(k : Int)] else [])
theorem outs_length (v : Int) (es : List E) (k : Nat) : (outs v es k).length ≤ k := by
  induction k with
  | zero => simp [outs]
  | succ k ih => rw [outs, List.length_append]; split <;> simp <;> omega
theorem outs_yes {v : Int} {es : List E} {k : Nat} (h : (at3 es k).1 = v) : outs v es (k + 1) = outs v es k ++ [(k : Int)] := by rw [outs, if_pos h]
theorem outs_no {v : Int} {es : List E} {k : Nat} (h : ¬ (at3 es k).1 = v) : outs v es (k + 1) = outs v es k := by rw [outs, if_neg h, List.append_nil]
/-- Turned round. -/
def trn (e : E) : E := (e.2.1, e.1, e.2.2)
end Go.Proofs.Ytefikbjjdldomaa.Nm
namespace Go.Proofs.Ytefikbjjdldomaa.Wm
open Nm
set_option linter.unusedSimpArgs false

abbrev far : Int := 1099511627776
/-- One edge more is looked at. -/
def stp (u v : Int) (o : Option Int) (e : E) : Option Int :=
  if e.1 = u ∧ e.2.1 = v then (match o with | none => some e.2.2 | some c => some (if e.2.2 < c then e.2.2 else c)) else o
/-- The cheapest edge from u to v. -/
def chp (u v : Int) (es : List E) : Option Int := es.foldl (stp u v) none

theorem take_at {es : List E} {k : Nat} (h : k < es.length) : es.take (k + 1) = es.take k ++ [at3 es k] := by
  rw [List.take_add_one, List.getElem?_eq_getElem h]
  have : at3 es k = es[k] := by unfold at3; simp [h]
  rw [this]; rfl
theorem chp_next (u v : Int) {es : List E} {k : Nat} (h : k < es.length) : chp u v (es.take (k + 1)) = stp u v (chp u v (es.take k)) (at3 es k) := by
  unfold chp; rw [take_at h, List.foldl_append]; rfl
theorem stp_no {u v : Int} {o : Option Int} {e : E} (h : ¬ (e.1 = u ∧ e.2.1 = v)) : stp u v o e = o := by unfold stp; rw [if_neg h]
theorem stp_first {u v : Int} {e : E} (h : e.1 = u ∧ e.2.1 = v) : stp u v none e = some e.2.2 := by unfold stp; rw [if_pos h]
theorem stp_less {u v c : Int} {e : E} (h : e.1 = u ∧ e.2.1 = v) (hc : e.2.2 < c) : stp u v (some c) e = some e.2.2 := by unfold stp; rw [if_pos h]; simp [hc]
theorem stp_more {u v c : Int} {e : E} (h : e.1 = u ∧ e.2.1 = v) (hc : ¬ e.2.2 < c) : stp u v (some c) e = some c := by unfold stp; rw [if_pos h]; simp [hc]

/-- What the cheapest is, in words. -/
def Is1 (u v : Int) (es : List E) (o : Option Int) : Prop :=
  (o = none → ∀ e ∈ es, ¬ (e.1 = u ∧ e.2.1 = v)) ∧
  (∀ c, o = some c → (∃ e ∈ es, e.1 = u ∧ e.2.1 = v ∧ e.2.2 = c) ∧ ∀ e ∈ es, e.1 = u → e.2.1 = v → c ≤ e.2.2)
theorem is1_fold (u v : Int) (es pre : List E) (o : Option Int) (h : Is1 u v pre o) : Is1 u v (pre ++ es) (es.foldl (stp u v) o) := by
  induction es generalizing pre o with
  | nil => simpa using h
  | cons e r ih =>
    have key : Is1 u v (pre ++ [e]) (stp u v o e) := by
      by_cases hm : e.1 = u ∧ e.2.1 = v
      · cases o with
        | none =>
          rw [stp_first hm]
          refine ⟨(fun h => by cases h), fun c hc => ?_⟩
          cases hc
          refine ⟨⟨e, by simp, hm.1, hm.2, rfl⟩, fun x hx h1 h2 => ?_⟩
          rcases List.mem_append.1 hx with hx | hx
          · exact absurd ⟨h1, h2⟩ (h.1 rfl x hx)
          · rw [List.mem_singleton.1 hx]; exact Int.le_refl _
        | some c0 =>
          obtain ⟨⟨x0, hx0, a, b, hc0⟩, hall⟩ := h.2 c0 rfl
          by_cases hc : e.2.2 < c0
          · rw [stp_less hm hc]
            refine ⟨(fun h => by cases h), fun c hc' => ?_⟩
            cases hc'
            refine ⟨⟨e, by simp, hm.1, hm.2, rfl⟩, fun x hx h1 h2 => ?_⟩
            rcases List.mem_append.1 hx with hx | hx
            · have := hall x hx h1 h2; omega
            · rw [List.mem_singleton.1 hx]; exact Int.le_refl _
          · rw [stp_more hm hc]
            refine ⟨(fun h => by cases h), fun c hc' => ?_⟩
            cases hc'
            refine ⟨⟨x0, by simp [hx0], a, b, hc0⟩, fun x hx h1 h2 => ?_⟩
            rcases List.mem_append.1 hx with hx | hx
            · exact hall x hx h1 h2
            · rw [List.mem_singleton.1 hx]; omega
      · rw [stp_no hm]
        refine ⟨fun ho x hx => ?_, fun c hc => ?_⟩
        · rcases List.mem_append.1 hx with hx | hx
          · exact h.1 ho x hx
          · rw [List.mem_singleton.1 hx]; exact hm
        · obtain ⟨⟨x0, hx0, a⟩, hall⟩ := h.2 c hc
          refine ⟨⟨x0, by simp [hx0], a⟩, fun x hx h1 h2 => ?_⟩
          rcases List.mem_append.1 hx with hx | hx
          · exact hall x hx h1 h2
          · rw [List.mem_singleton.1 hx] at h1 h2; exact absurd ⟨h1, h2⟩ hm
    have := ih (pre ++ [e]) _ key
    simpa using this
theorem chp_is (u v : Int) (es : List E) : Is1 u v es (chp u v es) := by
  have := is1_fold u v es [] none ⟨fun _ e he => by simp at he, fun c h => by cases h⟩
  simpa [chp] using this
theorem is1_unique {u v : Int} {es : List E} {o o' : Option Int} (h : Is1 u v es o) (h' : Is1 u v es o') : o = o' := by
  cases o with
  | none =>
    cases o' with
    | none => rfl
    | some c => obtain ⟨⟨e, he, a, b, _⟩, _⟩ := h'.2 c rfl; exact absurd ⟨a, b⟩ (h.1 rfl e he)
  | some c =>
    obtain ⟨⟨e, he, a, b, hc⟩, hall⟩ := h.2 c rfl
    cases o' with
    | none => exact absurd ⟨a, b⟩ (h'.1 rfl e he)
    | some c' =>
      obtain ⟨⟨e', he', a', b', hc'⟩, hall'⟩ := h'.2 c' rfl
      have := hall e' he' a' b'
      have := hall' e he a b
      rw [show c = c' by omega]
theorem chp_none {u v : Int} {es : List E} (h : chp u v es = none) : ∀ e ∈ es, ¬ (e.1 = u ∧ e.2.1 = v) := (chp_is u v es).1 h
theorem chp_some {u v c : Int} {es : List E} (h : chp u v es = some c) : (∃ e ∈ es, e.1 = u ∧ e.2.1 = v ∧ e.2.2 = c) ∧ ∀ e ∈ es, e.1 = u → e.2.1 = v → c ≤ e.2.2 := (chp_is u v es).2 c h
theorem chp_of {u v c : Int} {es : List E} (h1 : ∃ e ∈ es, e.1 = u ∧ e.2.1 = v ∧ e.2.2 = c) (h2 : ∀ e ∈ es, e.1 = u → e.2.1 = v → c ≤ e.2.2) : chp u v es = some c :=
  is1_unique (chp_is u v es) ⟨(fun h => by cases h), fun c' h => by cases h; exact ⟨h1, h2⟩⟩
theorem chp_turn (u v : Int) (es : List E) : chp v u (es.map trn) = chp u v es := by
  refine is1_unique (chp_is v u (es.map trn)) ⟨fun h e he => ?_, fun c h => ?_⟩
  · obtain ⟨x, hx, rfl⟩ := List.mem_map.1 he
    intro hm; exact chp_none h x hx ⟨hm.2, hm.1⟩
  · obtain ⟨⟨e, he, a, b, hc⟩, hall⟩ := chp_some h
    refine ⟨⟨trn e, List.mem_map.2 ⟨e, he, rfl⟩, b, a, hc⟩, fun x hx h1 h2 => ?_⟩
    obtain ⟨y, hy, rfl⟩ := List.mem_map.1 hx
    exact hall y hy h2 h1
/-- The document's way to say it. -/
def edg (u v : Int) (es : List E) : Int := (chp u v es).getD far

theorem chp_bound {n u v c : Int} {es : List E} (hg : Gn n es) (k : Nat) (h : chp u v (es.take k) = some c) : -10000 ≤ c ∧ c ≤ 10000 := by
  obtain ⟨⟨e, he, _, _, rfl⟩, _⟩ := chp_some h
  have := hg.ok e (List.mem_of_mem_take he)
  omega
theorem chp_bound' {n u v c : Int} {es : List E} (hg : Gn n es) (h : chp u v es = some c) : -10000 ≤ c ∧ c ≤ 10000 := by
  obtain ⟨⟨e, he, _, _, rfl⟩, _⟩ := chp_some h
  have := hg.ok e he
  omega

/-- What a walk costs; none, if an edge is lacking. -/
def wc (es : List E) : List Int → Option Int
  | [] => none
  | [_] => some 0
  | u :: v :: r => match chp u v es with
    | none => none
    | some c => (wc es (v :: r)).map (fun s => c + s)
theorem wc_one (es : List E) (u : Int) : wc es [u] = some 0 := rfl
theorem wc_two (es : List E) (u v : Int) (r : List Int) : wc es (u :: v :: r) = match chp u v es with | none => none | some c => (wc es (v :: r)).map (fun s => c + s) := rfl
theorem wc_gone {es : List E} {u v : Int} {r : List Int} (h : chp u v es = none) : wc es (u :: v :: r) = none := by rw [wc_two, h]
theorem wc_on {es : List E} {u v c : Int} {r : List Int} (h : chp u v es = some c) : wc es (u :: v :: r) = (wc es (v :: r)).map (fun s => c + s) := by rw [wc_two, h]

theorem drop_two {p : List Int} {k : Nat} (h : k + 1 < p.length) : p.drop k = p.getD k 0 :: p.getD (k + 1) 0 :: p.drop (k + 2) := by
  rw [List.drop_eq_getElem_cons (by omega), List.drop_eq_getElem_cons h]
  simp [List.getD_eq_getElem?_getD, h, show k < p.length by omega]
theorem drop_one {p : List Int} {k : Nat} (h : k + 1 = p.length) : p.drop k = [p.getD k 0] := by
  rw [List.drop_eq_getElem_cons (by omega), List.drop_of_length_le (by omega)]
  simp [List.getD_eq_getElem?_getD, show k < p.length by omega]
theorem drop_succ {p : List Int} {k : Nat} (h : k + 1 < p.length) : p.drop (k + 1) = p.getD (k + 1) 0 :: p.drop (k + 2) := by
  rw [List.drop_eq_getElem_cons h]
  simp [List.getD_eq_getElem?_getD, h]

/-- The sum so far, and what is still to come. -/
def Sofar (es : List E) (p : List Int) (k : Nat) (s : Int) : Prop := wc es p = (wc es (p.drop k)).map (fun t => s + t)
theorem sofar_start (es : List E) (p : List Int) : Sofar es p 0 0 := by
  unfold Sofar; rw [List.drop_zero]; cases wc es p <;> simp
theorem sofar_next {es : List E} {p : List Int} {k : Nat} {s c : Int} (h : Sofar es p k s) (hk : k + 1 < p.length) (hc : chp (p.getD k 0) (p.getD (k + 1) 0) es = some c) : Sofar es p (k + 1) (s + c) := by
  unfold Sofar at *
  rw [h, drop_two hk, wc_on hc, ← drop_succ hk]
  cases wc es (p.drop (k + 1)) with
  | none => rfl
  | some t => simp; omega
theorem sofar_gone {es : List E} {p : List Int} {k : Nat} {s : Int} (h : Sofar es p k s) (hk : k + 1 < p.length) (hc : chp (p.getD k 0) (p.getD (k + 1) 0) es = none) : wc es p = none := by
  unfold Sofar at h
  rw [h, drop_two hk, wc_gone hc]; rfl
theorem sofar_end {es : List E} {p : List Int} {k : Nat} {s : Int} (h : Sofar es p k s) (hk : k + 1 = p.length) : wc es p = some s := by
  unfold Sofar at h
  rw [h, drop_one hk, wc_one]; simp

/-- What Cost says: what it costs, and the error. -/
def wcode (n : Int) (es : List E) (p : List Int) : Int × Int :=
  if nck n es ≠ 0 then (0, nck n es) else if p.length = 0 then (0, 1) else if 100 < p.length then (0, 2) else if p.all (plc n) = false then (0, 1) else
  match wc es p with
  | none => (0, 5)
  | some s => (s, 0)
theorem wcode_net {n : Int} {es : List E} (p : List Int) (h : nck n es ≠ 0) : wcode n es p = (0, nck n es) := by unfold wcode; rw [if_pos h]
theorem wcode_nil {n : Int} {es : List E} {p : List Int} (h : nck n es = 0) (h1 : p.length = 0) : wcode n es p = (0, 1) := by unfold wcode; rw [if_neg (by simp [h]), if_pos h1]
theorem wcode_long {n : Int} {es : List E} {p : List Int} (h : nck n es = 0) (h1 : 100 < p.length) : wcode n es p = (0, 2) := by unfold wcode; rw [if_neg (by simp [h]), if_neg (by omega), if_pos h1]
theorem wcode_out {n : Int} {es : List E} {p : List Int} (h : nck n es = 0) (h1 : ¬ p.length = 0) (h2 : ¬ 100 < p.length) (h3 : p.all (plc n) = false) : wcode n es p = (0, 1) := by
  unfold wcode; rw [if_neg (by simp [h]), if_neg h1, if_neg h2, if_pos h3]
theorem wcode_none {n : Int} {es : List E} {p : List Int} (h : nck n es = 0) (h1 : ¬ p.length = 0) (h2 : ¬ 100 < p.length) (h3 : p.all (plc n) = true) (h4 : wc es p = none) : wcode n es p = (0, 5) := by
  unfold wcode; rw [if_neg (by simp [h]), if_neg h1, if_neg h2, if_neg (by simp [h3]), h4]
theorem wcode_some {n s : Int} {es : List E} {p : List Int} (h : nck n es = 0) (h1 : ¬ p.length = 0) (h2 : ¬ 100 < p.length) (h3 : p.all (plc n) = true) (h4 : wc es p = some s) : wcode n es p = (s, 0) := by
  unfold wcode; rw [if_neg (by simp [h]), if_neg h1, if_neg h2, if_neg (by simp [h3]), h4]
theorem wcode_ok {n : Int} {es : List E} {p : List Int} (h : (wcode n es p).2 = 0) : nck n es = 0 ∧ p.length ≠ 0 ∧ p.length ≤ 100 ∧ p.all (plc n) = true ∧ wc es p = some (wcode n es p).1 := by
  by_cases h0 : nck n es = 0
  · by_cases h1 : p.length = 0
    · rw [wcode_nil h0 h1] at h; cases h
    · by_cases h2 : 100 < p.length
      · rw [wcode_long h0 h2] at h; cases h
      · cases h3 : p.all (plc n)
        · rw [wcode_out h0 h1 h2 h3] at h; cases h
        · cases h4 : wc es p with
          | none => rw [wcode_none h0 h1 h2 h3 h4] at h; cases h
          | some s => rw [wcode_some h0 h1 h2 h3 h4]; exact ⟨h0, h1, by omega, rfl, rfl⟩
  · rw [wcode_net p h0] at h; exact absurd h h0
theorem wcode_bad {n : Int} {es : List E} {p : List Int} (h : (wcode n es p).2 ≠ 0) : (wcode n es p).1 = 0 := by
  by_cases h0 : nck n es = 0
  · by_cases h1 : p.length = 0
    · rw [wcode_nil h0 h1]
    · by_cases h2 : 100 < p.length
      · rw [wcode_long h0 h2]
      · cases h3 : p.all (plc n)
        · rw [wcode_out h0 h1 h2 h3]
        · cases h4 : wc es p with
          | none => rw [wcode_none h0 h1 h2 h3 h4]
          | some s => rw [wcode_some h0 h1 h2 h3 h4] at h; exact absurd rfl h
  · rw [wcode_net p h0]

/-- A walk in two parts. -/
theorem wc_parts (es : List E) (a : List Int) (x : Int) (r : List Int) : wc es (a ++ x :: r) = (wc es (a ++ [x])).bind (fun s => (wc es (x :: r)).map (fun t => s + t)) := by
  induction a with
  | nil => rw [List.nil_append, List.nil_append, wc_one]; cases wc es (x :: r) <;> simp
  | cons u a ih =>
    cases a with
    | nil =>
      simp only [List.cons_append, List.nil_append]
      rw [wc_two, wc_two, wc_one]
      cases chp u x es <;> simp
    | cons v a =>
      simp only [List.cons_append] at ih ⊢
      rw [wc_two, wc_two]
      cases chp u v es with
      | none => simp
      | some c =>
        simp only
        rw [ih]
        cases wc es (v :: (a ++ [x])) with
        | none => simp
        | some s => cases wc es (x :: r) <;> simp; omega
theorem wc_back (es : List E) (p : List Int) : wc (es.map trn) p.reverse = wc es p := by
  induction p with
  | nil => rfl
  | cons u r ih =>
    cases r with
    | nil => rfl
    | cons v r =>
      rw [List.reverse_cons, List.reverse_cons, List.append_assoc]
      rw [show ([v] : List Int) ++ [u] = v :: [u] from rfl, wc_parts]
      rw [List.reverse_cons] at ih
      rw [ih, wc_two, wc_two, wc_one, chp_turn]
      cases chp u v es with
      | none => cases wc es (v :: r) <;> simp
      | some c => cases wc es (v :: r) <;> simp; omega
theorem gn_turn {n : Int} {es : List E} (h : Gn n es) : Gn n (es.map trn) := by
  refine ⟨h.n1, h.n64, by simpa using h.len, fun e he => ?_⟩
  obtain ⟨x, hx, rfl⟩ := List.mem_map.1 he
  obtain ⟨a, b, c, d, e, f⟩ := h.ok x hx
  exact ⟨c, d, a, b, e, f⟩
theorem wcode_back {n : Int} {es : List E} (hg : Gn n es) (p : List Int) : wcode n (es.map trn) p.reverse = wcode n es p := by
  unfold wcode
  rw [nck_zero.2 hg, nck_zero.2 (gn_turn hg), List.length_reverse, List.all_reverse, wc_back]
/-- Joined: what is behind a's last. -/
theorem wc_join {es : List E} {a b : List Int} {s : Int} (ha : a ≠ []) (hb : b ≠ []) (he : a.getD (a.length - 1) 0 = b.getD 0 0) (h : wc es (a ++ b.tail) = some s) : ∃ x y, wc es a = some x ∧ wc es b = some y ∧ s = x + y := by
  cases b with
  | nil => exact absurd rfl hb
  | cons x r =>
    have e1 : a = a.dropLast ++ [x] := by
      have h1 := List.dropLast_concat_getLast ha
      have h2 : a.getLast ha = x := by
        rw [List.getLast_eq_getElem]
        have : 0 < a.length := List.length_pos_iff.2 ha
        simpa [List.getD_eq_getElem?_getD, show a.length - 1 < a.length by omega] using he
      rw [h2] at h1; exact h1.symm
    rw [List.tail_cons, e1, List.append_assoc] at h
    rw [show ([x] : List Int) ++ r = x :: r from rfl, wc_parts, ← e1] at h
    cases h1 : wc es a with
    | none => rw [h1] at h; cases h
    | some s1 =>
      cases h2 : wc es (x :: r) with
      | none => rw [h1, h2] at h; cases h
      | some s2 => rw [h1, h2] at h; simp at h; exact ⟨s1, s2, rfl, rfl, h.symm⟩
theorem wcode_join {n : Int} {es : List E} {a b : List Int} (ha : a ≠ []) (hb : b ≠ []) (he : a.getD (a.length - 1) 0 = b.getD 0 0) (h : (wcode n es (a ++ b.tail)).2 = 0) :
    (wcode n es a).2 = 0 ∧ (wcode n es b).2 = 0 ∧ (wcode n es (a ++ b.tail)).1 = (wcode n es a).1 + (wcode n es b).1 := by
  obtain ⟨h0, h1, h2, h3, h4⟩ := wcode_ok h
  obtain ⟨x, y, hx, hy, hs⟩ := wc_join ha hb he h4
  have hla : a.length ≠ 0 := fun e => ha (List.length_eq_zero_iff.1 e)
  have hlb : b.length ≠ 0 := fun e => hb (List.length_eq_zero_iff.1 e)
  have hl : a.length + (b.length - 1) ≤ 100 := by simpa using h2
  rw [List.all_append, Bool.and_eq_true] at h3
  have h5 : b.all (plc n) = true := by
    cases b with
    | nil => rfl
    | cons x r =>
      rw [List.all_cons, Bool.and_eq_true]
      refine ⟨?_, h3.2⟩
      have := List.all_eq_true.1 h3.1 (a.getD (a.length - 1) 0) (by simp [List.getD_eq_getElem?_getD, show a.length - 1 < a.length by omega])
      rw [he] at this
      simpa using this
  rw [wcode_some h0 hla (by omega) h3.1 hx, wcode_some h0 hlb (by omega) h5 hy]
  exact ⟨rfl, rfl, hs⟩
end Go.Proofs.Ytefikbjjdldomaa.Wm
namespace Go.Proofs.Ytefikbjjdldomaa.Cm
open Nm Wm
set_option linter.unusedSimpArgs false

/-- What stands behind the last x; all of it, if there is none. -/
def aft (x : Int) : List Int → List Int
  | [] => []
  | y :: r => if x ∈ r then aft x r else if y = x then r else y :: r
theorem aft_length (x : Int) (l : List Int) : (aft x l).length ≤ l.length := by
  induction l with
  | nil => simp [aft]
  | cons y r ih =>
    rw [aft]; split
    · simp; omega
    · split <;> simp
theorem aft_none {x : Int} {l : List Int} (h : x ∉ l) : aft x l = l := by
  cases l with
  | nil => rfl
  | cons y r =>
    rw [aft, if_neg (fun hx => h (List.mem_cons_of_mem _ hx)), if_neg (fun e => h (by simp [e]))]
theorem not_mem_aft (x : Int) (l : List Int) : x ∉ aft x l := by
  induction l with
  | nil => simp [aft]
  | cons y r ih =>
    rw [aft]; split
    · exact ih
    · rename_i h
      split
      · exact h
      · rename_i h2; simp [h]; exact fun e => h2 e.symm
theorem aft_sub (x : Int) (l : List Int) : ∀ y ∈ aft x l, y ∈ l := by
  induction l with
  | nil => simp [aft]
  | cons z r ih =>
    intro y
    rw [aft]; split
    · intro h; exact List.mem_cons_of_mem _ (ih y h)
    · split
      · intro h; exact List.mem_cons_of_mem _ h
      · exact id
/-- What is behind the last: the list parts there. -/
theorem aft_parts {x : Int} {l : List Int} (h : x ∈ l) : ∃ p, l = p ++ x :: aft x l := by
  induction l with
  | nil => simp at h
  | cons y r ih =>
    rw [aft]
    by_cases hx : x ∈ r
    · rw [if_pos hx]
      obtain ⟨p, hp⟩ := ih hx
      exact ⟨y :: p, by rw [List.cons_append, ← hp]⟩
    · rw [if_neg hx]
      rcases List.mem_cons.1 h with rfl | h
      · rw [if_pos rfl]; exact ⟨[], rfl⟩
      · exact absurd h hx
/-- The list from k on parts at the last place j of x. -/
theorem aft_drop {p : List Int} {x : Int} {i j : Nat} (hij : i ≤ j) (hj : j < p.length) (hx : p.getD j 0 = x) (hlast : ∀ k, j < k → k < p.length → p.getD k 0 ≠ x) : aft x (p.drop (i + 1)) = p.drop (j + 1) := by
  have key : ∀ (l : List Int) (m : Nat), m < l.length → l.getD m 0 = x → (∀ k, m < k → k < l.length → l.getD k 0 ≠ x) → aft x l = l.drop (m + 1) := by
    intro l
    induction l with
    | nil => intro m hm; simp at hm
    | cons y r ih =>
      intro m hm hx hl
      rw [aft]
      cases m with
      | zero =>
        have : x ∉ r := by
          intro hmem
          obtain ⟨k, hk, he⟩ := List.mem_iff_getElem.1 hmem
          exact hl (k + 1) (by omega) (by simp; omega) (by simp [List.getD_eq_getElem?_getD, hk, he])
        rw [if_neg this]
        have hy : y = x := by simpa using hx
        rw [if_pos hy]; rfl
      | succ m =>
        have hm' : m < r.length := by simpa using hm
        have hx' : r.getD m 0 = x := by simpa using hx
        have hmem : x ∈ r := by rw [← hx']; simp [List.getD_eq_getElem?_getD, hm']
        rw [if_pos hmem, ih m hm' hx' (fun k h1 h2 => by have := hl (k + 1) (by omega) (by simp; omega); simpa using this)]
        rfl
  by_cases e : i = j
  · subst e
    have hn : x ∉ p.drop (i + 1) := by
      intro hmem
      obtain ⟨k, hk, he⟩ := List.mem_iff_getElem.1 hmem
      simp at hk
      refine hlast (i + 1 + k) (by omega) (by omega) ?_
      rw [List.getElem_drop] at he
      simp [List.getD_eq_getElem?_getD, show i + 1 + k < p.length by omega, he]
    exact aft_none hn
  · have hg : ∀ k, i + 1 + k < p.length → (p.drop (i + 1)).getD k 0 = p.getD (i + 1 + k) 0 := by
      intro k hk; simp [List.getD_eq_getElem?_getD, List.getElem?_drop]
    rw [key (p.drop (i + 1)) (j - i - 1) (by simp; omega) (by rw [hg _ (by omega), show i + 1 + (j - i - 1) = j by omega]; exact hx) (fun k h1 h2 => by simp at h2; rw [hg _ (by omega)]; exact hlast _ (by omega) (by omega))]
    rw [List.drop_drop]; congr 1; omega

/-- Without loops: so many steps at most. -/
def cutf : Nat → List Int → List Int
  | 0, _ => []
  | _ + 1, [] => []
  | f + 1, x :: r => x :: cutf f (aft x r)
def cut (l : List Int) : List Int := cutf l.length l
theorem cutf_eq (f g : Nat) (l : List Int) (hf : l.length ≤ f) (hg : l.length ≤ g) : cutf f l = cutf g l := by
  induction f generalizing g l with
  | zero =>
    obtain rfl : l = [] := List.length_eq_zero_iff.1 (by omega)
    cases g <;> rfl
  | succ f ih =>
    cases l with
    | nil => cases g <;> rfl
    | cons x r =>
      cases g with
      | zero => simp at hg
      | succ g =>
        have := aft_length x r
        simp at hf hg
        rw [cutf, cutf, ih g (aft x r) (by omega) (by omega)]
theorem cut_nil : cut [] = [] := rfl
theorem cut_cons (x : Int) (r : List Int) : cut (x :: r) = x :: cut (aft x r) := by
  have := aft_length x r
  unfold cut
  rw [List.length_cons, cutf, cutf_eq _ (aft x r).length (aft x r) this (Nat.le_refl _)]
theorem cut_ind {P : List Int → Prop} (h0 : P []) (h1 : ∀ x r, P (aft x r) → P (x :: r)) (l : List Int) : P l := by
  suffices h : ∀ n, ∀ l : List Int, l.length ≤ n → P l from h l.length l (Nat.le_refl _)
  intro n
  induction n with
  | zero => intro l hl; obtain rfl : l = [] := List.length_eq_zero_iff.1 (by omega); exact h0
  | succ n ih =>
    intro l hl
    cases l with
    | nil => exact h0
    | cons x r => have := aft_length x r; simp at hl; exact h1 x r (ih _ (by omega))
theorem cut_sub (l : List Int) : ∀ y ∈ cut l, y ∈ l := by
  refine cut_ind (P := fun l => ∀ y ∈ cut l, y ∈ l) (by simp [cut_nil]) (fun x r ih y hy => ?_) l
  rw [cut_cons] at hy
  rcases List.mem_cons.1 hy with rfl | hy
  · simp
  · exact List.mem_cons_of_mem _ (aft_sub x r y (ih y hy))
theorem cut_nodup (l : List Int) : (cut l).Nodup := by
  refine cut_ind (P := fun l => (cut l).Nodup) (by simp [cut_nil]) (fun x r ih => ?_) l
  rw [cut_cons]
  exact List.nodup_cons.2 ⟨fun h => not_mem_aft x r (cut_sub _ _ h), ih⟩
theorem cut_self {l : List Int} (h : l.Nodup) : cut l = l := by
  induction l with
  | nil => rfl
  | cons x r ih =>
    obtain ⟨h1, h2⟩ := List.nodup_cons.1 h
    rw [cut_cons, aft_none h1, ih h2]
theorem cut_cut (l : List Int) : cut (cut l) = cut l := cut_self (cut_nodup l)
theorem cut_length (l : List Int) : (cut l).length ≤ l.length := by
  refine cut_ind (P := fun l => (cut l).length ≤ l.length) (by simp [cut_nil]) (fun x r ih => ?_) l
  have := aft_length x r
  rw [cut_cons]; simp; omega
theorem cut_pos {l : List Int} (h : 0 < l.length) : 0 < (cut l).length := by
  cases l with
  | nil => simp at h
  | cons x r => rw [cut_cons]; simp
theorem cut_first {l : List Int} : (cut l).getD 0 0 = l.getD 0 0 := by
  cases l with
  | nil => rfl
  | cons x r => rw [cut_cons]; rfl
theorem last_cons {x : Int} {r : List Int} (h : r ≠ []) : (x :: r).getD ((x :: r).length - 1) 0 = r.getD (r.length - 1) 0 := by
  cases r with
  | nil => exact absurd rfl h
  | cons y r => simp
theorem last_append {p r : List Int} (h : r ≠ []) : (p ++ r).getD ((p ++ r).length - 1) 0 = r.getD (r.length - 1) 0 := by
  induction p with
  | nil => rfl
  | cons y p ih => rw [List.cons_append, last_cons (by simp [h]), ih]
theorem cut_last (l : List Int) : (cut l).getD ((cut l).length - 1) 0 = l.getD (l.length - 1) 0 := by
  refine cut_ind (P := fun l => (cut l).getD ((cut l).length - 1) 0 = l.getD (l.length - 1) 0) rfl (fun x r ih => ?_) l
  rw [cut_cons]
  by_cases he : aft x r = []
  · rw [he, cut_nil]
    by_cases hx : x ∈ r
    · obtain ⟨p, hp⟩ := aft_parts hx
      rw [he] at hp
      have e4 : x :: r = (x :: p) ++ [x] := by rw [hp]; rfl
      rw [e4, last_append (by simp)]
    · rw [aft_none hx] at he
      rw [he]
  · have hc : cut (aft x r) ≠ [] := by
      intro e
      have := cut_pos (List.length_pos_iff.2 he)
      rw [e] at this; simp at this
    rw [last_cons hc, ih]
    by_cases hx : x ∈ r
    · obtain ⟨p, hp⟩ := aft_parts hx
      have e2 : (x :: r).getD ((x :: r).length - 1) 0 = (aft x r).getD ((aft x r).length - 1) 0 := by
        have e3 : x :: r = (x :: p ++ [x]) ++ aft x r := by simp; exact hp
        rw [e3, last_append he]
      rw [e2]
    · rw [aft_none hx]; rw [aft_none hx] at he; rw [last_cons he]
/-- What was told, and what is still to come. -/
theorem cut_step {p out : List Int} {i j : Nat} {x : Int} (h : cut p = out ++ cut (p.drop i)) (hi : i < p.length) (hx : p.getD i 0 = x) (hij : i ≤ j) (hj : j < p.length) (hxj : p.getD j 0 = x) (hlast : ∀ k, j < k → k < p.length → p.getD k 0 ≠ x) :
    cut p = (out ++ [x]) ++ cut (p.drop (j + 1)) := by
  have e : p.drop i = x :: p.drop (i + 1) := by
    rw [List.drop_eq_getElem_cons hi]; congr 1
    rw [← hx]; simp [List.getD_eq_getElem?_getD, hi]
  rw [h, e, cut_cons, aft_drop hij hj hxj hlast]
  simp

/-- Without its loops a walk is a walk, and costs no more where no edge costs less than 0. -/
theorem wc_nonneg {es : List E} (hp : ∀ e ∈ es, 0 ≤ e.2.2) (p : List Int) (s : Int) (h : wc es p = some s) : 0 ≤ s := by
  induction p generalizing s with
  | nil => cases h
  | cons u r ih =>
    cases r with
    | nil => cases h; exact Int.le_refl _
    | cons v r =>
      cases hc : chp u v es with
      | none => rw [wc_gone hc] at h; cases h
      | some c =>
        rw [wc_on hc] at h
        cases h2 : wc es (v :: r) with
        | none => rw [h2] at h; cases h
        | some t =>
          rw [h2] at h
          simp at h
          have := ih t h2
          obtain ⟨⟨e, he, _, _, rfl⟩, _⟩ := chp_some hc
          have := hp e he
          omega
theorem wc_aft {es : List E} {x : Int} {r : List Int} {s : Int} (h : wc es (x :: r) = some s) : ∃ t, wc es (x :: aft x r) = some t ∧ ((∀ e ∈ es, 0 ≤ e.2.2) → t ≤ s) := by
  by_cases hx : x ∈ r
  · obtain ⟨p, hp⟩ := aft_parts hx
    rw [hp, show x :: (p ++ x :: aft x r) = (x :: p) ++ x :: aft x r from rfl, wc_parts] at h
    cases h1 : wc es (x :: p ++ [x]) with
    | none => rw [h1] at h; cases h
    | some a =>
      cases h2 : wc es (x :: aft x r) with
      | none => rw [h1, h2] at h; cases h
      | some t =>
        rw [h1, h2] at h
        simp at h
        exact ⟨t, rfl, fun hpos => by have := wc_nonneg hpos _ _ h1; omega⟩
  · exact ⟨s, by rw [aft_none hx]; exact h, fun _ => Int.le_refl _⟩
theorem wc_cut (es : List E) (l : List Int) : ∀ s, wc es l = some s → ∃ t, wc es (cut l) = some t ∧ ((∀ e ∈ es, 0 ≤ e.2.2) → t ≤ s) := by
  refine cut_ind (P := fun l => ∀ s, wc es l = some s → ∃ t, wc es (cut l) = some t ∧ ((∀ e ∈ es, 0 ≤ e.2.2) → t ≤ s)) (fun s h => by cases h) (fun x r ih s h => ?_) l
  obtain ⟨t, ht, hle⟩ := wc_aft h
  rw [cut_cons]
  cases ha : aft x r with
  | nil => rw [ha] at ht; exact ⟨t, ht, hle⟩
  | cons y r' =>
    rw [ha] at ht ih
    rw [cut_cons]
    cases hc : chp x y es with
    | none => rw [wc_gone hc] at ht; cases ht
    | some c =>
      rw [wc_on hc] at ht
      cases h2 : wc es (y :: r') with
      | none => rw [h2] at ht; cases ht
      | some t2 =>
        rw [h2] at ht
        simp at ht
        obtain ⟨t3, h3, h4⟩ := ih t2 h2
        rw [cut_cons] at h3
        refine ⟨c + t3, by rw [wc_on hc, h3]; rfl, fun hp => ?_⟩
        have := h4 hp
        have := hle hp
        omega
theorem wcode_cut {n : Int} {es : List E} {p : List Int} (h : (wcode n es p).2 = 0) : (wcode n es (cut p)).2 = 0 ∧ ((wcode n es (cut p)).1 ≤ (wcode n es p).1 ∨ nps n es ≠ 0) := by
  obtain ⟨h0, h1, h2, h3, h4⟩ := wcode_ok h
  obtain ⟨t, ht, hle⟩ := wc_cut es p _ h4
  have hl := cut_length p
  have hp := cut_pos (l := p) (by omega)
  have ha : (cut p).all (plc n) = true := List.all_eq_true.2 (fun x hx => List.all_eq_true.1 h3 x (cut_sub p x hx))
  rw [wcode_some h0 (by omega) (by omega) ha ht]
  refine ⟨rfl, ?_⟩
  by_cases hn : nps n es = 0
  · refine .inl (hle (fun e he => ?_))
    unfold nps at hn
    rw [if_neg (by simp [h0])] at hn
    split at hn
    · rename_i hall
      have := of_decide_eq_true (List.all_eq_true.1 hall e he)
      omega
    · cases hn
  · exact .inr hn
end Go.Proofs.Ytefikbjjdldomaa.Cm
namespace Go.Proofs.Ytefikbjjdldomaa.Dm
open Nm Wm
set_option linter.unusedSimpArgs false

/-- A right net of costs above 0. -/
structure Pn (N : Nat) (es : List E) : Prop where
  n1 : 1 ≤ N
  n64 : N ≤ 64
  len : es.length ≤ 600
  ok : ∀ e ∈ es, 0 ≤ e.1 ∧ e.1 < N ∧ 0 ≤ e.2.1 ∧ e.2.1 < N ∧ 1 ≤ e.2.2 ∧ e.2.2 ≤ 10000
theorem pn_of {n : Int} {es : List E} (h : nps n es = 0) : Gn n es ∧ Pn n.toNat es ∧ ((n.toNat : Nat) : Int) = n := by
  have h0 : nck n es = 0 := by
    by_cases h0 : nck n es = 0
    · exact h0
    · rw [nps_bad h0] at h; exact absurd h h0
  have hg := nck_zero.1 h0
  unfold nps at h
  rw [if_neg (by simp [h0])] at h
  split at h
  · rename_i hall
    have hn : ((n.toNat : Nat) : Int) = n := by have := hg.n1; omega
    refine ⟨hg, ⟨by have := hg.n1; omega, by have := hg.n64; omega, hg.len, fun e he => ?_⟩, hn⟩
    have h1 := hg.ok e he
    have h2 := of_decide_eq_true (List.all_eq_true.1 hall e he)
    rw [hn]
    omega
  · cases h
theorem Pn.nat {N : Nat} {es : List E} (h : Pn N es) {e : E} (he : e ∈ es) : e.1.toNat < N ∧ e.2.1.toNat < N ∧ 1 ≤ e.2.2 ∧ e.2.2 ≤ 10000 := by
  have := h.ok e he; omega

def upd (d : Nat → Int) (y : Nat) (x : Int) : Nat → Int := fun i => if i = y then x else d i
theorem upd_same (d : Nat → Int) (y : Nat) (x : Int) : upd d y x y = x := if_pos rfl
theorem upd_other (d : Nat → Int) {y i : Nat} (x : Int) (h : i ≠ y) : upd d y x i = d i := if_neg h

def cntf : Nat → (Nat → Bool) → Nat
  | 0, _ => 0
  | n + 1, p => cntf n p + if p n then 1 else 0
theorem cntf_le (n : Nat) (p : Nat → Bool) : cntf n p ≤ n := by
  induction n with
  | zero => simp [cntf]
  | succ n ih => rw [cntf]; split <;> omega
theorem cntf_mono (n : Nat) (p q : Nat → Bool) (h : ∀ i, i < n → p i = true → q i = true) : cntf n p ≤ cntf n q := by
  induction n with
  | zero => simp [cntf]
  | succ n ih =>
    rw [cntf, cntf]
    have := ih (fun i hi => h i (by omega))
    by_cases hp : p n = true
    · rw [if_pos hp, if_pos (h n (by omega) hp)]; omega
    · rw [if_neg hp]; omega
theorem cntf_lt (n : Nat) (p q : Nat → Bool) (h : ∀ i, i < n → p i = true → q i = true) (u : Nat) (hu : u < n) (hq : q u = true) (hp : p u = false) : cntf n p + 1 ≤ cntf n q := by
  induction n with
  | zero => omega
  | succ n ih =>
    rw [cntf, cntf]
    by_cases e : u = n
    · subst e
      have := cntf_mono u p q (fun i hi => h i (by omega))
      rw [if_pos hq, if_neg (by simp [hp])]; omega
    · have := ih (fun i hi => h i (by omega)) (by omega)
      by_cases hpn : p n = true
      · rw [if_pos hpn, if_pos (h n (by omega) hpn)]; omega
      · rw [if_neg hpn]; omega
/-- How many cost less than x. -/
def rk (N : Nat) (d : Nat → Int) (x : Int) : Nat := cntf N (fun i => decide (d i < x))
theorem rk_lt {N : Nat} {d : Nat → Int} {u : Nat} {x : Int} (hu : u < N) (h : d u < x) : rk N d (d u) + 1 ≤ rk N d x := by
  refine cntf_lt N _ _ (fun i _ hi => ?_) u hu (by simp [h]) (by simp)
  have := of_decide_eq_true hi
  exact decide_eq_true (by omega)
theorem rk_less {N : Nat} {d : Nat → Int} {v : Nat} (hv : v < N) : rk N d (d v) + 1 ≤ N := by
  have h1 := cntf_lt N (fun i => decide (d i < d v)) (fun _ => true) (fun _ _ _ => rfl) v hv rfl (by simp)
  have h2 := cntf_le N (fun _ => true)
  unfold rk; omega

/-- Each cost but the first's is had over an edge. -/
def Sup (N : Nat) (es : List E) (s : Nat) (d : Nat → Int) : Prop := ∀ v, v < N → v ≠ s → d v < far → ∃ e ∈ es, e.2.1.toNat = v ∧ d e.1.toNat < far ∧ d e.1.toNat + e.2.2 = d v
theorem sup_rk {N : Nat} {es : List E} {s : Nat} {d : Nat → Int} (hp : Pn N es) (h0 : d s = 0) (hlo : ∀ v, v < N → 0 ≤ d v) (hs : Sup N es s d) : ∀ v, v < N → d v < far → d v ≤ 10000 * (rk N d (d v) : Nat) := by
  suffices h : ∀ m : Nat, ∀ v, v < N → (d v).toNat ≤ m → d v < far → d v ≤ 10000 * (rk N d (d v) : Nat) from fun v hv hf => h _ v hv (Nat.le_refl _) hf
  intro m
  induction m with
  | zero => intro v hv hm hf; have := hlo v hv; omega
  | succ m ih =>
    intro v hv hm hf
    by_cases e : v = s
    · subst e; rw [h0]; omega
    · obtain ⟨x, hx, hxv, hxf, heq⟩ := hs v hv e hf
      obtain ⟨a, b, c1, c2⟩ := hp.nat hx
      have h1 := ih x.1.toNat a (by have := hlo v hv; have := hlo _ a; omega) hxf
      have h2 := rk_lt (N := N) (d := d) a (show d x.1.toNat < d v by omega)
      omega
theorem sup_bound {N : Nat} {es : List E} {s : Nat} {d : Nat → Int} (hp : Pn N es) (h0 : d s = 0) (hlo : ∀ v, v < N → 0 ≤ d v) (hs : Sup N es s d) {v : Nat} (hv : v < N) (hf : d v < far) : d v ≤ 640000 := by
  have h1 := sup_rk hp h0 hlo hs v hv hf
  have h2 := rk_less (N := N) (d := d) hv
  have h3 := hp.n64
  omega

/-- What it costs from s. -/
structure IsD (N : Nat) (es : List E) (s : Nat) (d : Nat → Int) : Prop where
  s0 : d s = 0
  lo : ∀ v, v < N → 0 ≤ d v
  hi : ∀ v, v < N → d v ≤ far
  rel : ∀ e ∈ es, d e.1.toNat < far → d e.2.1.toNat ≤ d e.1.toNat + e.2.2
  sup : Sup N es s d
theorem IsD.bound {N : Nat} {es : List E} {s : Nat} {d : Nat → Int} (h : IsD N es s d) (hp : Pn N es) {v : Nat} (hv : v < N) (hf : d v < far) : d v ≤ 640000 := sup_bound hp h.s0 h.lo h.sup hv hf
theorem IsD.le {N : Nat} {es : List E} {s : Nat} {d d' : Nat → Int} (hp : Pn N es) (h : IsD N es s d) (h' : IsD N es s d') : ∀ v, v < N → d v ≤ d' v := by
  have hF : far = 1099511627776 := rfl
  suffices hh : ∀ m : Nat, ∀ v, v < N → (d' v).toNat ≤ m → d v ≤ d' v from fun v hv => hh _ v hv (Nat.le_refl _)
  intro m
  induction m with
  | zero =>
    intro v hv hm
    have h0 := h'.lo v hv
    by_cases e : v = s
    · subst e; rw [h.s0, h'.s0]; exact Int.le_refl _
    · obtain ⟨x, hx, hxv, hxf, heq⟩ := h'.sup v hv e (by omega)
      obtain ⟨a, b, c1, c2⟩ := hp.nat hx
      have := h'.lo _ a
      omega
  | succ m ih =>
    intro v hv hm
    by_cases e : v = s
    · subst e; rw [h.s0, h'.s0]; exact Int.le_refl _
    · by_cases hf : d' v < far
      · obtain ⟨x, hx, hxv, hxf, heq⟩ := h'.sup v hv e hf
        obtain ⟨a, b, c1, c2⟩ := hp.nat hx
        have h1 := ih x.1.toNat a (by have := h'.lo _ a; have := h'.lo v hv; omega)
        have h2 := h.rel x hx (by omega)
        rw [hxv] at h2
        omega
      · have := h.hi v hv; have := h'.hi v hv; omega
theorem IsD.eq {N : Nat} {es : List E} {s : Nat} {d d' : Nat → Int} (hp : Pn N es) (h : IsD N es s d) (h' : IsD N es s d') {v : Nat} (hv : v < N) : d v = d' v := by
  have := h.le hp h' v hv
  have := h'.le hp h v hv
  omega
theorem IsD.congr {N : Nat} {es : List E} {s : Nat} {d d' : Nat → Int} (hp : Pn N es) (h : IsD N es s d) (hs : s < N) (he : ∀ v, v < N → d v = d' v) : IsD N es s d' := by
  refine ⟨by rw [← he s hs]; exact h.s0, fun v hv => by rw [← he v hv]; exact h.lo v hv, fun v hv => by rw [← he v hv]; exact h.hi v hv, fun e hm => ?_, fun v hv hne hf => ?_⟩
  · obtain ⟨a, b, _⟩ := hp.nat hm
    rw [← he _ a, ← he _ b]; exact h.rel e hm
  · rw [← he v hv] at hf
    obtain ⟨x, hx, hxv, hxf, heq⟩ := h.sup v hv hne hf
    obtain ⟨a, b, _⟩ := hp.nat hx
    exact ⟨x, hx, hxv, by rw [← he _ a]; exact hxf, by rw [← he _ a, ← he v hv]; exact heq⟩

/-- While it is looked for: k is the cost up to which all is done, qs is what waits. -/
structure Inv (N : Nat) (es : List E) (s : Nat) (K : Int) (d : Nat → Int) (qs : List (Int × Int)) (ex : Nat → Prop) : Prop where
  s0 : d s = 0
  lo : ∀ v, v < N → 0 ≤ d v
  hi : ∀ v, v < N → d v ≤ far
  sup : ∀ v, v < N → v ≠ s → d v < far → ∃ e ∈ es, e.2.1.toNat = v ∧ d e.1.toNat ≤ K ∧ d e.1.toNat + e.2.2 = d v
  keys : ∀ q ∈ qs, 0 ≤ q.2 ∧ q.2.toNat < N ∧ d q.2.toNat ≤ q.1 ∧ K ≤ q.1 ∧ q.1 < far
  done : ∀ v, v < N → d v < far → ((d v, (v : Int)) ∈ qs ∨ ex v ∨ ∀ e ∈ es, e.1.toNat = v → d e.2.1.toNat ≤ d v + e.2.2)
  k0 : 0 ≤ K
  kf : K < far
theorem Inv.perm {N : Nat} {es : List E} {s : Nat} {K : Int} {d : Nat → Int} {qs rs : List (Int × Int)} {ex : Nat → Prop} (h : Inv N es s K d qs ex) (hp : rs.Perm qs) : Inv N es s K d rs ex :=
  ⟨h.s0, h.lo, h.hi, h.sup, fun q hq => h.keys q (hp.mem_iff.1 hq), fun v hv hf => (h.done v hv hf).imp_left (fun hm => hp.mem_iff.2 hm), h.k0, h.kf⟩
theorem Inv.sup' {N : Nat} {es : List E} {s : Nat} {K : Int} {d : Nat → Int} {qs : List (Int × Int)} {ex : Nat → Prop} (h : Inv N es s K d qs ex) : Sup N es s d := by
  intro v hv hne hf
  obtain ⟨e, he, h1, h2, h3⟩ := h.sup v hv hne hf
  exact ⟨e, he, h1, by have := h.kf; omega, h3⟩
def start (s : Nat) : Nat → Int := fun i => if i = s then 0 else far
theorem inv_start {N : Nat} {es : List E} {s : Nat} (hs : s < N) : Inv N es s 0 (start s) [(0, (s : Int))] (fun _ => False) := by
  refine ⟨if_pos rfl, fun v _ => ?_, fun v _ => ?_, fun v _ hne hf => ?_, fun q hq => ?_, fun v _ hf => ?_, Int.le_refl _, by decide⟩
  · unfold start; split <;> decide
  · unfold start; split <;> decide
  · unfold start at hf; rw [if_neg hne] at hf; exact absurd hf (by decide)
  · rw [List.mem_singleton.1 hq]
    refine ⟨by simp, by simpa using hs, ?_, Int.le_refl _, by show (0 : Int) < far; decide⟩
    simp [start]
  · by_cases e : v = s
    · subst e; exact .inl (by simp [start])
    · unfold start at hf; rw [if_neg e] at hf; exact absurd hf (by decide)
/-- The least is taken out, and counts no longer. -/
theorem inv_skip {N : Nat} {es : List E} {s : Nat} {K : Int} {d : Nat → Int} {p : Int × Int} {rs : List (Int × Int)} (h : Inv N es s K d (p :: rs) (fun _ => False)) (hmin : ∀ q ∈ rs, p.1 ≤ q.1) (hlt : d p.2.toNat < p.1) :
    Inv N es s p.1 d rs (fun _ => False) := by
  obtain ⟨a, b, c, e, hf⟩ := h.keys p (by simp)
  refine ⟨h.s0, h.lo, h.hi, fun v hv hne hf => ?_, fun q hq => ?_, fun v hv hf => ?_, by have := h.k0; omega, hf⟩
  · obtain ⟨x, hx, h1, h2, h3⟩ := h.sup v hv hne hf
    exact ⟨x, hx, h1, by omega, h3⟩
  · obtain ⟨a1, b1, c1, e1, f1⟩ := h.keys q (List.mem_cons_of_mem _ hq)
    exact ⟨a1, b1, c1, hmin q hq, f1⟩
  · rcases h.done v hv hf with hm | hm
    · rcases List.mem_cons.1 hm with hm | hm
      · rw [← hm] at hlt
        simp at hlt
      · exact .inl hm
    · exact .inr hm
/-- The least is taken out, and its edges are looked at: the first i of them are. -/
theorem inv_take {N : Nat} {es : List E} {s : Nat} {K : Int} {d : Nat → Int} {p : Int × Int} {rs : List (Int × Int)} (h : Inv N es s K d (p :: rs) (fun _ => False)) (hmin : ∀ q ∈ rs, p.1 ≤ q.1) (heq : ¬ d p.2.toNat < p.1) :
    Inv N es s p.1 d rs (fun v => v = p.2.toNat) ∧ d p.2.toNat = p.1 := by
  obtain ⟨a, b, c, e, hf⟩ := h.keys p (by simp)
  refine ⟨⟨h.s0, h.lo, h.hi, fun v hv hne hf => ?_, fun q hq => ?_, fun v hv hf => ?_, by have := h.k0; omega, hf⟩, by omega⟩
  · obtain ⟨x, hx, h1, h2, h3⟩ := h.sup v hv hne hf
    exact ⟨x, hx, h1, by omega, h3⟩
  · obtain ⟨a1, b1, c1, e1, f1⟩ := h.keys q (List.mem_cons_of_mem _ hq)
    exact ⟨a1, b1, c1, hmin q hq, f1⟩
  · rcases h.done v hv hf with hm | hm | hm
    · rcases List.mem_cons.1 hm with hm | hm
      · refine .inr (.inl ?_)
        rw [← hm]; simp
      · exact .inl hm
    · exact hm.elim
    · exact .inr (.inr hm)
def Rels (es : List E) (d : Nat → Int) (v : Nat) (i : Nat) : Prop := ∀ j, j < i → (at3 es j).1.toNat = v → d (at3 es j).2.1.toNat ≤ d v + (at3 es j).2.2
/-- One edge more is looked at: nothing turns. -/
theorem rels_same {es : List E} {d : Nat → Int} {v i : Nat} (h : Rels es d v i) (hno : (at3 es i).1.toNat = v → d (at3 es i).2.1.toNat ≤ d v + (at3 es i).2.2) : Rels es d v (i + 1) := by
  intro j hj hv
  rcases (show j < i ∨ j = i by omega) with h1 | rfl
  · exact h j h1 hv
  · exact hno hv
/-- One edge more is looked at, and leads on for less. -/
theorem inv_push {N : Nat} {es : List E} {s : Nat} {K : Int} {d : Nat → Int} {qs : List (Int × Int)} {v i y : Nat} {c : Int} {e : E} (hp : Pn N es) (h : Inv N es s K d qs (fun x => x = v)) (hv : d v = K) (he : e ∈ es) (hi : i < es.length) (hei : at3 es i = e) (hev : e.1.toNat = v) (hy : e.2.1.toNat = y) (hc : e.2.2 = c) (hr : Rels es d v i) (hlt : K + c < d y) :
    Inv N es s K (upd d y (K + c)) (qs ++ [(K + c, (y : Int))]) (fun x => x = v) ∧ upd d y (K + c) v = K ∧ Rels es (upd d y (K + c)) v (i + 1) := by
  obtain ⟨a, b, c1, c2⟩ := hp.nat he
  rw [hev] at a
  rw [hy] at b
  rw [hc] at c1 c2
  have hk0 := h.k0
  have hys : y ≠ s := fun e => by rw [e, h.s0] at hlt; omega
  have hvy : v ≠ y := fun e => by rw [← e, hv] at hlt; omega
  have hle : ∀ x, upd d y (K + c) x ≤ d x := fun x => by
    by_cases ex : x = y
    · rw [ex, upd_same]; omega
    · rw [upd_other _ _ ex]; exact Int.le_refl _
  have hhi := h.hi y b
  refine ⟨⟨by rw [upd_other _ _ (Ne.symm hys)]; exact h.s0, fun x hx => ?_, fun x hx => Int.le_trans (hle x) (h.hi x hx), fun x hx hne hf => ?_, fun q hq => ?_, fun x hx hf => ?_, hk0, h.kf⟩, by rw [upd_other _ _ hvy]; exact hv, fun j hj hjv => ?_⟩
  · by_cases ex : x = y
    · rw [ex, upd_same]; omega
    · rw [upd_other _ _ ex]; exact h.lo x hx
  · by_cases ex : x = y
    · subst ex
      exact ⟨e, he, hy, by rw [hev, upd_other _ _ hvy, hv]; exact Int.le_refl _, by rw [hev, upd_other _ _ hvy, hv, upd_same, hc]⟩
    · rw [upd_other _ _ ex] at hf ⊢
      obtain ⟨z, hz, h1, h2, h3⟩ := h.sup x hx hne hf
      have hzy : z.1.toNat ≠ y := fun e => by rw [e] at h2; omega
      exact ⟨z, hz, h1, by rw [upd_other _ _ hzy]; exact h2, by rw [upd_other _ _ hzy]; exact h3⟩
  · rcases List.mem_append.1 hq with hq | hq
    · obtain ⟨q1, q2, q3, q4, q5⟩ := h.keys q hq
      exact ⟨q1, q2, Int.le_trans (hle _) q3, q4, q5⟩
    · rw [List.mem_singleton.1 hq]
      refine ⟨by simp, by simpa using b, ?_, by show K ≤ K + c; omega, by show K + c < far; omega⟩
      simp [upd_same]
  · by_cases ex : x = y
    · subst ex
      rw [upd_same]
      exact .inl (by simp)
    · rw [upd_other _ _ ex] at hf ⊢
      rcases h.done x hx hf with hm | hm | hm
      · exact .inl (by simp [hm])
      · exact .inr (.inl hm)
      · exact .inr (.inr (fun z hz hzx => Int.le_trans (hle _) (hm z hz hzx)))
  · rw [upd_other _ _ hvy]
    rcases (show j < i ∨ j = i by omega) with h1 | rfl
    · exact Int.le_trans (hle _) (hr j h1 hjv)
    · rw [hei, hy, upd_same, hc, hv]; exact Int.le_refl _
/-- All edges are looked at. -/
theorem inv_done {N : Nat} {es : List E} {s : Nat} {K : Int} {d : Nat → Int} {qs : List (Int × Int)} {v : Nat} (h : Inv N es s K d qs (fun x => x = v)) (hr : Rels es d v es.length) : Inv N es s K d qs (fun _ => False) := by
  refine ⟨h.s0, h.lo, h.hi, h.sup, h.keys, fun x hx hf => ?_, h.k0, h.kf⟩
  rcases h.done x hx hf with hm | rfl | hm
  · exact .inl hm
  · refine .inr (.inr (fun e he hev => ?_))
    obtain ⟨j, hj, rfl⟩ := List.mem_iff_getElem.1 he
    have e3 : at3 es j = es[j] := by unfold at3; simp [hj]
    have := hr j hj (by rw [e3]; exact hev)
    rwa [e3] at this
  · exact .inr (.inr hm)
/-- Nothing waits any longer. -/
theorem inv_end {N : Nat} {es : List E} {s : Nat} {K : Int} {d : Nat → Int} (hp : Pn N es) (h : Inv N es s K d [] (fun _ => False)) : IsD N es s d := by
  refine ⟨h.s0, h.lo, h.hi, fun e he hf => ?_, h.sup'⟩
  obtain ⟨a, b, _⟩ := hp.nat he
  rcases h.done _ a hf with hm | hm | hm
  · simp at hm
  · exact hm.elim
  · exact hm e he rfl
/-- How much there is still to lose. -/
def phi : Nat → (Nat → Int) → Nat
  | 0, _ => 0
  | n + 1, d => phi n d + (min (d n) 700000).toNat
theorem phi_le (n : Nat) (d : Nat → Int) : phi n d ≤ n * 700000 := by
  induction n with
  | zero => simp [phi]
  | succ n ih => rw [phi]; omega
theorem phi_same (n : Nat) (d : Nat → Int) (y : Nat) (x : Int) (h : n ≤ y) : phi n (upd d y x) = phi n d := by
  induction n with
  | zero => rfl
  | succ n ih => rw [phi, phi, ih (by omega), upd_other _ _ (by omega)]
theorem phi_upd {n : Nat} {d : Nat → Int} {y : Nat} {x : Int} (hy : y < n) (h0 : 0 ≤ x) (h7 : x < 700000) (hlt : x < d y) : phi n (upd d y x) + 1 ≤ phi n d := by
  induction n with
  | zero => omega
  | succ n ih =>
    rw [phi, phi]
    by_cases e : y = n
    · subst e
      rw [phi_same _ _ _ _ (Nat.le_refl _), upd_same]
      omega
    · rw [upd_other _ _ (fun h => e h.symm)]
      have := ih (by omega)
      omega
theorem Inv.key {N : Nat} {es : List E} {s : Nat} {K : Int} {d : Nat → Int} {qs : List (Int × Int)} {ex : Nat → Prop} (hp : Pn N es) (h : Inv N es s K d qs ex) {v : Nat} (hv : v < N) (hk : d v = K) : K ≤ 640000 := by
  have := sup_bound hp h.s0 h.lo h.sup' hv (by have := h.kf; omega)
  omega

/-- One round of the document's spreading: the first k edges are looked at. -/
def nx (d : Nat → Int) (es : List E) : Nat → Nat → Int
  | 0 => d
  | k + 1 => if d (at3 es k).1.toNat < far then upd (nx d es k) (at3 es k).2.1.toNat (min (nx d es k (at3 es k).2.1.toNat) (d (at3 es k).1.toNat + (at3 es k).2.2)) else nx d es k
theorem nx_yes {d : Nat → Int} {es : List E} {k : Nat} (h : d (at3 es k).1.toNat < far) : nx d es (k + 1) = upd (nx d es k) (at3 es k).2.1.toNat (min (nx d es k (at3 es k).2.1.toNat) (d (at3 es k).1.toNat + (at3 es k).2.2)) := by rw [nx, if_pos h]
theorem nx_no {d : Nat → Int} {es : List E} {k : Nat} (h : ¬ d (at3 es k).1.toNat < far) : nx d es (k + 1) = nx d es k := by rw [nx, if_neg h]
theorem nx_step (d : Nat → Int) (es : List E) (k v : Nat) : nx d es (k + 1) v ≤ nx d es k v := by
  by_cases h : d (at3 es k).1.toNat < far
  · rw [nx_yes h]
    by_cases e : v = (at3 es k).2.1.toNat
    · subst e; rw [upd_same]; omega
    · rw [upd_other _ _ e]; exact Int.le_refl _
  · rw [nx_no h]; exact Int.le_refl _
theorem nx_mono (d : Nat → Int) (es : List E) (v : Nat) {j k : Nat} (h : j ≤ k) : nx d es k v ≤ nx d es j v := by
  induction k with
  | zero => obtain rfl : j = 0 := by omega
            exact Int.le_refl _
  | succ k ih =>
    rcases (show j ≤ k ∨ j = k + 1 by omega) with h1 | rfl
    · exact Int.le_trans (nx_step d es k v) (ih h1)
    · exact Int.le_refl _
theorem nx_rel {d : Nat → Int} {es : List E} {e : E} (he : e ∈ es) (hf : d e.1.toNat < far) : nx d es es.length e.2.1.toNat ≤ d e.1.toNat + e.2.2 := by
  obtain ⟨j, hj, rfl⟩ := List.mem_iff_getElem.1 he
  have e3 : at3 es j = es[j] := by unfold at3; simp [hj]
  have h1 := nx_mono d es (es[j]).2.1.toNat (show j + 1 ≤ es.length by omega)
  refine Int.le_trans h1 ?_
  rw [nx_yes (by rw [e3]; exact hf), e3, upd_same]
  omega
theorem nx_from (d : Nat → Int) (es : List E) (k v : Nat) (hk : k ≤ es.length) : nx d es k v = d v ∨ ∃ e ∈ es, e.2.1.toNat = v ∧ d e.1.toNat < far ∧ nx d es k v = d e.1.toNat + e.2.2 := by
  induction k with
  | zero => exact .inl rfl
  | succ k ih =>
    have ih := ih (by omega)
    by_cases h : d (at3 es k).1.toNat < far
    · rw [nx_yes h]
      by_cases e : v = (at3 es k).2.1.toNat
      · subst e
        rw [upd_same]
        by_cases hm : nx d es k (at3 es k).2.1.toNat ≤ d (at3 es k).1.toNat + (at3 es k).2.2
        · rw [show min (nx d es k (at3 es k).2.1.toNat) (d (at3 es k).1.toNat + (at3 es k).2.2) = nx d es k (at3 es k).2.1.toNat by omega]
          exact ih
        · rw [show min (nx d es k (at3 es k).2.1.toNat) (d (at3 es k).1.toNat + (at3 es k).2.2) = d (at3 es k).1.toNat + (at3 es k).2.2 by omega]
          exact .inr ⟨at3 es k, mem_at (by omega), rfl, h, rfl⟩
      · rw [upd_other _ _ e]; exact ih
    · rw [nx_no h]; exact ih
/-- So many rounds. -/
def spr (es : List E) (d : Nat → Int) : Nat → Nat → Int
  | 0 => d
  | k + 1 => nx (spr es d k) es es.length
theorem nx_range {N : Nat} {es : List E} (hp : Pn N es) {d : Nat → Int} (h : ∀ v, v < N → 0 ≤ d v ∧ d v ≤ far) (k : Nat) (hk : k ≤ es.length) : ∀ v, v < N → 0 ≤ nx d es k v ∧ nx d es k v ≤ far := by
  intro v hv
  have h1 := nx_mono d es v (Nat.zero_le k)
  have h2 := h v hv
  have h3 : nx d es 0 v = d v := rfl
  rcases nx_from d es k v hk with h4 | ⟨e, he, _, _, h4⟩
  · omega
  · obtain ⟨a, _, c, _⟩ := hp.nat he
    have := h _ a
    omega
theorem spr_range {N : Nat} {es : List E} (hp : Pn N es) {d : Nat → Int} (h : ∀ v, v < N → 0 ≤ d v ∧ d v ≤ far) (k : Nat) : ∀ v, v < N → 0 ≤ spr es d k v ∧ spr es d k v ≤ far := by
  induction k with
  | zero => exact h
  | succ k ih => exact nx_range hp ih es.length (Nat.le_refl _)
theorem start_range (N s : Nat) : ∀ v, v < N → 0 ≤ start s v ∧ start s v ≤ far := by
  intro v _; unfold start; split <;> decide
theorem spr_ge {N : Nat} {es : List E} {s : Nat} {d : Nat → Int} (hp : Pn N es) (h : IsD N es s d) (k : Nat) : ∀ v, v < N → d v ≤ spr es (start s) k v := by
  induction k with
  | zero =>
    intro v hv
    show d v ≤ start s v
    unfold start
    split
    · rename_i e; rw [e, h.s0]; exact Int.le_refl _
    · exact h.hi v hv
  | succ k ih =>
    intro v hv
    show d v ≤ nx (spr es (start s) k) es es.length v
    rcases nx_from (spr es (start s) k) es es.length v (Nat.le_refl _) with h4 | ⟨e, he, h1, h2, h4⟩
    · rw [h4]; exact ih v hv
    · obtain ⟨a, _, c, _⟩ := hp.nat he
      have h5 := ih _ a
      have h6 := h.rel e he (by omega)
      rw [h1] at h6
      omega
theorem spr_zero (es : List E) (v k : Nat) : spr es (start v) k v ≤ 0 := by
  induction k with
  | zero => simp [spr, start]
  | succ k ih => exact Int.le_trans (nx_mono _ es v (Nat.zero_le _)) ih
theorem spr_le {N : Nat} {es : List E} {s : Nat} {d : Nat → Int} (hp : Pn N es) (h : IsD N es s d) (k : Nat) : ∀ v, v < N → rk N d (d v) ≤ k → spr es (start s) k v ≤ d v := by
  have hr := spr_range hp (start_range N s)
  induction k with
  | zero =>
    intro v hv hk
    show start s v ≤ d v
    by_cases e : v = s
    · subst e; rw [h.s0]; simp [start]
    · unfold start
      rw [if_neg e]
      by_cases hf : d v < far
      · obtain ⟨x, hx, h1, h2, h3⟩ := h.sup v hv e hf
        obtain ⟨a, _, c, _⟩ := hp.nat hx
        have := rk_lt (N := N) (d := d) a (show d x.1.toNat < d v by omega)
        omega
      · omega
  | succ k ih =>
    intro v hv hk
    by_cases hf : d v < far
    · by_cases e : v = s
      · subst e
        rw [h.s0]; exact spr_zero es v (k + 1)
      · obtain ⟨x, hx, h1, h2, h3⟩ := h.sup v hv e hf
        obtain ⟨a, _, c, _⟩ := hp.nat hx
        have h4 := rk_lt (N := N) (d := d) a (show d x.1.toNat < d v by omega)
        have h5 := ih _ a (by omega)
        have h6 := nx_rel (d := spr es (start s) k) hx (by omega)
        rw [h1] at h6
        show nx (spr es (start s) k) es es.length v ≤ d v
        omega
    · have := (hr (k + 1) v hv).2
      omega
theorem spr_is {N : Nat} {es : List E} {s : Nat} {d : Nat → Int} (hp : Pn N es) (h : IsD N es s d) : ∀ v, v < N → spr es (start s) (N - 1) v = d v := by
  intro v hv
  have h1 := spr_ge hp h (N - 1) v hv
  have h2 := spr_le hp h (N - 1) v hv (by have := rk_less (N := N) (d := d) hv; omega)
  omega

/-- Over a third place it costs no less. -/
theorem IsD.over {N : Nat} {es : List E} {s u : Nat} {d t : Nat → Int} (hp : Pn N es) (h : IsD N es s d) (h' : IsD N es u t) (hu : u < N) (hf : d u < far) : ∀ v, v < N → t v < far → d v ≤ d u + t v := by
  suffices hh : ∀ m : Nat, ∀ v, v < N → (t v).toNat ≤ m → t v < far → d v ≤ d u + t v from fun v hv => hh _ v hv (Nat.le_refl _)
  have hb := h.bound hp hu hf
  have hF : far = 1099511627776 := rfl
  intro m
  induction m with
  | zero =>
    intro v hv hm hv2
    have := h'.lo v hv
    by_cases e : v = u
    · subst e; omega
    · obtain ⟨x, hx, h1, h2, h3⟩ := h'.sup v hv e hv2
      obtain ⟨a, _, c, _⟩ := hp.nat hx
      have := h'.lo _ a
      omega
  | succ m ih =>
    intro v hv hm hv2
    by_cases e : v = u
    · subst e; rw [h'.s0]; omega
    · obtain ⟨x, hx, h1, h2, h3⟩ := h'.sup v hv e hv2
      obtain ⟨a, _, c, _⟩ := hp.nat hx
      have h4 := ih _ a (by have := h'.lo v hv; have := h'.lo _ a; omega) h2
      have h5 := h'.bound hp a h2
      have h6 := h.rel x hx (by omega)
      rw [h1] at h6
      omega
theorem pn_turn {N : Nat} {es : List E} (h : Pn N es) : Pn N (es.map trn) := by
  refine ⟨h.n1, h.n64, by simpa using h.len, fun e he => ?_⟩
  obtain ⟨x, hx, rfl⟩ := List.mem_map.1 he
  obtain ⟨a, b, c, d, e, f⟩ := h.ok x hx
  exact ⟨c, d, a, b, e, f⟩
theorem turn_turn (es : List E) : (es.map trn).map trn = es := by
  rw [List.map_map]
  have : (trn ∘ trn) = id := by funext ⟨a, b, c⟩; rfl
  rw [this, List.map_id]
theorem IsD.turn_le {N : Nat} {es : List E} {a b : Nat} {l m : Nat → Int} (hp : Pn N es) (h : IsD N es a l) (h' : IsD N (es.map trn) b m) : ∀ v, v < N → l v < far → m v < far → m a ≤ m v + l v ∧ m a < far := by
  suffices hh : ∀ k : Nat, ∀ v, v < N → (l v).toNat ≤ k → l v < far → m v < far → m a ≤ m v + l v ∧ m a < far from fun v hv => hh _ v hv (Nat.le_refl _)
  have hp' := pn_turn hp
  have hF : far = 1099511627776 := rfl
  intro k
  induction k with
  | zero =>
    intro v hv hk hf hm
    have := h.lo v hv
    by_cases e : v = a
    · subst e; omega
    · obtain ⟨x, hx, h1, h2, h3⟩ := h.sup v hv e hf
      obtain ⟨a, _, c, _⟩ := hp.nat hx
      have := h.lo _ a
      omega
  | succ k ih =>
    intro v hv hk hf hm
    by_cases e : v = a
    · subst e; rw [h.s0]; omega
    · obtain ⟨x, hx, h1, h2, h3⟩ := h.sup v hv e hf
      obtain ⟨q, _, c, c2⟩ := hp.nat hx
      have h4 := h'.rel (trn x) (List.mem_map.2 ⟨x, hx, rfl⟩)
      have e1 : (trn x).1 = x.2.1 := rfl
      have e2 : (trn x).2.1 = x.1 := rfl
      have e3 : (trn x).2.2 = x.2.2 := rfl
      rw [e1, e2, e3, h1] at h4
      have h5 := h4 hm
      have h6 := h'.bound hp' hv hm
      obtain ⟨h7, h8⟩ := ih _ q (by have := h.lo v hv; have := h.lo _ q; omega) h2 (by omega)
      exact ⟨by omega, h8⟩
theorem IsD.turn {N : Nat} {es : List E} {a b : Nat} {l m : Nat → Int} (hp : Pn N es) (ha : a < N) (hb : b < N) (h : IsD N es a l) (h' : IsD N (es.map trn) b m) : l b = m a := by
  have h'' : IsD N ((es.map trn).map trn) a l := by rw [turn_turn]; exact h
  have b0 : m b = 0 := h'.s0
  have a0 : l a = 0 := h.s0
  have l1 := h.hi b hb
  have l2 := h'.hi a ha
  have f0 : (0 : Int) < far := by decide
  by_cases hf : l b < far
  · obtain ⟨x1, x2⟩ := h.turn_le hp h' b hb hf (by omega)
    obtain ⟨y1, y2⟩ := h'.turn_le (pn_turn hp) h'' a ha x2 (by omega)
    omega
  · by_cases hm : m a < far
    · obtain ⟨y1, y2⟩ := h'.turn_le (pn_turn hp) h'' a ha hm (by omega)
      omega
    · omega
end Go.Proofs.Ytefikbjjdldomaa.Dm
namespace Go.Proofs.Ytefikbjjdldomaa.Hp
set_option linter.unusedSimpArgs false

/-- No greater: by the first number. -/
def Le (p q : Int × Int) : Prop := p.1 ≤ q.1
/-- Less, as the program tests it. -/
def ltb (p q : Int × Int) : Bool := decide (p.1 < q.1)
theorem ltb_true {p q : Int × Int} (h : ltb p q = true) : Le p q := by
  have := of_decide_eq_true h; unfold Le; omega
theorem ltb_false {p q : Int × Int} (h : ltb p q = false) : Le q p := by
  have := of_decide_eq_false h; unfold Le; omega
theorem Le.refl (p : Int × Int) : Le p p := Int.le_refl _
theorem Le.trans {p q r : Int × Int} (h1 : Le p q) (h2 : Le q r) : Le p r := Int.le_trans h1 h2
/-- Element number i. -/
def at' (l : List (Int × Int)) (i : Nat) : Int × Int := l.getD i (0, 0)
/-- Two elements exchanged. -/
def swp (l : List (Int × Int)) (i j : Nat) : List (Int × Int) := (l.set i (at' l j)).set j (at' l i)
theorem swp_length (l : List (Int × Int)) (i j : Nat) : (swp l i j).length = l.length := by simp [swp]
theorem at_swp (l : List (Int × Int)) (i j k : Nat) (hi : i < l.length) (hj : j < l.length) :
    at' (swp l i j) k = if k = j then at' l i else if k = i then at' l j else at' l k := by
  unfold at' swp at'
  simp only [List.getD_eq_getElem?_getD, List.getElem?_set]
  by_cases h1 : k = j
  · subst h1; simp [hj]
  · by_cases h2 : k = i
    · subst h2; simp [h1, Ne.symm h1, hi]
    · simp [h1, h2, Ne.symm h1, Ne.symm h2]
theorem swp_perm (l : List (Int × Int)) (i j : Nat) (hi : i < l.length) (hj : j < l.length) : (swp l i j).Perm l := by
  unfold swp at'
  simp only [List.getD_eq_getElem?_getD, List.getElem?_eq_getElem hi, List.getElem?_eq_getElem hj, Option.getD_some]
  exact List.set_set_perm hi hj
/-- A heap: none is less than its parent. -/
def IsHeap (l : List (Int × Int)) : Prop := ∀ i, 0 < i → i < l.length → Le (at' l ((i - 1) / 2)) (at' l i)
/-- A heap but for k, which may be less than its parent. -/
def UpAt (l : List (Int × Int)) (k : Nat) : Prop :=
  (∀ i, 0 < i → i < l.length → i ≠ k → Le (at' l ((i - 1) / 2)) (at' l i)) ∧
  (0 < k → ∀ i, 0 < i → i < l.length → (i - 1) / 2 = k → Le (at' l ((k - 1) / 2)) (at' l i))
/-- A heap but for k, which may be greater than its children. -/
def DownAt (l : List (Int × Int)) (k : Nat) : Prop :=
  (∀ i, 0 < i → i < l.length → (i - 1) / 2 ≠ k → Le (at' l ((i - 1) / 2)) (at' l i)) ∧
  (0 < k → ∀ i, 0 < i → i < l.length → (i - 1) / 2 = k → Le (at' l ((k - 1) / 2)) (at' l i))
theorem up_done0 {l : List (Int × Int)} (h : UpAt l 0) : IsHeap l := fun i h0 hi => h.1 i h0 hi (by omega)
theorem up_done {l : List (Int × Int)} {k : Nat} (h : UpAt l k) (hle : Le (at' l ((k - 1) / 2)) (at' l k)) : IsHeap l := by
  intro i h0 hi
  by_cases hk : i = k
  · subst hk; exact hle
  · exact h.1 i h0 hi hk
theorem up_step {l : List (Int × Int)} {k : Nat} (h : UpAt l k) (hk0 : 0 < k) (hk : k < l.length) (hlt : Le (at' l k) (at' l ((k - 1) / 2))) : UpAt (swp l k ((k - 1) / 2)) ((k - 1) / 2) := by
  have hp : (k - 1) / 2 < l.length := by omega
  have hpk : (k - 1) / 2 ≠ k := by omega
  refine ⟨fun i h0 hi hne => ?_, fun hp0 i h0 hi hpar => ?_⟩
  · rw [swp_length] at hi
    rw [at_swp l _ _ _ hk hp, at_swp l _ _ _ hk hp, if_neg hne]
    by_cases hik : i = k
    · subst hik
      rw [if_pos rfl, if_pos rfl]
      exact hlt
    · rw [if_neg hik]
      by_cases c1 : (i - 1) / 2 = (k - 1) / 2
      · rw [if_pos c1]
        have := h.1 i h0 hi hik
        rw [c1] at this
        exact hlt.trans this
      · rw [if_neg c1]
        by_cases c2 : (i - 1) / 2 = k
        · rw [if_pos c2]
          exact h.2 hk0 i h0 hi c2
        · rw [if_neg c2]
          exact h.1 i h0 hi hik
  · rw [swp_length] at hi
    rw [at_swp l _ _ _ hk hp, at_swp l _ _ _ hk hp]
    have d1 : ((k - 1) / 2 - 1) / 2 ≠ (k - 1) / 2 := by omega
    have d2 : ((k - 1) / 2 - 1) / 2 ≠ k := by omega
    have d3 : i ≠ (k - 1) / 2 := by omega
    rw [if_neg d1, if_neg d2, if_neg d3]
    have hq := h.1 ((k - 1) / 2) hp0 hp hpk
    by_cases hik : i = k
    · rw [if_pos hik]; exact hq
    · rw [if_neg hik]
      have := h.1 i h0 hi hik
      rw [hpar] at this
      exact hq.trans this
theorem down_done {l : List (Int × Int)} {k : Nat} (h : DownAt l k) (hle : ∀ i, 0 < i → i < l.length → (i - 1) / 2 = k → Le (at' l k) (at' l i)) : IsHeap l := by
  intro i h0 hi
  by_cases hk : (i - 1) / 2 = k
  · rw [hk]; exact hle i h0 hi hk
  · exact h.1 i h0 hi hk
theorem down_step {l : List (Int × Int)} {k c : Nat} (h : DownAt l k) (hc0 : 0 < c) (hc : c < l.length) (hpar : (c - 1) / 2 = k) (hlt : Le (at' l c) (at' l k))
    (hleast : ∀ i, 0 < i → i < l.length → (i - 1) / 2 = k → Le (at' l c) (at' l i)) : DownAt (swp l k c) c := by
  have hk : k < l.length := by omega
  refine ⟨fun i h0 hi hne => ?_, fun hp0 i h0 hi hpi => ?_⟩
  · rw [swp_length] at hi
    rw [at_swp l _ _ _ hk hc, at_swp l _ _ _ hk hc, if_neg hne]
    by_cases c1 : (i - 1) / 2 = k
    · rw [if_pos c1]
      have d1 : i ≠ k := by omega
      by_cases c2 : i = c
      · rw [if_pos c2]; exact hlt
      · rw [if_neg c2, if_neg d1]
        exact hleast i h0 hi c1
    · rw [if_neg c1]
      have d1 : i ≠ c := by intro e; subst e; exact c1 hpar
      rw [if_neg d1]
      by_cases c2 : i = k
      · rw [if_pos c2]
        have := h.2 (by omega) c hc0 hc hpar
        rw [← c2] at this
        exact this
      · rw [if_neg c2]
        exact h.1 i h0 hi c1
  · rw [swp_length] at hi
    rw [at_swp l _ _ _ hk hc, at_swp l _ _ _ hk hc, hpar]
    have d1 : k ≠ c := by omega
    have d2 : i ≠ c := by omega
    have d3 : i ≠ k := by omega
    rw [if_neg d1, if_pos rfl, if_neg d2, if_neg d3]
    have := h.1 i h0 hi (by omega)
    rw [hpi] at this
    exact this
theorem heap_least {l : List (Int × Int)} (h : IsHeap l) : ∀ i, i < l.length → Le (at' l 0) (at' l i) := by
  intro i
  induction i using Nat.strongRecOn with
  | ind i ih =>
    intro hi
    by_cases h0 : i = 0
    · subst h0; exact Le.refl _
    · exact (ih ((i - 1) / 2) (by omega) (by omega)).trans (h i (by omega) hi)
end Go.Proofs.Ytefikbjjdldomaa.Hp
namespace Go.Proofs.Ytefikbjjdldomaa.Jp
set_option linter.unusedSimpArgs false

/-- What waits: key, guess, place. -/
abbrev T3 := Int × Int × Int
/-- No greater: by key, guess, place. -/
def Le (p q : T3) : Prop := p.1 < q.1 ∨ (p.1 = q.1 ∧ (p.2.1 < q.2.1 ∨ (p.2.1 = q.2.1 ∧ p.2.2 ≤ q.2.2)))
/-- Less, as the program tests it. -/
def ltb (p q : T3) : Bool := decide (p.1 < q.1 ∨ (p.1 = q.1 ∧ (p.2.1 < q.2.1 ∨ (p.2.1 = q.2.1 ∧ p.2.2 < q.2.2))))
theorem ltb_true {p q : T3} (h : ltb p q = true) : Le p q := by
  have := of_decide_eq_true h; unfold Le; omega
theorem ltb_false {p q : T3} (h : ltb p q = false) : Le q p := by
  have := of_decide_eq_false h; unfold Le; omega
theorem Le.refl (p : T3) : Le p p := by unfold Le; omega
theorem Le.trans {p q r : T3} (h1 : Le p q) (h2 : Le q r) : Le p r := by unfold Le at *; omega
/-- Element number i. -/
def at' (l : List (T3)) (i : Nat) : T3 := l.getD i (0, 0, 0)
/-- Two elements exchanged. -/
def swp (l : List (T3)) (i j : Nat) : List (T3) := (l.set i (at' l j)).set j (at' l i)
theorem swp_length (l : List (T3)) (i j : Nat) : (swp l i j).length = l.length := by simp [swp]
theorem at_swp (l : List (T3)) (i j k : Nat) (hi : i < l.length) (hj : j < l.length) :
    at' (swp l i j) k = if k = j then at' l i else if k = i then at' l j else at' l k := by
  unfold at' swp at'
  simp only [List.getD_eq_getElem?_getD, List.getElem?_set]
  by_cases h1 : k = j
  · subst h1; simp [hj]
  · by_cases h2 : k = i
    · subst h2; simp [h1, Ne.symm h1, hi]
    · simp [h1, h2, Ne.symm h1, Ne.symm h2]
theorem swp_perm (l : List (T3)) (i j : Nat) (hi : i < l.length) (hj : j < l.length) : (swp l i j).Perm l := by
  unfold swp at'
  simp only [List.getD_eq_getElem?_getD, List.getElem?_eq_getElem hi, List.getElem?_eq_getElem hj, Option.getD_some]
  exact List.set_set_perm hi hj
/-- A heap: none is less than its parent. -/
def IsHeap (l : List (T3)) : Prop := ∀ i, 0 < i → i < l.length → Le (at' l ((i - 1) / 2)) (at' l i)
/-- A heap but for k, which may be less than its parent. -/
def UpAt (l : List (T3)) (k : Nat) : Prop :=
  (∀ i, 0 < i → i < l.length → i ≠ k → Le (at' l ((i - 1) / 2)) (at' l i)) ∧
  (0 < k → ∀ i, 0 < i → i < l.length → (i - 1) / 2 = k → Le (at' l ((k - 1) / 2)) (at' l i))
/-- A heap but for k, which may be greater than its children. -/
def DownAt (l : List (T3)) (k : Nat) : Prop :=
  (∀ i, 0 < i → i < l.length → (i - 1) / 2 ≠ k → Le (at' l ((i - 1) / 2)) (at' l i)) ∧
  (0 < k → ∀ i, 0 < i → i < l.length → (i - 1) / 2 = k → Le (at' l ((k - 1) / 2)) (at' l i))
theorem up_done0 {l : List (T3)} (h : UpAt l 0) : IsHeap l := fun i h0 hi => h.1 i h0 hi (by omega)
theorem up_done {l : List (T3)} {k : Nat} (h : UpAt l k) (hle : Le (at' l ((k - 1) / 2)) (at' l k)) : IsHeap l := by
  intro i h0 hi
  by_cases hk : i = k
  · subst hk; exact hle
  · exact h.1 i h0 hi hk
theorem up_step {l : List (T3)} {k : Nat} (h : UpAt l k) (hk0 : 0 < k) (hk : k < l.length) (hlt : Le (at' l k) (at' l ((k - 1) / 2))) : UpAt (swp l k ((k - 1) / 2)) ((k - 1) / 2) := by
  have hp : (k - 1) / 2 < l.length := by omega
  have hpk : (k - 1) / 2 ≠ k := by omega
  refine ⟨fun i h0 hi hne => ?_, fun hp0 i h0 hi hpar => ?_⟩
  · rw [swp_length] at hi
    rw [at_swp l _ _ _ hk hp, at_swp l _ _ _ hk hp, if_neg hne]
    by_cases hik : i = k
    · subst hik
      rw [if_pos rfl, if_pos rfl]
      exact hlt
    · rw [if_neg hik]
      by_cases c1 : (i - 1) / 2 = (k - 1) / 2
      · rw [if_pos c1]
        have := h.1 i h0 hi hik
        rw [c1] at this
        exact hlt.trans this
      · rw [if_neg c1]
        by_cases c2 : (i - 1) / 2 = k
        · rw [if_pos c2]
          exact h.2 hk0 i h0 hi c2
        · rw [if_neg c2]
          exact h.1 i h0 hi hik
  · rw [swp_length] at hi
    rw [at_swp l _ _ _ hk hp, at_swp l _ _ _ hk hp]
    have d1 : ((k - 1) / 2 - 1) / 2 ≠ (k - 1) / 2 := by omega
    have d2 : ((k - 1) / 2 - 1) / 2 ≠ k := by omega
    have d3 : i ≠ (k - 1) / 2 := by omega
    rw [if_neg d1, if_neg d2, if_neg d3]
    have hq := h.1 ((k - 1) / 2) hp0 hp hpk
    by_cases hik : i = k
    · rw [if_pos hik]; exact hq
    · rw [if_neg hik]
      have := h.1 i h0 hi hik
      rw [hpar] at this
      exact hq.trans this
theorem down_done {l : List (T3)} {k : Nat} (h : DownAt l k) (hle : ∀ i, 0 < i → i < l.length → (i - 1) / 2 = k → Le (at' l k) (at' l i)) : IsHeap l := by
  intro i h0 hi
  by_cases hk : (i - 1) / 2 = k
  · rw [hk]; exact hle i h0 hi hk
  · exact h.1 i h0 hi hk
theorem down_step {l : List (T3)} {k c : Nat} (h : DownAt l k) (hc0 : 0 < c) (hc : c < l.length) (hpar : (c - 1) / 2 = k) (hlt : Le (at' l c) (at' l k))
    (hleast : ∀ i, 0 < i → i < l.length → (i - 1) / 2 = k → Le (at' l c) (at' l i)) : DownAt (swp l k c) c := by
  have hk : k < l.length := by omega
  refine ⟨fun i h0 hi hne => ?_, fun hp0 i h0 hi hpi => ?_⟩
  · rw [swp_length] at hi
    rw [at_swp l _ _ _ hk hc, at_swp l _ _ _ hk hc, if_neg hne]
    by_cases c1 : (i - 1) / 2 = k
    · rw [if_pos c1]
      have d1 : i ≠ k := by omega
      by_cases c2 : i = c
      · rw [if_pos c2]; exact hlt
      · rw [if_neg c2, if_neg d1]
        exact hleast i h0 hi c1
    · rw [if_neg c1]
      have d1 : i ≠ c := by intro e; subst e; exact c1 hpar
      rw [if_neg d1]
      by_cases c2 : i = k
      · rw [if_pos c2]
        have := h.2 (by omega) c hc0 hc hpar
        rw [← c2] at this
        exact this
      · rw [if_neg c2]
        exact h.1 i h0 hi c1
  · rw [swp_length] at hi
    rw [at_swp l _ _ _ hk hc, at_swp l _ _ _ hk hc, hpar]
    have d1 : k ≠ c := by omega
    have d2 : i ≠ c := by omega
    have d3 : i ≠ k := by omega
    rw [if_neg d1, if_pos rfl, if_neg d2, if_neg d3]
    have := h.1 i h0 hi (by omega)
    rw [hpi] at this
    exact this
theorem heap_least {l : List (T3)} (h : IsHeap l) : ∀ i, i < l.length → Le (at' l 0) (at' l i) := by
  intro i
  induction i using Nat.strongRecOn with
  | ind i ih =>
    intro hi
    by_cases h0 : i = 0
    · subst h0; exact Le.refl _
    · exact (ih ((i - 1) / 2) (by omega) (by omega)).trans (h i (by omega) hi)
end Go.Proofs.Ytefikbjjdldomaa.Jp
namespace Go.Proofs.Ytefikbjjdldomaa.Sk
open Nm Wm Dm
set_option linter.unusedSimpArgs false

/-- Costs so far (far, where there is none), and where each was got from. -/
structure S where
  c : Nat → Int
  p : Nat → Nat
/-- One edge, looked along from v. -/
def rx (h : Nat → Int) (ord : List Nat) (v : Nat) (e : E) (s : S) : S :=
  if e.1.toNat = v ∧ h e.2.1.toNat ≠ far ∧ ¬ e.2.1.toNat ∈ ord ∧ s.c v + e.2.2 < s.c e.2.1.toNat then ⟨upd s.c e.2.1.toNat (s.c v + e.2.2), fun i => if i = e.2.1.toNat then v else s.p i⟩ else s
def rxs (h : Nat → Int) (ord : List Nat) (v : Nat) (es : List E) (s : S) : Nat → S
  | 0 => s
  | k + 1 => rx h ord v (at3 es k) (rxs h ord v es s k)
/-- What waits. -/
def wts (s : S) (ord : List Nat) (v : Nat) : Bool := decide (s.c v < far ∧ ¬ v ∈ ord)
def bet (k h : Nat → Int) (a b : Nat) : Bool := decide (k a < k b ∨ (k a = k b ∧ (h a < h b ∨ (h a = h b ∧ a < b))))
/-- The first of the places below n that wait. -/
def pick (W : Nat → Bool) (k h : Nat → Int) : Nat → Option Nat
  | 0 => none
  | n + 1 => match pick W k h n with
    | none => if W n = true then some n else none
    | some b => if W n = true ∧ bet k h n b = true then some n else some b
theorem pick_none {W : Nat → Bool} {k h : Nat → Int} {n : Nat} (e : pick W k h n = none) : ∀ v, v < n → W v = false := by
  induction n with
  | zero => intro v hv; omega
  | succ n ih =>
    unfold pick at e
    cases e1 : pick W k h n with
    | none =>
      rw [e1] at e
      simp only at e
      intro v hv
      rcases (show v < n ∨ v = n by omega) with h1 | rfl
      · exact ih e1 v h1
      · cases e2 : W v
        · rfl
        · rw [if_pos e2] at e; cases e
    | some b =>
      rw [e1] at e
      simp only at e
      split at e <;> cases e
theorem bet_key {k h : Nat → Int} {a b : Nat} (e : bet k h a b = true) : k a ≤ k b := by
  have := of_decide_eq_true e; omega
theorem pick_some {W : Nat → Bool} {k h : Nat → Int} {n b : Nat} (e : pick W k h n = some b) : b < n ∧ W b = true ∧ ∀ v, v < n → W v = true → v ≠ b → bet k h b v = true := by
  induction n generalizing b with
  | zero => unfold pick at e; cases e
  | succ n ih =>
    unfold pick at e
    cases e1 : pick W k h n with
    | none =>
      rw [e1] at e
      simp only at e
      by_cases e2 : W n = true
      · rw [if_pos e2] at e
        cases e
        refine ⟨by omega, e2, fun v hv hw hne => ?_⟩
        have := pick_none e1 v (by omega)
        rw [this] at hw; cases hw
      · rw [if_neg e2] at e; cases e
    | some a =>
      rw [e1] at e
      simp only at e
      obtain ⟨h1, h2, h3⟩ := ih e1
      by_cases e2 : W n = true ∧ bet k h n a = true
      · rw [if_pos e2] at e
        cases e
        refine ⟨by omega, e2.1, fun v hv hw hne => ?_⟩
        by_cases ev : v = a
        · subst ev; exact e2.2
        · have b1 := of_decide_eq_true e2.2
          have b2 := of_decide_eq_true (h3 v (by omega) hw ev)
          exact decide_eq_true (by omega)
      · rw [if_neg e2] at e
        cases e
        refine ⟨by omega, h2, fun v hv hw hne => ?_⟩
        rcases (show v < n ∨ v = n by omega) with h4 | rfl
        · exact h3 v h4 hw hne
        · have h5 : ¬ bet k h v b = true := fun h => e2 ⟨hw, h⟩
          have h6 : ¬ (k v < k b ∨ (k v = k b ∧ (h v < h b ∨ (h v = h b ∧ v < b)))) := fun h => h5 (decide_eq_true h)
          exact decide_eq_true (by omega)
theorem pick_key {W : Nat → Bool} {k h : Nat → Int} {n b : Nat} (e : pick W k h n = some b) : ∀ v, v < n → W v = true → k b ≤ k v := by
  intro v hv hw
  by_cases ev : v = b
  · subst ev; omega
  · exact bet_key ((pick_some e).2.2 v hv hw ev)
/-- The search: none, if nothing waits any longer. -/
def sea (N : Nat) (es : List E) (h : Nat → Int) (key : Int → Int → Int) (t : Nat) : Nat → S → List Nat → Option (S × List Nat)
  | 0, _, _ => none
  | f + 1, s, ord => match pick (wts s ord) (fun v => key (s.c v) (h v)) h N with
    | none => none
    | some v => if v = t then some (s, ord ++ [v]) else sea N es h key t f (rxs h (ord ++ [v]) v es s es.length) (ord ++ [v])

/-! ### Looking along the edges -/
theorem rxs_in {h : Nat → Int} {ord : List Nat} {v : Nat} {es : List E} {s : S} (k y : Nat) (hy : y ∈ ord) : (rxs h ord v es s k).c y = s.c y ∧ (rxs h ord v es s k).p y = s.p y := by
  induction k with
  | zero => exact ⟨rfl, rfl⟩
  | succ k ih =>
    unfold rxs rx
    split
    · rename_i hc
      have hne : y ≠ (at3 es k).2.1.toNat := fun e => hc.2.2.1 (by rw [← e]; exact hy)
      simp only
      rw [upd_other _ _ hne, if_neg hne]
      exact ih
    · exact ih
theorem rxs_le {h : Nat → Int} {ord : List Nat} {v : Nat} {es : List E} {s : S} (k y : Nat) : (rxs h ord v es s k).c y ≤ s.c y := by
  induction k with
  | zero => exact Int.le_refl _
  | succ k ih =>
    unfold rxs rx
    split
    · rename_i hc
      simp only
      by_cases e : y = (at3 es k).2.1.toNat
      · subst e; rw [upd_same]; omega
      · rw [upd_other _ _ e]; exact ih
    · exact ih
theorem rxs_up {h : Nat → Int} {ord : List Nat} {v : Nat} {es : List E} {s : S} (k y : Nat) : (rxs h ord v es s (k + 1)).c y ≤ (rxs h ord v es s k).c y := by
  rw [rxs]; unfold rx
  split
  · rename_i hc
    simp only
    by_cases e : y = (at3 es k).2.1.toNat
    · subst e; rw [upd_same]; omega
    · rw [upd_other _ _ e]; exact Int.le_refl _
  · exact Int.le_refl _
theorem rxs_edge {h : Nat → Int} {ord : List Nat} {v : Nat} {es : List E} {s : S} (hv : v ∈ ord) (k i : Nat) (hi : i < k) (h1 : (at3 es i).1.toNat = v) (h2 : h (at3 es i).2.1.toNat ≠ far) (h3 : ¬ (at3 es i).2.1.toNat ∈ ord) : (rxs h ord v es s k).c (at3 es i).2.1.toNat ≤ s.c v + (at3 es i).2.2 := by
  induction k with
  | zero => omega
  | succ k ih =>
    rcases (show i < k ∨ i = k by omega) with h4 | rfl
    · exact Int.le_trans (rxs_up k _) (ih h4)
    · have hvv := (rxs_in (h := h) (v := v) (es := es) (s := s) i v hv).1
      unfold rxs rx
      by_cases hc : (rxs h ord v es s i).c v + (at3 es i).2.2 < (rxs h ord v es s i).c (at3 es i).2.1.toNat
      · rw [if_pos ⟨h1, h2, h3, hc⟩]
        simp only
        rw [upd_same, hvv]; omega
      · rw [if_neg (fun hh => hc hh.2.2.2)]
        rw [hvv] at hc; omega
theorem rxs_from {h : Nat → Int} {ord : List Nat} {v : Nat} {es : List E} {s : S} (hv : v ∈ ord) (k : Nat) (hk : k ≤ es.length) (y : Nat) : ((rxs h ord v es s k).c y = s.c y ∧ (rxs h ord v es s k).p y = s.p y) ∨ ((rxs h ord v es s k).p y = v ∧ h y ≠ far ∧ ¬ y ∈ ord ∧ ∃ e ∈ es, e.1.toNat = v ∧ e.2.1.toNat = y ∧ (rxs h ord v es s k).c y = s.c v + e.2.2) := by
  induction k with
  | zero => exact .inl ⟨rfl, rfl⟩
  | succ k ih =>
    have hvv := (rxs_in (h := h) (v := v) (es := es) (s := s) k v hv).1
    unfold rxs rx
    split
    · rename_i hc
      simp only
      by_cases e : y = (at3 es k).2.1.toNat
      · subst e
        right
        rw [upd_same, if_pos rfl, hvv]
        exact ⟨rfl, hc.2.1, hc.2.2.1, _, mem_at (by omega), hc.1, rfl, rfl⟩
      · rw [upd_other _ _ e, if_neg e]
        exact ih (by omega)
    · exact ih (by omega)

/-! ### The invariant -/
theorem nodup_le {l : List Nat} {N : Nat} (hn : l.Nodup) (hl : ∀ x ∈ l, x < N) : l.length ≤ N := by
  have key : ∀ l : List Nat, l.Nodup → (∀ x ∈ l, x < N) → l.length ≤ cntf N (fun i => decide (i ∈ l)) := by
    intro l
    induction l with
    | nil => intro _ _; exact Nat.zero_le _
    | cons x r ih =>
      intro hn hl
      rw [List.nodup_cons] at hn
      have h1 := ih hn.2 (fun y hy => hl y (by simp [hy]))
      have h2 := cntf_lt N (fun i => decide (i ∈ r)) (fun i => decide (i ∈ x :: r)) (fun i _ hi => decide_eq_true (by have := of_decide_eq_true hi; simp [this])) x (hl x (by simp)) (decide_eq_true (by simp)) (decide_eq_false hn.1)
      rw [List.length_cons]; omega
  exact Nat.le_trans (key l hn hl) (cntf_le _ _)
/-- The edges to places whose guess is not Far. -/
def lv (h : Nat → Int) (es : List E) : List E := es.filter fun e => decide (h e.2.1.toNat ≠ far)
theorem mem_lv {h : Nat → Int} {es : List E} {e : E} : e ∈ lv h es ↔ e ∈ es ∧ h e.2.1.toNat ≠ far := by unfold lv; simp [List.mem_filter]
theorem pn_lv {N : Nat} {es : List E} {h : Nat → Int} (hp : Pn N es) : Pn N (lv h es) :=
  ⟨hp.n1, hp.n64, Nat.le_trans (List.length_filter_le _ _) hp.len, fun e he => hp.ok e (mem_lv.1 he).1⟩
structure Inv (N : Nat) (es : List E) (a : Nat) (h : Nat → Int) (A B : Int) (d : Nat → Int) (s : S) (ord : List Nat) : Prop where
  nd : ord.Nodup
  inn : ∀ v ∈ ord, v < N ∧ s.c v < far ∧ h v ≠ far
  lo : ∀ v, v < N → d v ≤ s.c v
  hi : ∀ v, v < N → s.c v < far → s.c v ≤ 10000 * (ord.length : Int)
  top : ∀ v, v < N → s.c v ≤ far
  live : ∀ v, v < N → s.c v < far → h v ≠ far
  st : s.c a = 0
  ok : ∀ u ∈ ord, A * s.c u ≤ B * d u
  out : ∀ u ∈ ord, ∀ e ∈ lv h es, e.1.toNat = u → e.2.1.toNat ∈ ord ∨ s.c e.2.1.toNat ≤ s.c u + e.2.2
  pre : ∀ v, v < N → s.c v < far → (v = a ∧ s.c v = 0) ∨ (s.p v ∈ ord ∧ (∃ e ∈ es, e.1.toNat = s.p v ∧ e.2.1.toNat = v ∧ s.c (s.p v) + e.2.2 = s.c v) ∧ ∀ e ∈ es, e.1.toNat = s.p v → e.2.1.toNat = v → s.c v ≤ s.c (s.p v) + e.2.2)
/-- What is not looked from yet, and can be come to: something waits that leads to it for no more. -/
theorem Inv.reach {N a : Nat} {es : List E} {h : Nat → Int} {A B : Int} {d : Nat → Int} {s : S} {ord : List Nat} (hi : Inv N es a h A B d s ord) (hp : Pn N es) (hd : IsD N (lv h es) a d) (ha : a < N) (hA : 1 ≤ A) (hAB : A ≤ B) (hc : ∀ e ∈ es, h e.1.toNat ≤ e.2.2 + h e.2.1.toNat) :
    ∀ z, z < N → d z < far → ¬ z ∈ ord → ∃ y, y < N ∧ wts s ord y = true ∧ A * s.c y + B * h y ≤ B * (d z + h z) := by
  suffices key : ∀ m : Nat, ∀ z, z < N → (d z).toNat ≤ m → d z < far → ¬ z ∈ ord → ∃ y, y < N ∧ wts s ord y = true ∧ A * s.c y + B * h y ≤ B * (d z + h z) from fun z hz => key _ z hz (Nat.le_refl _)
  have hB : 0 ≤ B := by omega
  have hF : far = 1099511627776 := rfl
  intro m
  induction m with
  | zero =>
    intro z hz hm hf hno
    have h0 := hd.lo z hz
    by_cases hza : z = a
    · subst hza
      have h1 := hi.st
      refine ⟨z, hz, decide_eq_true ⟨by omega, hno⟩, ?_⟩
      rw [h1, hd.s0, Int.mul_zero, Int.zero_add, Int.zero_add]; exact Int.le_refl _
    · obtain ⟨e, he, e1, e2, e3⟩ := hd.sup z hz hza hf
      have hn := (pn_lv (h := h) hp).nat he
      have := hd.lo e.1.toNat hn.1
      omega
  | succ m ih =>
    intro z hz hm hf hno
    have h0 := hd.lo z hz
    by_cases hza : z = a
    · subst hza
      have h1 := hi.st
      refine ⟨z, hz, decide_eq_true ⟨by omega, hno⟩, ?_⟩
      rw [h1, hd.s0, Int.mul_zero, Int.zero_add, Int.zero_add]; exact Int.le_refl _
    · obtain ⟨e, he, e1, e2, e3⟩ := hd.sup z hz hza hf
      have hn := (pn_lv (h := h) hp).nat he
      have hx0 := hd.lo e.1.toNat hn.1
      have hcon := hc e (mem_lv.1 he).1
      by_cases hx : e.1.toNat ∈ ord
      · rcases hi.out _ hx e he rfl with h1 | h1
        · rw [e1] at h1; exact absurd h1 hno
        · rw [e1] at h1
          have hok := hi.ok _ hx
          have hlo := hi.lo z hz
          have hcx := (hi.inn _ hx).2.1
          have hxl := hi.hi _ hn.1 hcx
          have k1 : A * s.c z ≤ A * (s.c e.1.toNat + e.2.2) := Int.mul_le_mul_of_nonneg_left h1 (by omega)
          have k2 : A * e.2.2 ≤ B * e.2.2 := Int.mul_le_mul_of_nonneg_right hAB (by omega)
          have k3 : A * s.c z ≤ B * d z := by
            rw [← e3, Int.mul_add]
            rw [Int.mul_add] at k1
            omega
          have hl : ord.length ≤ N := nodup_le hi.nd (fun v hv => (hi.inn v hv).1)
          refine ⟨z, hz, decide_eq_true ⟨by have := hp.n64; omega, hno⟩, ?_⟩
          rw [Int.mul_add]; omega
      · obtain ⟨y, y1, y2, y3⟩ := ih e.1.toNat hn.1 (by omega) e2 hx
        refine ⟨y, y1, y2, Int.le_trans y3 ?_⟩
        rw [← e3, e1] at *
        exact Int.mul_le_mul_of_nonneg_left (by omega) hB
theorem wts_yes {s : S} {ord : List Nat} {v : Nat} (h : wts s ord v = true) : s.c v < far ∧ ¬ v ∈ ord := of_decide_eq_true h
/-- What is picked costs no more than the weight allows. -/
theorem Inv.pick_ok {N a v : Nat} {es : List E} {h : Nat → Int} {A B : Int} {d : Nat → Int} {s : S} {ord : List Nat} (hi : Inv N es a h A B d s ord) (hp : Pn N es) (hd : IsD N (lv h es) a d) (ha : a < N) (hA : 1 ≤ A) (hAB : A ≤ B) (hc : ∀ e ∈ es, h e.1.toNat ≤ e.2.2 + h e.2.1.toNat) (e : pick (wts s ord) (fun v => A * s.c v + B * h v) h N = some v) : A * s.c v ≤ B * d v := by
  obtain ⟨h1, h2, _⟩ := pick_some e
  obtain ⟨h3, h4⟩ := wts_yes h2
  have hlo := hi.lo v h1
  obtain ⟨y, y1, y2, y3⟩ := hi.reach hp hd ha hA hAB hc v h1 (by omega) h4
  have := pick_key e y y1 y2
  rw [Int.mul_add] at y3
  omega
/-- The invariant stands behind a place that is looked from. -/
theorem Inv.step {N a v : Nat} {es : List E} {h : Nat → Int} {A B : Int} {d : Nat → Int} {s : S} {ord : List Nat} (hi : Inv N es a h A B d s ord) (hp : Pn N es) (hd : IsD N (lv h es) a d) (ha : a < N) (hv : v < N) (hw : wts s ord v = true) (hok : A * s.c v ≤ B * d v) : Inv N es a h A B d (rxs h (ord ++ [v]) v es s es.length) (ord ++ [v]) := by
  have hF : far = 1099511627776 := rfl
  obtain ⟨w1, w2⟩ := wts_yes hw
  have hvm : v ∈ ord ++ [v] := by simp
  have hsub : ∀ u, u ∈ ord → u ∈ ord ++ [v] := fun u hu => by simp [hu]
  have same : ∀ u, u ∈ ord ++ [v] → (rxs h (ord ++ [v]) v es s es.length).c u = s.c u := fun u hu => (rxs_in es.length u hu).1
  have hlen : (ord ++ [v]).length = ord.length + 1 := by simp
  have hol : ord.length ≤ N := nodup_le hi.nd (fun v hv => (hi.inn v hv).1)
  have hcv := hi.hi v hv w1
  have hdv := hi.lo v hv
  have lo' : ∀ y, y < N → d y ≤ (rxs h (ord ++ [v]) v es s es.length).c y := by
    intro y hy
    rcases rxs_from (h := h) (es := es) (s := s) hvm es.length (Nat.le_refl _) y with ⟨h1, _⟩ | ⟨_, h2, _, e, he, e1, e2, e3⟩
    · rw [h1]; exact hi.lo y hy
    · have := hd.rel e (mem_lv.2 ⟨he, by rw [e2]; exact h2⟩) (by rw [e1]; omega)
      rw [e1, e2] at this
      rw [e3]; omega
  refine ⟨?_, ?_, lo', ?_, ?_, ?_, ?_, ?_, ?_, ?_⟩
  · rw [List.nodup_append]
    exact ⟨hi.nd, by simp, fun x hx y hy => by simp at hy; subst hy; exact fun e => w2 (e ▸ hx)⟩
  · intro u hu
    rw [same u hu]
    rcases List.mem_append.1 hu with h1 | h1
    · exact hi.inn u h1
    · simp at h1; subst h1; exact ⟨hv, w1, hi.live _ hv w1⟩
  · intro y hy hf
    rw [hlen]
    rcases rxs_from (h := h) (es := es) (s := s) hvm es.length (Nat.le_refl _) y with ⟨h1, _⟩ | ⟨_, h2, _, e, he, e1, e2, e3⟩
    · rw [h1] at hf ⊢; have := hi.hi y hy hf; omega
    · rw [e3]; have := (hp.nat he).2.2.2; omega
  · intro y hy
    exact Int.le_trans (rxs_le _ _) (hi.top y hy)
  · intro y hy hf
    rcases rxs_from (h := h) (es := es) (s := s) hvm es.length (Nat.le_refl _) y with ⟨h1, _⟩ | ⟨_, h2, _, _⟩
    · rw [h1] at hf; exact hi.live y hy hf
    · exact h2
  · have h1 := hi.st
    have h2 := rxs_le (h := h) (ord := ord ++ [v]) (v := v) (es := es) (s := s) es.length a
    have h3 := lo' a ha
    rw [hd.s0] at h3
    omega
  · intro u hu
    rw [same u hu]
    rcases List.mem_append.1 hu with h1 | h1
    · exact hi.ok u h1
    · simp at h1; subst h1; exact hok
  · intro u hu e he hee
    by_cases ht : e.2.1.toNat ∈ ord ++ [v]
    · exact .inl ht
    · right
      rw [same u hu]
      rcases List.mem_append.1 hu with h1 | h1
      · rcases hi.out u h1 e he hee with h2 | h2
        · exact absurd (hsub _ h2) ht
        · exact Int.le_trans (rxs_le _ _) h2
      · simp at h1; subst h1
        obtain ⟨m1, m2⟩ := mem_lv.1 he
        obtain ⟨i, hi', rfl⟩ := List.mem_iff_getElem.1 m1
        have hat : at3 es i = es[i] := by unfold at3; simp [hi']
        have := rxs_edge (h := h) (es := es) (s := s) hvm es.length i hi' (by rw [hat]; exact hee) (by rw [hat]; exact m2) (by rw [hat]; exact ht)
        rw [hat] at this
        exact this
  · intro y hy hf
    rcases rxs_from (h := h) (es := es) (s := s) hvm es.length (Nat.le_refl _) y with ⟨h1, h1'⟩ | ⟨h1, h2, h3, e, he, e1, e2, e3⟩
    · rw [h1] at hf
      rcases hi.pre y hy hf with ⟨k1, k2⟩ | ⟨k1, k2, k3⟩
      · exact .inl ⟨k1, by rw [h1]; exact k2⟩
      · right
        rw [h1', h1, same _ (hsub _ k1)]
        exact ⟨hsub _ k1, k2, k3⟩
    · right
      rw [h1, e3, same v hvm]
      refine ⟨hvm, ⟨e, he, e1, e2, rfl⟩, fun e' he' e1' e2' => ?_⟩
      obtain ⟨i, hi', rfl⟩ := List.mem_iff_getElem.1 he'
      have hat : at3 es i = es[i] := by unfold at3; simp [hi']
      have := rxs_edge (h := h) (es := es) (s := s) hvm es.length i hi' (by rw [hat]; exact e1') (by rw [hat, e2']; exact h2) (by rw [hat, e2']; exact h3)
      rw [hat, e2', e3] at this
      exact this

/-! ### The run -/
def st0 (h : Nat → Int) (a : Nat) : S := ⟨fun i => if i = a ∧ h a ≠ far then 0 else far, fun _ => 0⟩
theorem inv_start {N a : Nat} {es : List E} {h : Nat → Int} {A B : Int} {d : Nat → Int} (hd : IsD N (lv h es) a d) (hh : h a ≠ far) : Inv N es a h A B d (st0 h a) [] := by
  have hF : far = 1099511627776 := rfl
  have c0 : (st0 h a).c a = 0 := if_pos ⟨rfl, hh⟩
  have c1 : ∀ v, v ≠ a → (st0 h a).c v = far := fun v hv => if_neg (fun h => hv h.1)
  refine ⟨List.nodup_nil, fun v hv => by simp at hv, fun v hv => ?_, fun v hv hf => ?_, fun v hv => ?_, fun v hv hf => ?_, c0, fun v hv => by simp at hv, fun v hv => by simp at hv, fun v hv hf => ?_⟩
  · by_cases e : v = a
    · subst e; rw [c0, hd.s0]; exact Int.le_refl _
    · rw [c1 v e]; exact hd.hi v hv
  · by_cases e : v = a
    · subst e; rw [c0]; simp
    · rw [c1 v e] at hf; omega
  · by_cases e : v = a
    · subst e; rw [c0]; omega
    · rw [c1 v e]; exact Int.le_refl _
  · by_cases e : v = a
    · subst e; exact hh
    · rw [c1 v e] at hf; omega
  · by_cases e : v = a
    · subst e; exact .inl ⟨rfl, c0⟩
    · rw [c1 v e] at hf; omega
/-- What each step keeps stands at the end. -/
theorem sea_ind {N t : Nat} {es : List E} {h : Nat → Int} {key : Int → Int → Int} {P : S → List Nat → Prop} (hs : ∀ s ord v, P s ord → pick (wts s ord) (fun v => key (s.c v) (h v)) h N = some v → v ≠ t → P (rxs h (ord ++ [v]) v es s es.length) (ord ++ [v])) (hb : ∀ s ord, P s ord → ord.length ≤ N) :
    ∀ f s ord, P s ord → f + ord.length = N + 1 → (∀ s' o', sea N es h key t f s ord = some (s', o') → ∃ o, o' = o ++ [t] ∧ P s' o ∧ pick (wts s' o) (fun v => key (s'.c v) (h v)) h N = some t) ∧ (sea N es h key t f s ord = none → ∃ s' o, P s' o ∧ ∀ v, v < N → wts s' o v = false) := by
  intro f
  induction f with
  | zero =>
    intro s ord hP hf
    have := hb s ord hP
    omega
  | succ f ih =>
    intro s ord hP hf
    unfold sea
    cases e : pick (wts s ord) (fun v => key (s.c v) (h v)) h N with
    | none =>
      simp only
      exact ⟨fun _ _ hq => (by cases hq), fun _ => ⟨s, ord, hP, pick_none e⟩⟩
    | some v =>
      simp only
      by_cases ev : v = t
      · subst ev
        rw [if_pos rfl]
        exact ⟨fun s' o' hq => (by cases hq; exact ⟨ord, rfl, hP, e⟩), fun hq => (by cases hq)⟩
      · rw [if_neg ev]
        exact ih _ _ (hs s ord v hP e ev) (by simp; omega)
/-- With sums of cost and guess: they never fall. -/
structure Mon (N : Nat) (h d : Nat → Int) (s : S) (ord : List Nat) : Prop where
  srt : ord.Pairwise (fun u v => d u + h u ≤ d v + h v)
  wt : ∀ u ∈ ord, ∀ v, v < N → wts s ord v = true → d u + h u ≤ s.c v + h v
theorem Mon.step {N a v : Nat} {es : List E} {h d : Nat → Int} {s : S} {ord : List Nat} (hm : Mon N h d s ord) (hi : Inv N es a h 1 1 d s ord) (hc : ∀ e ∈ es, h e.1.toNat ≤ e.2.2 + h e.2.1.toNat) (hv : v < N) (hw : wts s ord v = true) (hk : ∀ y, y < N → wts s ord y = true → s.c v + h v ≤ s.c y + h y) (hok : s.c v ≤ d v) : Mon N h d (rxs h (ord ++ [v]) v es s es.length) (ord ++ [v]) := by
  have hvm : v ∈ ord ++ [v] := by simp
  have hlo := hi.lo v hv
  refine ⟨?_, ?_⟩
  · rw [List.pairwise_append]
    refine ⟨hm.srt, by simp, fun u hu w hw' => ?_⟩
    simp at hw'; subst hw'
    have := hm.wt u hu w hv hw
    omega
  · intro u hu y hy hwy
    obtain ⟨k1, k2⟩ := wts_yes hwy
    have huv : d u + h u ≤ s.c v + h v := by
      rcases List.mem_append.1 hu with h1 | h1
      · exact hm.wt u h1 v hv hw
      · simp at h1; subst h1; omega
    rcases rxs_from (h := h) (es := es) (s := s) hvm es.length (Nat.le_refl _) y with ⟨h1, _⟩ | ⟨_, _, _, e, he, e1, e2, e3⟩
    · rw [h1] at k1 ⊢
      have := hk y hy (decide_eq_true ⟨k1, fun hh => k2 (by simp [hh])⟩)
      omega
    · have := hc e he
      rw [e1, e2] at this
      rw [e3]; omega

/-! ### What is found -/
/-- Found, with weights: no more than the weight allows, each once, and a walk back. -/
structure Fnd (N : Nat) (es : List E) (a t : Nat) (h : Nat → Int) (A B : Int) (d : Nat → Int) (s : S) (o : List Nat) : Prop where
  inv : Inv N es a h A B d s o
  no : ¬ t ∈ o
  lt : s.c t < far
  ok : A * s.c t ≤ B * d t
  pk : ∀ y, y < N → wts s o y = true → A * s.c t + B * h t ≤ A * s.c y + B * h y
theorem sea_weigh {N a t : Nat} {es : List E} {h : Nat → Int} {A B : Int} {d : Nat → Int} (hp : Pn N es) (hd : IsD N (lv h es) a d) (ha : a < N) (ht : t < N) (hA : 1 ≤ A) (hAB : A ≤ B) (hc : ∀ e ∈ es, h e.1.toNat ≤ e.2.2 + h e.2.1.toNat) (hh : h a ≠ far) :
    (∀ s' o', sea N es h (fun c g => A * c + B * g) t (N + 1) (st0 h a) [] = some (s', o') → ∃ o, o' = o ++ [t] ∧ Fnd N es a t h A B d s' o) ∧ (sea N es h (fun c g => A * c + B * g) t (N + 1) (st0 h a) [] = none → d t = far) := by
  obtain ⟨h1, h2⟩ := sea_ind (N := N) (t := t) (es := es) (h := h) (key := fun c g => A * c + B * g) (P := fun s ord => Inv N es a h A B d s ord ∧ ¬ t ∈ ord) (fun s ord v hP e ev => by
      obtain ⟨p1, p2, p3⟩ := pick_some e
      refine ⟨hP.1.step hp hd ha p1 p2 (hP.1.pick_ok hp hd ha hA hAB hc e), fun hh => ?_⟩
      rcases List.mem_append.1 hh with h1 | h1
      · exact hP.2 h1
      · simp at h1; exact ev h1.symm) (fun s ord hP => nodup_le hP.1.nd (fun v hv => (hP.1.inn v hv).1)) (N + 1) (st0 h a) [] ⟨inv_start hd hh, by simp⟩ (by simp)
  refine ⟨fun s' o' e => ?_, fun e => ?_⟩
  · obtain ⟨o, e1, ⟨i1, i2⟩, e3⟩ := h1 s' o' e
    obtain ⟨p1, p2, p3⟩ := pick_some e3
    exact ⟨o, e1, i1, i2, (wts_yes p2).1, i1.pick_ok hp hd ha hA hAB hc e3, pick_key e3⟩
  · obtain ⟨s', o, ⟨i1, i2⟩, e2⟩ := h2 e
    have hhi := hd.hi t ht
    by_cases hf : d t < far
    · obtain ⟨y, y1, y2, _⟩ := i1.reach hp hd ha hA hAB hc t ht hf i2
      rw [e2 y y1] at y2; cases y2
    · omega
theorem sea_star {N a t : Nat} {es : List E} {h d : Nat → Int} (hp : Pn N es) (hd : IsD N (lv h es) a d) (ha : a < N) (ht : t < N) (hc : ∀ e ∈ es, h e.1.toNat ≤ e.2.2 + h e.2.1.toNat) (hh : h a ≠ far) :
    ∀ s' o', sea N es h (fun c g => 1 * c + 1 * g) t (N + 1) (st0 h a) [] = some (s', o') → ∃ o, o' = o ++ [t] ∧ Fnd N es a t h 1 1 d s' o ∧ s'.c t = d t ∧ o'.Pairwise (fun u v => d u + h u ≤ d v + h v) ∧ (∀ u ∈ o', s'.c u = d u) ∧ ∀ z, z < N → d z < far → d z + h z < d t + h t → z ∈ o := by
  obtain ⟨h1, _⟩ := sea_ind (N := N) (t := t) (es := es) (h := h) (key := fun c g => 1 * c + 1 * g) (P := fun s ord => Inv N es a h 1 1 d s ord ∧ Mon N h d s ord ∧ ¬ t ∈ ord) (fun s ord v hP e ev => by
      obtain ⟨p1, p2, p3⟩ := pick_some e
      have hok := hP.1.pick_ok hp hd ha (by omega) (by omega) hc e
      refine ⟨hP.1.step hp hd ha p1 p2 hok, hP.2.1.step hP.1 hc p1 p2 (fun y y1 y2 => by have := pick_key e y y1 y2; omega) (by omega), fun hh => ?_⟩
      rcases List.mem_append.1 hh with h1 | h1
      · exact hP.2.2 h1
      · simp at h1; exact ev h1.symm) (fun s ord hP => nodup_le hP.1.nd (fun v hv => (hP.1.inn v hv).1)) (N + 1) (st0 h a) [] ⟨inv_start hd hh, ⟨List.Pairwise.nil, fun u hu => by simp at hu⟩, by simp⟩ (by simp)
  intro s' o' e
  obtain ⟨o, e1, ⟨i1, i2, i3⟩, e3⟩ := h1 s' o' e
  obtain ⟨p1, p2, p3⟩ := pick_some e3
  have hok := i1.pick_ok hp hd ha (by omega) (by omega) hc e3
  have hlo := i1.lo t ht
  have hct : s'.c t = d t := by omega
  subst e1
  refine ⟨o, rfl, ⟨i1, i3, (wts_yes p2).1, hok, pick_key e3⟩, hct, ?_, ?_, ?_⟩
  · rw [List.pairwise_append]
    refine ⟨i2.srt, by simp, fun u hu w hw' => ?_⟩
    simp at hw'; subst hw'
    have := i2.wt u hu w ht p2
    omega
  · intro u hu
    rcases List.mem_append.1 hu with h1 | h1
    · have k1 := i1.ok u h1
      have k2 := i1.lo u (i1.inn u h1).1
      omega
    · simp at h1; subst h1; exact hct
  · intro z hz hf hlt
    by_cases hzo : z ∈ o
    · exact hzo
    · obtain ⟨y, y1, y2, y3⟩ := i1.reach hp hd ha (by omega) (by omega) hc z hz hf hzo
      have := pick_key e3 y y1 y2
      omega

/-! ### Costs in the whole net -/
theorem lv_ge {N a : Nat} {es : List E} {h d D : Nat → Int} (hp : Pn N es) (hd : IsD N (lv h es) a d) (hD : IsD N es a D) : ∀ z, z < N → D z ≤ d z := by
  suffices key : ∀ m : Nat, ∀ z, z < N → (d z).toNat ≤ m → D z ≤ d z from fun z hz => key _ z hz (Nat.le_refl _)
  have hF : far = 1099511627776 := rfl
  intro m
  induction m with
  | zero =>
    intro z hz hm
    have h0 := hd.lo z hz
    by_cases hza : z = a
    · subst hza; rw [hd.s0, hD.s0]; exact Int.le_refl _
    · obtain ⟨e, he, e1, e2, e3⟩ := hd.sup z hz hza (by omega)
      have hn := (pn_lv (h := h) hp).nat he
      have := hd.lo e.1.toNat hn.1
      omega
  | succ m ih =>
    intro z hz hm
    by_cases hf : d z < far
    · by_cases hza : z = a
      · subst hza; rw [hd.s0, hD.s0]; exact Int.le_refl _
      · obtain ⟨e, he, e1, e2, e3⟩ := hd.sup z hz hza hf
        have hn := (pn_lv (h := h) hp).nat he
        have h0 := hd.lo z hz
        have h1 := ih e.1.toNat hn.1 (by omega)
        have h2 := hD.rel e (mem_lv.1 he).1 (by omega)
        rw [e1] at h2
        omega
    · have := hD.hi z hz
      omega
theorem lv_eq {N a : Nat} {es : List E} {h d D : Nat → Int} (hp : Pn N es) (hd : IsD N (lv h es) a d) (hD : IsD N es a D) (hc : ∀ e ∈ es, h e.1.toNat ≤ e.2.2 + h e.2.1.toNat) : ∀ z, z < N → D z < far → D z + h z < far → d z = D z := by
  suffices key : ∀ m : Nat, ∀ z, z < N → (D z).toNat ≤ m → D z < far → D z + h z < far → d z ≤ D z from fun z hz h1 h2 => by
    have := key _ z hz (Nat.le_refl _) h1 h2
    have := lv_ge hp hd hD z hz
    omega
  have hF : far = 1099511627776 := rfl
  intro m
  induction m with
  | zero =>
    intro z hz hm hf hh
    have h0 := hD.lo z hz
    by_cases hza : z = a
    · subst hza; rw [hd.s0, hD.s0]; exact Int.le_refl _
    · obtain ⟨e, he, e1, e2, e3⟩ := hD.sup z hz hza hf
      have hn := hp.nat he
      have := hD.lo e.1.toNat hn.1
      omega
  | succ m ih =>
    intro z hz hm hf hh
    have h0 := hD.lo z hz
    by_cases hza : z = a
    · subst hza; rw [hd.s0, hD.s0]; exact Int.le_refl _
    · obtain ⟨e, he, e1, e2, e3⟩ := hD.sup z hz hza hf
      have hn := hp.nat he
      have hcon := hc e he
      rw [e1] at hcon
      have hx := hD.lo e.1.toNat hn.1
      have h1 := ih e.1.toNat hn.1 (by omega) e2 (by omega)
      have h2 := hd.rel e (mem_lv.2 ⟨he, by rw [e1]; omega⟩) (by omega)
      rw [e1] at h2
      omega

/-! ### The walk back -/
def pth (p : Nat → Nat) (a : Nat) : Nat → Nat → List Nat
  | 0, v => [v]
  | f + 1, v => if v = a then [a] else pth p a f (p v) ++ [v]
/-- Costs that fall on the way back. -/
structure Dn (N : Nat) (es : List E) (a : Nat) (s : S) (o : List Nat) : Prop where
  st : s.c a = 0
  lo : ∀ v, v < N → 0 ≤ s.c v
  inn : ∀ v ∈ o, v < N ∧ s.c v < far
  pre : ∀ v, v < N → s.c v < far → v ≠ a → s.p v ∈ o ∧ (∃ e ∈ es, e.1.toNat = s.p v ∧ e.2.1.toNat = v ∧ s.c (s.p v) + e.2.2 = s.c v) ∧ ∀ e ∈ es, e.1.toNat = s.p v → e.2.1.toNat = v → s.c v ≤ s.c (s.p v) + e.2.2
theorem Inv.dn {N a : Nat} {es : List E} {h : Nat → Int} {A B : Int} {d : Nat → Int} {s : S} {o : List Nat} (hi : Inv N es a h A B d s o) (hd : IsD N (lv h es) a d) : Dn N es a s o :=
  ⟨hi.st, fun v hv => Int.le_trans (hd.lo v hv) (hi.lo v hv), fun v hv => ⟨(hi.inn v hv).1, (hi.inn v hv).2.1⟩, fun v hv hf hne => (hi.pre v hv hf).resolve_left (fun hh => hne hh.1)⟩
theorem Dn.less {N a v : Nat} {es : List E} {s : S} {o : List Nat} (h : Dn N es a s o) (hp : Pn N es) (hv : v < N) (hf : s.c v < far) (hne : v ≠ a) : s.p v < N ∧ s.c (s.p v) < far ∧ s.c (s.p v) < s.c v := by
  obtain ⟨h1, ⟨e, he, e1, e2, e3⟩, _⟩ := h.pre v hv hf hne
  have := h.inn _ h1
  have := (hp.nat he).2.2.1
  exact ⟨by omega, by omega, by omega⟩
theorem pth_stable {N a : Nat} {es : List E} {s : S} {o : List Nat} (h : Dn N es a s o) (hp : Pn N es) : ∀ f g v : Nat, v < N → s.c v < far → s.c v < (f : Int) → s.c v < (g : Int) → pth s.p a f v = pth s.p a g v := by
  intro f
  induction f with
  | zero => intro g v hv hf h1 h2; have := h.lo v hv; omega
  | succ f ih =>
    intro g v hv hf h1 h2
    have h0 := h.lo v hv
    obtain ⟨g, rfl⟩ : ∃ k, g = k + 1 := ⟨g - 1, by omega⟩
    unfold pth
    by_cases e : v = a
    · rw [if_pos e, if_pos e]
    · rw [if_neg e, if_neg e]
      obtain ⟨k1, k2, k3⟩ := h.less hp hv hf e
      rw [ih g (s.p v) k1 k2 (by omega) (by omega)]
/-- The way to a place. -/
def way (s : S) (a v : Nat) : List Nat := pth s.p a ((s.c v).toNat + 1) v
theorem way_a (s : S) (a : Nat) : way s a a = [a] := by unfold way pth; rw [if_pos rfl]
theorem way_next {N a v : Nat} {es : List E} {s : S} {o : List Nat} (h : Dn N es a s o) (hp : Pn N es) (hv : v < N) (hf : s.c v < far) (hne : v ≠ a) : way s a v = way s a (s.p v) ++ [v] := by
  obtain ⟨k1, k2, k3⟩ := h.less hp hv hf hne
  have h0 := h.lo v hv
  have h1 := h.lo _ k1
  unfold way
  conv => lhs; unfold pth
  rw [if_neg hne, pth_stable h hp (s.c v).toNat ((s.c (s.p v)).toNat + 1) (s.p v) k1 k2 (by omega) (by omega)]
/-- What is to be known of the way. -/
theorem way_is {N a : Nat} {es : List E} {s : S} {o : List Nat} (h : Dn N es a s o) (hp : Pn N es) (ha : a < N) : ∀ v, v < N → s.c v < far → (∃ q, way s a v = q ++ [v]) ∧ (∃ r, way s a v = a :: r) ∧ (∀ x ∈ way s a v, x < N) ∧ (∀ x ∈ way s a v, s.c x ≤ s.c v) ∧ (way s a v).Nodup ∧ wc es ((way s a v).map fun x : Nat => (x : Int)) = some (s.c v) := by
  suffices key : ∀ m : Nat, ∀ v, v < N → (s.c v).toNat ≤ m → s.c v < far → (∃ q, way s a v = q ++ [v]) ∧ (∃ r, way s a v = a :: r) ∧ (∀ x ∈ way s a v, x < N) ∧ (∀ x ∈ way s a v, s.c x ≤ s.c v) ∧ (way s a v).Nodup ∧ wc es ((way s a v).map fun x : Nat => (x : Int)) = some (s.c v) from fun v hv hf => key _ v hv (Nat.le_refl _) hf
  have base : (∃ q, way s a a = q ++ [a]) ∧ (∃ r, way s a a = a :: r) ∧ (∀ x ∈ way s a a, x < N) ∧ (∀ x ∈ way s a a, s.c x ≤ s.c a) ∧ (way s a a).Nodup ∧ wc es ((way s a a).map fun x : Nat => (x : Int)) = some (s.c a) := by
    rw [way_a, h.st]
    refine ⟨⟨[], rfl⟩, ⟨[], rfl⟩, ?_, ?_, by simp, rfl⟩
    · intro x hx; simp at hx; subst hx; exact ha
    · intro x hx; simp at hx; subst hx; rw [h.st]; exact Int.le_refl _
  intro m
  induction m with
  | zero =>
    intro v hv hm hf
    by_cases e : v = a
    · subst e; exact base
    · have := h.less hp hv hf e
      have := h.lo _ this.1
      have := h.lo v hv
      omega
  | succ m ih =>
    intro v hv hm hf
    by_cases e : v = a
    · subst e; exact base
    · obtain ⟨k1, k2, k3⟩ := h.less hp hv hf e
      have h0 := h.lo _ k1
      obtain ⟨⟨q, i1⟩, ⟨r, i2⟩, i3, i4, i5, i6⟩ := ih (s.p v) k1 (by omega) k2
      obtain ⟨_, ⟨x, hx, x1, x2, x3⟩, hmin⟩ := h.pre v hv hf e
      rw [way_next h hp hv hf e]
      refine ⟨⟨_, rfl⟩, ⟨r ++ [v], by rw [i2]; rfl⟩, ?_, ?_, ?_, ?_⟩
      · intro y hy
        rcases List.mem_append.1 hy with h1 | h1
        · exact i3 y h1
        · simp at h1; subst h1; exact hv
      · intro y hy
        rcases List.mem_append.1 hy with h1 | h1
        · have := i4 y h1; omega
        · simp at h1; subst h1; exact Int.le_refl _
      · rw [List.nodup_append]
        refine ⟨i5, by simp, fun y hy z hz => ?_⟩
        simp at hz; subst hz
        intro e2
        have := i4 y hy
        rw [e2] at this; omega
      · have hchp : chp (s.p v : Int) (v : Int) es = some (s.c v - s.c (s.p v)) := by
          refine chp_of ⟨x, hx, ?_, ?_, by omega⟩ (fun y hy y1 y2 => ?_)
          · have := (hp.ok x hx).1; omega
          · have := (hp.ok x hx).2.2.1; omega
          · have := hmin y hy (by rw [y1]; simp) (by rw [y2]; simp); omega
        have i6' := i6
        rw [i1] at i6' ⊢
        rw [List.map_append] at i6' ⊢
        rw [List.map_append, List.append_assoc]
        simp only [List.map_cons, List.map_nil, List.singleton_append] at i6' ⊢
        rw [wc_parts, i6', wc_on hchp, wc_one]
        simp
        omega
theorem way_len {N a v : Nat} {es : List E} {s : S} {o : List Nat} (h : Dn N es a s o) (hp : Pn N es) (ha : a < N) (hv : v < N) (hf : s.c v < far) : (way s a v).length ≤ N := by
  obtain ⟨_, _, h3, _, h5, _⟩ := way_is h hp ha v hv hf
  exact nodup_le h5 h3
end Go.Proofs.Ytefikbjjdldomaa.Sk
namespace Go.Proofs.Ytefikbjjdldomaa.Sk
open Nm Wm Dm
open Jp (T3 ltb)
set_option linter.unusedSimpArgs false

/-- Each in the heap was a place's key once, and each that waits lies there with its key of now. -/
structure Wq (N : Nat) (h : Nat → Int) (key : Int → Int → Int) (s : S) (ord : List Nat) (qs : List T3) : Prop where
  old : ∀ q ∈ qs, ∃ v : Nat, v < N ∧ q.2.2 = (v : Int) ∧ q.2.1 = h v ∧ s.c v < far ∧ key (s.c v) (h v) ≤ q.1
  now : ∀ v, v < N → wts s ord v = true → (key (s.c v) (h v), h v, (v : Int)) ∈ qs
theorem Wq.perm {N : Nat} {h : Nat → Int} {key : Int → Int → Int} {s : S} {ord : List Nat} {qs rs : List T3} (w : Wq N h key s ord qs) (hp : qs.Perm rs) : Wq N h key s ord rs :=
  ⟨fun q hq => w.old q (hp.mem_iff.2 hq), fun v hv hw => hp.mem_iff.1 (w.now v hv hw)⟩
theorem Wq.none {N : Nat} {h : Nat → Int} {key : Int → Int → Int} {s : S} {ord : List Nat} (w : Wq N h key s ord []) : pick (wts s ord) (fun v => key (s.c v) (h v)) h N = none := by
  cases e : pick (wts s ord) (fun v => key (s.c v) (h v)) h N with
  | none => rfl
  | some v =>
    obtain ⟨h1, h2, _⟩ := pick_some e
    have := w.now v h1 h2
    simp at this
/-- What is looked from is passed by. -/
theorem Wq.skip {N v : Nat} {h : Nat → Int} {key : Int → Int → Int} {s : S} {ord : List Nat} {q : T3} {rs : List T3} (w : Wq N h key s ord (q :: rs)) (e : q.2.2 = (v : Int)) (hv : v ∈ ord) : Wq N h key s ord rs := by
  refine ⟨fun x hx => w.old x (List.mem_cons_of_mem _ hx), fun u hu hw => ?_⟩
  rcases List.mem_cons.1 (w.now u hu hw) with h1 | h1
  · have : (u : Int) = v := by rw [← e, ← h1]
    have : u = v := by omega
    subst this
    exact absurd hv (wts_yes hw).2
  · exact h1
theorem Wq.take {N v : Nat} {h : Nat → Int} {key : Int → Int → Int} {s : S} {ord : List Nat} {q : T3} {rs : List T3} (w : Wq N h key s ord (q :: rs)) (hm : ∀ r ∈ rs, Jp.Le q r) (e : q.2.2 = (v : Int)) (hv : ¬ v ∈ ord) :
    pick (wts s ord) (fun v => key (s.c v) (h v)) h N = some v ∧ Wq N h key s (ord ++ [v]) rs := by
  obtain ⟨u, u1, u2, u3, u4, u5⟩ := w.old q (by simp)
  have huv : u = v := by have := u2.symm.trans e; omega
  subst huv
  have hw : wts s ord u = true := decide_eq_true ⟨u4, hv⟩
  have hle : ∀ x, x < N → wts s ord x = true → q.1 < key (s.c x) (h x) ∨ (q.1 = key (s.c x) (h x) ∧ (h u < h x ∨ (h u = h x ∧ u ≤ x))) := by
    intro x hx hwx
    rcases List.mem_cons.1 (w.now x hx hwx) with h1 | h1
    · have e1 : q.1 = key (s.c x) (h x) := by rw [← h1]
      have e2 : (x : Int) = u := by rw [← u2, ← h1]
      have e3 : x = u := by omega
      subst e3
      exact .inr ⟨e1, .inr ⟨rfl, Nat.le_refl _⟩⟩
    · have := hm _ h1
      unfold Jp.Le at this
      simp only at this
      rw [u3, u2] at this
      omega
  have hq : q.1 = key (s.c u) (h u) := by
    have := hle u u1 hw
    omega
  refine ⟨?_, ?_⟩
  · cases e1 : pick (wts s ord) (fun v => key (s.c v) (h v)) h N with
    | none =>
      have := pick_none e1 u u1
      rw [this] at hw; cases hw
    | some b =>
      obtain ⟨b1, b2, b3⟩ := pick_some e1
      by_cases hb : u = b
      · rw [hb]
      · have k1 := of_decide_eq_true (b3 u u1 hw hb)
        have k2 := hle b b1 b2
        rw [hq] at k2
        exfalso
        simp only at k1
        omega
  · refine ⟨fun x hx => w.old x (List.mem_cons_of_mem _ hx), fun x hx hwx => ?_⟩
    obtain ⟨x1, x2⟩ := wts_yes hwx
    have hwx' : wts s ord x = true := decide_eq_true ⟨x1, fun hh => x2 (by simp [hh])⟩
    rcases List.mem_cons.1 (w.now x hx hwx') with h1 | h1
    · have : (x : Int) = u := by rw [← u2, ← h1]
      have : x = u := by omega
      subst this
      exact absurd (by simp) x2
    · exact h1
/-- A lesser cost so far is laid in. -/
theorem Wq.put {N y : Nat} {h : Nat → Int} {key : Int → Int → Int} {s : S} {p : Nat → Nat} {ord : List Nat} {qs : List T3} {x : Int} (hk : ∀ a b g, a ≤ b → key a g ≤ key b g) (w : Wq N h key s ord qs) (hy : y < N) (hx : x < s.c y) (hf : x < far) :
    Wq N h key ⟨upd s.c y x, p⟩ ord (qs ++ [(key x (h y), h y, (y : Int))]) := by
  refine ⟨fun q hq => ?_, fun v hv hw => ?_⟩
  · rcases List.mem_append.1 hq with h1 | h1
    · obtain ⟨v, v1, v2, v3, v4, v5⟩ := w.old q h1
      refine ⟨v, v1, v2, v3, ?_⟩
      simp only
      by_cases e : v = y
      · subst e
        rw [upd_same]
        exact ⟨hf, Int.le_trans (hk _ _ _ (by omega)) v5⟩
      · rw [upd_other _ _ e]; exact ⟨v4, v5⟩
    · simp at h1
      subst h1
      refine ⟨y, hy, rfl, rfl, ?_⟩
      simp only
      rw [upd_same]
      exact ⟨hf, Int.le_refl _⟩
  · obtain ⟨w1, w2⟩ := wts_yes hw
    simp only at w1 ⊢
    by_cases e : v = y
    · subst e
      rw [upd_same]
      simp
    · rw [upd_other _ _ e] at w1 ⊢
      exact List.mem_append_left _ (w.now v hv (decide_eq_true ⟨w1, w2⟩))
theorem Wq.ptr {N : Nat} {h : Nat → Int} {key : Int → Int → Int} {s : S} {p : Nat → Nat} {ord : List Nat} {qs : List T3} (w : Wq N h key s ord qs) : Wq N h key ⟨s.c, p⟩ ord qs := ⟨w.old, w.now⟩
end Go.Proofs.Ytefikbjjdldomaa.Sk
