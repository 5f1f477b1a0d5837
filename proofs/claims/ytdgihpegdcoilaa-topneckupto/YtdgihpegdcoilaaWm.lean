/-
  Plain walks: the cheapest edge, what a walk costs, in parts and back. No Go in sight.
-/
import Derived.Test.YtdgihpegdcoilaaNm
namespace Go.Proofs.Ytdgihpegdcoilaa.Wm
open Nm
set_option linter.unusedSimpArgs false

abbrev far : Int := 1099511627776
/-- One edge more is looked at. -/
def stp (u v : Int) (o : Option Int) (e : E) : Option Int :=
  if e.1 = u ∧ e.2.1 = v then (match o with | none => some e.2.2 | some c => some (if e.2.2 < c then e.2.2 else c)) else o
/-- The cheapest edge from u to v. -/
def chp (u v : Int) (es : List E) : Option Int := es.foldl (stp u v) none

theorem take_at {es : List E} {k : Nat} (h : k < es.length) : es.take (k + 1) = es.take k ++ [at3 es k] := by
  rw [List.take_add_one, List.getElem?_eq_getElem h]
  have : at3 es k = es[k] := by unfold at3; simp [h]
  rw [this]; rfl
theorem chp_next (u v : Int) {es : List E} {k : Nat} (h : k < es.length) : chp u v (es.take (k + 1)) = stp u v (chp u v (es.take k)) (at3 es k) := by
  unfold chp; rw [take_at h, List.foldl_append]; rfl
theorem stp_no {u v : Int} {o : Option Int} {e : E} (h : ¬ (e.1 = u ∧ e.2.1 = v)) : stp u v o e = o := by unfold stp; rw [if_neg h]
theorem stp_first {u v : Int} {e : E} (h : e.1 = u ∧ e.2.1 = v) : stp u v none e = some e.2.2 := by unfold stp; rw [if_pos h]
theorem stp_less {u v c : Int} {e : E} (h : e.1 = u ∧ e.2.1 = v) (hc : e.2.2 < c) : stp u v (some c) e = some e.2.2 := by unfold stp; rw [if_pos h]; simp [hc]
theorem stp_more {u v c : Int} {e : E} (h : e.1 = u ∧ e.2.1 = v) (hc : ¬ e.2.2 < c) : stp u v (some c) e = some c := by unfold stp; rw [if_pos h]; simp [hc]

/-- What the cheapest is, in words. -/
def Is1 (u v : Int) (es : List E) (o : Option Int) : Prop :=
  (o = none → ∀ e ∈ es, ¬ (e.1 = u ∧ e.2.1 = v)) ∧
  (∀ c, o = some c → (∃ e ∈ es, e.1 = u ∧ e.2.1 = v ∧ e.2.2 = c) ∧ ∀ e ∈ es, e.1 = u → e.2.1 = v → c ≤ e.2.2)
theorem is1_fold (u v : Int) (es pre : List E) (o : Option Int) (h : Is1 u v pre o) : Is1 u v (pre ++ es) (es.foldl (stp u v) o) := by
  induction es generalizing pre o with
  | nil => simpa using h
  | cons e r ih =>
    have key : Is1 u v (pre ++ [e]) (stp u v o e) := by
      by_cases hm : e.1 = u ∧ e.2.1 = v
      · cases o with
        | none =>
          rw [stp_first hm]
          refine ⟨(fun h => by cases h), fun c hc => ?_⟩
          cases hc
          refine ⟨⟨e, by simp, hm.1, hm.2, rfl⟩, fun x hx h1 h2 => ?_⟩
          rcases List.mem_append.1 hx with hx | hx
          · exact absurd ⟨h1, h2⟩ (h.1 rfl x hx)
          · rw [List.mem_singleton.1 hx]; exact Int.le_refl _
        | some c0 =>
          obtain ⟨⟨x0, hx0, a, b, hc0⟩, hall⟩ := h.2 c0 rfl
          by_cases hc : e.2.2 < c0
          · rw [stp_less hm hc]
            refine ⟨(fun h => by cases h), fun c hc' => ?_⟩
            cases hc'
            refine ⟨⟨e, by simp, hm.1, hm.2, rfl⟩, fun x hx h1 h2 => ?_⟩
            rcases List.mem_append.1 hx with hx | hx
            · have := hall x hx h1 h2; omega
            · rw [List.mem_singleton.1 hx]; exact Int.le_refl _
          · rw [stp_more hm hc]
            refine ⟨(fun h => by cases h), fun c hc' => ?_⟩
            cases hc'
            refine ⟨⟨x0, by simp [hx0], a, b, hc0⟩, fun x hx h1 h2 => ?_⟩
            rcases List.mem_append.1 hx with hx | hx
            · exact hall x hx h1 h2
            · rw [List.mem_singleton.1 hx]; omega
      · rw [stp_no hm]
        refine ⟨fun ho x hx => ?_, fun c hc => ?_⟩
        · rcases List.mem_append.1 hx with hx | hx
          · exact h.1 ho x hx
          · rw [List.mem_singleton.1 hx]; exact hm
        · obtain ⟨⟨x0, hx0, a⟩, hall⟩ := h.2 c hc
          refine ⟨⟨x0, by simp [hx0], a⟩, fun x hx h1 h2 => ?_⟩
          rcases List.mem_append.1 hx with hx | hx
          · exact hall x hx h1 h2
          · rw [List.mem_singleton.1 hx] at h1 h2; exact absurd ⟨h1, h2⟩ hm
    have := ih (pre ++ [e]) _ key
    simpa using this
theorem chp_is (u v : Int) (es : List E) : Is1 u v es (chp u v es) := by
  have := is1_fold u v es [] none ⟨fun _ e he => by simp at he, fun c h => by cases h⟩
  simpa [chp] using this
theorem is1_unique {u v : Int} {es : List E} {o o' : Option Int} (h : Is1 u v es o) (h' : Is1 u v es o') : o = o' := by
  cases o with
  | none =>
    cases o' with
    | none => rfl
    | some c => obtain ⟨⟨e, he, a, b, _⟩, _⟩ := h'.2 c rfl; exact absurd ⟨a, b⟩ (h.1 rfl e he)
  | some c =>
    obtain ⟨⟨e, he, a, b, hc⟩, hall⟩ := h.2 c rfl
    cases o' with
    | none => exact absurd ⟨a, b⟩ (h'.1 rfl e he)
    | some c' =>
      obtain ⟨⟨e', he', a', b', hc'⟩, hall'⟩ := h'.2 c' rfl
      have := hall e' he' a' b'
      have := hall' e he a b
      rw [show c = c' by omega]
theorem chp_none {u v : Int} {es : List E} (h : chp u v es = none) : ∀ e ∈ es, ¬ (e.1 = u ∧ e.2.1 = v) := (chp_is u v es).1 h
theorem chp_some {u v c : Int} {es : List E} (h : chp u v es = some c) : (∃ e ∈ es, e.1 = u ∧ e.2.1 = v ∧ e.2.2 = c) ∧ ∀ e ∈ es, e.1 = u → e.2.1 = v → c ≤ e.2.2 := (chp_is u v es).2 c h
theorem chp_of {u v c : Int} {es : List E} (h1 : ∃ e ∈ es, e.1 = u ∧ e.2.1 = v ∧ e.2.2 = c) (h2 : ∀ e ∈ es, e.1 = u → e.2.1 = v → c ≤ e.2.2) : chp u v es = some c :=
  is1_unique (chp_is u v es) ⟨(fun h => by cases h), fun c' h => by cases h; exact ⟨h1, h2⟩⟩
theorem chp_turn (u v : Int) (es : List E) : chp v u (es.map trn) = chp u v es := by
  refine is1_unique (chp_is v u (es.map trn)) ⟨fun h e he => ?_, fun c h => ?_⟩
  · obtain ⟨x, hx, rfl⟩ := List.mem_map.1 he
    intro hm; exact chp_none h x hx ⟨hm.2, hm.1⟩
  · obtain ⟨⟨e, he, a, b, hc⟩, hall⟩ := chp_some h
    refine ⟨⟨trn e, List.mem_map.2 ⟨e, he, rfl⟩, b, a, hc⟩, fun x hx h1 h2 => ?_⟩
    obtain ⟨y, hy, rfl⟩ := List.mem_map.1 hx
    exact hall y hy h2 h1
/-- The document's way to say it. -/
def edg (u v : Int) (es : List E) : Int := (chp u v es).getD far

theorem chp_bound {n u v c : Int} {es : List E} (hg : Gn n es) (k : Nat) (h : chp u v (es.take k) = some c) : -10000 ≤ c ∧ c ≤ 10000 := by
  obtain ⟨⟨e, he, _, _, rfl⟩, _⟩ := chp_some h
  have := hg.ok e (List.mem_of_mem_take he)
  omega
theorem chp_bound' {n u v c : Int} {es : List E} (hg : Gn n es) (h : chp u v es = some c) : -10000 ≤ c ∧ c ≤ 10000 := by
  obtain ⟨⟨e, he, _, _, rfl⟩, _⟩ := chp_some h
  have := hg.ok e he
  omega

/-- What a walk costs; none, if an edge is lacking. -/
def wc (es : List E) : List Int → Option Int
  | [] => none
  | [_] => some 0
  | u :: v :: r => match chp u v es with
    | none => none
    | some c => (wc es (v :: r)).map (fun s => c + s)
theorem wc_one (es : List E) (u : Int) : wc es [u] = some 0 := rfl
theorem wc_two (es : List E) (u v : Int) (r : List Int) : wc es (u :: v :: r) = match chp u v es with | none => none | some c => (wc es (v :: r)).map (fun s => c + s) := rfl
theorem wc_gone {es : List E} {u v : Int} {r : List Int} (h : chp u v es = none) : wc es (u :: v :: r) = none := by rw [wc_two, h]
theorem wc_on {es : List E} {u v c : Int} {r : List Int} (h : chp u v es = some c) : wc es (u :: v :: r) = (wc es (v :: r)).map (fun s => c + s) := by rw [wc_two, h]

theorem drop_two {p : List Int} {k : Nat} (h : k + 1 < p.length) : p.drop k = p.getD k 0 :: p.getD (k + 1) 0 :: p.drop (k + 2) := by
  rw [List.drop_eq_getElem_cons (by omega), List.drop_eq_getElem_cons h]
  simp [List.getD_eq_getElem?_getD, h, show k < p.length by omega]
theorem drop_one {p : List Int} {k : Nat} (h : k + 1 = p.length) : p.drop k = [p.getD k 0] := by
  rw [List.drop_eq_getElem_cons (by omega), List.drop_of_length_le (by omega)]
  simp [List.getD_eq_getElem?_getD, show k < p.length by omega]
theorem drop_succ {p : List Int} {k : Nat} (h : k + 1 < p.length) : p.drop (k + 1) = p.getD (k + 1) 0 :: p.drop (k + 2) := by
  rw [List.drop_eq_getElem_cons h]
  simp [List.getD_eq_getElem?_getD, h]

/-- The sum so far, and what is still to come. -/
def Sofar (es : List E) (p : List Int) (k : Nat) (s : Int) : Prop := wc es p = (wc es (p.drop k)).map (fun t => s + t)
theorem sofar_start (es : List E) (p : List Int) : Sofar es p 0 0 := by
  unfold Sofar; rw [List.drop_zero]; cases wc es p <;> simp
theorem sofar_next {es : List E} {p : List Int} {k : Nat} {s c : Int} (h : Sofar es p k s) (hk : k + 1 < p.length) (hc : chp (p.getD k 0) (p.getD (k + 1) 0) es = some c) : Sofar es p (k + 1) (s + c) := by
  unfold Sofar at *
  rw [h, drop_two hk, wc_on hc, ← drop_succ hk]
  cases wc es (p.drop (k + 1)) with
  | none => rfl
  | some t => simp; omega
theorem sofar_gone {es : List E} {p : List Int} {k : Nat} {s : Int} (h : Sofar es p k s) (hk : k + 1 < p.length) (hc : chp (p.getD k 0) (p.getD (k + 1) 0) es = none) : wc es p = none := by
  unfold Sofar at h
  rw [h, drop_two hk, wc_gone hc]; rfl
theorem sofar_end {es : List E} {p : List Int} {k : Nat} {s : Int} (h : Sofar es p k s) (hk : k + 1 = p.length) : wc es p = some s := by
  unfold Sofar at h
  rw [h, drop_one hk, wc_one]; simp

/-- What Cost says: what it costs, and the error. -/
def wcode (n : Int) (es : List E) (p : List Int) : Int × Int :=
  if nck n es ≠ 0 then (0, nck n es) else if p.length = 0 then (0, 1) else if 104 < p.length then (0, 2) else if p.all (plc n) = false then (0, 1) else
  match wc es p with
  | none => (0, 5)
  | some s => (s, 0)
theorem wcode_net {n : Int} {es : List E} (p : List Int) (h : nck n es ≠ 0) : wcode n es p = (0, nck n es) := by unfold wcode; rw [if_pos h]
theorem wcode_nil {n : Int} {es : List E} {p : List Int} (h : nck n es = 0) (h1 : p.length = 0) : wcode n es p = (0, 1) := by unfold wcode; rw [if_neg (by simp [h]), if_pos h1]
theorem wcode_long {n : Int} {es : List E} {p : List Int} (h : nck n es = 0) (h1 : 104 < p.length) : wcode n es p = (0, 2) := by unfold wcode; rw [if_neg (by simp [h]), if_neg (by omega), if_pos h1]
theorem wcode_out {n : Int} {es : List E} {p : List Int} (h : nck n es = 0) (h1 : ¬ p.length = 0) (h2 : ¬ 104 < p.length) (h3 : p.all (plc n) = false) : wcode n es p = (0, 1) := by
  unfold wcode; rw [if_neg (by simp [h]), if_neg h1, if_neg h2, if_pos h3]
theorem wcode_none {n : Int} {es : List E} {p : List Int} (h : nck n es = 0) (h1 : ¬ p.length = 0) (h2 : ¬ 104 < p.length) (h3 : p.all (plc n) = true) (h4 : wc es p = none) : wcode n es p = (0, 5) := by
  unfold wcode; rw [if_neg (by simp [h]), if_neg h1, if_neg h2, if_neg (by simp [h3]), h4]
theorem wcode_some {n s : Int} {es : List E} {p : List Int} (h : nck n es = 0) (h1 : ¬ p.length = 0) (h2 : ¬ 104 < p.length) (h3 : p.all (plc n) = true) (h4 : wc es p = some s) : wcode n es p = (s, 0) := by
  unfold wcode; rw [if_neg (by simp [h]), if_neg h1, if_neg h2, if_neg (by simp [h3]), h4]
theorem wcode_ok {n : Int} {es : List E} {p : List Int} (h : (wcode n es p).2 = 0) : nck n es = 0 ∧ p.length ≠ 0 ∧ p.length ≤ 104 ∧ p.all (plc n) = true ∧ wc es p = some (wcode n es p).1 := by
  by_cases h0 : nck n es = 0
  · by_cases h1 : p.length = 0
    · rw [wcode_nil h0 h1] at h; cases h
    · by_cases h2 : 104 < p.length
      · rw [wcode_long h0 h2] at h; cases h
      · cases h3 : p.all (plc n)
        · rw [wcode_out h0 h1 h2 h3] at h; cases h
        · cases h4 : wc es p with
          | none => rw [wcode_none h0 h1 h2 h3 h4] at h; cases h
          | some s => rw [wcode_some h0 h1 h2 h3 h4]; exact ⟨h0, h1, by omega, rfl, rfl⟩
  · rw [wcode_net p h0] at h; exact absurd h h0
theorem wcode_bad {n : Int} {es : List E} {p : List Int} (h : (wcode n es p).2 ≠ 0) : (wcode n es p).1 = 0 := by
  by_cases h0 : nck n es = 0
  · by_cases h1 : p.length = 0
    · rw [wcode_nil h0 h1]
    · by_cases h2 : 104 < p.length
      · rw [wcode_long h0 h2]
      · cases h3 : p.all (plc n)
        · rw [wcode_out h0 h1 h2 h3]
        · cases h4 : wc es p with
          | none => rw [wcode_none h0 h1 h2 h3 h4]
          | some s => rw [wcode_some h0 h1 h2 h3 h4] at h; exact absurd rfl h
  · rw [wcode_net p h0]

/-- A walk in two parts. -/
theorem wc_parts (es : List E) (a : List Int) (x : Int) (r : List Int) : wc es (a ++ x :: r) = (wc es (a ++ [x])).bind (fun s => (wc es (x :: r)).map (fun t => s + t)) := by
  induction a with
  | nil => rw [List.nil_append, List.nil_append, wc_one]; cases wc es (x :: r) <;> simp
  | cons u a ih =>
    cases a with
    | nil =>
      simp only [List.cons_append, List.nil_append]
      rw [wc_two, wc_two, wc_one]
      cases chp u x es <;> simp
    | cons v a =>
      simp only [List.cons_append] at ih ⊢
      rw [wc_two, wc_two]
      cases chp u v es with
      | none => simp
      | some c =>
        simp only
        rw [ih]
        cases wc es (v :: (a ++ [x])) with
        | none => simp
        | some s => cases wc es (x :: r) <;> simp; omega
theorem wc_back (es : List E) (p : List Int) : wc (es.map trn) p.reverse = wc es p := by
  induction p with
  | nil => rfl
  | cons u r ih =>
    cases r with
    | nil => rfl
    | cons v r =>
      rw [List.reverse_cons, List.reverse_cons, List.append_assoc]
      rw [show ([v] : List Int) ++ [u] = v :: [u] from rfl, wc_parts]
      rw [List.reverse_cons] at ih
      rw [ih, wc_two, wc_two, wc_one, chp_turn]
      cases chp u v es with
      | none => cases wc es (v :: r) <;> simp
      | some c => cases wc es (v :: r) <;> simp; omega
theorem gn_turn {n : Int} {es : List E} (h : Gn n es) : Gn n (es.map trn) := by
  refine ⟨h.n1, h.n64, by simpa using h.len, fun e he => ?_⟩
  obtain ⟨x, hx, rfl⟩ := List.mem_map.1 he
  obtain ⟨a, b, c, d, e, f⟩ := h.ok x hx
  exact ⟨c, d, a, b, e, f⟩
theorem wcode_back {n : Int} {es : List E} (hg : Gn n es) (p : List Int) : wcode n (es.map trn) p.reverse = wcode n es p := by
  unfold wcode
  rw [nck_zero.2 hg, nck_zero.2 (gn_turn hg), List.length_reverse, List.all_reverse, wc_back]
/-- Joined: what is behind a's last. -/
theorem wc_join {es : List E} {a b : List Int} {s : Int} (ha : a ≠ []) (hb : b ≠ []) (he : a.getD (a.length - 1) 0 = b.getD 0 0) (h : wc es (a ++ b.tail) = some s) : ∃ x y, wc es a = some x ∧ wc es b = some y ∧ s = x + y := by
  cases b with
  | nil => exact absurd rfl hb
  | cons x r =>
    have e1 : a = a.dropLast ++ [x] := by
      have h1 := List.dropLast_concat_getLast ha
      have h2 : a.getLast ha = x := by
        rw [List.getLast_eq_getElem]
        have : 0 < a.length := List.length_pos_iff.2 ha
        simpa [List.getD_eq_getElem?_getD, show a.length - 1 < a.length by omega] using he
      rw [h2] at h1; exact h1.symm
    rw [List.tail_cons, e1, List.append_assoc] at h
    rw [show ([x] : List Int) ++ r = x :: r from rfl, wc_parts, ← e1] at h
    cases h1 : wc es a with
    | none => rw [h1] at h; cases h
    | some s1 =>
      cases h2 : wc es (x :: r) with
      | none => rw [h1, h2] at h; cases h
      | some s2 => rw [h1, h2] at h; simp at h; exact ⟨s1, s2, rfl, rfl, h.symm⟩
theorem wcode_join {n : Int} {es : List E} {a b : List Int} (ha : a ≠ []) (hb : b ≠ []) (he : a.getD (a.length - 1) 0 = b.getD 0 0) (h : (wcode n es (a ++ b.tail)).2 = 0) :
    (wcode n es a).2 = 0 ∧ (wcode n es b).2 = 0 ∧ (wcode n es (a ++ b.tail)).1 = (wcode n es a).1 + (wcode n es b).1 := by
  obtain ⟨h0, h1, h2, h3, h4⟩ := wcode_ok h
  obtain ⟨x, y, hx, hy, hs⟩ := wc_join ha hb he h4
  have hla : a.length ≠ 0 := fun e => ha (List.length_eq_zero_iff.1 e)
  have hlb : b.length ≠ 0 := fun e => hb (List.length_eq_zero_iff.1 e)
  have hl : a.length + (b.length - 1) ≤ 104 := by simpa using h2
  rw [List.all_append, Bool.and_eq_true] at h3
  have h5 : b.all (plc n) = true := by
    cases b with
    | nil => rfl
    | cons x r =>
      rw [List.all_cons, Bool.and_eq_true]
      refine ⟨?_, h3.2⟩
      have := List.all_eq_true.1 h3.1 (a.getD (a.length - 1) 0) (by simp [List.getD_eq_getElem?_getD, show a.length - 1 < a.length by omega])
      rw [he] at this
      simpa using this
  rw [wcode_some h0 hla (by omega) h3.1 hx, wcode_some h0 hlb (by omega) h5 hy]
  exact ⟨rfl, rfl, hs⟩
end Go.Proofs.Ytdgihpegdcoilaa.Wm
