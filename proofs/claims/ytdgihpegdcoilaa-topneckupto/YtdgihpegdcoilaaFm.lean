/-
  Plain tables by what lies between: in place, and at once; costs, widths, whether a walk leads there. No Go in sight.
-/
import Derived.Test.YtdgihpegdcoilaaBm
namespace Go.Proofs.Ytdgihpegdcoilaa.Fm
open Nm Wm Dm Bm
set_option linter.unusedSimpArgs false
set_option linter.unusedVariables false

section
variable {α : Type}
/-- Turned at one place. -/
def upt (T : Nat → Nat → α) (i j : Nat) (x : α) : Nat → Nat → α := fun u v => if u = i ∧ v = j then x else T u v
theorem upt_same (T : Nat → Nat → α) (i j : Nat) (x : α) : upt T i j x i j = x := if_pos ⟨rfl, rfl⟩
theorem upt_other (T : Nat → Nat → α) {i j u v : Nat} (x : α) (h : ¬ (u = i ∧ v = j)) : upt T i j x u v = T u v := if_neg h
/-- In place: one place, one row up to a place, the rows up to one, all that may lie between. -/
def celf (best join : α → α → α) (m i j : Nat) (T : Nat → Nat → α) : Nat → Nat → α := upt T i j (best (T i j) (join (T i m) (T m j)))
def rowf (best join : α → α → α) (m i : Nat) (T : Nat → Nat → α) : Nat → Nat → Nat → α
  | 0 => T
  | j + 1 => celf best join m i j (rowf best join m i T j)
def midf (best join : α → α → α) (N m : Nat) (T : Nat → Nat → α) : Nat → Nat → Nat → α
  | 0 => T
  | i + 1 => rowf best join m i (midf best join N m T i) N
def allf (best join : α → α → α) (N : Nat) (T : Nat → Nat → α) : Nat → Nat → Nat → α
  | 0 => T
  | k + 1 => midf best join N k (allf best join N T k) N
/-- At once. -/
def fw (best join : α → α → α) (T : Nat → Nat → α) : Nat → Nat → Nat → α
  | 0 => T
  | k + 1 => fun u v => best (fw best join T k u v) (join (fw best join T k u k) (fw best join T k k v))
/-- The walks without an edge; with the first k edges. -/
def st (none stay : α) : Nat → Nat → α := fun i j => if i = j then stay else none
def sed (best : α → α → α) (edge : Int → α) (es : List E) (T : Nat → Nat → α) : Nat → Nat → Nat → α
  | 0 => T
  | k + 1 => upt (sed best edge es T k) (at3 es k).1.toNat (at3 es k).2.1.toNat (best (sed best edge es T k (at3 es k).1.toNat (at3 es k).2.1.toNat) (edge (at3 es k).2.2))

theorem celf_all {P : α → Prop} {best join : α → α → α} (hb : ∀ a b c, P a → P b → P c → P (best a (join b c))) (m i j : Nat) {T : Nat → Nat → α} (h : ∀ u v, P (T u v)) : ∀ u v, P (celf best join m i j T u v) := by
  intro u v
  unfold celf upt
  split
  · exact hb _ _ _ (h _ _) (h _ _) (h _ _)
  · exact h u v
theorem rowf_all {P : α → Prop} {best join : α → α → α} (hb : ∀ a b c, P a → P b → P c → P (best a (join b c))) (m i : Nat) {T : Nat → Nat → α} (h : ∀ u v, P (T u v)) (j : Nat) : ∀ u v, P (rowf best join m i T j u v) := by
  induction j with
  | zero => exact h
  | succ j ih => exact celf_all hb m i j ih
theorem midf_all {P : α → Prop} {best join : α → α → α} (hb : ∀ a b c, P a → P b → P c → P (best a (join b c))) (N m : Nat) {T : Nat → Nat → α} (h : ∀ u v, P (T u v)) (i : Nat) : ∀ u v, P (midf best join N m T i u v) := by
  induction i with
  | zero => exact h
  | succ i ih => exact rowf_all hb m i ih N
theorem allf_all {P : α → Prop} {best join : α → α → α} (hb : ∀ a b c, P a → P b → P c → P (best a (join b c))) (N : Nat) {T : Nat → Nat → α} (h : ∀ u v, P (T u v)) (k : Nat) : ∀ u v, P (allf best join N T k u v) := by
  induction k with
  | zero => exact h
  | succ k ih => exact midf_all hb N k ih N
theorem fw_all {P : α → Prop} {best join : α → α → α} (hb : ∀ a b c, P a → P b → P c → P (best a (join b c))) {T : Nat → Nat → α} (h : ∀ u v, P (T u v)) (k : Nat) : ∀ u v, P (fw best join T k u v) := by
  induction k with
  | zero => exact h
  | succ k ih => exact fun u v => hb _ _ _ (ih _ _) (ih _ _) (ih _ _)
theorem sed_all {P : α → Prop} {best : α → α → α} {edge : Int → α} {es : List E} (hb : ∀ a b, P a → P b → P (best a b)) (he : ∀ e ∈ es, P (edge e.2.2)) {T : Nat → Nat → α} (h : ∀ u v, P (T u v)) (k : Nat) (hk : k ≤ es.length) : ∀ u v, P (sed best edge es T k u v) := by
  induction k with
  | zero => exact h
  | succ k ih =>
    intro u v
    rw [sed]
    unfold upt
    split
    · exact hb _ _ (ih (by omega) _ _) (he _ (mem_at (by omega)))
    · exact ih (by omega) u v
theorem sed_next (best : α → α → α) (edge : Int → α) (es : List E) (T : Nat → Nat → α) (k : Nat) : sed best edge es T (k + 1) = upt (sed best edge es T k) (at3 es k).1.toNat (at3 es k).2.1.toNat (best (sed best edge es T k (at3 es k).1.toNat (at3 es k).2.1.toNat) (edge (at3 es k).2.2)) := rfl

/-- What lies between leaves its own row and column as they are. -/
structure Calm (best join : α → α → α) (N m : Nat) (T : Nat → Nat → α) : Prop where
  col : ∀ u, u < N → best (T u m) (join (T u m) (T m m)) = T u m
  row : ∀ v, v < N → best (T m v) (join (T m m) (T m v)) = T m v
theorem rowf_at {best join : α → α → α} {N m i : Nat} {T S : Nat → Nat → α} (hc : Calm best join N m T) (hm : m < N) (hi : i < N)
    (hS : ∀ u v, u < N → v < N → S u v = if u < i then best (T u v) (join (T u m) (T m v)) else T u v) (j : Nat) (hj : j ≤ N) :
    ∀ u v, u < N → v < N → rowf best join m i S j u v = if u < i ∨ (u = i ∧ v < j) then best (T u v) (join (T u m) (T m v)) else T u v := by
  induction j with
  | zero =>
    intro u v hu hv
    rw [rowf, hS u v hu hv]
    by_cases h : u < i
    · rw [if_pos h, if_pos (.inl h)]
    · rw [if_neg h, if_neg (by omega)]
  | succ j ih =>
    have ih := ih (by omega)
    intro u v hu hv
    have e1 : rowf best join m i S j i j = T i j := by rw [ih i j hi (by omega), if_neg (by omega)]
    have e2 : rowf best join m i S j i m = T i m := by
      rw [ih i m hi hm]; split
      · exact hc.col i hi
      · rfl
    have e3 : rowf best join m i S j m j = T m j := by
      rw [ih m j hm (by omega)]; split
      · exact hc.row j (by omega)
      · rfl
    rw [rowf]
    unfold celf
    by_cases h : u = i ∧ v = j
    · obtain ⟨rfl, rfl⟩ := h
      rw [upt_same, e1, e2, e3, if_pos (by omega)]
    · rw [upt_other _ _ h, ih u v hu hv]
      by_cases h2 : u < i ∨ (u = i ∧ v < j)
      · rw [if_pos h2, if_pos (by omega)]
      · rw [if_neg h2, if_neg (by omega)]
theorem midf_at {best join : α → α → α} {N m : Nat} {T : Nat → Nat → α} (hc : Calm best join N m T) (hm : m < N) (i : Nat) (hi : i ≤ N) :
    ∀ u v, u < N → v < N → midf best join N m T i u v = if u < i then best (T u v) (join (T u m) (T m v)) else T u v := by
  induction i with
  | zero => intro u v _ _; rw [midf, if_neg (by omega)]
  | succ i ih =>
    intro u v hu hv
    rw [midf, rowf_at hc hm (by omega) (ih (by omega)) N (Nat.le_refl _) u v hu hv]
    by_cases h : u < i + 1
    · rw [if_pos (by omega), if_pos h]
    · rw [if_neg (by omega), if_neg h]
theorem allf_next {best join : α → α → α} {N k : Nat} {T : Nat → Nat → α} (hk : k < N) (hc : Calm best join N k (fw best join T k)) (h : ∀ u v, u < N → v < N → allf best join N T k u v = fw best join T k u v) :
    ∀ u v, u < N → v < N → allf best join N T (k + 1) u v = fw best join T (k + 1) u v := by
  intro u v hu hv
  have hc' : Calm best join N k (allf best join N T k) := by
    refine ⟨fun x hx => ?_, fun x hx => ?_⟩
    · rw [h x k hx hk, h k k hk hk]; exact hc.col x hx
    · rw [h k x hk hx, h k k hk hk]; exact hc.row x hx
  rw [allf, midf_at hc' hk N (Nat.le_refl _) u v hu hv, if_pos hu, h u v hu hv, h u k hu hk, h k v hk hv]
  rfl
theorem allf_fw {best join : α → α → α} {N : Nat} {T : Nat → Nat → α} (hc : ∀ k, k < N → Calm best join N k (fw best join T k)) (k : Nat) (hk : k ≤ N) :
    ∀ u v, u < N → v < N → allf best join N T k u v = fw best join T k u v := by
  induction k with
  | zero => intro u v _ _; rfl
  | succ k ih => exact allf_next (by omega) (hc k (by omega)) (ih (by omega))
/-- In place it only falls. -/
theorem rowf_le {best join : α → α → α} {le : α → α → Prop} (hr : ∀ a, le a a) (ht : ∀ a b c, le a b → le b c → le a c) (hb : ∀ a b, le (best a b) a) (m i : Nat) (T : Nat → Nat → α) (j : Nat) : ∀ u v, le (rowf best join m i T j u v) (T u v) := by
  induction j with
  | zero => intro u v; exact hr _
  | succ j ih =>
    intro u v
    rw [rowf]
    unfold celf
    by_cases h : u = i ∧ v = j
    · obtain ⟨rfl, rfl⟩ := h
      rw [upt_same]
      exact ht _ _ _ (hb _ _) (ih u v)
    · rw [upt_other _ _ h]; exact ih u v
theorem midf_le {best join : α → α → α} {le : α → α → Prop} (hr : ∀ a, le a a) (ht : ∀ a b c, le a b → le b c → le a c) (hb : ∀ a b, le (best a b) a) (N m : Nat) (T : Nat → Nat → α) (i : Nat) : ∀ u v, le (midf best join N m T i u v) (T u v) := by
  induction i with
  | zero => intro u v; exact hr _
  | succ i ih => intro u v; exact ht _ _ _ (rowf_le hr ht hb m i _ N u v) (ih u v)
end

section
variable {α β : Type}
theorem fw_map (f : α → β) {best join : α → α → α} {best' join' : β → β → β} (hb : ∀ a b, f (best a b) = best' (f a) (f b)) (hj : ∀ a b, f (join a b) = join' (f a) (f b)) (T : Nat → Nat → α) (k : Nat) :
    ∀ u v, f (fw best join T k u v) = fw best' join' (fun u v => f (T u v)) k u v := by
  induction k with
  | zero => intro u v; rfl
  | succ k ih => intro u v; rw [fw, fw, hb, hj, ih, ih, ih]
theorem fw_congr {best join : α → α → α} {T S : Nat → Nat → α} (h : ∀ u v, T u v = S u v) (k : Nat) : ∀ u v, fw best join T k u v = fw best join S k u v := by
  induction k with
  | zero => exact h
  | succ k ih => intro u v; rw [fw, fw]; dsimp only; rw [ih, ih, ih]
theorem sed_map (f : α → β) {best : α → α → α} {best' : β → β → β} (hb : ∀ a b, f (best a b) = best' (f a) (f b)) (edge : Int → α) (es : List E) (T : Nat → Nat → α) (k : Nat) :
    ∀ u v, f (sed best edge es T k u v) = sed best' (fun c => f (edge c)) es (fun u v => f (T u v)) k u v := by
  induction k with
  | zero => intro u v; rfl
  | succ k ih =>
    intro u v
    rw [sed, sed]
    unfold upt
    split
    · rw [hb, ih]
    · exact ih u v
theorem sed_congr {best : α → α → α} {edge : Int → α} {es : List E} {T S : Nat → Nat → α} (h : ∀ u v, T u v = S u v) (k : Nat) : ∀ u v, sed best edge es T k u v = sed best edge es S k u v := by
  have : T = S := funext fun u => funext fun v => h u v
  rw [this]; intro u v; rfl
theorem fw_turn {best join : α → α → α} (hc : ∀ a b, join a b = join b a) {T S : Nat → Nat → α} (h : ∀ u v, T u v = S v u) (k : Nat) : ∀ u v, fw best join T k u v = fw best join S k v u := by
  induction k with
  | zero => exact h
  | succ k ih => intro u v; rw [fw, fw]; dsimp only; rw [ih u v, ih u k, ih k v, hc]
theorem at_turn {es : List E} {k : Nat} (h : k < es.length) : at3 (es.map trn) k = trn (at3 es k) := by
  unfold at3; simp [List.getD_eq_getElem?_getD, h]
theorem sed_turn {best : α → α → α} {edge : Int → α} {es : List E} {T S : Nat → Nat → α} (h : ∀ u v, T u v = S v u) (k : Nat) (hk : k ≤ es.length) : ∀ u v, sed best edge (es.map trn) T k u v = sed best edge es S k v u := by
  induction k with
  | zero => exact h
  | succ k ih =>
    have ih := ih (by omega)
    intro u v
    rw [sed, sed, at_turn (by omega)]
    have t1 : (trn (at3 es k)).1 = (at3 es k).2.1 := rfl
    have t2 : (trn (at3 es k)).2.1 = (at3 es k).1 := rfl
    have t3 : (trn (at3 es k)).2.2 = (at3 es k).2.2 := rfl
    rw [t1, t2, t3]
    unfold upt
    by_cases e : u = (at3 es k).2.1.toNat ∧ v = (at3 es k).1.toNat
    · rw [if_pos e, if_pos ⟨e.2, e.1⟩, ih]
    · rw [if_neg e, if_neg (fun h => e ⟨h.2, h.1⟩), ih]
theorem st_turn (none stay : α) (u v : Nat) : st none stay u v = st none stay v u := by
  unfold st
  by_cases h : u = v
  · rw [if_pos h, if_pos h.symm]
  · rw [if_neg h, if_neg (fun e => h e.symm)]
end

/-- A walk of so many edges that are so. -/
def Wk (p : E → Bool) (es : List E) (s : Nat) : Nat → Nat → Prop
  | 0, v => v = s
  | k + 1, v => ∃ e ∈ es, p e = true ∧ e.2.1.toNat = v ∧ Wk p es s k e.1.toNat
theorem wk_app {p : E → Bool} {es : List E} {s m i : Nat} (h1 : Wk p es s i m) (j : Nat) : ∀ v, Wk p es m j v → Wk p es s (i + j) v := by
  induction j with
  | zero => intro v h; rw [show v = m from h]; exact h1
  | succ j ih => rintro v ⟨e, he, hp, h2, h3⟩; exact ⟨e, he, hp, h2, ih _ h3⟩
theorem wk_one {p : E → Bool} {es : List E} {e : E} (he : e ∈ es) (hp : p e = true) : Wk p es e.1.toNat 1 e.2.1.toNat := ⟨e, he, hp, rfl, rfl⟩
/-- The edges that are so, for nothing. -/
def ez (p : E → Bool) (es : List E) : List E := (es.filter p).map (fun e => (e.1, e.2.1, 0))
theorem ez_mem {p : E → Bool} {es : List E} {x : E} : x ∈ ez p es ↔ ∃ e ∈ es, p e = true ∧ x = (e.1, e.2.1, 0) := by
  unfold ez
  simp only [List.mem_map, List.mem_filter]
  constructor
  · rintro ⟨e, ⟨h1, h2⟩, h3⟩; exact ⟨e, h1, h2, h3.symm⟩
  · rintro ⟨e, h1, h2, h3⟩; exact ⟨e, ⟨h1, h2⟩, h3.symm⟩
theorem wk_rc {p : E → Bool} {es : List E} {s : Nat} (k : Nat) : ∀ v, Wk p es s k v → Rc (ez p es) (start s) k v 0 := by
  induction k with
  | zero => intro v h; rw [show v = s from h]; exact ⟨if_pos rfl, by decide⟩
  | succ k ih =>
    rintro v ⟨e, he, hp, h1, h2⟩
    exact ⟨by decide, (e.1, e.2.1, 0), ez_mem.2 ⟨e, he, hp, rfl⟩, h1, ih _ h2⟩
theorem rc_wk {p : E → Bool} {es : List E} {s : Nat} (k : Nat) : ∀ v c, Rc (ez p es) (start s) k v c → Wk p es s k v ∧ c = 0 := by
  induction k with
  | zero =>
    rintro v c ⟨h1, h2⟩
    by_cases e : v = s
    · subst e; rw [show start v v = 0 from if_pos rfl] at h1; exact ⟨rfl, h1.symm⟩
    · rw [show start s v = far from if_neg e] at h1; omega
  | succ k ih =>
    rintro v c ⟨_, x, hx, h1, h2⟩
    obtain ⟨e, he, hp, rfl⟩ := ez_mem.1 hx
    obtain ⟨h3, h4⟩ := ih _ _ h2
    exact ⟨⟨e, he, hp, h1, h3⟩, by simpa using h4⟩
theorem wk_short {p : E → Bool} {N : Nat} {es : List E} (hi : Inn N es) {s v k : Nat} (hv : v < N) (h : Wk p es s k v) : ∃ j, j + 1 ≤ N ∧ Wk p es s j v := by
  classical
  have hz : Inn N (ez p es) := by
    intro x hx
    obtain ⟨e, he, _, rfl⟩ := ez_mem.1 hx
    exact hi e he
  have hl : Ls N (ez p es) (start s) (fun v => if ∃ k, Wk p es s k v then 0 else far) := by
    refine ⟨fun v _ => ?_, fun v _ => ?_, fun x hx hf => ?_, fun v _ hf => ?_⟩
    · split
      · decide
      · exact Int.le_refl _
    · split
      · unfold start; split <;> decide
      · rename_i h0
        unfold start
        rw [if_neg (show ¬ v = s from fun e => h0 ⟨0, e⟩)]
        exact Int.le_refl _
    · obtain ⟨e, he, hp, rfl⟩ := ez_mem.1 hx
      split at hf
      · rename_i h1
        obtain ⟨k, hk⟩ := h1
        rw [if_pos ⟨k + 1, e, he, hp, rfl, hk⟩, if_pos ⟨k, hk⟩]
        exact Int.le_refl (0 : Int)
      · exact absurd hf (by decide)
    · split at hf
      · rename_i h1
        obtain ⟨k, hk⟩ := h1
        rw [if_pos ⟨k, hk⟩]
        exact ⟨k, wk_rc k v hk⟩
      · exact absurd hf (by decide)
  obtain ⟨j, h1, h2⟩ := hl.short hz hv (by rw [if_pos ⟨k, h⟩]; decide)
  exact ⟨j, h1, (rc_wk j v _ h2).1⟩

/-- The document's rounds: the first k edges of one; so many. -/
def rst (p : E → Bool) (es : List E) (O : Nat → Bool) : Nat → Nat → Bool
  | 0 => O
  | k + 1 => if rst p es O k (at3 es k).1.toNat = true ∧ p (at3 es k) = true then fun i => if i = (at3 es k).2.1.toNat then true else rst p es O k i else rst p es O k
theorem rst_yes {p : E → Bool} {es : List E} {O : Nat → Bool} {k : Nat} (h : rst p es O k (at3 es k).1.toNat = true ∧ p (at3 es k) = true) : rst p es O (k + 1) = fun i => if i = (at3 es k).2.1.toNat then true else rst p es O k i := by rw [rst, if_pos h]
theorem rst_no {p : E → Bool} {es : List E} {O : Nat → Bool} {k : Nat} (h : ¬ (rst p es O k (at3 es k).1.toNat = true ∧ p (at3 es k) = true)) : rst p es O (k + 1) = rst p es O k := by rw [rst, if_neg h]
theorem rst_up (p : E → Bool) (es : List E) (O : Nat → Bool) (k i : Nat) (h : rst p es O k i = true) : rst p es O (k + 1) i = true := by
  by_cases h1 : rst p es O k (at3 es k).1.toNat = true ∧ p (at3 es k) = true
  · rw [rst_yes h1]; dsimp only; split
    · rfl
    · exact h
  · rw [rst_no h1]; exact h
theorem rst_mono (p : E → Bool) (es : List E) (O : Nat → Bool) {j k i : Nat} (h : j ≤ k) (hj : rst p es O j i = true) : rst p es O k i = true := by
  induction k with
  | zero => rw [show j = 0 by omega] at hj; exact hj
  | succ k ih =>
    rcases (show j ≤ k ∨ j = k + 1 by omega) with h1 | rfl
    · exact rst_up p es O k i (ih h1)
    · exact hj
theorem rst_sound {p : E → Bool} {es : List E} {O : Nat → Bool} {s : Nat} (h : ∀ i, O i = true → ∃ j, Wk p es s j i) (k : Nat) (hk : k ≤ es.length) : ∀ i, rst p es O k i = true → ∃ j, Wk p es s j i := by
  induction k with
  | zero => exact h
  | succ k ih =>
    have ih := ih (by omega)
    intro i hi
    by_cases h1 : rst p es O k (at3 es k).1.toNat = true ∧ p (at3 es k) = true
    · rw [rst_yes h1] at hi
      dsimp only at hi
      by_cases e : i = (at3 es k).2.1.toNat
      · obtain ⟨j, hj⟩ := ih _ h1.1
        exact ⟨j + 1, at3 es k, mem_at (by omega), h1.2, e.symm, hj⟩
      · rw [if_neg e] at hi; exact ih i hi
    · rw [rst_no h1] at hi; exact ih i hi
theorem rst_step {p : E → Bool} {es : List E} {O : Nat → Bool} {e : E} (he : e ∈ es) (hp : p e = true) (hO : O e.1.toNat = true) : rst p es O es.length e.2.1.toNat = true := by
  obtain ⟨j, hj, rfl⟩ := List.mem_iff_getElem.1 he
  have e3 : at3 es j = es[j] := by unfold at3; simp [hj]
  refine rst_mono p es O (show j + 1 ≤ es.length by omega) ?_
  have h0 : rst p es O j (at3 es j).1.toNat = true := rst_mono p es O (Nat.zero_le j) (by rw [e3]; exact hO)
  rw [rst_yes ⟨h0, by rw [e3]; exact hp⟩, e3]
  simp
def rrd (p : E → Bool) (es : List E) (O : Nat → Bool) : Nat → Nat → Bool
  | 0 => O
  | r + 1 => rst p es (rrd p es O r) es.length
def one (s : Nat) : Nat → Bool := fun i => decide (i = s)
theorem rrd_iff {p : E → Bool} {N : Nat} {es : List E} (hi : Inn N es) (s : Nat) {v : Nat} (hv : v < N) : rrd p es (one s) N v = true ↔ ∃ j, Wk p es s j v := by
  constructor
  · have : ∀ r i, rrd p es (one s) r i = true → ∃ j, Wk p es s j i := by
      intro r
      induction r with
      | zero => intro i h; exact ⟨0, @of_decide_eq_true (i = s) _ h⟩
      | succ r ih => exact rst_sound ih es.length (Nat.le_refl _)
    exact this N v
  · rintro ⟨j, hj⟩
    obtain ⟨j, h1, h2⟩ := wk_short hi hv hj
    have key : ∀ r i x, i ≤ r → Wk p es s i x → rrd p es (one s) r x = true := by
      intro r
      induction r with
      | zero => intro i x h h3; obtain rfl : i = 0 := by omega
                exact @decide_eq_true (x = s) _ h3
      | succ r ih =>
        intro i x h h3
        cases i with
        | zero => exact rst_mono p es _ (Nat.zero_le _) (ih 0 x (Nat.zero_le _) h3)
        | succ i =>
          obtain ⟨e, he, hp, h4, h5⟩ := h3
          rw [← h4]
          exact rst_step he hp (ih i _ (by omega) h5)
    exact key N j v (by omega) h2

/-- Where walks lead, by what lies between. -/
abbrev fwb (edge : Int → Bool) (es : List E) : Nat → Nat → Nat → Bool := fw or and (sed or edge es (st false true) es.length)
theorem sed_true {edge : Int → Bool} {es : List E} (k : Nat) (hk : k ≤ es.length) {u v : Nat} (h : sed or edge es (st false true) k u v = true) : u = v ∨ ∃ e ∈ es, edge e.2.2 = true ∧ e.1.toNat = u ∧ e.2.1.toNat = v := by
  induction k with
  | zero =>
    left
    unfold sed st at h
    by_cases e : u = v
    · exact e
    · rw [if_neg e] at h; cases h
  | succ k ih =>
    rw [sed] at h
    unfold upt at h
    by_cases e : u = (at3 es k).1.toNat ∧ v = (at3 es k).2.1.toNat
    · rw [if_pos e, ← e.1, ← e.2, Bool.or_eq_true] at h
      rcases h with h | h
      · exact ih (by omega) h
      · exact .inr ⟨at3 es k, mem_at (by omega), h, e.1.symm, e.2.symm⟩
    · rw [if_neg e] at h
      exact ih (by omega) h
theorem sed_up (edge : Int → Bool) (es : List E) (T : Nat → Nat → Bool) {j k u v : Nat} (hjk : j ≤ k) (h : sed or edge es T j u v = true) : sed or edge es T k u v = true := by
  induction k with
  | zero => rw [show j = 0 by omega] at h; exact h
  | succ k ih =>
    rcases (show j ≤ k ∨ j = k + 1 by omega) with h1 | rfl
    · have := ih h1
      rw [sed]; unfold upt; split
      · rename_i e
        rw [← e.1, ← e.2, this]; rfl
      · exact this
    · exact h
theorem sed_edge {edge : Int → Bool} {es : List E} {T : Nat → Nat → Bool} {e : E} (he : e ∈ es) (hp : edge e.2.2 = true) : sed or edge es T es.length e.1.toNat e.2.1.toNat = true := by
  obtain ⟨j, hj, rfl⟩ := List.mem_iff_getElem.1 he
  have e3 : at3 es j = es[j] := by unfold at3; simp [hj]
  refine sed_up edge es T (show j + 1 ≤ es.length by omega) ?_
  rw [sed, e3, upt_same, hp, Bool.or_true]
theorem fwb_up (edge : Int → Bool) (es : List E) {k u v : Nat} (h : fwb edge es 0 u v = true) : fwb edge es k u v = true := by
  induction k with
  | zero => exact h
  | succ k ih => rw [fwb, fw]; dsimp only; rw [fwb] at ih; rw [ih]; rfl
theorem fwb_self (edge : Int → Bool) (es : List E) (k v : Nat) : fwb edge es k v v = true := fwb_up edge es (sed_up edge es _ (Nat.zero_le _) (if_pos rfl))
theorem fwb_sound {edge : Int → Bool} {es : List E} (k : Nat) : ∀ u v, fwb edge es k u v = true → ∃ j, Wk (fun e => edge e.2.2) es u j v := by
  induction k with
  | zero =>
    intro u v h
    rcases sed_true es.length (Nat.le_refl _) h with rfl | ⟨e, he, hp, rfl, rfl⟩
    · exact ⟨0, rfl⟩
    · exact ⟨1, wk_one he hp⟩
  | succ k ih =>
    intro u v h
    rw [fwb, fw] at h
    dsimp only at h
    rw [Bool.or_eq_true, Bool.and_eq_true] at h
    rcases h with h | ⟨h1, h2⟩
    · exact ih u v h
    · obtain ⟨i, hi⟩ := ih u k h1
      obtain ⟨j, hj⟩ := ih k v h2
      exact ⟨i + j, wk_app hi j v hj⟩
theorem fwb_between (edge : Int → Bool) (es : List E) (k : Nat) : ∀ m x y, m < k → fwb edge es k x m = true → fwb edge es k m y = true → fwb edge es k x y = true := by
  induction k with
  | zero => intro m x y h; omega
  | succ k ih =>
    intro m x y hm h1 h2
    have hk := fwb_self edge es k k
    have key : ∀ a b, fwb edge es (k + 1) a b = (fwb edge es k a b || (fwb edge es k a k && fwb edge es k k b)) := fun a b => rfl
    rw [key] at h1 h2 ⊢
    rw [Bool.or_eq_true, Bool.and_eq_true] at h1 h2 ⊢
    rcases (show m < k ∨ m = k by omega) with hm | rfl
    · rcases h1 with h1 | ⟨h1, h3⟩
      · rcases h2 with h2 | ⟨h2, h4⟩
        · exact .inl (ih m x y hm h1 h2)
        · exact .inr ⟨ih m x k hm h1 h2, h4⟩
      · rcases h2 with h2 | ⟨h2, h4⟩
        · exact .inr ⟨h1, ih m k y hm h3 h2⟩
        · exact .inr ⟨h1, h4⟩
    · right
      constructor
      · rcases h1 with h1 | h1
        · exact h1
        · exact h1.1
      · rcases h2 with h2 | h2
        · exact h2
        · exact h2.2
theorem fwb_iff {edge : Int → Bool} {N : Nat} {es : List E} (hi : Inn N es) (u : Nat) {v : Nat} : fwb edge es N u v = true ↔ ∃ j, Wk (fun e => edge e.2.2) es u j v := by
  constructor
  · exact fwb_sound N u v
  · rintro ⟨j, hj⟩
    induction j generalizing v with
    | zero => rw [show v = u from hj]; exact fwb_self edge es N u
    | succ j ih =>
      obtain ⟨e, he, hp, rfl, h2⟩ := hj
      exact fwb_between edge es N _ _ _ (hi e he).1 (ih h2) (fwb_up edge es (sed_edge he hp))
theorem fwb_rrd {edge : Int → Bool} {N : Nat} {es : List E} (hi : Inn N es) (u : Nat) {v : Nat} (hv : v < N) : fwb edge es N u v = rrd (fun e => edge e.2.2) es (one u) N v := by
  have h1 := fwb_iff (edge := edge) hi u (v := v)
  have h2 := rrd_iff (p := fun e => edge e.2.2) hi u hv
  cases a : fwb edge es N u v <;> cases b : rrd (fun e => edge e.2.2) es (one u) N v
  · rfl
  · exact absurd (h1.2 (h2.1 b)) (by simp [a])
  · exact absurd (h2.2 (h1.1 a)) (by simp [b])
  · rfl
theorem calm_or (N m : Nat) (T : Nat → Nat → Bool) : Calm or and N m T :=
  ⟨fun u _ => by cases T u m <;> rfl, fun v _ => by cases T m m <;> cases T m v <;> rfl⟩
theorem allf_or {edge : Int → Bool} {N : Nat} {es : List E} {u v : Nat} (hu : u < N) (hv : v < N) : allf or and N (sed or edge es (st false true) es.length) N u v = fwb edge es N u v :=
  allf_fw (fun k _ => calm_or N k _) N (Nat.le_refl _) u v hu hv

/-- How wide, by what lies between. -/
abbrev wide0 (es : List E) : Nat → Nat → Int := sed max (fun c => c) es (st (-far) far) es.length
abbrev fww (es : List E) : Nat → Nat → Nat → Int := fw max min (wide0 es)
theorem calm_max (N m : Nat) (T : Nat → Nat → Int) : Calm max min N m T := ⟨fun u _ => by omega, fun v _ => by omega⟩
theorem allf_max {N : Nat} {es : List E} {u v : Nat} (hu : u < N) (hv : v < N) : allf max min N (wide0 es) N u v = fww es N u v :=
  allf_fw (fun k _ => calm_max N k _) N (Nat.le_refl _) u v hu hv
theorem fww_thr {t : Int} (ht : -far < t) (ht' : t ≤ far) (es : List E) (k u v : Nat) : decide (t ≤ fww es k u v) = fwb (fun c => decide (t ≤ c)) es k u v := by
  have hmax : ∀ a b : Int, decide (t ≤ max a b) = (decide (t ≤ a) || decide (t ≤ b)) := fun a b => by
    rw [← Bool.decide_or]; exact decide_eq_decide.2 (by omega)
  have hmin : ∀ a b : Int, decide (t ≤ min a b) = (decide (t ≤ a) && decide (t ≤ b)) := fun a b => by
    rw [← Bool.decide_and]; exact decide_eq_decide.2 (by omega)
  have h1 := fw_map (fun x : Int => decide (t ≤ x)) (best' := or) (join' := and) hmax hmin (wide0 es) k u v
  rw [h1]
  refine fw_congr (fun a b => ?_) k u v
  rw [sed_map (fun x : Int => decide (t ≤ x)) (best' := or) hmax]
  refine sed_congr (fun a b => ?_) _ a b
  unfold st
  by_cases e : a = b
  · rw [if_pos e, if_pos e]; exact decide_eq_true ht'
  · rw [if_neg e, if_neg e]; exact decide_eq_false (by omega)
theorem fww_iff {t : Int} (ht : -far < t) (ht' : t ≤ far) {N : Nat} {es : List E} (hi : Inn N es) {u v : Nat} : t ≤ fww es N u v ↔ ∃ j, Wk (fun e => decide (t ≤ e.2.2)) es u j v := by
  rw [← fwb_iff (edge := fun c => decide (t ≤ c)) hi u, ← fww_thr ht ht']
  exact decide_eq_true_iff.symm
/-- A width is none, far, or some edge's cost. -/
theorem fww_from (es : List E) (k u v : Nat) : fww es k u v = -far ∨ fww es k u v = far ∨ ∃ e ∈ es, e.2.2 = fww es k u v := by
  have hm : ∀ a b : Int, (a = -far ∨ a = far ∨ ∃ e ∈ es, e.2.2 = a) → (b = -far ∨ b = far ∨ ∃ e ∈ es, e.2.2 = b) → (max a b = -far ∨ max a b = far ∨ ∃ e ∈ es, e.2.2 = max a b) := fun a b ha hb => by
    rcases (show max a b = a ∨ max a b = b by omega) with h | h
    · rw [h]; exact ha
    · rw [h]; exact hb
  have hn : ∀ a b : Int, (a = -far ∨ a = far ∨ ∃ e ∈ es, e.2.2 = a) → (b = -far ∨ b = far ∨ ∃ e ∈ es, e.2.2 = b) → (min a b = -far ∨ min a b = far ∨ ∃ e ∈ es, e.2.2 = min a b) := fun a b ha hb => by
    rcases (show min a b = a ∨ min a b = b by omega) with h | h
    · rw [h]; exact ha
    · rw [h]; exact hb
  refine fw_all (P := fun x => x = -far ∨ x = far ∨ ∃ e ∈ es, e.2.2 = x) (fun a b c ha hb hc => hm _ _ ha (hn _ _ hb hc)) ?_ k u v
  refine sed_all (P := fun x => x = -far ∨ x = far ∨ ∃ e ∈ es, e.2.2 = x) hm (fun e he => .inr (.inr ⟨e, he, rfl⟩)) (fun a b => ?_) es.length (Nat.le_refl _)
  unfold st
  split
  · exact .inr (.inl rfl)
  · exact .inl rfl
theorem fww_low (es : List E) (hlow : ∀ e ∈ es, -far < e.2.2) (k u v : Nat) : -far ≤ fww es k u v := by
  rcases fww_from es k u v with h | h | ⟨e, he, h⟩
  · omega
  · rw [h]; decide
  · have := hlow e he; omega
theorem fww_off {N : Nat} {es : List E} (hb : Rnt N es) {u v : Nat} (h : u ≠ v) : fww es N u v ≠ far := by
  intro e
  obtain ⟨j, hj⟩ := (fww_iff (t := far) (by decide) (Int.le_refl _) hb.inn).1 (Int.le_of_eq e.symm)
  cases j with
  | zero => exact h (show v = u from hj).symm
  | succ j =>
    obtain ⟨x, hx, hp, _⟩ := hj
    have := of_decide_eq_true hp
    have := (hb.nat hx).2.2.2
    have hF : far = 1099511627776 := rfl
    omega
theorem fww_self {N : Nat} {es : List E} (hb : Rnt N es) (v : Nat) : fww es N v v = far := by
  have h1 : far ≤ fww es N v v := (fww_iff (t := far) (by decide) (Int.le_refl _) hb.inn).2 ⟨0, rfl⟩
  rcases fww_from es N v v with h | h | ⟨e, he, h⟩
  · have hF : far = 1099511627776 := rfl
    omega
  · exact h
  · have := (hb.nat he).2.2.2
    have hF : far = 1099511627776 := rfl
    omega
/-- The document's row: the first k edges' costs. -/
def dwd (N : Nat) (es : List E) (s : Nat) : Nat → Nat → Int
  | 0 => fun _ => -far
  | k + 1 => fun u => if rrd (fun e => decide ((at3 es k).2.2 ≤ e.2.2)) es (one s) N u = true then max (dwd N es s k u) (at3 es k).2.2 else dwd N es s k u
theorem dwd_up (N : Nat) (es : List E) (s u : Nat) {j k : Nat} (h : j ≤ k) : dwd N es s j u ≤ dwd N es s k u := by
  induction k with
  | zero => rw [show j = 0 by omega]; exact Int.le_refl _
  | succ k ih =>
    rcases (show j ≤ k ∨ j = k + 1 by omega) with h1 | rfl
    · refine Int.le_trans (ih h1) ?_
      rw [dwd]; dsimp only; split <;> omega
    · exact Int.le_refl _
theorem dwd_is {N : Nat} {es : List E} (hb : Rnt N es) (s : Nat) {u : Nat} (hu : u < N) (hne : s ≠ u) : dwd N es s es.length u = fww es N s u := by
  have hF : far = 1099511627776 := rfl
  have hlow : ∀ e ∈ es, -far < e.2.2 := fun e he => by have := (hb.nat he).2.2.1; omega
  have h1 : ∀ k, k ≤ es.length → dwd N es s k u ≤ fww es N s u := by
    intro k
    induction k with
    | zero => intro _; exact fww_low es hlow N s u
    | succ k ih =>
      intro hk
      have ih := ih (by omega)
      rw [dwd]; dsimp only
      split
      · rename_i h
        have hm := mem_at (show k < es.length by omega)
        have hr := (rrd_iff hb.inn s hu).1 h
        have := (fww_iff (hlow _ hm) (by have := (hb.nat hm).2.2.2; omega) hb.inn).2 hr
        omega
      · exact ih
  have h2 : fww es N s u ≤ dwd N es s es.length u := by
    rcases fww_from es N s u with h | h | ⟨e, he, h⟩
    · rw [h]; exact dwd_up N es s u (Nat.zero_le _)
    · exact absurd h (fww_off hb hne)
    · obtain ⟨j, hj, rfl⟩ := List.mem_iff_getElem.1 he
      have e3 : at3 es j = es[j] := by unfold at3; simp [hj]
      refine Int.le_trans ?_ (dwd_up N es s u (show j + 1 ≤ es.length by omega))
      have hr := (fww_iff (N := N) (es := es) (u := s) (v := u) (t := es[j].2.2) (hlow _ he) (by have := (hb.nat he).2.2.2; omega) hb.inn).1 (by omega)
      rw [dwd]; dsimp only
      rw [e3, if_pos ((rrd_iff hb.inn s hu).2 hr)]
      omega
  have := h1 es.length (Nat.le_refl _)
  omega
end Go.Proofs.Ytdgihpegdcoilaa.Fm
