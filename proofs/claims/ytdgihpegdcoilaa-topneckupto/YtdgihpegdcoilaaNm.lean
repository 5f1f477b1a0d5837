/-
  Plain nets: edges, what is wrong with them. No Go in sight.
-/
import Derived.KernelRfl
namespace Go.Proofs.Ytdgihpegdcoilaa.Nm
set_option linter.unusedSimpArgs false

abbrev E := Int × Int × Int
def at3 (l : List E) (i : Nat) : E := l.getD i (0, 0, 0)
theorem drop_at {es : List E} {k : Nat} (h : k < es.length) : es.drop k = at3 es k :: es.drop (k + 1) := by
  rw [List.drop_eq_getElem_cons h]; congr 1; unfold at3; simp [h]
theorem mem_at {es : List E} {k : Nat} (h : k < es.length) : at3 es k ∈ es := by
  unfold at3; simp [List.getD_eq_getElem?_getD, h]

def plc (n v : Int) : Bool := decide (0 ≤ v ∧ v < n)
/-- What is wrong with one edge. -/
def code (n : Int) (e : E) : Int := if plc n e.1 = true ∧ plc n e.2.1 = true then if -10000 ≤ e.2.2 ∧ e.2.2 ≤ 10000 then 0 else 4 else 1
/-- What is wrong with the first edge that is wrong. -/
def ech (n : Int) : List E → Int
  | [] => 0
  | e :: r => if code n e = 0 then ech n r else code n e
def nck (n : Int) (es : List E) : Int := if n < 1 ∨ 64 < n then 1 else if 600 < es.length then 2 else ech n es
theorem nck_n {n : Int} (es : List E) (h : n < 1 ∨ 64 < n) : nck n es = 1 := by unfold nck; rw [if_pos h]
theorem nck_l {n : Int} {es : List E} (h : ¬ (n < 1 ∨ 64 < n)) (hl : 600 < es.length) : nck n es = 2 := by unfold nck; rw [if_neg h, if_pos hl]
theorem nck_e {n : Int} {es : List E} (h : ¬ (n < 1 ∨ 64 < n)) (hl : ¬ 600 < es.length) : nck n es = ech n es := by unfold nck; rw [if_neg h, if_neg hl]
theorem ech_ok {n : Int} {es : List E} {k : Nat} (hi : ech n es = ech n (es.drop k)) (h : k < es.length) (hc : code n (at3 es k) = 0) : ech n es = ech n (es.drop (k + 1)) := by
  rw [hi, drop_at h, ech, if_pos hc]
theorem ech_bad {n : Int} {es : List E} {k : Nat} (hi : ech n es = ech n (es.drop k)) (h : k < es.length) (hc : code n (at3 es k) ≠ 0) : ech n es = code n (at3 es k) := by
  rw [hi, drop_at h, ech, if_neg hc]
theorem ech_end {n : Int} {es : List E} (hi : ech n es = ech n (es.drop es.length)) : ech n es = 0 := by
  rw [hi, List.drop_length]; rfl
theorem plc_yes {n v : Int} (h0 : 0 ≤ v) (h1 : v < n) : plc n v = true := decide_eq_true ⟨h0, h1⟩
theorem plc_no {n v : Int} (h : ¬ (0 ≤ v ∧ v < n)) : plc n v = false := decide_eq_false h
theorem code_1 {n x y z : Int} (h : plc n x = false) : code n (x, y, z) = 1 := by unfold code; rw [if_neg (by simp [h])]
theorem code_2 {n x y z : Int} (h : plc n y = false) : code n (x, y, z) = 1 := by unfold code; rw [if_neg (by simp [h])]
theorem code_4 {n x y z : Int} (h1 : plc n x = true) (h2 : plc n y = true) (h : ¬ (-10000 ≤ z ∧ z ≤ 10000)) : code n (x, y, z) = 4 := by unfold code; rw [if_pos ⟨h1, h2⟩, if_neg h]
theorem code_0 {n x y z : Int} (h1 : plc n x = true) (h2 : plc n y = true) (h : -10000 ≤ z ∧ z ≤ 10000) : code n (x, y, z) = 0 := by unfold code; rw [if_pos ⟨h1, h2⟩, if_pos h]

/-- A net as it should be. -/
structure Gn (n : Int) (es : List E) : Prop where
  n1 : 1 ≤ n
  n64 : n ≤ 64
  len : es.length ≤ 600
  ok : ∀ e ∈ es, 0 ≤ e.1 ∧ e.1 < n ∧ 0 ≤ e.2.1 ∧ e.2.1 < n ∧ -10000 ≤ e.2.2 ∧ e.2.2 ≤ 10000
theorem code_zero {n : Int} {e : E} : code n e = 0 ↔ (0 ≤ e.1 ∧ e.1 < n ∧ 0 ≤ e.2.1 ∧ e.2.1 < n ∧ -10000 ≤ e.2.2 ∧ e.2.2 ≤ 10000) := by
  unfold code plc
  constructor
  · intro h
    split at h
    · rename_i h1
      split at h
      · rename_i h2
        have a := of_decide_eq_true h1.1
        have b := of_decide_eq_true h1.2
        exact ⟨a.1, a.2, b.1, b.2, h2.1, h2.2⟩
      · cases h
    · cases h
  · rintro ⟨a, b, c, d, e, f⟩
    rw [if_pos ⟨decide_eq_true ⟨a, b⟩, decide_eq_true ⟨c, d⟩⟩, if_pos ⟨e, f⟩]
theorem ech_zero {n : Int} {es : List E} : ech n es = 0 ↔ ∀ e ∈ es, code n e = 0 := by
  induction es with
  | nil => simp [ech]
  | cons e r ih =>
    rw [ech]
    by_cases h : code n e = 0
    · rw [if_pos h, ih]; simp [h]
    · rw [if_neg h]; simp [h]
theorem nck_zero {n : Int} {es : List E} : nck n es = 0 ↔ Gn n es := by
  constructor
  · intro h
    unfold nck at h
    split at h
    · cases h
    · rename_i h1
      split at h
      · cases h
      · exact ⟨by omega, by omega, by omega, fun e he => code_zero.1 (ech_zero.1 h e he)⟩
  · intro h
    have h1 := h.n1
    have h2 := h.n64
    have h3 := h.len
    rw [nck_e (by omega) (by omega)]
    exact ech_zero.2 (fun e he => code_zero.2 (h.ok e he))
/-- What Pos says. -/
def nps (n : Int) (es : List E) : Int := if nck n es ≠ 0 then nck n es else if es.all (fun e => decide (1 ≤ e.2.2)) = true then 0 else 4
theorem nps_bad {n : Int} {es : List E} (h : nck n es ≠ 0) : nps n es = nck n es := by unfold nps; rw [if_pos h]
theorem nps_low {n : Int} {es : List E} (h : nck n es = 0) {k : Nat} (hk : k < es.length) (hl : (at3 es k).2.2 < 1) : nps n es = 4 := by
  unfold nps
  rw [if_neg (by simp [h]), if_neg]
  intro ha
  rw [List.all_eq_true] at ha
  have := of_decide_eq_true (ha _ (mem_at hk))
  omega
theorem nps_ok {n : Int} {es : List E} (h : nck n es = 0) (ha : ∀ k, k < es.length → 1 ≤ (at3 es k).2.2) : nps n es = 0 := by
  unfold nps
  rw [if_neg (by simp [h]), if_pos]
  rw [List.all_eq_true]
  intro e he
  obtain ⟨k, hk, rfl⟩ := List.mem_iff_getElem.1 he
  have := ha k hk
  unfold at3 at this
  rw [List.getD_eq_getElem?_getD, List.getElem?_eq_getElem hk] at this
  exact decide_eq_true this
/-- The numbers of the edges from v, of the first k. -/
def outs (v : Int) (es : List E) : Nat → List Int
  | 0 => []
  | k + 1 => outs v es k ++ (if (at3 es k).1 = v then [(k : Int)] else [])
theorem outs_length (v : Int) (es : List E) (k : Nat) : (outs v es k).length ≤ k := by
  induction k with
  | zero => simp [outs]
  | succ k ih => rw [outs, List.length_append]; split <;> simp <;> omega
theorem outs_yes {v : Int} {es : List E} {k : Nat} (h : (at3 es k).1 = v) : outs v es (k + 1) = outs v es k ++ [(k : Int)] := by rw [outs, if_pos h]
theorem outs_no {v : Int} {es : List E} {k : Nat} (h : ¬ (at3 es k).1 = v) : outs v es (k + 1) = outs v es k := by rw [outs, if_neg h, List.append_nil]
/-- Turned round. -/
def trn (e : E) : E := (e.2.1, e.1, e.2.2)
end Go.Proofs.Ytdgihpegdcoilaa.Nm
