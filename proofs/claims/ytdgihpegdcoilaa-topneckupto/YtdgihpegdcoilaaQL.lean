/-
  A region that draws its order, whose operations are quiet but for the last one, which waits for all others: one walk serves every order.
  How: the last one is made still; the library's law for quiet regions speaks of that region; and back.
-/
import Derived.Test.YtdgihpegdcoilaaBA
import Derived.Deep.QuietTactic
namespace Go.Proofs.Ytdgihpegdcoilaa
open Go
section
variable {P : Program} {C : World → Prop}

/-- An operation that does nothing, in the place of one that does. -/
def still (o : Oper) : Oper := { o with op := .move (.const (.bool false)) }
/-- The region whose operation n is still. -/
def hush (ops : Array Oper) (n : Nat) : Array Oper := ops.modify n still
theorem hush_other {ops : Array Oper} {n i : Nat} (h : i ≠ n) : (hush ops n)[i]? = ops[i]? := by
  unfold hush; rw [Array.getElem?_modify, if_neg (fun e => h e.symm)]
theorem hush_self {ops : Array Oper} {n : Nat} {o : Oper} (h : ops[n]? = some o) : (hush ops n)[n]? = some (still o) := by
  unfold hush; rw [Array.getElem?_modify, if_pos rfl, h]; rfl
theorem hush_yields (ops : Array Oper) (n : Nat) (t : Array Value) : yielded (hush ops n) t = yielded ops t := by
  funext j
  have e : ((hush ops n)[j]?).bind (·.dst) = (ops[j]?).bind (·.dst) := by
    by_cases h : j = n
    · subst h
      cases ho : ops[j]? with
      | none => unfold hush; rw [Array.getElem?_modify, if_pos rfl, ho]; rfl
      | some o => rw [hush_self ho]; rfl
    · rw [hush_other h]
  unfold yielded
  rw [e]
theorem hush_ready (md : Region.Mode) (ops : Array Oper) (n : Nat) (listed : Array Bool) : Region.ready md (hush ops n) listed = Region.ready md ops listed := by
  have e : ∀ i, ((hush ops n)[i]?).map (fun o : Oper => o.after) = (ops[i]?).map (fun o : Oper => o.after) := fun i => by
    by_cases h : i = n
    · subst h
      cases ho : ops[i]? with
      | none => unfold hush; rw [Array.getElem?_modify, if_pos rfl, ho]; rfl
      | some o => rw [hush_self ho]; rfl
    · rw [hush_other h]
  have hsz : (hush ops n).size = ops.size := by unfold hush; simp
  unfold Region.ready
  rw [hsz]
  refine List.filter_congr (fun i _ => ?_)
  have e1 := e i
  cases h1 : (hush ops n)[i]? with
  | none =>
    cases h2 : ops[i]? with
    | none => rfl
    | some o => rw [h1, h2] at e1; cases e1
  | some o' =>
    cases h2 : ops[i]? with
    | none => rw [h1, h2] at e1; cases e1
    | some o =>
      rw [h1, h2] at e1
      simp only [Option.map_some, Option.some.injEq] at e1
      simp only [Option.map_some, Option.getD_some, e1]
theorem hush_op {ops : Array Oper} {n i : Nat} (h : i ≠ n) (K : Act → Prop) (a : Act) : qOp P (hush ops n) C i K a = qOp P ops C i K a := by
  unfold qOp
  rw [hush_other h, hush_yields]

/-- Each operation waits for earlier ones alone; the last for all. -/
def backB (ops : Array Oper) (n : Nat) (md : Region.Mode) : Bool :=
  ((List.range ops.size).all fun i => ((ops[i]?).map fun o => o.after.toList.all fun e => decide (e.on < i)).getD false) &&
  ((List.range n).all fun i => ((ops[n]?).map fun o => o.after.toList.any fun e => Region.binds md e && e.on == i).getD false)
theorem back_some {ops : Array Oper} {n : Nat} {md : Region.Mode} (hb : backB ops n md = true) {listed : Array Bool} (hs : listed.size = ops.size) (hn : n < ops.size) (h : listed.getD n true = false) : Region.ready md ops listed ≠ [] := by
  unfold backB at hb
  rw [Bool.and_eq_true, List.all_eq_true] at hb
  have key : ∀ k j, j < k → j < ops.size → listed.getD j true = false → ∃ i, i ∈ Region.ready md ops listed := by
    intro k
    induction k with
    | zero => intro j hj; exact absurd hj (Nat.not_lt_zero j)
    | succ k ih =>
      intro j _ hjs hju
      by_cases hall : ∀ i, i < j → listed.getD i true = true
      · refine ⟨j, mem_ready.2 ⟨hju, ops[j], Array.getElem?_eq_getElem hjs, fun e he _ => ?_⟩⟩
        have h1 := hb.1 j (List.mem_range.2 hjs)
        rw [Array.getElem?_eq_getElem hjs, Option.map_some, Option.getD_some, List.all_eq_true] at h1
        have h2 := of_decide_eq_true (h1 e (by simpa using he))
        have h3 := hall e.on h2
        have h4 : e.on < listed.size := by omega
        rw [Array.getD_eq_getD_getElem?, Array.getElem?_eq_getElem h4, Option.getD_some] at h3 ⊢
        exact h3
      · simp only [Classical.not_forall] at hall
        obtain ⟨i, hi, hx⟩ := hall
        exact ih i (by omega) (by omega) (by simpa using hx)
  obtain ⟨i, hi⟩ := key (n + 1) n (Nat.lt_succ_self n) hn h
  intro e
  rw [e] at hi
  cases hi
theorem back_none {ops : Array Oper} {n : Nat} {md : Region.Mode} (hb : backB ops n md = true) (hn : ops.size = n + 1) {listed : Array Bool} (hr : n ∈ Region.ready md ops listed) : Region.ready md ops (listed.setIfInBounds n true) = [] := by
  unfold backB at hb
  rw [Bool.and_eq_true, List.all_eq_true, List.all_eq_true] at hb
  refine List.eq_nil_iff_forall_not_mem.2 (fun j hj => ?_)
  obtain ⟨hju, oj, hoj, _⟩ := mem_ready.1 hj
  obtain ⟨hnu, o, ho, hall⟩ := mem_ready.1 hr
  have hjs : j < ops.size := (Array.getElem?_eq_some_iff.1 hoj).1
  by_cases hjn : j = n
  · subst hjn
    have hlt : j < listed.size := by
      rcases Nat.lt_or_ge j listed.size with h' | h'
      · exact h'
      · simp [Array.getElem?_eq_none h'] at hnu
    simp [hlt] at hju
  · rw [getD_set_ne true (fun e => hjn e.symm)] at hju
    have h1 := hb.2 j (List.mem_range.2 (by omega))
    rw [ho, Option.map_some, Option.getD_some, List.any_eq_true] at h1
    obtain ⟨e, he, hbe⟩ := h1
    rw [Bool.and_eq_true, beq_iff_eq] at hbe
    have h2 := hall e (by simpa using he) hbe.1
    rw [hbe.2] at h2
    rcases Nat.lt_or_ge j listed.size with h' | h'
    · simp [h'] at hju h2; rw [hju] at h2; cases h2
    · simp [Array.getElem?_eq_none h'] at h2
/-- From the region whose last operation is still to the one in which it acts. -/
theorem any_of_hush {ops : Array Oper} {n : Nat} {md : Region.Mode} {o : Oper} {Q : Act → Prop} {Q' : Exit → Act → World → Prop} (hb : backB ops n md = true) (hn : ops.size = n + 1) (ho : ops[n]? = some o) (hd : o.dst = none) (hg : o.guard = none)
    (hQ : ∀ a w, C w → Q a → wpOp P ops Q' n (fun a' w' => Q' .normal a' w') a w) :
    ∀ (fuel : Nat) (listed : Array Bool) (a : Act) (w : World), C w → listed.size = ops.size → listed.getD n true = false → wpAnyQ P md (hush ops n) C Q fuel listed a → wpAny P md ops Q' fuel listed a w := by
  intro fuel
  induction fuel with
  | zero =>
    intro listed a w _ hs hu h
    have h1 := h.1
    rw [hush_ready] at h1
    exact absurd h1 (back_some hb hs (by omega) hu)
  | succ fuel ih =>
    intro listed a w hw hs hu h
    refine ⟨fun h0 => absurd h0 (back_some hb hs (by omega) hu), fun i hi => ?_⟩
    have h2 := h.2 i (by rw [hush_ready]; exact hi)
    by_cases hin : i = n
    · subst hin
      have hnil := back_none hb hn hi
      have h3 : wpAnyQ P md (hush ops i) C Q fuel (listed.setIfInBounds i true) a := by
        unfold qOp at h2
        rw [hush_self ho] at h2
        have hwt : Region.wanted (still o) (yielded (hush ops i) a.tmps) = true := by unfold Region.wanted still; rw [hg]
        simp only [hwt, if_true] at h2
        obtain ⟨v, _, h4⟩ := h2
        have hds : (still o).dst = none := hd
        rw [hds] at h4
        exact h4
      have h5 : Q a := by
        cases fuel with
        | zero => exact h3.2
        | succ f => exact h3.1 (by rw [hush_ready]; exact hnil)
      refine wpOp_mono (fun a' w' h6 => ?_) (hQ a w hw h5)
      cases fuel with
      | zero => exact ⟨hnil, h6⟩
      | succ f => exact ⟨fun _ => h6, fun j hj => by rw [hnil] at hj; cases hj⟩
    · rw [hush_op hin] at h2
      exact wpOp_of_qOp hw (fun a' w' hw' h3 => ih _ a' w' hw' (by simpa using hs) (by rw [getD_set_ne true hin]; exact hu) h3) h2
/-- The walk of all but the last is a walk of the region whose last operation is still. -/
theorem quiet_hush {ops : Array Oper} {n : Nat} {o : Oper} (hd : o.dst = none) (hg : o.guard = none) {Q : Act → Prop} (l : List Oper) : ∀ a, wpQuiet P ops C Q l a → wpQuiet P (hush ops n) C Q (l ++ [still o]) a := by
  induction l with
  | nil =>
    intro a h
    have hwt : Region.wanted (still o) (yielded (hush ops n) a.tmps) = true := by unfold Region.wanted still; rw [hg]
    show if Region.wanted (still o) (yielded (hush ops n) a.tmps) then (still o).quiet P a C (wpQuiet P (hush ops n) C Q []) else wpQuiet P (hush ops n) C Q [] (a.put (still o).dst undef)
    rw [if_pos hwt]
    refine ⟨.bool false, fun w _ => ⟨rfl, rfl⟩, ?_⟩
    have hds : (still o).dst = none := hd
    rw [hds]
    exact h
  | cons x l ih =>
    intro a h
    have h' : if Region.wanted x (yielded ops a.tmps) then x.quiet P a C (wpQuiet P ops C Q l) else wpQuiet P ops C Q l (a.put x.dst undef) := h
    show if Region.wanted x (yielded (hush ops n) a.tmps) then x.quiet P a C (wpQuiet P (hush ops n) C Q (l ++ [still o])) else wpQuiet P (hush ops n) C Q (l ++ [still o]) (a.put x.dst undef)
    rw [hush_yields]
    by_cases hw : Region.wanted x (yielded ops a.tmps) = true
    · rw [if_pos hw] at h' ⊢
      exact Oper.quiet_mono ih h'
    · rw [if_neg hw] at h' ⊢
      exact ih _ h'
/-- What is asked of a region, by evaluation. -/
def lastB (l : List Oper) (n : Nat) : Bool := Region.lexB .any (hush l.toArray n) && backB l.toArray n .any && ((l[n]?).map fun o => o.dst.isNone && o.guard.isNone).getD false
/-- All but the last are quiet, the last waits for all: what the last one does is asked behind them. -/
theorem wp_region_last_lit {id : Nat} {Q : Exit → Act → World → Prop} {a : Act} {w : World} {l : List Oper} (n : Nat) (hn : l.length = n + 1) (hm : P.follows .mixedOrders = true) (hB : lastB l n = true)
    (h : wpQuiet P l.toArray (fun w' => ∃ n, w' = w.drewN n) (fun a' => ∀ w', (∃ n, w' = w.drewN n) → wpOp P l.toArray Q n (fun a'' w'' => Q .normal a'' w'') a' w') (l.take n) a) : (Code.region id l.toArray true).wp P Q a w := by
  unfold lastB at hB
  rw [Bool.and_eq_true, Bool.and_eq_true] at hB
  obtain ⟨⟨h1, h2⟩, h3⟩ := hB
  have hlt : n < l.length := by omega
  have ho : l[n]? = some l[n] := List.getElem?_eq_getElem hlt
  rw [ho, Option.map_some, Option.getD_some, Bool.and_eq_true, Option.isNone_iff_eq_none, Option.isNone_iff_eq_none] at h3
  have hsz : l.toArray.size = n + 1 := by simpa using hn
  have hoa : l.toArray[n]? = some l[n] := by rw [List.getElem?_toArray]; exact ho
  have hlist : (hush l.toArray n).toList = l.take n ++ [still l[n]] := by
    refine List.ext_getElem? (fun i => ?_)
    rw [Array.getElem?_toList]
    rcases Nat.lt_trichotomy i n with hi | rfl | hi
    · rw [hush_other (by omega), List.getElem?_toArray, List.getElem?_append_left (by rw [List.length_take]; omega), List.getElem?_take_of_lt hi]
    · rw [hush_self hoa, List.getElem?_append_right (by rw [List.length_take]; omega), List.length_take, Nat.min_eq_left (by omega), Nat.sub_self]; rfl
    · rw [hush_other (by omega), List.getElem?_toArray, List.getElem?_eq_none (by omega), List.getElem?_eq_none (by simp; omega)]
  have hq := quiet_hush (ops := l.toArray) (n := n) h3.1 h3.2 (l.take n) a h
  rw [← hlist] at hq
  refine wp_region_any hm (any_of_hush (C := fun w' => ∃ n, w' = w.drewN n) (Q := fun a' => ∀ w', (∃ n, w' = w.drewN n) → wpOp P l.toArray Q n (fun a'' w'' => Q .normal a'' w'') a' w') h2 hsz hoa h3.1 h3.2 (fun a' w' hw' hq' => hq' w' hw') _ _ _ _ ⟨1, rfl⟩ (by simp) (by simp [hlt]) ?_)
  unfold Region.lexB at h1
  rw [Bool.and_eq_true] at h1
  have hs2 : (hush l.toArray n).size = l.toArray.size := by unfold hush; simp
  have := wpAnyQ_lex (P := P) (C := fun w' => ∃ n, w' = w.drewN n) (md := .any) h1.1 (hush l.toArray n).toList 0 (Array.replicate l.toArray.size false) a (by simp) (by rw [← hs2]; simpa using h1.2) hq
  rw [Array.length_toList, hs2] at this
  exact this
end
end Go.Proofs.Ytdgihpegdcoilaa
