/-
  A region that draws its order, whose operations are quiet but for the last one, which waits for all others: one walk serves every order.
-/
import Derived.Test.YtlmichnnpameeaaBA
import Derived.Deep.QuietTactic
namespace Go.Proofs.Ytlmichnnpameeaa
open Go
section
variable {P : Program} {ops : Array Oper} {md : Region.Mode} {C : World → Prop}

def wpAnyL (P : Program) (md : Region.Mode) (ops : Array Oper) (C : World → Prop) (L : Nat) (Q : Act → Prop) : Nat → Array Bool → Act → Prop
  | 0, listed, a => (Region.ready md ops listed = [L] ∧ Region.ready md ops (listed.setIfInBounds L true) = []) ∧ Q a
  | fuel + 1, listed, a => Region.ready md ops listed ≠ [] ∧ ∀ i ∈ Region.ready md ops listed, i ≠ L ∧ qOp P ops C i (wpAnyL P md ops C L Q fuel (listed.setIfInBounds i true)) a
theorem wpAny_of_l {L : Nat} {Q : Act → Prop} {Q' : Exit → Act → World → Prop} (hQ : ∀ a w, C w → Q a → wpOp P ops Q' L (fun a' w' => Q' .normal a' w') a w) : ∀ (fuel : Nat) (listed : Array Bool) (a : Act) (w : World), C w →
    wpAnyL P md ops C L Q fuel listed a → wpAny P md ops Q' (fuel + 1) listed a w
  | 0, listed, a, w, hw, h => by
    refine ⟨fun h0 => (by rw [h.1.1] at h0; cases h0), fun i hi => ?_⟩
    rw [h.1.1, List.mem_singleton] at hi
    subst hi
    exact wpOp_mono (fun a' w' h' => ⟨h.1.2, h'⟩) (hQ a w hw h.2)
  | fuel + 1, _, _, _, hw, h => ⟨fun h0 => absurd h0 h.1, fun i hi => wpOp_of_qOp hw (fun a' w' hw' => wpAny_of_l hQ fuel _ a' w' hw') (h.2 i hi).2⟩
/-- Operation L waits for i. -/
def waitsB (md : Region.Mode) (ops : Array Oper) (L i : Nat) : Bool := ((ops[L]?).map (fun o => o.after.toList.any (fun e => Region.binds md e && e.on == i))).getD false
theorem waits_not {L i : Nat} {listed : Array Bool} (h : waitsB md ops L i = true) (hi : listed.getD i true = false) : L ∉ Region.ready md ops listed := by
  intro hL
  obtain ⟨_, o, ho, hall⟩ := mem_ready.1 hL
  unfold waitsB at h
  rw [ho, Option.map_some, Option.getD_some, List.any_eq_true] at h
  obtain ⟨e, he, hb⟩ := h
  rw [Bool.and_eq_true, beq_iff_eq] at hb
  have h1 := hall e (by simpa using he) hb.1
  rw [hb.2] at h1
  rcases Nat.lt_or_ge i listed.size with h' | h'
  · simp [h'] at hi h1; rw [hi] at h1; cases h1
  · simp [Array.getElem?_eq_none h'] at h1
theorem wpAnyL_first {L : Nat} {Q : Act → Prop} {i : Nat} {oi : Oper} {v : Value} (hi : ops[i]? = some oi) (hw : waitsB md ops L i = true) (hsel : ∀ (j : Nat) (o : Oper) cs b, ops[j]? = some o → o.op ≠ .select cs b) :
    ∀ (fuel : Nat) (listed : Array Bool) (a : Act),
      (∀ j oj, ops[j]? = some oj → j ≠ i → listed.getD j true = false → (∀ e ∈ oj.after, Region.binds md e = true → e.on ≠ i) → oi.apart ops oj = true) →
      i ∈ Region.ready md ops listed → YieldsIn P ops C oi v a →
      wpAnyL P md ops C L Q fuel (listed.setIfInBounds i true) (a.put oi.dst v) → wpAnyL P md ops C L Q (fuel + 1) listed a := by
  intro fuel
  induction fuel with
  | zero =>
    intro listed a _ hr hy H
    have hn := waits_not hw (mem_ready.1 hr).1
    refine ⟨fun h => (by rw [h] at hr; cases hr), fun j hj => ⟨fun e => hn (e ▸ hj), ?_⟩⟩
    by_cases hji : j = i
    · subst hji; exact hy.qOp hi H
    · have := ready_mono hj hji
      rw [H.1.1, List.mem_singleton] at this
      exact absurd hj (this ▸ hn)
  | succ fuel ih =>
    intro listed a hfree hr hy H
    have hn := waits_not hw (mem_ready.1 hr).1
    refine ⟨fun h => (by rw [h] at hr; cases hr), fun j hj => ⟨fun e => hn (e ▸ hj), ?_⟩⟩
    by_cases hji : j = i
    · subst hji; exact hy.qOp hi H
    · have h1 := (H.2 j (ready_mono hj hji)).2
      obtain ⟨hjun, oj, hoj, hall⟩ := mem_ready.1 hj
      have hnot : ∀ e ∈ oj.after, Region.binds md e = true → e.on ≠ i := fun e he hb heq => by
        have h1 := hall e he hb
        have h0 := (mem_ready.1 hr).1
        rw [heq] at h1
        rcases Nat.lt_or_ge i listed.size with h' | h'
        · simp [h'] at h0 h1; rw [h0] at h1; cases h1
        · simp [Array.getElem?_eq_none h'] at h1
      have h2 := qOp_put hoj (hfree j oj hoj hji hjun hnot) (fun cs b => hsel i oi cs b hi) (fun cs b => hsel j oj cs b hoj) hy h1
      have hfree' : ∀ k ok, ops[k]? = some ok → k ≠ i → (listed.setIfInBounds j true).getD k true = false →
          (∀ e ∈ ok.after, Region.binds md e = true → e.on ≠ i) → oi.apart ops ok = true := fun k ok hk hki hun hno => by
        refine hfree k ok hk hki ?_ hno
        by_cases hjk : j = k
        · subst hjk; exact hjun
        · rw [getD_set_ne true hjk] at hun; exact hun
      refine qOp_mono (fun a' h3 => ih (listed.setIfInBounds j true) a' hfree' (ready_mono hr (Ne.symm hji)) h3.1 ?_) h2
      rw [Array.setIfInBounds_comm _ _ hji]
      exact h3.2
def lexL (md : Region.Mode) (ops : Array Oper) (L : Nat) : Nat → Nat → Array Bool → Bool
  | 0, _, listed => (Region.ready md ops listed == [L]) && (Region.ready md ops (listed.setIfInBounds L true)).isEmpty
  | fuel + 1, k, listed => (Region.ready md ops listed).contains k && Region.free md ops listed k && waitsB md ops L k && lexL md ops L fuel (k + 1) (listed.setIfInBounds k true)
theorem wpAnyL_lex {L : Nat} {Q : Act → Prop} (hs : Region.noSelect ops = true) : ∀ (l : List Oper) (k : Nat) (listed : Array Bool) (a : Act), (∀ j, j < l.length → l[j]? = ops[k + j]?) →
    lexL md ops L l.length k listed = true → wpQuiet P ops C Q l a → wpAnyL P md ops C L Q l.length listed a
  | [], _, _, _, _, hB, h => ⟨by simpa [lexL] using hB, h⟩
  | o :: l, k, listed, a, hl, hB, h => by
    have h0 : ops[k]? = some o := by simpa using (hl 0 (by simp)).symm
    simp only [List.length_cons, lexL, Bool.and_eq_true] at hB
    obtain ⟨⟨⟨hr, hf⟩, hw⟩, hB'⟩ := hB
    have hst : qOp P ops C k (wpQuiet P ops C Q l) a := by unfold qOp; simp only [h0]; exact h
    obtain ⟨v, hy, hK⟩ := yieldsIn_of_qOp h0 hst
    exact wpAnyL_first h0 hw (Region.noSelect_spec hs) l.length listed a (Region.free_spec h0 hf) (by simpa using hr) hy
      (wpAnyL_lex hs l (k + 1) _ _ (fun j hj => by have := hl (j + 1) (by simp; omega); simpa [Nat.add_assoc, Nat.add_comm 1 j] using this) hB' hK)
/-- All but the last are quiet, the last waits for all: what the last one does is asked behind them. -/
theorem wp_region_last {id L : Nat} {Q : Exit → Act → World → Prop} {a : Act} {w : World} (l : List Oper) (hm : P.follows .mixedOrders = true) (hs : Region.noSelect ops = true) (hsz : ops.size = l.length + 1) (hl : ∀ j, j < l.length → l[j]? = ops[0 + j]?)
    (hB : lexL .any ops L l.length 0 (Array.replicate ops.size false) = true) (hC : C { w with drawn := w.drawn + 1 })
    (h : wpQuiet P ops C (fun a' => ∀ w', C w' → wpOp P ops Q L (fun a'' w'' => Q .normal a'' w'') a' w') l a) : (Code.region id ops true).wp P Q a w := by
  refine wp_region_any hm ?_
  rw [hsz]
  refine wpAny_of_l (Q := fun a' => ∀ w', C w' → wpOp P ops Q L (fun a'' w'' => Q .normal a'' w'') a' w') (fun _ w' hw' h => h w' hw') _ _ _ _ hC ?_
  have := wpAnyL_lex (C := C) (md := .any) hs l 0 (Array.replicate ops.size false) a hl hB h
  rw [hsz] at this
  exact this
theorem take_at {l : List Oper} {n : Nat} : ∀ j, j < (l.take n).length → (l.take n)[j]? = (l.toArray)[0 + j]? := by
  intro j hj
  rw [List.length_take] at hj
  rw [List.getElem?_take_of_lt (by omega), Nat.zero_add, List.getElem?_toArray]
theorem wp_region_last_lit {id : Nat} {Q : Exit → Act → World → Prop} {a : Act} {w : World} {l : List Oper} (n : Nat) (hn : l.length = n + 1) (hm : P.follows .mixedOrders = true) (hB : (Region.noSelect l.toArray && lexL .any l.toArray n n 0 (Array.replicate (n + 1) false)) = true)
    (h : wpQuiet P l.toArray (fun w' => ∃ n, w' = w.drewN n) (fun a' => ∀ w', (∃ n, w' = w.drewN n) → wpOp P l.toArray Q n (fun a'' w'' => Q .normal a'' w'') a' w') (l.take n) a) : (Code.region id l.toArray true).wp P Q a w := by
  rw [Bool.and_eq_true] at hB
  have hlen : (l.take n).length = n := by rw [List.length_take]; omega
  refine wp_region_last (C := fun w' => ∃ n, w' = w.drewN n) (L := n) (l.take n) hm hB.1 (by rw [hlen]; simpa using hn) take_at ?_ ⟨1, rfl⟩ h
  rw [hlen, show l.toArray.size = n + 1 by simpa using hn]
  exact hB.2
end
end Go.Proofs.Ytlmichnnpameeaa
