/-
  Plain lists: the least of two lists together are among the least of each. No Go in sight.
-/
import Derived.Test.YtihicidfpfkknabHp
namespace Go.Proofs.Ytihicidfpfkknab.Hp

theorem le_of_not_ltb {y z : Int × Int} (h : (!(ltb y z)) = true) : Le z y := ltb_false (by simpa using h)
theorem not_ltb_of_le {y z : Int × Int} (h : Le z y) : (!(ltb y z)) = true := by
  cases e : ltb y z
  · rfl
  · exfalso
    have h1 := ltb_true e
    have := h1.antisymm h
    subst this
    unfold ltb at e
    simp at e

theorem first_le {S : List (Int × Int)} (hs : S.Pairwise Le) {n : Nat} {y : Int × Int} (hc : n ≤ S.countP fun z => !(ltb y z)) : ∀ x ∈ S.take n, Le x y := by
  intro x hx
  obtain ⟨i, hi, rfl⟩ := List.mem_iff_getElem.1 hx
  rw [List.getElem_take]
  have hin : i < n := by simp at hi; omega
  have hil : i < S.length := by simp at hi; omega
  cases e : ltb y S[i]
  · exact ltb_false e
  · exfalso
    have h1 : S.countP (fun z => !(ltb y z)) = (S.take i).countP (fun z => !(ltb y z)) + (S.drop i).countP (fun z => !(ltb y z)) := by
      rw [← List.countP_append, List.take_append_drop]
    have h2 : (S.drop i).countP (fun z => !(ltb y z)) = 0 := by
      rw [List.countP_eq_zero]
      intro z hz hq
      obtain ⟨j, hj, rfl⟩ := List.mem_iff_getElem.1 hz
      rw [List.getElem_drop] at hq
      have hzy := le_of_not_ltb hq
      have hjl : i + j < S.length := by simp at hj; omega
      have hxz : Le S[i] S[i + j] := by
        rcases Nat.eq_zero_or_pos j with rfl | hj0
        · exact Le.refl _
        · exact List.pairwise_iff_getElem.1 hs i (i + j) hil (by simp at hj; omega) (by omega)
      have := not_ltb_of_le (hxz.trans hzy)
      rw [e] at this
      simp at this
    have h3 := List.countP_le_length (l := S.take i) (p := fun z => !(ltb y z))
    simp at h3
    omega

/-- Those at the beginning are no greater than those behind. -/
theorem take_drop_le {S : List (Int × Int)} (hs : S.Pairwise Le) (n : Nat) : ∀ x ∈ S.take n, ∀ y ∈ S.drop n, Le x y := by
  have := hs
  rw [← List.take_append_drop n S, List.pairwise_append] at this
  exact this.2.2

theorem rest_le {l r : List (Int × Int)} (n : Nat) {S : List (Int × Int)} (hs : S.Pairwise Le) (hp : S.Perm ((srt l).take n ++ (srt r).take n)) : ∀ x ∈ S.take n, ∀ y ∈ (srt l).drop n, Le x y := by
  intro x hx y hy
  refine first_le hs ?_ x hx
  rw [hp.countP_eq, List.countP_append]
  have h1 : ((srt l).take n).countP (fun z => !(ltb y z)) = ((srt l).take n).length := by
    rw [List.countP_eq_length]
    intro z hz
    exact not_ltb_of_le (take_drop_le (srt_sorted l) n z hz y hy)
  have h2 : n < (srt l).length := by
    rcases Nat.lt_or_ge n (srt l).length with h | h
    · exact h
    · rw [List.drop_of_length_le h] at hy; simp at hy
  rw [h1]
  simp
  omega

theorem least_two (l r : List (Int × Int)) (n : Nat) : (srt (l ++ r)).take n = (srt ((srt l).take n ++ (srt r).take n)).take n := by
  have hs := srt_sorted ((srt l).take n ++ (srt r).take n)
  have hp := srt_perm ((srt l).take n ++ (srt r).take n)
  generalize hS : srt ((srt l).take n ++ (srt r).take n) = S at *
  have hperm : (S.take n ++ (S.drop n ++ ((srt l).drop n ++ (srt r).drop n))).Perm (l ++ r) := by
    rw [← List.append_assoc, List.take_append_drop]
    refine (hp.append_right _).trans ?_
    have e1 : ((srt l).take n ++ (srt l).drop n ++ ((srt r).take n ++ (srt r).drop n)).Perm (l ++ r) := by
      rw [List.take_append_drop, List.take_append_drop]
      exact (srt_perm l).append (srt_perm r)
    refine List.Perm.trans ?_ e1
    rw [List.append_assoc, List.append_assoc]
    refine List.Perm.append_left _ ?_
    rw [← List.append_assoc, ← List.append_assoc]
    exact List.perm_append_comm.append_right _
  have hle : ∀ x ∈ S.take n, ∀ y ∈ S.drop n ++ ((srt l).drop n ++ (srt r).drop n), Le x y := by
    intro x hx y hy
    rcases List.mem_append.1 hy with hy | hy
    · exact take_drop_le hs n x hx y hy
    · rcases List.mem_append.1 hy with hy | hy
      · exact rest_le n hs hp x hx y hy
      · exact rest_le n hs (hp.trans List.perm_append_comm) x hx y hy
  have hk := taken (hs.sublist (List.take_sublist n S)) hle hperm
  rw [hk]
  have hlen : S.length = ((srt l).take n ++ (srt r).take n).length := hp.length_eq
  rw [List.take_eq_take_iff]
  simp only [List.length_append, List.length_take, srt_length] at hlen ⊢
  omega

end Go.Proofs.Ytihicidfpfkknab.Hp
