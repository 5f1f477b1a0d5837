/-
  Plain groups of numbers: what belongs together. No Go in sight.
-/
import Derived.KernelRfl
namespace Go.Proofs.Ytdgihpegdcoilaa.Un.Uf
set_option linter.unusedSimpArgs false

/-- How many below n are so. -/
def cnt (P : Nat → Bool) : Nat → Nat
  | 0 => 0
  | n + 1 => cnt P n + (if P n = true then 1 else 0)

theorem cnt_le (P : Nat → Bool) (n : Nat) : cnt P n ≤ n := by
  induction n with
  | zero => exact Nat.le_refl _
  | succ n ih => unfold cnt; split <;> omega
theorem cnt_mono {P Q : Nat → Bool} {n : Nat} (h : ∀ x, x < n → P x = true → Q x = true) : cnt P n ≤ cnt Q n := by
  induction n with
  | zero => exact Nat.le_refl _
  | succ n ih =>
    have := ih (fun x hx => h x (by omega))
    unfold cnt
    by_cases hp : P n = true
    · rw [if_pos hp, if_pos (h n (by omega) hp)]; omega
    · rw [if_neg hp]; split <;> omega
theorem cnt_congr {P Q : Nat → Bool} {n : Nat} (h : ∀ x, x < n → P x = Q x) : cnt P n = cnt Q n := by
  induction n with
  | zero => rfl
  | succ n ih =>
    unfold cnt
    rw [ih (fun x hx => h x (by omega)), h n (by omega)]
theorem cnt_one {P Q : Nat → Bool} {n M : Nat} (h : ∀ x, x < n → x ≠ M → P x = Q x) (hM : M < n) (hp : P M = true) (hq : Q M = false) : cnt Q n + 1 = cnt P n := by
  induction n with
  | zero => omega
  | succ n ih =>
    unfold cnt
    by_cases e : M = n
    · subst e
      rw [cnt_congr (P := P) (Q := Q) (fun x hx => h x (by omega) (by omega)), hp, hq]; simp
    · have := ih (fun x hx => h x (by omega)) (by omega)
      rw [h n (by omega) (fun e' => e e'.symm)]; omega
theorem cnt_lt {P Q : Nat → Bool} {n M : Nat} (h : ∀ x, x < n → P x = true → Q x = true) (hM : M < n) (hp : P M = false) (hq : Q M = true) : cnt P n < cnt Q n := by
  induction n with
  | zero => omega
  | succ n ih =>
    unfold cnt
    by_cases e : M = n
    · subst e
      have := cnt_mono (P := P) (Q := Q) (n := M) (fun x hx => h x (by omega))
      rw [hp, hq]; simp; omega
    · have := ih (fun x hx => h x (by omega)) (by omega)
      by_cases hpn : P n = true
      · rw [if_pos hpn, if_pos (h n (by omega) hpn)]; omega
      · rw [if_neg hpn]; split <;> omega
theorem cnt_full {P : Nat → Bool} {n : Nat} (h : n ≤ cnt P n) : ∀ x, x < n → P x = true := by
  induction n with
  | zero => intro x hx; omega
  | succ n ih =>
    unfold cnt at h
    have h1 := cnt_le P n
    by_cases hp : P n = true
    · rw [if_pos hp] at h
      intro x hx
      rcases (show x < n ∨ x = n by omega) with h2 | rfl
      · exact ih (by omega) x h2
      · exact hp
    · rw [if_neg hp] at h; omega

/-- One place turned. -/
def upd (U : Nat → Nat) (i v : Nat) : Nat → Nat := fun x => if x = i then v else U x
theorem upd_same (U : Nat → Nat) (i v : Nat) : upd U i v i = v := by simp [upd]
theorem upd_other (U : Nat → Nat) {i x : Nat} (v : Nat) (h : x ≠ i) : upd U i v x = U x := by simp [upd, h]

/-- U holds the groups whose leasts are G. -/
structure Inv (n : Nat) (U G : Nat → Nat) : Prop where
  le : ∀ x, x < n → U x ≤ x
  to : ∀ x, x < n → G (U x) = G x
  top : ∀ x, x < n → (U x = x ↔ G x = x)

theorem Inv.least {n : Nat} {U G : Nat → Nat} (h : Inv n U G) : ∀ x, x < n → G x ≤ x ∧ G (G x) = G x := by
  intro x
  induction x using Nat.strongRecOn with
  | ind x ih =>
    intro hx
    by_cases e : U x = x
    · have := (h.top x hx).1 e
      rw [this]; exact ⟨Nat.le_refl _, this⟩
    · have h1 := h.le x hx
      obtain ⟨a, b⟩ := ih (U x) (by omega) (by omega)
      rw [h.to x hx] at a b
      exact ⟨by omega, b⟩

theorem Inv.halve {n : Nat} {U G : Nat → Nat} (h : Inv n U G) {x : Nat} (hx : x < n) : Inv n (upd U x (U (U x))) G := by
  have h1 := h.le x hx
  have h2 := h.le (U x) (by omega)
  refine ⟨fun y hy => ?_, fun y hy => ?_, fun y hy => ?_⟩
  · by_cases e : y = x
    · subst e; rw [upd_same]; omega
    · rw [upd_other _ _ e]; exact h.le y hy
  · by_cases e : y = x
    · subst e; rw [upd_same, h.to _ (by omega), h.to _ hy]
    · rw [upd_other _ _ e]; exact h.to y hy
  · by_cases e : y = x
    · subst e
      rw [upd_same, ← h.top y hy]
      constructor
      · intro e; omega
      · intro e; rw [e, e]
    · rw [upd_other _ _ e]; exact h.top y hy

theorem Inv.flat {n : Nat} {U G : Nat → Nat} (h : Inv n U G) {x : Nat} (hx : x < n) : Inv n (upd U x (G x)) G := by
  obtain ⟨a, b⟩ := h.least x hx
  refine ⟨fun y hy => ?_, fun y hy => ?_, fun y hy => ?_⟩
  · by_cases e : y = x
    · subst e; rw [upd_same]; exact a
    · rw [upd_other _ _ e]; exact h.le y hy
  · by_cases e : y = x
    · subst e; rw [upd_same]; exact b
    · rw [upd_other _ _ e]; exact h.to y hy
  · by_cases e : y = x
    · subst e; rw [upd_same]
    · rw [upd_other _ _ e]; exact h.top y hy

/-- Two groups made one. -/
def jn (G : Nat → Nat) (a b : Nat) : Nat → Nat := fun x => if G x = max (G a) (G b) then min (G a) (G b) else G x

theorem Inv.join {n : Nat} {U G : Nat → Nat} (h : Inv n U G) {a b : Nat} (ha : a < n) (hb : b < n) : Inv n (upd U (max (G a) (G b)) (min (G a) (G b))) (jn G a b) := by
  obtain ⟨a1, a2⟩ := h.least a ha
  obtain ⟨b1, b2⟩ := h.least b hb
  obtain ⟨M, hM⟩ : ∃ M, M = max (G a) (G b) := ⟨_, rfl⟩
  obtain ⟨m, hm⟩ : ∃ m, m = min (G a) (G b) := ⟨_, rfl⟩
  have gM : G M = M := by rcases (show M = G a ∨ M = G b by omega) with e | e <;> rw [e] <;> assumption
  have gm : G m = m := by rcases (show m = G a ∨ m = G b by omega) with e | e <;> rw [e] <;> assumption
  have hMn : M < n := by omega
  have hmM : m ≤ M := by omega
  have hj : jn G a b = fun x => if G x = M then m else G x := by unfold jn; rw [← hM, ← hm]
  rw [hj, ← hM, ← hm]
  clear hj hM hm
  have uM := (h.top M hMn).2 gM
  refine ⟨fun y hy => ?_, fun y hy => ?_, fun y hy => ?_⟩
  · by_cases e : y = M
    · subst e; rw [upd_same]; exact hmM
    · rw [upd_other _ _ e]; exact h.le y hy
  · by_cases e : y = M
    · subst e; rw [upd_same]; simp only [gm, gM]; split <;> simp
    · rw [upd_other _ _ e]; simp only [h.to y hy]
  · by_cases e : y = M
    · subst e; rw [upd_same]; simp only [gM, if_true]
    · rw [upd_other _ _ e, h.top y hy]
      by_cases e2 : G y = M
      · simp only [e2, if_true]
        constructor
        · intro e3; exact absurd e3.symm e
        · intro e3; subst e3; omega
      · simp only [e2, if_false]

theorem inv_id (n : Nat) : Inv n id id := ⟨fun _ _ => Nat.le_refl _, fun _ _ => rfl, fun _ _ => Iff.rfl⟩

/-- The leasts of the groups that pairs make. -/
def grp (l : List (Int × Int)) : Nat → Nat := l.foldl (fun G p => jn G p.1.toNat p.2.toNat) id

theorem grp_snoc (l : List (Int × Int)) (p : Int × Int) : grp (l ++ [p]) = jn (grp l) p.1.toNat p.2.toNat := by
  unfold grp; rw [List.foldl_append]; rfl

/-- F tells no two of a pair apart. -/
def Resp (F : Nat → Nat) (l : List (Int × Int)) : Prop := ∀ p, p ∈ l → F p.1.toNat = F p.2.toNat

structure Good (l : List (Int × Int)) (G : Nat → Nat) : Prop where
  le : ∀ x, G x ≤ x
  resp : Resp G l
  inv : ∀ F, Resp F l → ∀ x, F (G x) = F x

theorem Good.idem {l : List (Int × Int)} {G : Nat → Nat} (h : Good l G) (x : Nat) : G (G x) = G x := h.inv G h.resp x

theorem good_nil : Good [] id := ⟨fun _ => Nat.le_refl _, fun p hp => by simp at hp, fun _ _ _ => rfl⟩

theorem Good.snoc {l : List (Int × Int)} {G : Nat → Nat} (h : Good l G) (p : Int × Int) : Good (l ++ [p]) (jn G p.1.toNat p.2.toNat) := by
  generalize ha : p.1.toNat = a
  generalize hb : p.2.toNat = b
  refine ⟨fun x => ?_, fun q hq => ?_, fun F hF x => ?_⟩
  · unfold jn
    have := h.le x
    split <;> omega
  · simp only [List.mem_append, List.mem_singleton] at hq
    rcases hq with hq | rfl
    · unfold jn; rw [h.resp q hq]
    · unfold jn; rw [ha, hb]
      split <;> split <;> omega
  · have hF1 : Resp F l := fun q hq => hF q (by simp [hq])
    have hF2 : F a = F b := by rw [← ha, ← hb]; exact hF p (by simp)
    have k1 := h.inv F hF1
    unfold jn
    split
    · rename_i e
      have e2 : F (G a) = F (G b) := by rw [k1, k1, hF2]
      have e3 : F (min (G a) (G b)) = F (max (G a) (G b)) := by
        rcases Nat.le_total (G a) (G b) with h1 | h1
        · rw [Nat.min_eq_left h1, Nat.max_eq_right h1, e2]
        · rw [Nat.min_eq_right h1, Nat.max_eq_left h1, e2]
      rw [e3, ← e, k1]
    · exact k1 x

theorem good_fold (r : List (Int × Int)) : ∀ (l : List (Int × Int)) (G : Nat → Nat), Good l G → Good (l ++ r) (r.foldl (fun G p => jn G p.1.toNat p.2.toNat) G) := by
  induction r with
  | nil => intro l G h; simpa using h
  | cons p r ih =>
    intro l G h
    have := ih _ _ (h.snoc p)
    rw [List.append_assoc] at this
    exact this
theorem good_grp (l : List (Int × Int)) : Good l (grp l) := good_fold l [] id good_nil

theorem Good.uniq {l : List (Int × Int)} {G G' : Nat → Nat} (h : Good l G) (h' : Good l G') (x : Nat) : G x = G' x := by
  have h1 := h.inv G' h'.resp x
  have h2 := h'.inv G h.resp x
  have h3 := h'.le (G x)
  have h4 := h.le (G' x)
  omega

/-- The pairs the other way round, the last first. -/
def turned (l : List (Int × Int)) : List (Int × Int) := (l.map (fun p => (p.2, p.1))).reverse

theorem grp_turned (l : List (Int × Int)) (x : Nat) : grp (turned l) x = grp l x := by
  have hr : ∀ F, Resp F (turned l) ↔ Resp F l := by
    intro F
    unfold Resp turned
    constructor
    · intro h p hp
      exact (h (p.2, p.1) (by simp; exact ⟨p.1, p.2, hp, rfl, rfl⟩)).symm
    · intro h q hq
      simp only [List.mem_reverse, List.mem_map] at hq
      obtain ⟨p, hp, rfl⟩ := hq
      exact (h p hp).symm
  have h := good_grp (turned l)
  exact Good.uniq (l := l) ⟨h.le, (hr _).1 h.resp, fun F hF => h.inv F ((hr F).2 hF)⟩ (good_grp l) x

/-- All pairs are of numbers below n. -/
def Ok (n : Nat) (l : List (Int × Int)) : Prop := ∀ p, p ∈ l → 0 ≤ p.1 ∧ p.1 < n ∧ 0 ≤ p.2 ∧ p.2 < n

/-! ### The document's road: the least goes along all pairs, as often as there are numbers -/
def ps (O : Nat → Nat) (a b : Nat) : Nat → Nat := upd (upd O a (min (O a) (O b))) b (min (O a) (O b))
def pass (l : List (Int × Int)) (O : Nat → Nat) : Nat → Nat := l.foldl (fun O p => ps O p.1.toNat p.2.toNat) O
def rnd (l : List (Int × Int)) : Nat → Nat → Nat
  | 0 => id
  | k + 1 => pass l (rnd l k)

theorem pass_snoc (l : List (Int × Int)) (p : Int × Int) (O : Nat → Nat) : pass (l ++ [p]) O = ps (pass l O) p.1.toNat p.2.toNat := by
  unfold pass; rw [List.foldl_append]; rfl

theorem ps_le (O : Nat → Nat) (a b x : Nat) : ps O a b x ≤ O x := by
  unfold ps upd
  by_cases h1 : x = b
  · subst h1; simp; omega
  · by_cases h2 : x = a
    · subst h2; simp [h1]; omega
    · simp [h1, h2]
theorem pass_le (r : List (Int × Int)) : ∀ (O : Nat → Nat) (x : Nat), pass r O x ≤ O x := by
  induction r with
  | nil => intro O x; exact Nat.le_refl _
  | cons p r ih => intro O x; exact Nat.le_trans (ih _ x) (ps_le _ _ _ _)
theorem pass_pair (r : List (Int × Int)) : ∀ (O : Nat → Nat) (p : Int × Int), p ∈ r → pass r O p.1.toNat ≤ O p.2.toNat ∧ pass r O p.2.toNat ≤ O p.1.toNat := by
  induction r with
  | nil => intro O p hp; simp at hp
  | cons q r ih =>
    intro O p hp
    show pass r (ps O q.1.toNat q.2.toNat) _ ≤ _ ∧ pass r (ps O q.1.toNat q.2.toNat) _ ≤ _
    rcases List.mem_cons.1 hp with rfl | hp
    · have h1 := pass_le r (ps O p.1.toNat p.2.toNat) p.1.toNat
      have h2 := pass_le r (ps O p.1.toNat p.2.toNat) p.2.toNat
      have h3 : ps O p.1.toNat p.2.toNat p.1.toNat = min (O p.1.toNat) (O p.2.toNat) := by unfold ps upd; simp
      have h4 : ps O p.1.toNat p.2.toNat p.2.toNat = min (O p.1.toNat) (O p.2.toNat) := by unfold ps upd; simp
      omega
    · obtain ⟨h1, h2⟩ := ih (ps O q.1.toNat q.2.toNat) p hp
      exact ⟨Nat.le_trans h1 (ps_le _ _ _ _), Nat.le_trans h2 (ps_le _ _ _ _)⟩

structure Near (l : List (Int × Int)) (O : Nat → Nat) : Prop where
  le : ∀ x, O x ≤ x
  inv : ∀ F, Resp F l → ∀ x, F (O x) = F x

theorem Near.ps {l : List (Int × Int)} {O : Nat → Nat} (h : Near l O) {p : Int × Int} (hp : p ∈ l) : Near l (ps O p.1.toNat p.2.toNat) := by
  refine ⟨fun x => Nat.le_trans (ps_le _ _ _ _) (h.le x), fun F hF x => ?_⟩
  have hab := hF p hp
  generalize p.1.toNat = a at *
  generalize p.2.toNat = b at *
  have k := h.inv F hF
  have hm : F (min (O a) (O b)) = F a := by
    rcases Nat.le_total (O a) (O b) with h1 | h1
    · rw [Nat.min_eq_left h1, k]
    · rw [Nat.min_eq_right h1, k, hab]
  unfold Uf.ps upd
  by_cases h1 : x = b
  · subst h1; simp [hm, hab]
  · by_cases h2 : x = a
    · subst h2; simp [h1, hm]
    · simp [h1, h2, k]
theorem Near.pass {l : List (Int × Int)} (r : List (Int × Int)) : ∀ (O : Nat → Nat), (∀ p, p ∈ r → p ∈ l) → Near l O → Near l (pass r O) := by
  induction r with
  | nil => intro O _ h; exact h
  | cons p r ih => intro O hr h; exact ih _ (fun q hq => hr q (by simp [hq])) (h.ps (hr p (by simp)))
theorem near_rnd (l : List (Int × Int)) (k : Nat) : Near l (rnd l k) := by
  induction k with
  | zero => exact ⟨fun _ => Nat.le_refl _, fun _ _ _ => rfl⟩
  | succ k ih => exact ih.pass l _ (fun _ h => h)

theorem Near.ge {l : List (Int × Int)} {O G : Nat → Nat} (h : Near l O) (g : Good l G) (x : Nat) : G x ≤ O x := by
  have h1 := h.inv G g.resp x
  have h2 := g.le (O x)
  omega

theorem round_more {n : Nat} {l : List (Int × Int)} {O G : Nat → Nat} (ok : Ok n l) (g : Good l G) (h : Near l O) :
    (∀ x, pass l O x = G x) ∨ cnt (fun x => O x == G x) n < cnt (fun x => pass l O x == G x) n := by
  have hp := h.pass l O (fun _ h => h)
  by_cases hr : Resp (fun x => if O x = G x then 1 else 0) l
  · left
    intro x
    have h1 := g.inv _ hr x
    have h2 : O (G x) = G (G x) := by
      have := h.le (G x)
      have := h.ge g (G x)
      have := g.idem x
      omega
    simp only [h2, if_true] at h1
    have h3 : O x = G x := by
      by_cases e : O x = G x
      · exact e
      · rw [if_neg e] at h1; omega
    have := pass_le l O x
    have := hp.ge g x
    omega
  · right
    have hmono : ∀ x, x < n → (O x == G x) = true → (Uf.pass l O x == G x) = true := by
      intro x _ hx
      have hx : O x = G x := by simpa using hx
      have := pass_le l O x
      have := hp.ge g x
      simp; omega
    unfold Resp at hr
    obtain ⟨p, hpp⟩ := Classical.not_forall.1 hr
    obtain ⟨hpl, hne⟩ := Classical.not_imp.1 hpp
    obtain ⟨o1, o2, o3, o4⟩ := ok p hpl
    obtain ⟨q1, q2⟩ := pass_pair l O p hpl
    have hg := g.resp p hpl
    have e1 := hp.ge g p.1.toNat
    have e2 := hp.ge g p.2.toNat
    by_cases k1 : O p.1.toNat = G p.1.toNat
    · have k2 : O p.2.toNat ≠ G p.2.toNat := fun k2 => hne (by simp only [k1, k2, if_true])
      exact cnt_lt hmono (M := p.2.toNat) (by omega) (by simp [k2]) (by simp; omega)
    · have k2 : O p.2.toNat = G p.2.toNat := Classical.byContradiction fun k2 => hne (by simp only [k1, k2, if_false])
      exact cnt_lt hmono (M := p.1.toNat) (by omega) (by simp [k1]) (by simp; omega)

theorem rnd_more {n : Nat} {l : List (Int × Int)} {G : Nat → Nat} (ok : Ok n l) (g : Good l G) (k : Nat) :
    (∀ x, rnd l k x = G x) ∨ k ≤ cnt (fun x => rnd l k x == G x) n := by
  induction k with
  | zero => exact .inr (Nat.zero_le _)
  | succ k ih =>
    rcases ih with ih | ih
    · left
      intro x
      have h1 := pass_le l (rnd l k) x
      have h2 := (near_rnd l (k + 1)).ge g x
      have h3 := ih x
      show pass l (rnd l k) x = G x
      unfold rnd at h2
      omega
    · rcases round_more ok g (near_rnd l k) with h | h
      · exact .inl h
      · exact .inr (show k + 1 ≤ cnt (fun x => pass l (rnd l k) x == G x) n by omega)

/-- As often as there are numbers is often enough. -/
theorem rnd_grp {n : Nat} {l : List (Int × Int)} (ok : Ok n l) : ∀ x, x < n → rnd l n x = grp l x := by
  rcases rnd_more ok (good_grp l) n with h | h
  · exact fun x _ => h x
  · intro x hx
    simpa using cnt_full h x hx

/-- How many groups. -/
def many (n : Nat) (G : Nat → Nat) : Nat := cnt (fun x => x == G x) n

theorem many_le (n : Nat) (G : Nat → Nat) : many n G ≤ n := cnt_le _ _

theorem jn_both (G : Nat → Nat) (a b : Nat) : jn G a b a = jn G a b b := by
  unfold jn
  split <;> split <;> omega
theorem jn_same (G : Nat → Nat) (a b x : Nat) (h : G a = G b) : jn G a b x = G x := by
  unfold jn
  rw [h]
  split
  · rename_i e; rw [e]; omega
  · rfl
theorem many_less {n a b : Nat} {G : Nat → Nat} (hle : ∀ x, G x ≤ x) (hid : ∀ x, G (G x) = G x) (ha : a < n) (hb : b < n) (h : G a ≠ G b) : many n (jn G a b) + 1 = many n G := by
  have a1 := hle a
  have b1 := hle b
  have a2 := hid a
  have b2 := hid b
  unfold many
  refine cnt_one (M := max (G a) (G b)) (fun x hx hne => ?_) (by omega) ?_ ?_
  · unfold jn
    by_cases e : G x = max (G a) (G b)
    · rw [if_pos e]
      have h1 : (x == G x) = false := by rw [e]; simpa using hne
      have h2 : (x == min (G a) (G b)) = false := by
        simp only [beq_eq_false_iff_ne]
        intro e2
        have : G x = x := by
          rcases Nat.le_total (G a) (G b) with h1 | h1
          · rw [e2, Nat.min_eq_left h1]; exact a2
          · rw [e2, Nat.min_eq_right h1]; exact b2
        omega
      rw [h1, h2]
    · rw [if_neg e]
  · rcases Nat.le_total (G a) (G b) with h1 | h1
    · rw [Nat.max_eq_right h1, b2]; simp
    · rw [Nat.max_eq_left h1, a2]; simp
  · have : G (max (G a) (G b)) = max (G a) (G b) := by
      rcases Nat.le_total (G a) (G b) with h1 | h1
      · rw [Nat.max_eq_right h1, b2]
      · rw [Nat.max_eq_left h1, a2]
    unfold jn
    rw [if_pos this]
    simp; omega

end Go.Proofs.Ytdgihpegdcoilaa.Un.Uf
