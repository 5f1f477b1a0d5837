/-
  Contract: ByKeys.
-/
import Derived.Test.YtefikbjjdldomaaPD
import Derived.Test.YtefikbjjdldomaaPE
import Derived.Test.YtefikbjjdldomaaPF
import Derived.Test.YtefikbjjdldomaaDK
import Derived.Test.YtefikbjjdldomaaRV
namespace Go.Proofs.Ytefikbjjdldomaa
open Go.RowKit
open _root_.Go.Proofs.Ytefikbjjdldomaa.Nm Wm Dm Sk
open Jp (T3)
attribute [local go_sem ↓] Go.wp_at_zero Go.wp_at_succ

theorem nxq_cons (v : Nat) (q : List Nat) (i : Nat) : nxq (v :: q) (i + 1) = nxq q i := by
  unfold nxq
  by_cases h : i < q.length
  · rw [if_pos h, if_pos (by simp; omega)]; simp
  · rw [if_neg h, if_neg (by simp; omega)]
theorem Bq.cons {n : Nat} {m : Nat → Int} {q : List Nat} {v : Nat} (hl : q.length + 1 ≤ 64) (hq : ∀ j, j < q.length → q.getD j 0 < n) (hs : ∀ j, j < q.length → m (q.getD j 0) = nxq q (j + 1)) (hv : v < n) (hm : m v = nxq q 0) : Bq n m (v :: q) := by
  refine ⟨by simp, by simpa using hl, fun j hj => ?_, fun j hj => ?_⟩
  · cases j with
    | zero => exact hv
    | succ j => simpa using hq j (by simpa using hj)
  · cases j with
    | zero => rw [nxq_cons]; exact hm
    | succ j =>
      rw [nxq_cons]
      have := hs j (by simpa using hj)
      simpa using this
theorem bq_way {N a : Nat} {es : List E} {s : S} {o : List Nat} {m : Nat → Int} (h : Dn N es a s o) (hp : Pn N es) (ha : a < N) (hma : m a = -1) (hm : ∀ u, u < N → u ≠ a → s.c u < far → m u = (s.p u : Int)) : ∀ v, v < N → s.c v < far → Bq N m (way s a v).reverse ∧ nxq (way s a v).reverse 0 = (v : Int) := by
  suffices key : ∀ k : Nat, ∀ v, v < N → (s.c v).toNat ≤ k → s.c v < far → Bq N m (way s a v).reverse ∧ nxq (way s a v).reverse 0 = (v : Int) from fun v hv hf => key _ v hv (Nat.le_refl _) hf
  have base : Bq N m (way s a a).reverse ∧ nxq (way s a a).reverse 0 = (a : Int) := by
    rw [way_a]
    exact ⟨Bq.cons (by simp) (fun j hj => by simp at hj) (fun j hj => by simp at hj) ha (by rw [hma]; rfl), rfl⟩
  intro k
  induction k with
  | zero =>
    intro v hv hk hf
    by_cases e : v = a
    · subst e; exact base
    · have := h.less hp hv hf e
      have := h.lo _ this.1
      have := h.lo v hv
      omega
  | succ k ih =>
    intro v hv hk hf
    by_cases e : v = a
    · subst e; exact base
    · obtain ⟨k1, k2, k3⟩ := h.less hp hv hf e
      have h0 := h.lo _ k1
      obtain ⟨b1, b2⟩ := ih (s.p v) k1 (by omega) k2
      have hl := way_len h hp ha hv hf
      have hn := hp.n64
      rw [way_next h hp hv hf e] at hl ⊢
      rw [List.reverse_append, List.reverse_singleton, List.singleton_append]
      refine ⟨Bq.cons (by simp at hl ⊢; omega) b1.small b1.step hv (by rw [b2]; exact hm v hv e hf), ?_⟩
      unfold nxq
      rw [if_pos (by simp)]
      rfl
/-- Of guesses and edges there are the costs over places whose guess is not Far. -/
theorem lv_ex {N a : Nat} {es : List E} {h : Nat → Int} (w : World) (hp : Pn N es) (ha : a < N) : ∃ d, IsD N (lv h es) a d := by
  have h1 := lit_edges w (lv h es) _ _ rfl rfl
  obtain ⟨e, w', fr, ⟨G, d, -, -, -, hd, -⟩, -⟩ := costs_any N a _ _ _ h1 (pn_lv hp) ha []
  exact ⟨d, hd⟩
/-- What the search keeps. -/
structure Kp (N : Nat) (es : List E) (a : Nat) (h : Nat → Int) (s : S) (ord : List Nat) : Prop where
  or_ : (h a = far ∧ s = st0 h a ∧ ord = []) ∨ ∃ d, IsD N (lv h es) a d ∧ Inv N es a h 0 0 d s ord
theorem Kp.start {N a : Nat} {es : List E} {h : Nat → Int} (w : World) (hp : Pn N es) (ha : a < N) : Kp N es a h (st0 h a) [] := by
  by_cases hh : h a = far
  · exact ⟨.inl ⟨hh, rfl, rfl⟩⟩
  · obtain ⟨d, hd⟩ := lv_ex (h := h) w hp ha
    exact ⟨.inr ⟨d, hd, inv_start hd hh⟩⟩
theorem Kp.some {N a v : Nat} {es : List E} {h : Nat → Int} {s : S} {ord : List Nat} {key : Nat → Int} (hk : Kp N es a h s ord) (hp : pick (wts s ord) key h N = some v) : v < N ∧ s.c v < far ∧ ¬ v ∈ ord ∧ ∃ d, IsD N (lv h es) a d ∧ Inv N es a h 0 0 d s ord := by
  obtain ⟨p1, p2, _⟩ := pick_some hp
  obtain ⟨w1, w2⟩ := wts_yes p2
  rcases hk.or_ with ⟨e1, rfl, rfl⟩ | h
  · exfalso
    have : (st0 h a).c v = far := if_neg (fun q => q.2 e1)
    rw [this] at w1
    exact absurd w1 (Int.lt_irrefl _)
  · exact ⟨p1, w1, w2, h⟩
/-- What ByKeys answers. -/
def Bk9 (w : World) (n : Nat) (es : List E) (hl : List Int) (a t : Nat) (ky : Int → Int → Int) (e : Ending) (w' : World) : Prop :=
  (sea n es (gf hl) ky t (n + 1) (st0 (gf hl) a) [] = none ∧ e = .returned (.tuple #[.agg #[.slice none 0 0, .int .i64 0, .slice none 0 0], .int .i64 5]) ∧ Below w.heap.size w w') ∨
  ∃ s o vp vo, sea n es (gf hl) ky t (n + 1) (st0 (gf hl) a) [] = some (s, o) ∧ e = .returned (.tuple #[.agg #[vp, .int .i64 (s.c t), vo], .int .i64 0]) ∧ Is w' w.heap.size vp (ints (way s a t)) ∧ Is w' w.heap.size vo (ints o) ∧ Below w.heap.size w w'
/-- What each operation of the answer leaves. -/
def Bw9 (z P C n t : Nat) (x : Int) (l : List Int) (ao : Option Addr) (ol co : Nat) : Nat → Value → World → Prop
  | 0, v, _ => v = .pointer (some ⟨P, 0, none⟩)
  | 1, v, _ => v = .int .i64 t
  | 2, v, w => ∃ av cv, v = .slice av l.length cv ∧ Is w z v l
  | 3, v, _ => v = .pointer (some ⟨P, 0, none⟩)
  | 4, v, _ => v = .pointer (some ⟨P, 0, none⟩)
  | 5, v, _ => v = .pointer (some ⟨P, 5, none⟩)
  | 6, v, _ => v = .slice (some ⟨C, 0, none⟩) n n
  | 7, v, _ => v = .int .i64 t
  | 8, v, _ => v = .pointer (some ⟨C, t, none⟩)
  | 9, v, _ => v = .int .i64 x
  | 10, v, w => ∃ av cv, v = .agg #[.slice av l.length cv, .int .i64 x] ∧ Is w z (.slice av l.length cv) l
  | 11, v, _ => v = .pointer (some ⟨P, 0, none⟩)
  | 12, v, _ => v = .pointer (some ⟨P, 0, none⟩)
  | 13, v, _ => v = .pointer (some ⟨P, 8, none⟩)
  | 14, v, _ => v = .slice ao ol co
  | 15, v, w => ∃ av cv, v = .agg #[.slice av l.length cv, .int .i64 x, .slice ao ol co] ∧ Is w z (.slice av l.length cv) l
  | _, _, _ => True
theorem Bw9.below {z P C n t : Nat} {x : Int} {l : List Int} {ao : Option Addr} {ol co : Nat} (j : Nat) {v : Value} {w w' : World} (h : Bw9 z P C n t x l ao ol co j v w) (hb : Below w.heap.size w w') : Bw9 z P C n t x l ao ol co j v w' := by
  match j, h with
  | 0, h => exact h
  | 1, h => exact h
  | 2, ⟨av, cv, e, h⟩ => exact ⟨av, cv, e, h.below hb⟩
  | 3, h => exact h
  | 4, h => exact h
  | 5, h => exact h
  | 6, h => exact h
  | 7, h => exact h
  | 8, h => exact h
  | 9, h => exact h
  | 10, ⟨av, cv, e, h⟩ => exact ⟨av, cv, e, h.below hb⟩
  | 11, h => exact h
  | 12, h => exact h
  | 13, h => exact h
  | 14, h => exact h
  | 15, ⟨av, cv, e, h⟩ => exact ⟨av, cv, e, h.below hb⟩
  | n + 16, _ => exact trivial
theorem Ky.below {w W : World} {kn : Nat} {lb : Array Value} {f : Int → Int → Int} (h : Ky w kn lb f) (hb : Below w.heap.size w W) : Ky W kn lb f :=
  ⟨h.ent, fun W' c g hb' => h.gives W' c g (bthen hb hb')⟩
theorem Fx.below {w W : World} {f : Fix} {es : List E} {hl : List Int} {a : Nat} {ky : Int → Int → Int} (h : Fx w f es hl a ky) (hb : Below w.heap.size w W) : Fx W f es hl a ky :=
  ⟨h.net, h.ed.below hb, h.gs.below hb, h.len, h.rng, h.key.below hb, h.mono, h.a⟩
set_option maxRecDepth 100000 in
set_option maxHeartbeats 16000000 in
theorem byKeys_any {w : World} {f : Fix} {es : List E} {hl : List Int} {a : Nat} {ky : Int → Int → Int} (hf : Fx w f es hl a ky) (t : Nat) (ht : t < f.n) :
    Calls Try.prog 33 #[.agg #[.int .i64 f.n, f.ve], .int .i64 a, .int .i64 t, f.vh, .func (.func f.kn) #[] f.lb] w fun e w' => Bk9 w f.n es hl a t ky e w' := by
  obtain ⟨n, ve, vh, kn, lb⟩ := f
  obtain ⟨a0, c0, hve⟩ := hf.ed.val
  obtain ⟨a1, c1, hvh⟩ := hf.gs.val
  simp only at hve hvh ht ⊢
  subst hve hvh
  have hP := hf.net
  have haN := hf.a
  simp only at hP haN
  have hn64 := hP.n64
  have hel := hP.len
  have HP : Hid _ := hP
  have HF : Hid _ := hf
  have HK0 : Hid _ := Kp.start (h := gf hl) w hP haN
  clear hf hP
  go_enter Try.func33, Try.ntmps33
  go_wp2_with fail
  obtain ⟨RB, hRB⟩ : ∃ RB, w.heap.size + 1 = RB := ⟨_, rfl⟩
  have R1 : Hid (((w.alloc (.cells #[.int .i64 n, .slice a0 es.length c0] 24)).alloc (.cells #[.slice none 0 0, .int .i64 0, .slice none 0 0] 29)).heap[RB]? = some (.cells #[.slice none 0 0, .int .i64 0, .slice none 0 0] 29 (0, 0))) := by
    rw [← hRB]; exact new_at _ _ (by simp)
  have RL : Hid (w.heap.size ≤ RB) := by unfold Hid; omega
  have B1 : Hid (Below w.heap.size w ((w.alloc (.cells #[.int .i64 n, .slice a0 es.length c0] 24)).alloc (.cells #[.slice none 0 0, .int .i64 0, .slice none 0 0] 29))) := balloc (balloc (Below.refl _ _) _) _
  rw [hRB]
  clear hRB
  generalize (w.alloc (.cells #[.int .i64 n, .slice a0 es.length c0] 24)).alloc (.cells #[.slice none 0 0, .int .i64 0, .slice none 0 0] 29) = W1 at *
  have F1 : Hid _ := HF.out.below B1.out
  refine (begin_any F1.out).mono ?_
  rintro e w2 ⟨⟨P, C, M, L, H⟩, T, rfl, sx⟩
  have S2 : Hid _ := sx
  clear sx
  go_wp2_with fail
  go_loopg [] (n + 1) (fun gk wr => ∃ s ord, Sx W1 ⟨P, C, M, L, H⟩ T ⟨n, .slice a0 es.length c0, .slice a1 hl.length c1, kn, lb⟩ hl a ky s ord (1 + ord.length * es.length) wr ∧ Kp n es a (gf hl) s ord ∧ gk + ord.length = n + 1 ∧ sea n es (gf hl) ky t (n + 1) (st0 (gf hl) a) [] = sea n es (gf hl) ky t gk s ord)
  case atStart => exact ⟨st0 (gf hl) a, [], by simpa using S2.out, HK0.out, by simp, rfl⟩
  case round =>
    clear S2
    obtain ⟨s, ord, hx, hkp, hgk, hsea⟩ := hrel
    have KP : Hid _ := hkp
    have SX : Hid _ := hx
    have SE : Hid _ := hsea
    have hon : ord.length ≤ n := by
      rcases hkp.or_ with ⟨_, _, rfl⟩ | ⟨d, _, hi⟩
      · simp
      · exact nodup_le hi.nd (fun v hv => (hi.inn v hv).1)
    obtain ⟨g, rfl⟩ : ∃ g, gk = g + 1 := ⟨gk - 1, by omega⟩
    have hm : ord.length * es.length ≤ 64 * 600 := Nat.mul_le_mul (by omega) hel
    clear hx hkp hsea
    have R : Hid _ := fun (_ : Unit) => next_any F1.out SX.out (by omega) (by omega) (fun v hv => by
      obtain ⟨q1, q2, q3, d, _, hi⟩ := KP.out.some hv
      have h1 : (ord ++ [v]).Nodup := by
        rw [List.nodup_append]
        exact ⟨hi.nd, by simp, fun x hx y hy => by simp at hy; subst hy; exact fun e => q3 (e ▸ hx)⟩
      have h2 := nodup_le h1 (N := n) (fun x hx => by
        rcases List.mem_append.1 hx with h | h
        · exact (hi.inn x h).1
        · simp at h; subst h; exact q1)
      rw [List.length_append] at h2
      simp at h2
      omega)
    go_wp2_with fail
    refine (R.out ()).mono ?_
    rintro e w3 (⟨hn, rfl, b3⟩ | ⟨v, hs, rfl, sx3⟩)
    · have B3 : Hid (Below w.heap.size w w3) := bthen B1.out b3
      have HS : Hid (sea n es (gf hl) ky t (g + 1) s ord = none) := by
        unfold Hid sea
        rw [hn]
      have r3 := (b3.block RB (heap_lt' R1.out)).trans R1.out
      have fz : w3.frozen? ⟨RB, 0, none⟩ = false ∧ w3.frozen? ⟨RB, 1, none⟩ = false ∧ w3.frozen? ⟨RB, 2, none⟩ = false := by simp [World.frozen?, r3]
      obtain ⟨z0, z1, z2⟩ := fz
      have cz : w3.cell? ⟨RB, 0, none⟩ = some (.slice none 0 0) ∧ w3.cell? ⟨RB, 1, none⟩ = some (.int .i64 0) ∧ w3.cell? ⟨RB, 2, none⟩ = some (.slice none 0 0) := by simp [World.cell?, r3]
      obtain ⟨k0, k1, k2⟩ := cz
      have R3 : Hid _ := r3
      clear b3 hn r3 R
      go_wp2_with fail
      have R4 : Hid ((((w3.setCell ⟨RB, 0, none⟩ (.slice none 0 0)).setCell ⟨RB, 1, none⟩ (.int .i64 0)).setCell ⟨RB, 2, none⟩ (.slice none 0 0)).heap[RB]? = some (.cells #[.slice none 0 0, .int .i64 0, .slice none 0 0] 29 (0, 0))) :=
        heap_setCell_same _ _ _ _ _ _ _ (heap_setCell_same _ _ _ _ _ _ _ (heap_setCell_same _ _ _ _ _ _ _ R3.out))
      have B4 : Hid (Below w.heap.size w (((w3.setCell ⟨RB, 0, none⟩ (.slice none 0 0)).setCell ⟨RB, 1, none⟩ (.int .i64 0)).setCell ⟨RB, 2, none⟩ (.slice none 0 0))) := Below.setCell (Below.setCell (Below.setCell B3.out RL.out _) RL.out _) RL.out _
      clear z0 z1 z2 k0 k1 k2
      generalize ((w3.setCell ⟨RB, 0, none⟩ (.slice none 0 0)).setCell ⟨RB, 1, none⟩ (.int .i64 0)).setCell ⟨RB, 2, none⟩ (.slice none 0 0) = W4 at *
      obtain ⟨k0, k1, k2⟩ : W4.cell? ⟨RB, 0, none⟩ = some (.slice none 0 0) ∧ W4.cell? ⟨RB, 1, none⟩ = some (.int .i64 0) ∧ W4.cell? ⟨RB, 2, none⟩ = some (.slice none 0 0) := by simp [World.cell?, R4.out]
      refine bodyPost_ret (v := .tuple #[.agg #[.slice none 0 0, .int .i64 0, .slice none 0 0], .int .i64 5]) (by simp [results, Try.results33, go_sem, k0, k1, k2]) rfl (.inl ⟨?_, rfl, B4.out⟩)
      rw [SE.out]
      exact HS.out
    · obtain ⟨v1, v2, v3, d, hd, hi⟩ := KP.out.some hs
      have HI : Hid _ := hi
      have HD : Hid _ := hd
      have HPK : Hid _ := hs
      have S3 : Hid _ := sx3
      clear hi hs sx3 R hd
      by_cases hvt : v = t
      · have hvb : ((v : Int) == (t : Int)) = true := by simp [hvt]
        subst hvt
        obtain ⟨m, vo, qs, vq, s3, ⟨m1, m2⟩, _, _⟩ := S3.out.ex
        obtain ⟨ao, co, rfl⟩ := s3.order.sl.val
        have ST : Hid _ := s3
        have HC : Hid (s.c v < far) := v2
        obtain ⟨hbq, hq0⟩ := bq_way (HI.out.dn HD.out) HP.out haN (m1 (by rw [HI.out.st]; exact (by decide : (0 : Int) < 1099511627776))) m2 v ht v2
        have BKA : Hid (∀ w', Below w3.heap.size w3 w' → Calls Try.prog 57 #[.pointer (some ⟨P, 0, none⟩), .int .i64 v] w' fun e w'' => ∃ vp, e = .returned vp ∧ Is w'' w'.heap.size vp (ints (way s a v)) ∧ Below w'.heap.size w' w'') := fun w' hb => by
          have h1 := sback_any (ST.out.kept hb) _ hbq
          rw [hq0, List.reverse_reverse] at h1
          exact h1
        obtain ⟨_, _, _, _, _, p5, _, _, p8, _⟩ := s3.cells
        obtain ⟨d0, _⟩ := s3.cost.cell v ht
        simp only at p5 p8 d0
        have r3 : w3.heap[RB]? = some (.cells #[.slice none 0 0, .int .i64 0, .slice none 0 0] 29 (0, 0)) := (S3.out.below.block RB (heap_lt' R1.out)).trans R1.out
        have R3 : Hid _ := r3
        have KEEP : Hid (∀ w', Below w3.heap.size w3 w' → w'.cell? ⟨P, 5, none⟩ = some (.slice (some ⟨C, 0, none⟩) n n) ∧ w'.cell? ⟨P, 8, none⟩ = some (.slice ao (ints (ord ++ [v])).length co) ∧ w'.cell? ⟨C, v, none⟩ = some (.int .i64 (s.c v)) ∧ w'.frozen? ⟨RB, 0, none⟩ = false ∧ w'.frozen? ⟨RB, 1, none⟩ = false ∧ w'.frozen? ⟨RB, 2, none⟩ = false) := fun w' hb => by
          have r4 := (hb.block RB (heap_lt' R3.out)).trans R3.out
          exact ⟨kept hb p5, kept hb p8, kept hb d0, by simp [World.frozen?, r4], by simp [World.frozen?, r4], by simp [World.frozen?, r4]⟩
        have hPR : P ≠ RB := by have := s3.ok.lo.1; simp only at this; have := heap_lt' R1.out; omega
        have hCR : C ≠ RB := by have := s3.ok.lo.2.1; simp only at this; have := heap_lt' R1.out; omega
        have hvi : (v : Int) < (n : Int) := by omega
        clear s3 m1 m2 hbq hq0 r3
        go_wp2_with fail
        obtain ⟨ol, hol⟩ : ∃ ol, (ints (ord ++ [v])).length = ol := ⟨_, rfl⟩
        have HOL : Hid _ := hol
        have KEEP2 : Hid (∀ w', Below w3.heap.size w3 w' → w'.cell? ⟨P, 5, none⟩ = some (.slice (some ⟨C, 0, none⟩) n n) ∧ w'.cell? ⟨P, 8, none⟩ = some (.slice ao ol co) ∧ w'.cell? ⟨C, v, none⟩ = some (.int .i64 (s.c v))) := fun w' hb => by
          obtain ⟨k1, k2, k3, _⟩ := KEEP.out w' hb
          rw [hol] at k2
          exact ⟨k1, k2, k3⟩
        have hSO : Is w3 T (.slice ao (ints (ord ++ [v])).length co) (ints (ord ++ [v])) := ST.out.order
        have HRT : Hid (RB < T ∧ RB < w3.heap.size) := by
          have q1 := ST.out.ok.lo.1
          have q2 := ST.out.ok.hi.1
          have q3 := heap_lt' R1.out
          have q4 := ST.out.top
          simp only at q1 q2
          exact ⟨by omega, by omega⟩
        rw [hol] at hSO
        have HSO : Hid _ := hSO
        obtain ⟨FIN, hFIN⟩ : ∃ FIN : World → Prop, FIN = fun w' => ∃ av cv, w'.heap[RB]? = some (.cells #[.slice av (ints (way s a v)).length cv, .int .i64 (s.c v), .slice ao ol co] 29 (0, 0)) ∧ Is w' w.heap.size (.slice av (ints (way s a v)).length cv) (ints (way s a v)) ∧ Is w' w.heap.size (.slice ao ol co) (ints (ord ++ [v])) ∧ Below w.heap.size w w' := ⟨_, rfl⟩
        have HFN : Hid _ := hFIN
        clear hol p5 p8 d0 hSO hFIN KEEP
        go_cut [11] (fun z wx => z = .int .i64 0 ∧ FIN wx)
        case first =>
          refine wp_region_inv (by kernel_rfl) (back_of (by kernel_rfl)) (fun L ac w' => ∃ y : Nat → Value, ac = ⟨(List.toArray (.agg #[.int .i64 n, .slice a0 es.length c0] :: .int .i64 a :: .int .i64 v :: .slice a1 hl.length c1 :: .func (.func kn) #[] lb :: .pointer (some ⟨w.heap.size, 0, none⟩) :: undef :: undef :: undef :: undef :: .pointer (some ⟨RB, 0, none⟩) :: y 17 :: .pointer (some ⟨P, 0, none⟩) :: .int .i64 v :: .bool true :: .agg #[.int .i64 n, .slice a0 es.length c0] :: .int .i64 a :: .slice a1 hl.length c1 :: .func (.func kn) #[] lb :: .pointer (some ⟨P, 0, none⟩) :: .tuple #[.int .i64 v, .bool true] :: .pointer (some ⟨P, 0, none⟩) :: .tuple #[.int .i64 v, .bool true] :: .int .i64 v :: .bool true :: .bool true :: .bool false :: u27 :: .int .i64 v :: .int .i64 v :: .bool true :: y 0 :: y 1 :: y 2 :: y 3 :: y 4 :: y 5 :: y 6 :: y 7 :: y 8 :: y 9 :: y 10 :: y 11 :: y 12 :: y 13 :: y 14 :: y 15 :: u47 :: u48 :: u49 :: [])), []⟩ ∧ (L 17 = true → y 17 = .int .i64 0) ∧ ((L 16 = false ∧ Below w3.heap.size w3 w' ∧ ∀ j, L j = true → Bw9 w3.heap.size P C n v (s.c v) (ints (way s a v)) ao ol co j (y j) w') ∨ (L 16 = true ∧ (∀ j, j < 16 → L j = true) ∧ FIN w'))) ?_ ?_ ?_
          · exact ⟨fun j => [u31, u32, u33, u34, u35, u36, u37, u38, u39, u40, u41, u42, u43, u44, u45, u46, undef, u11].getD j undef, rfl, fun h => (by cases h), .inl ⟨rfl, Below.drew (Below.refl _ _), fun j hj => by cases hj⟩⟩
          · intro i o hi L ac w1 hI hLi hdep K hK
            obtain ⟨y, rfl, h17, hor⟩ := hI
            have hi18 : i < 18 := by
              rcases Nat.lt_or_ge i 18 with h | h
              · exact h
              · rw [Array.getElem?_eq_none (by simpa using h)] at hi; cases hi
            by_cases h16 : i < 16
            · obtain ⟨hL16, hb, hinv⟩ : L 16 = false ∧ Below w3.heap.size w3 w1 ∧ ∀ j, L j = true → Bw9 w3.heap.size P C n v (s.c v) (ints (way s a v)) ao ol co j (y j) w1 := by
                rcases hor with h | ⟨_, h, _⟩
                · exact h
                · rw [h i h16] at hLi; cases hLi
              obtain ⟨g0, g1, g2⟩ := KEEP2.out w1 hb
              have hK' : ∀ (x : Value) (w' : World), Below w1.heap.size w1 w' → Bw9 w3.heap.size P C n v (s.c v) (ints (way s a v)) ao ol co i x w' → K ⟨(List.toArray (.agg #[.int .i64 n, .slice a0 es.length c0] :: .int .i64 a :: .int .i64 v :: .slice a1 hl.length c1 :: .func (.func kn) #[] lb :: .pointer (some ⟨w.heap.size, 0, none⟩) :: undef :: undef :: undef :: undef :: .pointer (some ⟨RB, 0, none⟩) :: (if 17 = i then x else y 17) :: .pointer (some ⟨P, 0, none⟩) :: .int .i64 v :: .bool true :: .agg #[.int .i64 n, .slice a0 es.length c0] :: .int .i64 a :: .slice a1 hl.length c1 :: .func (.func kn) #[] lb :: .pointer (some ⟨P, 0, none⟩) :: .tuple #[.int .i64 v, .bool true] :: .pointer (some ⟨P, 0, none⟩) :: .tuple #[.int .i64 v, .bool true] :: .int .i64 v :: .bool true :: .bool true :: .bool false :: u27 :: .int .i64 v :: .int .i64 v :: .bool true :: (if 0 = i then x else y 0) :: (if 1 = i then x else y 1) :: (if 2 = i then x else y 2) :: (if 3 = i then x else y 3) :: (if 4 = i then x else y 4) :: (if 5 = i then x else y 5) :: (if 6 = i then x else y 6) :: (if 7 = i then x else y 7) :: (if 8 = i then x else y 8) :: (if 9 = i then x else y 9) :: (if 10 = i then x else y 10) :: (if 11 = i then x else y 11) :: (if 12 = i then x else y 12) :: (if 13 = i then x else y 13) :: (if 14 = i then x else y 14) :: (if 15 = i then x else y 15) :: u47 :: u48 :: u49 :: [])), []⟩ w' := fun x w' hb' hx =>
                hK _ _ ⟨fun j => if j = i then x else y j, rfl, fun h => (by simp only at h ⊢; rw [if_neg (by omega)] at h ⊢; exact h17 h), .inl ⟨by simp only; rw [if_neg (by omega)]; exact hL16, bthen hb hb', bset (p := Bw9 w3.heap.size P C n v (s.c v) (ints (way s a v)) ao ol co) (v := y) (L := L) (fun j _ _ _ h hb => Bw9.below j h hb) hinv hb' i x hx⟩⟩
              have hD : ∀ e ∈ o.after, Region.binds .any e = true → Bw9 w3.heap.size P C n v (s.c v) (ints (way s a v)) ao ol co e.on (y e.on) w1 := fun e hm hbd => hinv e.on (hdep _ hm hbd)
              clear hK hinv hdep hor h17 hLi hL16
              obtain rfl | rfl | rfl | rfl | rfl | rfl | rfl | rfl | rfl | rfl | rfl | rfl | rfl | rfl | rfl | rfl : i = 0 ∨ i = 1 ∨ i = 2 ∨ i = 3 ∨ i = 4 ∨ i = 5 ∨ i = 6 ∨ i = 7 ∨ i = 8 ∨ i = 9 ∨ i = 10 ∨ i = 11 ∨ i = 12 ∨ i = 13 ∨ i = 14 ∨ i = 15 := by omega
              all_goals
                simp only [List.getElem?_toArray, List.getElem?_cons_succ, List.getElem?_cons_zero, Option.some.injEq] at hi
                subst hi
                clear hi18 h16
                simp only [Nat.reduceEqDiff, reduceIte] at hK'
              · go_simp
                exact hK' _ _ (Below.refl _ _) rfl
              · go_simp
                exact hK' _ _ (Below.refl _ _) rfl
              · have q0 : y 0 = .pointer (some ⟨P, 0, none⟩) := hD { on := 0, ground := .data } (by simp) rfl
                have q1 : y 1 = .int .i64 v := hD { on := 1, ground := .data } (by simp) rfl
                simp only [q0, q1] at hK'
                go_simp
                go_at_call 57
                refine (BKA.out _ hb).mono ?_
                rintro e w4 ⟨vp, rfl, his, b4⟩
                obtain ⟨av, cv, rfl⟩ := his.sl.val
                exact hK' _ _ b4 ⟨av, cv, rfl, his.mono hb.size⟩
              · go_simp
                exact hK' _ _ (Below.refl _ _) rfl
              · have q3 : y 3 = .pointer (some ⟨P, 0, none⟩) := hD { on := 3, ground := .data } (by simp) rfl
                simp only [q3] at hK'
                go_simp
                exact hK' _ _ (Below.refl _ _) rfl
              · have q4 : y 4 = .pointer (some ⟨P, 0, none⟩) := hD { on := 4, ground := .data } (by simp) rfl
                simp only [q4] at hK'
                go_simp
                exact hK' _ _ (Below.refl _ _) rfl
              · have q5 : y 5 = .pointer (some ⟨P, 5, none⟩) := hD { on := 5, ground := .data } (by simp) rfl
                simp only [q5] at hK'
                go_simp
                exact hK' _ _ (Below.refl _ _) rfl
              · go_simp
                exact hK' _ _ (Below.refl _ _) rfl
              · have q6 : y 6 = .slice (some ⟨C, 0, none⟩) n n := hD { on := 6, ground := .data } (by simp) rfl
                have q7 : y 7 = .int .i64 v := hD { on := 7, ground := .data } (by simp) rfl
                simp only [q6, q7] at hK'
                go_simp
                exact hK' _ _ (Below.refl _ _) rfl
              · have q8 : y 8 = .pointer (some ⟨C, v, none⟩) := hD { on := 8, ground := .data } (by simp) rfl
                simp only [q8] at hK'
                go_simp
                exact hK' _ _ (Below.refl _ _) rfl
              · obtain ⟨av, cv, q2, sv⟩ := hD { on := 2, ground := .data } (by simp) rfl
                rw [q2] at sv
                have q9 : y 9 = .int .i64 (s.c v) := hD { on := 9, ground := .data } (by simp) rfl
                simp only [q2, q9] at hK'
                go_simp
                exact hK' _ _ (Below.refl _ _) ⟨av, cv, rfl, sv⟩
              · go_simp
                exact hK' _ _ (Below.refl _ _) rfl
              · have q11 : y 11 = .pointer (some ⟨P, 0, none⟩) := hD { on := 11, ground := .data } (by simp) rfl
                simp only [q11] at hK'
                go_simp
                exact hK' _ _ (Below.refl _ _) rfl
              · have q12 : y 12 = .pointer (some ⟨P, 0, none⟩) := hD { on := 12, ground := .data } (by simp) rfl
                simp only [q12] at hK'
                go_simp
                exact hK' _ _ (Below.refl _ _) rfl
              · have q13 : y 13 = .pointer (some ⟨P, 8, none⟩) := hD { on := 13, ground := .data } (by simp) rfl
                simp only [q13] at hK'
                go_simp
                exact hK' _ _ (Below.refl _ _) rfl
              · obtain ⟨av, cv, q10, sv⟩ := hD { on := 10, ground := .data } (by simp) rfl
                have q14 : y 14 = .slice ao ol co := hD { on := 14, ground := .data } (by simp) rfl
                simp only [q10, q14] at hK'
                go_simp
                exact hK' _ _ (Below.refl _ _) ⟨av, cv, rfl, sv⟩
            · have hi2 : i = 16 ∨ i = 17 := by omega
              rcases hi2 with rfl | rfl
              · simp only [List.getElem?_toArray, List.getElem?_cons_succ, List.getElem?_cons_zero, Option.some.injEq] at hi
                subst hi
                obtain ⟨hL16, hb, hinv⟩ : L 16 = false ∧ Below w3.heap.size w3 w1 ∧ ∀ j, L j = true → Bw9 w3.heap.size P C n v (s.c v) (ints (way s a v)) ao ol co j (y j) w1 := by
                  rcases hor with h | ⟨h, _⟩
                  · exact h
                  · rw [h] at hLi; cases hLi
                obtain ⟨av, cv, q15, sv⟩ := hinv 15 (hdep { on := 15, ground := .data } (by simp) rfl)
                have hall : ∀ j, j < 16 → L j = true := by
                  intro j hj
                  obtain rfl | rfl | rfl | rfl | rfl | rfl | rfl | rfl | rfl | rfl | rfl | rfl | rfl | rfl | rfl | rfl : j = 0 ∨ j = 1 ∨ j = 2 ∨ j = 3 ∨ j = 4 ∨ j = 5 ∨ j = 6 ∨ j = 7 ∨ j = 8 ∨ j = 9 ∨ j = 10 ∨ j = 11 ∨ j = 12 ∨ j = 13 ∨ j = 14 ∨ j = 15 := by omega
                  all_goals exact hdep { on := _, ground := .phase } (by simp) rfl
                have r1 := (hb.block RB (heap_lt' R3.out)).trans R3.out
                obtain ⟨z0, z1, z2⟩ : w1.frozen? ⟨RB, 0, none⟩ = false ∧ w1.frozen? ⟨RB, 1, none⟩ = false ∧ w1.frozen? ⟨RB, 2, none⟩ = false := by simp [World.frozen?, r1]
                obtain ⟨k0, k1, k2⟩ : w1.cell? ⟨RB, 0, none⟩ = some (.slice none 0 0) ∧ w1.cell? ⟨RB, 1, none⟩ = some (.int .i64 0) ∧ w1.cell? ⟨RB, 2, none⟩ = some (.slice none 0 0) := by simp [World.cell?, r1]
                have W4F : FIN (((w1.setCell ⟨RB, 0, none⟩ (.slice av (ints (way s a v)).length cv)).setCell ⟨RB, 1, none⟩ (.int .i64 (s.c v))).setCell ⟨RB, 2, none⟩ (.slice ao ol co)) := by
                  rw [HFN.out]
                  have hb' : Below w.heap.size w w1 := bthen B1.out (bthen S3.out.below hb)
                  exact ⟨av, cv, heap_setCell_same _ _ _ _ _ _ _ (heap_setCell_same _ _ _ _ _ _ _ (heap_setCell_same _ _ _ _ _ _ _ r1)), (((sv.other HRT.out.2).other HRT.out.2).other HRT.out.2).mono (by have := HRT.out.2; have := RL.out; omega), ((((HSO.out.below hb).other HRT.out.1).other HRT.out.1).other HRT.out.1).mono (by have := HRT.out.1; have := RL.out; omega), Below.setCell (Below.setCell (Below.setCell hb' RL.out _) RL.out _) RL.out _⟩
                have hK2 := hK _ _ ⟨y, rfl, fun h => h17 (by simpa using h), .inr ⟨rfl, fun j hj => by simp only; rw [if_neg (by omega)]; exact hall j hj, W4F⟩⟩
                simp only [q15] at hK2
                clear hK
                go_simp
                exact hK2
              · simp only [List.getElem?_toArray, List.getElem?_cons_succ, List.getElem?_cons_zero, Option.some.injEq] at hi
                subst hi
                have hL16 : L 16 = true := hdep { on := 16, ground := .chain } (by simp) rfl
                obtain ⟨_, hall, hfin⟩ : L 16 = true ∧ (∀ j, j < 16 → L j = true) ∧ FIN w1 := by
                  rcases hor with ⟨h, _⟩ | h
                  · rw [h] at hL16; cases hL16
                  · exact h
                go_simp
                exact hK _ _ ⟨fun j => if j = 17 then .int .i64 0 else y j, rfl, fun _ => rfl, .inr ⟨by simp only; rw [if_neg (by omega)]; exact hL16, fun j hj => by simp only; rw [if_neg (by omega)]; exact hall j hj, hfin⟩⟩
          · intro L ac w1 hI hall
            obtain ⟨y, rfl, h17, hor⟩ := hI
            have e17 := h17 (hall 17 (by decide))
            have hfin : FIN w1 := by
              rcases hor with ⟨h, _⟩ | ⟨_, _, h⟩
              · rw [hall 16 (by decide)] at h; cases h
              · exact h
            go_wp2_with fail
            go_meet
            exact ⟨e17, hfin⟩
        case rest =>
          obtain ⟨rfl, hfin⟩ := hcut
          rw [HFN.out] at hfin
          obtain ⟨av, cv, rb, s1, s2, bf⟩ := hfin
          obtain ⟨k0, k1, k2⟩ : wc.cell? ⟨RB, 0, none⟩ = some (.slice av (ints (way s a v)).length cv) ∧ wc.cell? ⟨RB, 1, none⟩ = some (.int .i64 (s.c v)) ∧ wc.cell? ⟨RB, 2, none⟩ = some (.slice ao ol co) := by simp [World.cell?, rb]
          have X1 : Hid _ := s1
          have X2 : Hid _ := s2
          have X3 : Hid _ := bf
          have HS : Hid (sea n es (gf hl) ky v (g + 1) s ord = some (s, ord ++ [v])) := by
            unfold Hid sea
            have hp := HPK.out
            rw [hp]
            simp only [if_true]
          clear rb s1 s2 bf
          go_wp2_with fail
          refine bodyPost_ret (v := .tuple #[.agg #[.slice av (ints (way s a v)).length cv, .int .i64 (s.c v), .slice ao ol co], .int .i64 0]) (by simp [results, Try.results33, go_sem, k0, k1, k2]) rfl (.inr ⟨s, ord ++ [v], _, _, ?_, rfl, X1.out, X2.out, X3.out⟩)
          rw [SE.out]
          exact HS.out
      · have hvb : ((v : Int) == (t : Int)) = false := by simp; omega
        have hlo : ∀ u, u < n → 0 ≤ s.c u := fun u hu => Int.le_trans (HD.out.lo u hu) (HI.out.lo u hu)
        have hcv : s.c v ≤ 1000000 := by
          have := HI.out.hi v v1 v2
          omega
        have LF : Hid _ := fun (_ : Unit) => lookFrom_any F1.out S3.out v v1 (by simp) HI.out.st hlo hcv (by omega)
        go_wp2_with fail
        refine (LF.out ()).mono ?_
        rintro e w4 ⟨rfl, sx4⟩
        have S4 : Hid _ := sx4
        clear sx4 LF
        have HN : Hid (sea n es (gf hl) ky t (g + 1) s ord = sea n es (gf hl) ky t g (rxs (gf hl) (ord ++ [v]) v es s es.length) (ord ++ [v])) := by
          unfold Hid
          conv => lhs; unfold sea
          have hp := HPK.out
          rw [hp]
          simp only
          rw [if_neg hvt]
        have HM : Hid (1 + (ord ++ [v]).length * es.length = 1 + ord.length * es.length + es.length) := by
          unfold Hid; rw [List.length_append, List.length_singleton, Nat.add_mul, Nat.one_mul]; omega
        have HK : Hid (Kp n es a (gf hl) (rxs (gf hl) (ord ++ [v]) v es s es.length) (ord ++ [v])) := ⟨.inr ⟨d, HD.out, HI.out.step HP.out HD.out haN v1 (decide_eq_true ⟨v2, v3⟩) (by simp)⟩⟩
        go_wp2_with fail
        go_roundg g
        case measure => omega
        case rel => exact ⟨_, _, by rw [HM.out]; exact S4.out, HK.out, by rw [List.length_append]; simp; omega, by rw [SE.out, HN.out]⟩
end Go.Proofs.Ytefikbjjdldomaa
