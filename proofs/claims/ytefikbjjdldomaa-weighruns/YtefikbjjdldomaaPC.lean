/-
  Contract: lookFrom.
-/
import Derived.Test.YtefikbjjdldomaaPB
import Derived.Test.YtefikbjjdldomaaSl
import Derived.Test.YtefikbjjdldomaaFC
namespace Go.Proofs.Ytefikbjjdldomaa
open Go.RowKit
open _root_.Go.Proofs.Ytefikbjjdldomaa.Nm Wm Dm Sk
open Jp (T3)
attribute [local go_sem ↓] Go.wp_at_zero Go.wp_at_succ

/-- What never turns in a search. -/
structure Fx (w : World) (f : Fix) (es : List E) (hl : List Int) (a : Nat) (ky : Int → Int → Int) : Prop where
  net : Pn f.n es
  ed : SlE w f.ve es
  gs : SlI w f.vh hl
  len : hl.length = f.n
  rng : ∀ v, v < f.n → 0 ≤ hl.getD v 0 ∧ hl.getD v 0 ≤ 1099511627776
  key : Ky w f.kn f.lb ky
  mono : ∀ x y g, x ≤ y → ky x g ≤ ky y g
  a : a < f.n
/-- The state of the search in memory. -/
structure Sx (w : World) (b : Blk) (T : Nat) (f : Fix) (hl : List Int) (a : Nat) (ky : Int → Int → Int) (s : S) (ord : List Nat) (k : Nat) (wr : World) : Prop where
  ex : ∃ m vo qs vq, Sr w b T f s.c m (fun u => decide (u ∈ ord)) (ints ord) vo qs vq wr ∧ ((s.c a < far → m a = -1) ∧ ∀ u, u < f.n → u ≠ a → s.c u < far → m u = (s.p u : Int)) ∧ Wq f.n (gf hl) ky s ord qs ∧ qs.length ≤ k
theorem Sx.kept {w : World} {b : Blk} {T : Nat} {f : Fix} {hl : List Int} {a : Nat} {ky : Int → Int → Int} {s : S} {ord : List Nat} {k : Nat} {wr wr' : World} (h : Sx w b T f hl a ky s ord k wr) (hb : Below wr.heap.size wr wr') : Sx w b T f hl a ky s ord k wr' := by
  obtain ⟨m, vo, qs, vq, h1, h2⟩ := h.ex
  exact ⟨m, vo, qs, vq, h1.kept hb, h2⟩
theorem Sx.up {w : World} {b : Blk} {T : Nat} {f : Fix} {hl : List Int} {a : Nat} {ky : Int → Int → Int} {s : S} {ord : List Nat} {k k' : Nat} {wr : World} (h : Sx w b T f hl a ky s ord k wr) (hk : k ≤ k') : Sx w b T f hl a ky s ord k' wr := by
  obtain ⟨m, vo, qs, vq, h1, h2, h3, h4⟩ := h.ex
  exact ⟨m, vo, qs, vq, h1, h2, h3, Nat.le_trans h4 hk⟩
theorem Sx.below {w : World} {b : Blk} {T : Nat} {f : Fix} {hl : List Int} {a : Nat} {ky : Int → Int → Int} {s : S} {ord : List Nat} {k : Nat} {wr : World} (h : Sx w b T f hl a ky s ord k wr) : Below w.heap.size w wr := by
  obtain ⟨m, vo, qs, vq, h1, h2⟩ := h.ex
  exact h1.below
theorem rx_in {h : Nat → Int} {ord : List Nat} {v y : Nat} {e : E} {s : S} (hy : y ∈ ord) : (rx h ord v e s).c y = s.c y := by
  unfold rx
  split
  · rename_i hc
    exact upd_other _ _ (fun e1 => hc.2.2.1 (by rw [← e1]; exact hy))
  · rfl
theorem rxs_start {h : Nat → Int} {ord : List Nat} {v a : Nat} {es : List E} {s : S} (hv : v ∈ ord) (h0 : 0 ≤ s.c v) (hp : ∀ e ∈ es, 1 ≤ e.2.2) (hs : s.c a = 0) : ∀ k, k ≤ es.length → (rxs h ord v es s k).c a = 0 := by
  intro k
  induction k with
  | zero => intro _; exact hs
  | succ k ih =>
    intro hk
    have i1 := ih (by omega)
    have i2 := (rxs_in (h := h) (v := v) (es := es) (s := s) k v hv).1
    unfold rxs rx
    split
    · rename_i hc
      simp only
      by_cases e : a = (at3 es k).2.1.toNat
      · rw [← e] at hc
        have := hp _ (mem_at (show k < es.length by omega))
        omega
      · rw [upd_other _ _ e]; exact i1
    · exact i1
/-- reach from a place that is looked from, along an edge. -/
theorem reach_any {w : World} {b : Blk} {T : Nat} {f : Fix} {es : List E} {hl : List Int} {a : Nat} {ky : Int → Int → Int} {s : S} {ord : List Nat} {k : Nat} {wr : World} {m : Nat → Int} {vo : Value} {qs : List T3} {vq : Value} (hf : Fx w f es hl a ky)
    (h1 : Sr w b T f s.c m (fun u => decide (u ∈ ord)) (ints ord) vo qs vq wr) (h23 : (s.c a < far → m a = -1) ∧ ∀ u, u < f.n → u ≠ a → s.c u < far → m u = (s.p u : Int)) (h4 : Wq f.n (gf hl) ky s ord qs) (h5 : qs.length ≤ k) (v : Nat) (e : E) (he : e ∈ es) (hev : e.1.toNat = v) (hsa : s.c a = 0) (hc0 : 0 ≤ s.c v) (hc1 : s.c v ≤ 1000000) (hk : k + 1 ≤ 4398046511104) :
    Calls Try.prog 85 #[.pointer (some ⟨b.P, 0, none⟩), .int .i64 e.2.1, .int .i64 v, .int .i64 (s.c v + e.2.2)] wr fun en w' => en = .returned (.tuple #[]) ∧ Sx w b T f hl a ky (rx (gf hl) ord v e s) ord (k + 1) w' ∧ (∀ k, T ≤ k → k < wr.heap.size → vq.ownBlock ≠ some k → w'.heap[k]? = wr.heap[k]?) := by
  have hF : far = 1099511627776 := rfl
  obtain ⟨h2, h3⟩ := h23
  obtain ⟨k1, k2, k3, k4⟩ := hf.net.nat he
  have hn64 := hf.net.n64
  have hto : e.2.1 = ((e.2.1.toNat : Nat) : Int) := by have := (hf.net.ok e he).2.2.1; omega
  rw [hto]
  obtain ⟨y, hy⟩ : ∃ y, e.2.1.toNat = y := ⟨_, rfl⟩
  rw [hy] at k2 ⊢
  clear hto
  obtain ⟨g0, g1⟩ := hf.rng y k2
  by_cases hq : gf hl y ≠ far ∧ ¬ y ∈ ord ∧ s.c v + e.2.2 < s.c y
  · have hrx : rx (gf hl) ord v e s = ⟨upd s.c y (s.c v + e.2.2), fun i => if i = y then v else s.p i⟩ := by
      unfold rx
      rw [hy, if_pos ⟨hev, hq⟩]
    have hya : y ≠ a := fun e1 => by have := hq.2.2; rw [e1, hsa] at this; omega
    refine (reach_put h1 hf.gs hf.len hn64 hf.key y k2 v (s.c v + e.2.2) hq.1 (decide_eq_false hq.2.1) hq.2.2 (by omega) (by omega) g0 g1 (by omega)).mono ?_
    rintro en w' ⟨rfl, vq', rs, s1, pm, fr⟩
    rw [hrx]
    refine ⟨rfl, ⟨upd m y v, vo, rs, vq', s1, ⟨fun _ => by rw [upd_other _ _ (Ne.symm hya)]; exact h2 (by rw [hsa]; omega), fun u hu hne hlt => ?_⟩, (h4.put hf.mono k2 hq.2.2 (by omega)).perm pm.symm, by rw [pm.length_eq]; simp; omega⟩, fr⟩
    simp only at hlt ⊢
    by_cases e1 : u = y
    · subst e1
      rw [upd_same, if_pos rfl]
    · rw [upd_other _ _ e1, if_neg e1]
      rw [upd_other _ _ e1] at hlt
      exact h3 u hu hne hlt
  · have hrx : rx (gf hl) ord v e s = s := by
      unfold rx
      rw [hy, if_neg (fun hh => hq hh.2)]
    have hno : hl.getD y 0 = 1099511627776 ∨ (fun u => decide (u ∈ ord)) y = true ∨ s.c y ≤ s.c v + e.2.2 := by
      by_cases q1 : gf hl y = far
      · exact .inl q1
      · by_cases q2 : y ∈ ord
        · exact .inr (.inl (decide_eq_true q2))
        · exact .inr (.inr (by
            by_cases q3 : s.c v + e.2.2 < s.c y
            · exact absurd ⟨q1, q2, q3⟩ hq
            · omega))
    refine (reach_no h1 (hf.gs.below h1.below) hf.len hn64 y k2 v (s.c v + e.2.2) hno).mono ?_
    rintro en w' ⟨rfl, rfl⟩
    rw [hrx]
    exact ⟨rfl, ⟨m, vo, qs, vq, h1, ⟨h2, h3⟩, h4, by omega⟩, fun _ _ _ _ => rfl⟩
set_option maxRecDepth 100000 in
set_option maxHeartbeats 16000000 in
theorem lookFrom_any {w : World} {b : Blk} {T : Nat} {f : Fix} {es : List E} {hl : List Int} {a : Nat} {ky : Int → Int → Int} {s : S} {ord : List Nat} {k : Nat} {wr : World} (hf : Fx w f es hl a ky) (h : Sx w b T f hl a ky s ord k wr) (v : Nat) (hvN : v < f.n) (hvo : v ∈ ord) (hsa : s.c a = 0) (hlo : ∀ u, u < f.n → 0 ≤ s.c u) (hc1 : s.c v ≤ 1000000) (hk : k + es.length ≤ 4398046511104) :
    Calls Try.prog 58 #[.pointer (some ⟨b.P, 0, none⟩), .int .i64 v] wr fun en w' => en = .returned (.tuple #[]) ∧ Sx w b T f hl a ky (rxs (gf hl) ord v es s es.length) ord (k + es.length) w' := by
  obtain ⟨n, ve, vh, kn, lb⟩ := f
  obtain ⟨a0, c0, hve⟩ := hf.ed.val
  simp only at hve hvN
  subst hve
  have HF : Hid _ := hf
  have HX : Hid _ := h
  have hP := hf.net
  simp only at hP
  have hlen := hP.len
  have HP : Hid _ := hP
  have hv64 : v < 64 := by have := hP.n64; omega
  have HVO : Hid _ := hvo
  have HSA : Hid _ := hsa
  have HLO : Hid _ := hlo
  have HC1 : Hid _ := hc1
  have HK : Hid _ := hk
  obtain ⟨P, C, M, L, H⟩ := b
  obtain ⟨m, vo, qs, vq, h1, _⟩ := h.ex
  obtain ⟨_, p1, _⟩ := h1.cells
  simp only at p1
  clear hf h h1 hP hvo hsa hlo hc1 hk
  go_enter Try.func58, Try.ntmps58
  go_wp2_with fail
  go_loopw [12] (fun z wr => ∃ i : Nat, z = .int .i64 i ∧ i ≤ es.length ∧ Sx w ⟨P, C, M, L, H⟩ T ⟨n, .slice a0 es.length c0, vh, kn, lb⟩ hl a ky (rxs (gf hl) ord v es s i) ord (k + i) wr) (fun z _ => es.length - (intOf z).toNat)
  case atStart => exact ⟨0, rfl, Nat.zero_le _, HX.out⟩
  case round =>
    clear HX p1
    obtain ⟨i, rfl, hi, hx⟩ := hrel
    have RE : Hid _ := hx
    clear hx
    by_cases hlt : i < es.length
    · have hii : (i : Int) < (es.length : Int) := by omega
      obtain ⟨bE, off, cap, hveq, hc⟩ := (HF.out.ed.below RE.out.below).some' (by omega)
      simp only [Value.slice.injEq] at hveq
      obtain ⟨rfl, -, rfl⟩ := hveq
      obtain ⟨e0, e1, e2⟩ := hc i hlt
      clear hc
      have hok := HP.out.ok _ (mem_at hlt)
      obtain ⟨p, hpe⟩ : ∃ p, at3 es i = p := ⟨_, rfl⟩
      have HME : Hid (p ∈ es) := by rw [← hpe]; exact mem_at hlt
      have HRX : Hid (rxs (gf hl) ord v es s (i + 1) = rx (gf hl) ord v p (rxs (gf hl) ord v es s i)) := by rw [← hpe]; rfl
      rw [hpe] at e0 e1 e2 hok
      clear hpe
      obtain ⟨q1, q2⟩ := rxs_in (h := gf hl) (v := v) (es := es) (s := s) i v HVO.out
      have HSA2 : Hid ((rxs (gf hl) ord v es s i).c a = 0) := rxs_start HVO.out (HLO.out v hvN) (fun e he => (HP.out.nat he).2.2.1) HSA.out i (by omega)
      generalize rxs (gf hl) ord v es s i = s2 at *
      have hc0 : 0 ≤ s2.c v := by rw [q1]; exact HLO.out v hvN
      have hc1 : s2.c v ≤ 1000000 := by rw [q1]; exact HC1.out
      clear q1 q2
      obtain ⟨x, y, c⟩ := p
      simp only at e0 e1 e2 hok
      obtain ⟨ok1, ok2, ok3, ok4, ok5, ok6⟩ := hok
      obtain ⟨m, vo, qs, vq, r1, r2, r3, r4⟩ := RE.out.ex
      have R9 : Hid _ := r1.kept (balloc (Below.refl _ _) (.cells #[.int .i64 x, .int .i64 y, .int .i64 c] 66))
      have Y9 : Hid _ := box3_new wr x y (.int .i64 c) 66
      have VY : Hid (vq.ownBlock ≠ some wr.heap.size) := fun e => by have := (ownBlock_lt r1.own _ e).2; omega
      have TY : Hid (T ≤ wr.heap.size) := r1.top
      have R2 : Hid _ := r2
      have R3 : Hid _ := r3
      have R4 : Hid _ := r4
      clear r1 r2 r3 r4
      have HZ9 : Hid (wr.heap.size < (wr.alloc (.cells #[.int .i64 x, .int .i64 y, .int .i64 c] 66)).heap.size) := by unfold Hid; simp
      by_cases hxj : x = (v : Int)
      · subst hxj
        have hxb : ((v : Int) == (v : Int)) = true := by simp
        go_wp2_with fail
        clear e0 e1 e2
        generalize wr.alloc (.cells #[.int .i64 (v : Int), .int .i64 y, .int .i64 c] 66) = W9 at *
        obtain ⟨Y, hY⟩ : ∃ Y, wr.heap.size = Y := ⟨_, rfl⟩
        rw [hY] at Y9 TY HZ9 VY ⊢
        clear hY
        obtain ⟨_, y1, y2⟩ := Y9.out
        obtain ⟨_, _, _, _, _, c5, _⟩ := R9.out.cells
        obtain ⟨d0, _⟩ := R9.out.cost.cell v hvN
        simp only at c5 d0
        have hvi : (v : Int) < (n : Int) := by omega
        have KEEP : Hid (∀ w', Below W9.heap.size W9 w' → w'.cell? ⟨Y, 1, none⟩ = some (.int .i64 y) ∧ w'.cell? ⟨Y, 2, none⟩ = some (.int .i64 c) ∧ w'.cell? ⟨P, 5, none⟩ = some (.slice (some ⟨C, 0, none⟩) n n) ∧ w'.cell? ⟨C, v, none⟩ = some (.int .i64 (s2.c v))) := fun w' hb => ⟨kept hb y1, kept hb y2, kept hb c5, kept hb d0⟩
        have RA : Hid _ := fun (w' : World) (hb : Below W9.heap.size W9 w') => reach_any HF.out (R9.out.kept hb) R2.out R3.out R4.out v ((v : Int), y, c) HME.out (by simp) HSA2.out hc0 hc1 (by have := HK.out; omega)
        simp only at RA
        have KS : Hid (∀ w1 w2 : World, Below W9.heap.size W9 w1 → Sx w ⟨P, C, M, L, H⟩ T ⟨n, .slice (some ⟨bE, off, none⟩) es.length c0, vh, kn, lb⟩ hl a ky (rx (gf hl) ord v ((v : Int), y, c) s2) ord (k + i + 1) w2 → (∀ k, T ≤ k → k < w1.heap.size → vq.ownBlock ≠ some k → w2.heap[k]? = w1.heap[k]?) → w2.cell? ⟨Y, 1, none⟩ = some (.int .i64 y) ∧ w2.cell? ⟨Y, 2, none⟩ = some (.int .i64 c) ∧ w2.cell? ⟨P, 5, none⟩ = some (.slice (some ⟨C, 0, none⟩) n n) ∧ w2.cell? ⟨C, v, none⟩ = some (.int .i64 (s2.c v))) := fun w1 w2 hb s fr => by
          have hY := fr Y TY.out (by have := hb.size; have := HZ9.out; omega) VY.out
          obtain ⟨_, _, _, _, t1, _⟩ := s.ex
          obtain ⟨_, _, _, _, _, c5', _⟩ := t1.cells
          obtain ⟨d0', _⟩ := t1.cost.cell v hvN
          rw [rx_in HVO.out] at d0'
          exact ⟨cell_block hY (kept hb y1), cell_block hY (kept hb y2), c5', d0'⟩
        have hcw : IntKind.i64.wrap (s2.c v + c) = s2.c v + c := by rw [IntKind.wrap_i64]; omega
        go_region_held3 (fun w' => w'.cell? ⟨Y, 1, none⟩ = some (.int .i64 y) ∧ w'.cell? ⟨Y, 2, none⟩ = some (.int .i64 c) ∧ w'.cell? ⟨P, 5, none⟩ = some (.slice (some ⟨C, 0, none⟩) n n) ∧ w'.cell? ⟨C, v, none⟩ = some (.int .i64 (s2.c v)))
          (first | exact KSS.out | exact KEEP.out _ (by repeat (first | exact Below.refl _ _ | refine bdrewN ?_ _ | refine Below.drew ?_)) | go_keep)
          (first
            | (go_at_call 85; refine (RA.out _ (by repeat (first | exact Below.refl _ _ | refine bdrewN ?_ _ | refine Below.drew ?_))).mono ?_; rintro e w2 ⟨rfl, sx2, fr2⟩; have KSS : Hid _ := KS.out _ _ (by repeat (first | exact Below.refl _ _ | refine bdrewN ?_ _ | refine Below.drew ?_)) sx2 fr2; have SX2 : Hid _ := sx2; clear sx2 fr2))
        go_wp2_with fail
        go_roundw
        case rel => exact ⟨i + 1, by go_num, by omega, by rw [HRX.out]; exact SX2.out⟩
        case measure => simp [intOf]; omega
      · have hxb : (x == (v : Int)) = false := by simp [hxj]
        have HN : Hid (rx (gf hl) ord v (x, y, c) s2 = s2) := by
          unfold Hid rx
          rw [if_neg (fun hh => hxj (by have := hh.1; simp only at this; omega))]
        go_wp2_with fail
        go_roundw
        case rel => exact ⟨i + 1, by go_num, by omega, by rw [HRX.out, HN.out]; exact ⟨m, vo, qs, vq, R9.out, R2.out, R3.out, by have := R4.out; omega⟩⟩
        case measure => simp [intOf]; omega
    · have hie : i = es.length := by omega
      subst hie
      go_wp2_with fail
      go_end0
      exact ⟨rfl, RE.out⟩
end Go.Proofs.Ytefikbjjdldomaa
