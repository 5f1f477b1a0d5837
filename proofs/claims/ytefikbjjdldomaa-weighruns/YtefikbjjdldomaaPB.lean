/-
  Contract: reach.
-/
import Derived.Test.YtefikbjjdldomaaPA
import Derived.Test.YtefikbjjdldomaaKY
import Derived.Shelf.Abstract
namespace Go.Proofs.Ytefikbjjdldomaa
open Go.RowKit
open _root_.Go.Proofs.Ytefikbjjdldomaa.Nm Wm Dm
open Jp (T3)
attribute [local go_sem ↓] Go.wp_at_zero Go.wp_at_succ

set_option maxRecDepth 100000 in
set_option maxHeartbeats 16000000 in
theorem reach_no {w : World} {b : Blk} {T : Nat} {f : Fix} {c m : Nat → Int} {lk : Nat → Bool} {o : List Int} {vo : Value} {qs : List T3} {vq : Value} {wr : World} {hl : List Int} (h : Sr w b T f c m lk o vo qs vq wr) (hh : SlI wr f.vh hl) (hn : hl.length = f.n) (hn64 : f.n ≤ 64) (v : Nat) (hv : v < f.n) (z x : Int) (hno : hl.getD v 0 = 1099511627776 ∨ lk v = true ∨ c v ≤ x) :
    Calls Try.prog 85 #[.pointer (some ⟨b.P, 0, none⟩), .int .i64 v, .int .i64 z, .int .i64 x] wr fun e w' => e = .returned (.tuple #[]) ∧ w' = wr := by
  obtain ⟨P, C, M, L, H⟩ := b
  obtain ⟨n, ve, vh, kn, lb⟩ := f
  obtain ⟨p0, p1, p2, p3, p4, p5, p6, p7, p8, _⟩ := h.cells
  obtain ⟨c0, _⟩ := h.cost.cell v hv
  obtain ⟨l0, _⟩ := h.look.cell v hv
  simp only at *
  obtain ⟨b1, off1, c1, rfl, hcl⟩ := hh.some' (by omega)
  have d0 := hcl v (by omega)
  have hvi : (v : Int) < (n : Int) := by omega
  rw [hn] at p2
  clear h hh hcl p0 p1 p3 p4 p6 p8
  generalize hl.getD v 0 = g at *
  generalize lk v = k at *
  generalize c v = y at *
  by_cases e1 : g = 1099511627776
  · have e1' : (g == 1099511627776) = true := by simp [e1]
    clear e1 hno
    go_enter Try.func85, Try.ntmps85
    go_wp2_with fail
    exact bodyPost_ret (v := .tuple #[]) (by simp [results, Try.results85, go_sem]) rfl ⟨rfl, rfl⟩
  · have e1' : (g == 1099511627776) = false := by simp [e1]
    cases k with
    | true =>
      clear e1 hno
      go_enter Try.func85, Try.ntmps85
      go_wp2_with fail
      exact bodyPost_ret (v := .tuple #[]) (by simp [results, Try.results85, go_sem]) rfl ⟨rfl, rfl⟩
    | false =>
      have e2 : y ≤ x := by rcases hno with h | h | h; exact absurd h e1; cases h; exact h
      have e2' : decide (y ≤ x) = true := decide_eq_true e2
      clear e1 hno
      go_enter Try.func85, Try.ntmps85
      go_wp2_with fail
      exact bodyPost_ret (v := .tuple #[]) (by simp [results, Try.results85, go_sem]) rfl ⟨rfl, rfl⟩
set_option maxRecDepth 100000 in
set_option maxHeartbeats 16000000 in
theorem reach_put {w : World} {b : Blk} {T : Nat} {f : Fix} {c m : Nat → Int} {lk : Nat → Bool} {o : List Int} {vo : Value} {qs : List T3} {vq : Value} {wr : World} {hl : List Int} {ky : Int → Int → Int} (h : Sr w b T f c m lk o vo qs vq wr) (hh : SlI w f.vh hl) (hn : hl.length = f.n) (hn64 : f.n ≤ 64) (hk : Ky w f.kn f.lb ky) (v : Nat) (hv : v < f.n) (z x : Int)
    (h1 : hl.getD v 0 ≠ 1099511627776) (h2 : lk v = false) (h3 : x < c v) (hx0 : 0 ≤ x) (hx1 : x ≤ 1099511627776) (hg0 : 0 ≤ hl.getD v 0) (hg1 : hl.getD v 0 ≤ 1099511627776) (hlen : qs.length + 1 ≤ 4398046511104) :
    Calls Try.prog 85 #[.pointer (some ⟨b.P, 0, none⟩), .int .i64 v, .int .i64 z, .int .i64 x] wr fun e w' => e = .returned (.tuple #[]) ∧ ∃ vq' rs, Sr w b T f (upd c v x) (upd m v z) lk o vo rs vq' w' ∧ rs.Perm (qs ++ [(ky x (hl.getD v 0), hl.getD v 0, (v : Int))]) ∧ (∀ k, T ≤ k → k < wr.heap.size → vq.ownBlock ≠ some k → w'.heap[k]? = wr.heap[k]?) := by
  obtain ⟨P, C, M, L, H⟩ := b
  obtain ⟨n, ve, vh, kn, lb⟩ := f
  obtain ⟨p0, p1, p2, p3, p4, p5, p6, p7, p8, _⟩ := h.cells
  obtain ⟨c0, f0⟩ := h.cost.cell v hv
  obtain ⟨l0, _⟩ := h.look.cell v hv
  obtain ⟨m0, f1⟩ := h.came.cell v hv
  simp only at *
  obtain ⟨b1, off1, c1, rfl, hcl⟩ := (hh.below h.below).some' (by omega)
  have d0 := hcl v (by omega)
  obtain ⟨b2, off2, c2, hve, hcl2⟩ := hh.some' (by omega)
  simp only [Value.slice.injEq, Option.some.injEq, Addr.mk.injEq, and_true, true_and] at hve
  obtain ⟨⟨rfl, rfl⟩, rfl⟩ := hve
  have HD0 : Hid _ := hcl2 v (by omega)
  have hvi : (v : Int) < (n : Int) := by omega
  rw [hn] at p2
  have e3 : decide (c v ≤ x) = false := decide_eq_false (by omega)
  rw [h2] at l0
  have hCM : C ≠ M := h.ok.ne.2.1.1
  have hPC : P ≠ C := h.ok.ne.1.1
  have hPM : P ≠ M := h.ok.ne.1.2.1
  have ST : Hid _ := h
  have HH : Hid _ := hh
  have HK : Hid _ := hk
  have HN : Hid _ := hn
  clear h hh hcl hcl2 hk h2 hn
  generalize hg : hl.getD v 0 = g at *
  have e1 : (g == 1099511627776) = false := by simp [h1]
  clear h1
  go_enter Try.func85, Try.ntmps85
  go_wp2_with fail
  go_region
  clear p0 p1 p2 p3 p4 p5 p6 p7 p8 c0 f0 l0 m0 f1
  have S1 : Hid _ := (ST.out.put v x z).kept (Below.drew (Below.refl _ _))
  have HB1 : Hid _ := S1.out.below
  have HI : Hid _ := ST.out.ok.hi
  have FR1 : Hid (∀ k, T ≤ k → ((wr.setCell ⟨C, v, none⟩ (.int .i64 x)).setCell ⟨M, v, none⟩ (.int .i64 z)).drew.heap[k]? = wr.heap[k]?) := fun k hk => by
    obtain ⟨q1, q2, q3, q4, q5⟩ := HI.out
    simp only at q2 q3
    rw [Jw.drew_heap, Below.heap_setCell _ _ _ _ (show k ≠ M by omega), Below.heap_setCell _ _ _ _ (show k ≠ C by omega)]
  have SZ1 : Hid (((wr.setCell ⟨C, v, none⟩ (.int .i64 x)).setCell ⟨M, v, none⟩ (.int .i64 z)).drew.heap.size = wr.heap.size) := by
    unfold Hid; rw [Jw.drew_heap]; simp [World.setCell]
  generalize ((wr.setCell ⟨C, v, none⟩ (.int .i64 x)).setCell ⟨M, v, none⟩ (.int .i64 z)).drew = W1 at *
  obtain ⟨p0, p1, p2, p3, p4, p5, p6, p7, p8, _⟩ := S1.out.cells
  simp only at p0 p1 p2 p3 p4 p5 p6 p7 p8
  rw [HN.out] at p2
  have d1 := kept (bthen (Below.refl w.heap.size w) HB1.out) HD0.out
  clear p0 p1 p5 p6 p7 p8
  have KEEP : Hid (∀ w', Below W1.heap.size W1 w' → w'.cell? ⟨P, 2, none⟩ = some (.slice (some ⟨b1, off1, none⟩) n c1) ∧ w'.cell? ⟨P, 3, none⟩ = some (.func (.func kn) #[] lb) ∧ w'.cell? ⟨P, 4, none⟩ = some (.pointer (some ⟨H, 0, none⟩)) ∧ w'.cell? ⟨b1, off1 + v, none⟩ = some (.int .i64 g)) := fun w' hb => ⟨kept hb p2, kept hb p3, kept hb p4, kept hb d1⟩
  have KS : Hid (∀ w' vq' rs, Sr w ⟨P, C, M, L, H⟩ T ⟨n, ve, .slice (some ⟨b1, off1, none⟩) hl.length c1, kn, lb⟩ (upd c v x) (upd m v z) lk o vo rs vq' w' → w'.cell? ⟨P, 2, none⟩ = some (.slice (some ⟨b1, off1, none⟩) n c1) ∧ w'.cell? ⟨P, 3, none⟩ = some (.func (.func kn) #[] lb) ∧ w'.cell? ⟨P, 4, none⟩ = some (.pointer (some ⟨H, 0, none⟩)) ∧ w'.cell? ⟨b1, off1 + v, none⟩ = some (.int .i64 g)) := fun w' vq' rs s => by
    obtain ⟨_, _, r2, r3, r4, _⟩ := s.cells
    simp only at r2 r3 r4
    rw [HN.out] at r2
    exact ⟨r2, r3, r4, kept s.below HD0.out⟩
  have HG : Hid (∀ w', Below W1.heap.size W1 w' → Calls Try.prog kn (#[.int .i64 x, .int .i64 g] ++ lb) w' fun e w'' => e = .returned (.int .i64 (ky x g)) ∧ ∃ q, w'' = w'.drewN q) := fun w' hb' => HK.out.gives w' x g (bthen HB1.out hb') hx0 hx1 hg0 hg1
  have ent := HK.out.ent
  have HLN : Hid _ := hlen
  clear hlen hx0 hx1 hg0 hg1
  go_wp2_with fail
  go_region_held3 (fun w' => w'.cell? ⟨P, 2, none⟩ = some (.slice (some ⟨b1, off1, none⟩) n c1) ∧ w'.cell? ⟨P, 3, none⟩ = some (.func (.func kn) #[] lb) ∧ w'.cell? ⟨P, 4, none⟩ = some (.pointer (some ⟨H, 0, none⟩)) ∧ w'.cell? ⟨b1, off1 + v, none⟩ = some (.int .i64 g))
    (first | exact KSS.out | exact KEEP.out _ (by repeat (first | exact Below.refl _ _ | refine bdrewN ?_ _ | refine Below.drew ?_)) | go_keep)
    (first
      | (go_at_fn kn; refine (HG.out _ (by repeat (first | exact Below.refl _ _ | refine bdrewN ?_ _ | refine Below.drew ?_))).mono ?_; rintro e w1 ⟨rfl, q1, rfl⟩)
      | (go_at_call 97; refine (pushs (ky x g) g (v : Int) (S1.out.kept (by repeat (first | exact Below.refl _ _ | refine bdrewN ?_ _ | refine Below.drew ?_))) HLN.out).mono ?_; rintro e w2 ⟨rfl, vq2, rs2, s2, pm2, fr2⟩; have FR2 : Hid (∀ k, T ≤ k → k < wr.heap.size → vq.ownBlock ≠ some k → w2.heap[k]? = wr.heap[k]?) := (fun k q1 q2 q3 => (fr2 k (by show k < W1.heap.size; have := SZ1.out; omega) (by have := HI.out.2.2.2.2; simp only at this ⊢; omega) q3).trans (FR1.out k q1)); have KSS : Hid _ := KS.out _ _ _ s2; have S2 : Hid _ := s2; have PM2 : Hid _ := pm2; clear s2 pm2 fr2))
  go_wp2_with fail
  go_end0
  exact ⟨rfl, vq2, rs2, S2.out, PM2.out, FR2.out⟩
end Go.Proofs.Ytefikbjjdldomaa
