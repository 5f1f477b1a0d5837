/-
  Rows of numbers in memory; the contracts of below, least and join.
-/
import Derived.Test.YtdgihpegdcoilaaRows
import Derived.Deep.RegionHeld3
import Derived.Test.YtdgihpegdcoilaaUf
import Derived.Test.YtdgihpegdcoilaaQL
import Derived.WalkKit
import Derived.Deep.QuietTactic
import Derived.BigQuiet
import Derived.WalkSmall
import Derived.Deep.DrawnRows
import Derived.BigRegion
import Derived.Deep.AppendLies
namespace Go.Proofs.Ytdgihpegdcoilaa.Un
open Go.RowKit
open Uf

theorem ret_int {k : IntKind} {a b : Int} (h : a = b) : Ending.returned (.int k a) = .returned (.int k b) := by rw [h]
theorem ret_bool {a b : Bool} (h : a = b) : Ending.returned (.bool a) = .returned (.bool b) := by rw [h]

theorem bthen {w x y : World} (h1 : Below w.heap.size w x) (h2 : Below x.heap.size x y) : Below w.heap.size w y := h1.trans (h2.mono h1.size)
theorem balloc {w x : World} (h1 : Below w.heap.size w x) (o : Obj) : Below w.heap.size w (x.alloc o) := h1.alloc h1.size o
theorem bdrewN {w x : World} {b : Nat} (h : Below b w x) (q : Nat) : Below b w (x.drewN q) := h.trans ⟨rfl, rfl, rfl, Nat.le_refl _, fun _ _ => rfl⟩

/-- A cell that holds something holds it behind a call that only made memory, and behind a new block. -/
theorem kept {W w1 : World} (hb : Below W.heap.size W w1) {b o : Nat} {v : Value} (h : W.cell? ⟨b, o, none⟩ = some v) : w1.cell? ⟨b, o, none⟩ = some v := by
  rw [hb.cell (p := ⟨b, o, none⟩) (World.block_lt_of_cell? W ⟨b, o, none⟩ h)]; exact h
theorem kept_alloc {W : World} {b o : Nat} {v : Value} {x : Obj} (h : W.cell? ⟨b, o, none⟩ = some v) : (W.alloc x).cell? ⟨b, o, none⟩ = some v := by
  rw [World.cell?_alloc_lt W x ⟨b, o, none⟩ (World.block_lt_of_cell? W ⟨b, o, none⟩ h)]; exact h

/-- Block g holds the n numbers U. -/
structure Ur (w : World) (g n : Nat) (U : Nat → Nat) : Prop where
  block : w.heap[g]? = some (.cells (Array.ofFn (n := n) fun i => .int .i64 (U i : Nat)) 3 (0, 0))

theorem Ur.cell {w : World} {g n : Nat} {U : Nat → Nat} (h : Ur w g n U) (i : Nat) (hi : i < n) : w.cell? ⟨g, i, none⟩ = some (.int .i64 (U i)) ∧ w.frozen? ⟨g, i, none⟩ = false := by
  simp [World.cell?, World.frozen?, h.block, hi]
theorem Ur.lt {w : World} {g n : Nat} {U : Nat → Nat} (h : Ur w g n U) : g < w.heap.size := by
  rcases Nat.lt_or_ge g w.heap.size with hlt | hge
  · exact hlt
  · have := h.block; rw [Array.getElem?_eq_none hge] at this; cases this
theorem Ur.frame {w w' : World} {g n : Nat} {U : Nat → Nat} (h : Ur w g n U) (hb : w'.heap[g]? = w.heap[g]?) : Ur w' g n U := ⟨hb.trans h.block⟩
theorem Ur.below {w w' : World} {g n : Nat} {U : Nat → Nat} (h : Ur w g n U) (hb : Below w.heap.size w w') : Ur w' g n U := h.frame (hb.block _ h.lt)
theorem Ur.drewN {w : World} {g n : Nat} {U : Nat → Nat} (h : Ur w g n U) (q : Nat) : Ur (w.drewN q) g n U := ⟨h.block⟩
theorem Ur.congr {w : World} {g n : Nat} {U V : Nat → Nat} (h : Ur w g n U) (e : ∀ x, x < n → U x = V x) : Ur w g n V := by
  refine ⟨h.block.trans ?_⟩
  congr 2
  apply Array.ext
  · simp
  · intro i h1 h2
    simp at h1 ⊢
    exact congrArg _ (e i h1)
theorem heap_setCell_same (w : World) (g o : Nat) (v : Value) (cur : Array Value) (t : TypeId) (fr : Nat × Nat) (h : w.heap[g]? = some (.cells cur t fr)) :
    (w.setCell ⟨g, o, none⟩ v).heap[g]? = some (.cells (cur.setIfInBounds o v) t fr) := by
  simp [World.setCell, Array.getElem?_modify, h]
theorem Ur.put {w : World} {g n : Nat} {U : Nat → Nat} (h : Ur w g n U) (i v : Nat) : Ur (w.setCell ⟨g, i, none⟩ (.int .i64 v)) g n (upd U i v) := by
  refine ⟨(heap_setCell_same _ _ _ _ _ _ _ h.block).trans ?_⟩
  congr 2
  apply Array.ext_getElem?
  intro j
  rw [Array.getElem?_setIfInBounds]
  by_cases hj : j < n
  · by_cases e : i = j
    · subst e; simp [hj, upd_same]
    · simp [hj, e, upd_other U v (fun e' => e e'.symm)]
  · by_cases e : i = j
    · subst e; simp [hj]
    · simp [hj, e]

theorem grown_refl (w : World) (r : Option Nat) : w.grownBy w r := ⟨rfl, rfl, rfl, Nat.le_refl _, fun _ _ _ => rfl⟩
theorem grown_trans {a b c : World} {r : Option Nat} (h1 : a.grownBy b r) (h2 : b.grownBy c r) : a.grownBy c r :=
  ⟨h2.os.trans h1.os, h2.tape.trans h1.tape, h2.output.trans h1.output, Nat.le_trans h1.size h2.size, fun k hk hr => (h2.block k (Nat.lt_of_lt_of_le hk h1.size) hr).trans (h1.block k hk hr)⟩
theorem grown_drewN {a b : World} {r : Option Nat} (h1 : a.grownBy b r) (q : Nat) : a.grownBy (b.drewN q) r := ⟨h1.os, h1.tape, h1.output, h1.size, h1.block⟩
theorem grown_drew {a b : World} {r : Option Nat} (h1 : a.grownBy b r) : a.grownBy b.drew r := ⟨h1.os, h1.tape, h1.output, h1.size, h1.block⟩
theorem grown_below {a b : World} {r : Option Nat} (h : Below a.heap.size a b) : a.grownBy b r := ⟨h.os, h.tape, h.output, h.size, fun k hk _ => h.block k hk⟩
theorem grown_setCell {a b : World} {g o : Nat} {v : Value} (h1 : a.grownBy b (some g)) : a.grownBy (b.setCell ⟨g, o, none⟩ v) (some g) :=
  ⟨h1.os, h1.tape, h1.output, by simp [World.setCell]; exact h1.size, fun k hk hr => by
    rw [Below.heap_setCell _ _ _ _ (fun e => hr (by rw [e]))]
    exact h1.block k hk hr⟩
/-- What only a new block's turning is, is nothing to what was there. -/
theorem below_grown {a b c : World} {g base : Nat} (h1 : Below base a b) (h2 : b.grownBy c (some g)) (hg : base ≤ g) (hb : base ≤ b.heap.size) : Below base a c :=
  h1.trans ⟨h2.os, h2.tape, h2.output, h2.size, fun k hk => h2.block k (Nat.lt_of_lt_of_le hk hb) (fun e => by have := Option.some.inj e; omega)⟩

def inb (x n : Int) : Bool := decide (0 ≤ x ∧ x < n)
theorem inb_true {x n : Int} (h : inb x n = true) : 0 ≤ x ∧ x < n := of_decide_eq_true h
theorem inb_false {x n : Int} (h : inb x n = false) : ¬ (0 ≤ x ∧ x < n) := of_decide_eq_false h

theorem below_any (x n : Int) (w : World) :
    Calls Try.prog 51 #[.int .i64 x, .int .i64 n] w fun e w' => e = .returned (.bool (inb x n)) ∧ w' = w := by
  by_cases h1 : 0 ≤ x
  · by_cases h2 : x < n
    · have H : Hid (inb x n = true) := decide_eq_true ⟨h1, h2⟩
      go_enter Try.func51, Try.ntmps51
      go_wp2
      go_ret
      exact ⟨ret_bool H.out.symm, rfl⟩
    · have H : Hid (inb x n = false) := decide_eq_false (by omega)
      go_enter Try.func51, Try.ntmps51
      go_wp2
      go_ret
      exact ⟨ret_bool H.out.symm, rfl⟩
  · have H : Hid (inb x n = false) := decide_eq_false (by omega)
    go_enter Try.func51, Try.ntmps51
    go_wp2
    go_ret
    exact ⟨ret_bool H.out.symm, rfl⟩

/-- What least leaves. -/
structure Same (w w' : World) (g n : Nat) (U G : Nat → Nat) : Prop where
  ex : ∃ U', Ur w' g n U' ∧ Inv n U' G ∧ (∀ y, y < n → U y = G y → U' y = G y)
  grown : w.grownBy w' (some g)

theorem gcell {a b : World} {g H o : Nat} {v : Value} (h : a.grownBy b (some g)) (hne : H ≠ g) (hc : a.cell? ⟨H, o, none⟩ = some v) : b.cell? ⟨H, o, none⟩ = some v := by
  have hlt := World.block_lt_of_cell? a ⟨H, o, none⟩ hc
  have := h.block H hlt (fun e => hne (Option.some.inj e))
  unfold World.cell? at hc ⊢
  rw [this]; exact hc

set_option maxRecDepth 100000 in
set_option maxHeartbeats 4000000 in
theorem least_any (H g n x : Nat) (U G : Nat → Nat) (w : World) (hbx : w.cell? ⟨H, 0, none⟩ = some (.slice (some ⟨g, 0, none⟩) n n)) (hne : H ≠ g) (hr : Ur w g n U) (hi : Inv n U G) (hx : x < n) :
    Calls Try.prog 36 #[.pointer (some ⟨H, 0, none⟩), .int .i64 x] w fun e w' => e = .returned (.int .i64 (G x)) ∧ Same w w' g n U G := by
  have HX0 : Hid _ := hbx
  have HNE : Hid (H ≠ g) := hne
  have HR : Hid _ := hr
  have HI : Hid _ := hi
  clear hr hi hbx hne
  go_enter Try.func36, Try.ntmps36
  go_wp2_with fail
  go_loopw [1] (fun z wr => ∃ y : Nat, z = .int .i64 y ∧ y < n ∧ G y = G x ∧ ∃ V, Ur wr g n V ∧ Inv n V G ∧ (∀ y, y < n → U y = G y → V y = G y) ∧ w.grownBy wr (some g)) (fun z _ => (intOf z).toNat)
  case atStart => exact ⟨x, rfl, hx, rfl, U, HR.out, HI.out, fun _ _ h => h, grown_refl _ _⟩
  case round =>
    obtain ⟨y, rfl, hy, hg, V, hv, hiv, hk, hgr⟩ := hrel
    have bx := gcell hgr HNE.out HX0.out
    have hgH : ¬ H = g := HNE.out
    have hgH2 : ¬ g = H := fun e => HNE.out e.symm
    have HG : Hid _ := hg
    have HK : Hid _ := hk
    have HW : Hid _ := hgr
    have HV : Hid _ := hv
    have HJ : Hid _ := hiv
    have hyi : (y : Int) < (n : Int) := by omega
    obtain ⟨c0, f0⟩ := hv.cell y hy
    have l1 := hiv.le y hy
    obtain ⟨p, hp⟩ : ∃ p, V y = p := ⟨_, rfl⟩
    rw [hp] at c0 l1
    have HP : Hid _ := hp
    clear hg hk hgr hv hiv hp
    by_cases e : p = y
    · subst e
      go_wp2_with fail
      go_ret
      exact ⟨ret_int (by rw [← HG.out, (HJ.out.top _ hy).1 HP.out]), ⟨V, HV.out, HJ.out, HK.out⟩, HW.out⟩
    · have l2 := HJ.out.le p (by omega)
      obtain ⟨c1, f1⟩ := HV.out.cell p (by omega)
      obtain ⟨q, hq⟩ : ∃ q, V p = q := ⟨_, rfl⟩
      rw [hq] at c1 l2
      have HQ : Hid _ := hq
      clear hq
      have e1 : ((p : Int) == (y : Int)) = false := by simp; omega
      have e2 : ((p : Int) != (y : Int)) = true := by simp; omega
      have hpi : (p : Int) < (n : Int) := by omega
      have HX : Hid ((∀ z, z < n → U z = G z → upd V y q z = G z) ∧ G q = G x ∧ Inv n (upd V y q) G ∧ q < n ∧ q < y) := by
        have h1 := HJ.out.halve hy
        rw [HP.out, HQ.out] at h1
        have h2 := HJ.out.to y hy
        have h3 := HJ.out.to p (by omega)
        rw [HP.out] at h2
        rw [HQ.out] at h3
        refine ⟨fun z hz hu => ?_, by rw [h3, h2]; exact HG.out, h1, by omega, by omega⟩
        by_cases e : z = y
        · subst e
          have := HK.out z hz hu
          rw [HP.out] at this
          rw [upd_same, ← HQ.out, this, (HJ.out.top _ (by have := (HJ.out.least z hz).1; omega)).2 (HJ.out.least z hz).2]
        · rw [upd_other _ _ e]; exact HK.out z hz hu
      go_wp2_with fail
      refine wp_region_last_lit 19 rfl (by kernel_rfl) (by kernel_rfl) ?_
      simp only [List.take_succ_cons, List.take_zero]
      repeat (quiet_step (fail))
      refine wpQuiet_nil ?_
      intro w9 hw9
      obtain ⟨nq, rfl⟩ := hw9
      have V9 : Hid _ := HV.out.drewN nq
      have W9 : Hid (w.grownBy (wr.drewN nq) (some g)) := grown_drewN HW.out nq
      have bx9 : (wr.drewN nq).cell? ⟨H, 0, none⟩ = some (.slice (some ⟨g, 0, none⟩) n n) := bx
      obtain ⟨d0, e0⟩ := V9.out.cell y hy
      clear c0 f0 c1 f1 bx
      generalize wr.drewN nq = W9w at *
      refine wpOp_step rfl (fun K hK => ?_)
      go_simp
      refine hK _ _ ?_
      go_wp2_with fail
      go_roundw
      case rel => exact ⟨q, rfl, by have := HX.out.2.2.2; omega, HX.out.2.1, _, V9.out.put y q, HX.out.2.2.1, HX.out.1, grown_setCell W9.out⟩
      case measure => simp [intOf]; have := HX.out.2.2.2; omega

set_option maxRecDepth 100000 in
set_option maxHeartbeats 4000000 in
theorem join_any (H g n a b : Nat) (U G : Nat → Nat) (w : World) (hbx : w.cell? ⟨H, 0, none⟩ = some (.slice (some ⟨g, 0, none⟩) n n)) (hne : H ≠ g) (hr : Ur w g n U) (hi : Inv n U G) (ha : a < n) (hb : b < n) :
    Calls Try.prog 35 #[.pointer (some ⟨H, 0, none⟩), .int .i64 a, .int .i64 b] w fun e w' => e = .returned (.bool (decide (G a ≠ G b))) ∧ (∃ U', Ur w' g n U' ∧ Inv n U' (jn G a b)) ∧ w.grownBy w' (some g) := by
  obtain ⟨D, hD⟩ : ∃ D : Bool, decide (G a ≠ G b) = D := ⟨_, rfl⟩
  rw [hD]
  have HD : Hid ((((G a : Nat) : Int) != ((G b : Nat) : Int)) = D) := by
    unfold Hid; rw [← hD]; by_cases h : G a = G b
    · simp [h]
    · simp [h, bne]; omega
  clear hD
  have HX0 : Hid _ := hbx
  have HNE : Hid (H ≠ g) := hne
  have HR : Hid _ := hr
  have HI : Hid _ := hi
  clear hr hi hbx hne
  go_enter Try.func35, Try.ntmps35
  go_wp2_with fail
  refine (least_any H g n a U G w HX0.out HNE.out HR.out HI.out ha).mono ?_
  rintro e w1 ⟨rfl, ⟨U1, r1, i1, -⟩, g1⟩
  have HR1 : Hid _ := r1
  have HI1 : Hid _ := i1
  have HG1 : Hid _ := g1
  have HX1 : Hid _ := gcell g1 HNE.out HX0.out
  clear r1 i1 g1
  go_wp2_with fail
  refine (least_any H g n b U1 G w1 HX1.out HNE.out HR1.out HI1.out hb).mono ?_
  rintro e w2 ⟨rfl, ⟨U2, r2, i2, -⟩, g2⟩
  have HR2 : Hid _ := r2
  have HI2 : Hid _ := i2
  have HG2 : Hid _ := g2
  have bx := gcell g2 HNE.out HX1.out
  have ka := (i2.least a ha).1
  have kb := (i2.least b hb).1
  have HF : Hid (Inv n (upd U2 (max (G a) (G b)) (min (G a) (G b))) (jn G a b)) := i2.join ha hb
  clear r2 i2 g2
  generalize G a = p at *
  generalize G b = q at *
  rcases (show p < q ∨ q < p ∨ p = q by omega) with h | h | h
  · obtain ⟨c0, f0⟩ := HR2.out.cell q (by omega)
    have h1 : (p : Int) < (q : Int) := by omega
    have h2 : ¬ ((q : Int) < (p : Int)) := by omega
    have h3 : (q : Int) < (n : Int) := by omega
    rw [show max p q = q by omega, show min p q = p by omega] at HF
    go_wp2_with fail
    go_ret
    exact ⟨ret_bool HD.out, ⟨_, HR2.out.put q p, HF.out⟩, grown_setCell (grown_trans HG1.out HG2.out)⟩
  · obtain ⟨c0, f0⟩ := HR2.out.cell p (by omega)
    have h1 : (q : Int) < (p : Int) := by omega
    have h2 : ¬ ((p : Int) < (q : Int)) := by omega
    have h3 : (p : Int) < (n : Int) := by omega
    rw [show max p q = p by omega, show min p q = q by omega] at HF
    go_wp2_with fail
    go_ret
    exact ⟨ret_bool HD.out, ⟨_, HR2.out.put p q, HF.out⟩, grown_setCell (grown_trans HG1.out HG2.out)⟩
  · subst h
    obtain ⟨c0, f0⟩ := HR2.out.cell p (by omega)
    have h3 : (p : Int) < (n : Int) := by omega
    rw [show max p p = p by omega, show min p p = p by omega] at HF
    have e9 : ((p : Int) != (p : Int)) = false := by simp
    rw [e9] at HD
    go_wp2_with fail
    go_ret
    exact ⟨ret_bool HD.out, ⟨_, HR2.out.put p p, HF.out⟩, grown_setCell (grown_trans HG1.out HG2.out)⟩
end Go.Proofs.Ytdgihpegdcoilaa.Un
