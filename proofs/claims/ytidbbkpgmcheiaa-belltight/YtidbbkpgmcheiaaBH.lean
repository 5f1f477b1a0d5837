/-
  Contracts: slices.IndexFunc and ContainsFunc of edges with the question of BellTight.
-/
import Derived.Test.YtidbbkpgmcheiaaRP
import Derived.Test.YtidbbkpgmcheiaaNA
import Derived.Test.YtidbbkpgmcheiaaBm
namespace Go.Proofs.Ytidbbkpgmcheiaa
open Go.RowKit
open Nm Wm Dm Bm

/-- What the question leans on: the place, the costs, the cost. -/
structure Cl (w : World) (V L C G N i : Nat) (x : Int) (d : Nat → Int) : Prop where
  v : w.cell? ⟨V, 0, none⟩ = some (.int .i64 i)
  l : w.cell? ⟨L, 0, none⟩ = some (.slice (some ⟨G, 0, none⟩) N N)
  c : w.cell? ⟨C, 0, none⟩ = some (.int .i64 x)
  u : Ur w G N d
theorem Cl.below {w w' : World} {V L C G N i : Nat} {x : Int} {d : Nat → Int} (h : Cl w V L C G N i x d) (hb : Below w.heap.size w w') : Cl w' V L C G N i x d :=
  ⟨kept hb h.v, kept hb h.l, kept hb h.c, h.u.below hb⟩
/-- What is asked of an edge. -/
def qs (d : Nat → Int) (i : Nat) (x : Int) (e : E) : Prop := e.2.1.toNat = i ∧ d e.1.toNat < 1099511627776 ∧ d e.1.toNat + e.2.2 = x

structure As (d : Nat → Int) (i : Nat) (q : Int) (p : E) (e : Ending) : Prop where
  is : ∃ b : Bool, e = .returned (.bool b) ∧ (b = true ↔ qs d i q p)
set_option maxRecDepth 100000 in
set_option maxHeartbeats 8000000 in
theorem ask_any (V L C G N i x y : Nat) (c q : Int) (d : Nat → Int) (w : World) (hc : Cl w V L C G N i q d) (hx : x < N) (hd0 : -1000000000 ≤ d x) (hd1 : d x ≤ 1099511627776) (hc0 : -10000 ≤ c) (hc1 : c ≤ 10000) :
    Calls Try.prog 35 #[.agg #[.int .i64 x, .int .i64 y, .int .i64 c], .pointer (some ⟨V, 0, none⟩), .pointer (some ⟨L, 0, none⟩), .pointer (some ⟨C, 0, none⟩)] w fun e w' => As d i q ((x : Int), (y : Int), c) e ∧ Below w.heap.size w w' := by
  have HC : Hid _ := hc.below (balloc (Below.refl _ _) (.cells #[.int .i64 x, .int .i64 y, .int .i64 c] 44))
  have B0 : Hid (Below w.heap.size w (w.alloc (.cells #[.int .i64 x, .int .i64 y, .int .i64 c] 44))) := balloc (Below.refl _ _) _
  have hxi : (x : Int) < (N : Int) := by omega
  have HQ : Hid (∀ P : Prop, ((y = i ∧ d x < 1099511627776 ∧ d x + c = q) ↔ P) → (qs d i q ((x : Int), (y : Int), c) ↔ P)) := fun P h => by unfold qs; simpa using h
  obtain ⟨y0, y1, y2⟩ := box3_new w x y (.int .i64 c) 44
  obtain ⟨v0, l0, c0, u0⟩ := HC.out
  obtain ⟨cx, _⟩ := u0.cell x hx
  clear hc u0
  go_enter Try.func35, Try.ntmps35
  go_wp2_with fail
  generalize w.alloc (.cells #[.int .i64 x, .int .i64 y, .int .i64 c] 44) = W0 at *
  by_cases h1 : y = i
  · have hb1 : ((y : Int) == (i : Int)) = true := by simp [h1]
    by_cases h2 : d x < 1099511627776
    · have hb2 : decide (d x < 1099511627776) = true := decide_eq_true h2
      by_cases h3 : d x + c = q
      · have hb3 : (d x + c == q) = true := by simp [h3]
        have HF : Hid (qs d i q ((x : Int), (y : Int), c)) := (HQ.out True (by simp [h1, h2, h3])).2 trivial
        clear h1 h3 HQ
        generalize d x = dx at *
        go_quiet (fail)
        go_wp2_with fail
        go_ret
        exact ⟨⟨⟨true, rfl, by simp [HF.out]⟩⟩, bdrewN B0.out _⟩
      · have hb3 : (d x + c == q) = false := by simp [h3]
        have HF : Hid (¬ qs d i q ((x : Int), (y : Int), c)) := fun h => (HQ.out False (by simp [h3])).1 h
        clear h1 h3 HQ
        generalize d x = dx at *
        go_quiet (fail)
        go_wp2_with fail
        go_ret
        exact ⟨⟨⟨false, rfl, by simp [HF.out]⟩⟩, bdrewN B0.out _⟩
    · have hb2 : decide (d x < 1099511627776) = false := decide_eq_false h2
      have HF : Hid (¬ qs d i q ((x : Int), (y : Int), c)) := fun h => (HQ.out False (by simp [h2])).1 h
      clear h1 HQ
      generalize d x = dx at *
      go_quiet (fail)
      go_wp2_with fail
      go_ret
      exact ⟨⟨⟨false, rfl, by simp [HF.out]⟩⟩, bdrewN B0.out _⟩
  · have hb1 : ((y : Int) == (i : Int)) = false := by simp; omega
    have HF : Hid (¬ qs d i q ((x : Int), (y : Int), c)) := fun h => (HQ.out False (by simp [h1])).1 h
    clear h1 HQ
    generalize d x = dx at *
    go_quiet (fail)
    go_wp2_with fail
    go_ret
    exact ⟨⟨⟨false, rfl, by simp [HF.out]⟩⟩, bdrewN B0.out _⟩

set_option maxRecDepth 100000 in
set_option maxHeartbeats 8000000 in
theorem idxT_any (v : Value) (es : List E) (V L C G N i : Nat) (x : Int) (d : Nat → Int) (w : World) (hv : SlE w v es) (hp : Rnt N es) (hc : Cl w V L C G N i x d) (hd : ∀ j, j < N → -1000000000 ≤ d j ∧ d j ≤ 1099511627776) (hex : ∃ e ∈ es, qs d i x e) :
    Calls Try.prog 64 #[v, .func (.func 35) #[] #[.pointer (some ⟨V, 0, none⟩), .pointer (some ⟨L, 0, none⟩), .pointer (some ⟨C, 0, none⟩)]] w fun e w' => (∃ j : Nat, e = .returned (.int .i64 j) ∧ j ≤ 600) ∧ Below w.heap.size w w' := by
  obtain ⟨a0, c0, rfl⟩ := hv.val
  have HV : Hid _ := hv
  have HC : Hid _ := hc
  have HP : Hid _ := hp
  have HD : Hid _ := hd
  have HEX : Hid _ := hex
  have hlen := hp.len
  clear hv hc hp hd hex
  go_enter Try.func64, Try.ntmps64
  go_wp2_with fail
  go_loopw [8] (fun z wr => ∃ k : Nat, z = .int .i64 k ∧ k ≤ es.length ∧ (∀ i', i' < k → ¬ qs d i x (at3 es i')) ∧ Below w.heap.size w wr) (fun z _ => es.length - (intOf z).toNat)
  case atStart => exact ⟨0, rfl, Nat.zero_le _, fun i hi => absurd hi (by omega), Below.refl _ _⟩
  case round =>
    obtain ⟨k, rfl, hk, he, hb⟩ := hrel
    have HE : Hid _ := he
    have HB : Hid (Below w.heap.size w wr) := hb
    clear he hb
    by_cases hlt : k < es.length
    · have hki : (k : Int) < (es.length : Int) := by omega
      obtain ⟨b, off, cap, hveq, hcl⟩ := (HV.out.below HB.out).some' (by omega)
      simp only [Value.slice.injEq] at hveq
      obtain ⟨rfl, -, rfl⟩ := hveq
      obtain ⟨d0, d1, d2⟩ := hcl k hlt
      clear hcl
      obtain ⟨p, hpe⟩ : ∃ p, at3 es k = p := ⟨_, rfl⟩
      rw [hpe] at d0 d1 d2
      have HPE : Hid _ := hpe
      clear hpe
      have hok := HP.out.ok _ (mem_at hlt)
      rw [HPE.out] at hok
      obtain ⟨px, py, pz⟩ := p
      simp only at d0 d1 d2 hok
      obtain ⟨ok1, ok2, ok3, ok4, ok5, ok6⟩ := hok
      obtain ⟨px, rfl⟩ := Int.eq_ofNat_of_zero_le ok1
      obtain ⟨py, rfl⟩ := Int.eq_ofNat_of_zero_le ok3
      have hpx : px < N := by omega
      go_wp2_with fail
      refine (ask_any V L C G N i px py pz x d wr (HC.out.below HB.out) hpx (HD.out px hpx).1 (HD.out px hpx).2 ok5 ok6).mono ?_
      rintro e w2 ⟨⟨⟨bq, rfl, hq⟩⟩, b2⟩
      have HQ : Hid _ := hq
      have B2 : Hid (Below w.heap.size w w2) := bthen HB.out b2
      clear hq b2
      cases bq
      · go_wp2_with fail
        go_roundw
        case rel =>
          refine ⟨k + 1, by go_num, by omega, fun i' hi' => ?_, B2.out⟩
          rcases (show i' < k ∨ i' = k by omega) with h | rfl
          · exact HE.out i' h
          · rw [HPE.out]; exact fun h => absurd (HQ.out.2 h) (by simp)
        case measure => simp [intOf]; omega
      · go_wp2_with fail
        go_ret
        exact ⟨⟨k, rfl, by omega⟩, B2.out⟩
    · exfalso
      obtain ⟨e, hem, hq⟩ := HEX.out
      obtain ⟨j, hj, rfl⟩ := List.mem_iff_getElem.1 hem
      have e3 : at3 es j = es[j] := by unfold at3; simp [hj]
      exact HE.out j (by omega) (by rw [e3]; exact hq)
set_option maxRecDepth 100000 in
set_option maxHeartbeats 8000000 in
theorem conT_any (v : Value) (es : List E) (V L C G N i : Nat) (x : Int) (d : Nat → Int) (w : World) (hv : SlE w v es) (hp : Rnt N es) (hc : Cl w V L C G N i x d) (hd : ∀ j, j < N → -1000000000 ≤ d j ∧ d j ≤ 1099511627776) (hex : ∃ e ∈ es, qs d i x e) :
    Calls Try.prog 34 #[v, .func (.func 35) #[] #[.pointer (some ⟨V, 0, none⟩), .pointer (some ⟨L, 0, none⟩), .pointer (some ⟨C, 0, none⟩)]] w fun e w' => e = .returned (.bool true) ∧ Below w.heap.size w w' := by
  obtain ⟨a0, c0, rfl⟩ := hv.val
  have HI : Hid _ := fun (_ : Unit) => idxT_any (.slice a0 es.length c0) es V L C G N i x d w hv hp hc hd hex
  clear hv hp hc hd hex
  go_enter Try.func34, Try.ntmps34
  go_wp2_with fail
  refine (HI.out ()).mono ?_
  rintro e w1 ⟨⟨j, rfl, hj⟩, b1⟩
  have B1 : Hid _ := b1
  have hj0 : (0 : Int) ≤ (j : Int) := by omega
  clear b1
  go_wp2_with fail
  go_ret
  exact ⟨rfl, B1.out⟩
end Go.Proofs.Ytidbbkpgmcheiaa
