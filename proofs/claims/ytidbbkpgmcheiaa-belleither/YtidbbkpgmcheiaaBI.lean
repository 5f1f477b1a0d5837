/-
  Contracts: slices.IndexFunc and ContainsFunc of edges with the question of BellEither, where no edge lies below 0.
-/
import Derived.Test.YtidbbkpgmcheiaaRP
import Derived.Test.YtidbbkpgmcheiaaNA
import Derived.Test.YtidbbkpgmcheiaaBm
namespace Go.Proofs.Ytidbbkpgmcheiaa
open Go.RowKit
open Nm Wm Dm Bm

/-- What the question leans on: the heights. -/
structure Ch (w : World) (L G N : Nat) (d : Nat → Int) : Prop where
  l : w.cell? ⟨L, 0, none⟩ = some (.slice (some ⟨G, 0, none⟩) N N)
  u : Ur w G N d
theorem Ch.below {w w' : World} {L G N : Nat} {d : Nat → Int} (h : Ch w L G N d) (hb : Below w.heap.size w w') : Ch w' L G N d :=
  ⟨kept hb h.l, h.u.below hb⟩

set_option maxRecDepth 100000 in
set_option maxHeartbeats 8000000 in
theorem askE_no (L G N x y : Nat) (c : Int) (d : Nat → Int) (w : World) (hc : Ch w L G N d) (hx : x < N) (hy : y < N) (hx0 : -1000000000 ≤ d x) (hx1 : d x ≤ 1000000000) (hy0 : -1000000000 ≤ d y) (hy1 : d y ≤ 1000000000) (hc0 : -10000 ≤ c) (hc1 : c ≤ 10000) (hge : ¬ c + d x - d y < 0) :
    Calls Try.prog 38 #[.agg #[.int .i64 x, .int .i64 y, .int .i64 c], .pointer (some ⟨L, 0, none⟩)] w fun e w' => e = .returned (.bool false) ∧ Below w.heap.size w w' := by
  have HC : Hid _ := hc.below (balloc (Below.refl _ _) (.cells #[.int .i64 x, .int .i64 y, .int .i64 c] 44))
  have B0 : Hid (Below w.heap.size w (w.alloc (.cells #[.int .i64 x, .int .i64 y, .int .i64 c] 44))) := balloc (Below.refl _ _) _
  have hxi : (x : Int) < (N : Int) := by omega
  have hyi : (y : Int) < (N : Int) := by omega
  obtain ⟨y0, y1, y2⟩ := box3_new w x y (.int .i64 c) 44
  obtain ⟨l0, u0⟩ := HC.out
  obtain ⟨cx, _⟩ := u0.cell x hx
  obtain ⟨cy, _⟩ := u0.cell y hy
  clear hc u0
  go_enter Try.func38, Try.ntmps38
  go_wp2_with fail
  generalize w.alloc (.cells #[.int .i64 x, .int .i64 y, .int .i64 c] 44) = W0 at *
  generalize d x = dx at *
  generalize d y = dy at *
  have hdec : decide (c + dx - dy < 0) = false := decide_eq_false (by omega)
  go_quiet (fail)
  go_wp2_with fail
  go_ret
  exact ⟨rfl, bdrewN B0.out _⟩

set_option maxRecDepth 100000 in
set_option maxHeartbeats 8000000 in
theorem idxE_no (v : Value) (es : List E) (L G N : Nat) (d : Nat → Int) (w : World) (hv : SlE w v es) (hp : Rnt N es) (hc : Ch w L G N d) (hd : ∀ j, j < N → -1000000000 ≤ d j ∧ d j ≤ 1000000000) (hge : ∀ e ∈ es, ¬ e.2.2 + d e.1.toNat - d e.2.1.toNat < 0) :
    Calls Try.prog 64 #[v, .func (.func 38) #[] #[.pointer (some ⟨L, 0, none⟩)]] w fun e w' => e = .returned (.int .i64 (-1)) ∧ Below w.heap.size w w' := by
  obtain ⟨a0, c0, rfl⟩ := hv.val
  have HV : Hid _ := hv
  have HC : Hid _ := hc
  have HP : Hid _ := hp
  have HD : Hid _ := hd
  have HG : Hid _ := hge
  have hlen := hp.len
  clear hv hc hp hd hge
  go_enter Try.func64, Try.ntmps64
  go_wp2_with fail
  go_loopw [8] (fun z wr => ∃ k : Nat, z = .int .i64 k ∧ k ≤ es.length ∧ Below w.heap.size w wr) (fun z _ => es.length - (intOf z).toNat)
  case atStart => exact ⟨0, rfl, Nat.zero_le _, Below.refl _ _⟩
  case round =>
    obtain ⟨k, rfl, hk, hb⟩ := hrel
    have HB : Hid (Below w.heap.size w wr) := hb
    clear hb
    by_cases hlt : k < es.length
    · have hki : (k : Int) < (es.length : Int) := by omega
      obtain ⟨b, off, cap, hveq, hcl⟩ := (HV.out.below HB.out).some' (by omega)
      simp only [Value.slice.injEq] at hveq
      obtain ⟨rfl, -, rfl⟩ := hveq
      obtain ⟨d0, d1, d2⟩ := hcl k hlt
      clear hcl
      have hok := HP.out.ok _ (mem_at hlt)
      have HGE : Hid _ := HG.out _ (mem_at hlt)
      obtain ⟨p, hpe⟩ : ∃ p, at3 es k = p := ⟨_, rfl⟩
      rw [hpe] at d0 d1 d2 hok HGE
      clear hpe
      obtain ⟨px, py, pz⟩ := p
      simp only at d0 d1 d2 hok HGE
      obtain ⟨ok1, ok2, ok3, ok4, ok5, ok6⟩ := hok
      obtain ⟨px, rfl⟩ := Int.eq_ofNat_of_zero_le ok1
      obtain ⟨py, rfl⟩ := Int.eq_ofNat_of_zero_le ok3
      simp only [Int.toNat_natCast] at HGE
      have hpx : px < N := by omega
      have hpy : py < N := by omega
      go_wp2_with fail
      refine (askE_no L G N px py pz d wr (HC.out.below HB.out) hpx hpy (HD.out px hpx).1 (HD.out px hpx).2 (HD.out py hpy).1 (HD.out py hpy).2 ok5 ok6 (by have := HGE.out; omega)).mono ?_
      rintro e w2 ⟨rfl, b2⟩
      have B2 : Hid (Below w.heap.size w w2) := bthen HB.out b2
      clear b2
      go_wp2_with fail
      go_roundw
      case rel => exact ⟨k + 1, by go_num, by omega, B2.out⟩
      case measure => simp [intOf]; omega
    · have hke : k = es.length := by omega
      subst hke
      go_wp2_with fail
      go_ret
      exact ⟨rfl, HB.out⟩
set_option maxRecDepth 100000 in
set_option maxHeartbeats 8000000 in
theorem conE_no (v : Value) (es : List E) (L G N : Nat) (d : Nat → Int) (w : World) (hv : SlE w v es) (hp : Rnt N es) (hc : Ch w L G N d) (hd : ∀ j, j < N → -1000000000 ≤ d j ∧ d j ≤ 1000000000) (hge : ∀ e ∈ es, ¬ e.2.2 + d e.1.toNat - d e.2.1.toNat < 0) :
    Calls Try.prog 34 #[v, .func (.func 38) #[] #[.pointer (some ⟨L, 0, none⟩)]] w fun e w' => e = .returned (.bool false) ∧ Below w.heap.size w w' := by
  obtain ⟨a0, c0, rfl⟩ := hv.val
  have HI : Hid _ := fun (_ : Unit) => idxE_no (.slice a0 es.length c0) es L G N d w hv hp hc hd hge
  clear hv hp hc hd hge
  go_enter Try.func34, Try.ntmps34
  go_wp2_with fail
  refine (HI.out ()).mono ?_
  rintro e w1 ⟨rfl, b1⟩
  have B1 : Hid _ := b1
  clear b1
  go_wp2_with fail
  go_ret
  exact ⟨rfl, B1.out⟩
end Go.Proofs.Ytidbbkpgmcheiaa
