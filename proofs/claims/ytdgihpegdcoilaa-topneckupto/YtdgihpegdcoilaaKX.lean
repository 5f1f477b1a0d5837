/-
  The contract of the function that Neck hands in.
-/
import Derived.Test.YtdgihpegdcoilaaKT
import Derived.Test.YtdgihpegdcoilaaKn
import Derived.Deep.DeepCutAuto
namespace Go.Proofs.Ytdgihpegdcoilaa
open Go.RowKit
open Nm Kk

/-- What the function reads: the groups' pointer, the two places, the net. -/
structure Nv (w : World) (JB AB BB GB H a b : Nat) (u : Value) : Prop where
  j : w.cell? ⟨JB, 0, none⟩ = some (.pointer (some ⟨H, 0, none⟩))
  a : w.cell? ⟨AB, 0, none⟩ = some (.int .i64 a)
  b : w.cell? ⟨BB, 0, none⟩ = some (.int .i64 b)
  g : w.cell? ⟨GB, 1, none⟩ = some u
theorem Nv.below {w w' : World} {JB AB BB GB H a b : Nat} {u : Value} (h : Nv w JB AB BB GB H a b u) (hb : Below w.heap.size w w') : Nv w' JB AB BB GB H a b u :=
  ⟨kept hb h.j, kept hb h.a, kept hb h.b, kept hb h.g⟩

set_option maxRecDepth 100000 in
set_option maxHeartbeats 8000000 in
theorem more_no (JB AB BB GB NB EB H g n a b i : Nat) (u : Value) (U G : Nat → Nat) (w : World) (hv : Nv w JB AB BB GB H a b u) (hH : w.cell? ⟨H, 0, none⟩ = some (.slice (some ⟨g, 0, none⟩) n n)) (hHg : H ≠ g) (hJ : JB ≠ g ∧ AB ≠ g ∧ BB ≠ g) (hU : Un.Ur w g n U) (hI : Un.Uf.Inv n U G) (ha : a < n) (hb : b < n) (hne : G a ≠ G b) :
    Calls Try.prog 43 #[.int .i64 i, .pointer (some ⟨JB, 0, none⟩), .pointer (some ⟨AB, 0, none⟩), .pointer (some ⟨BB, 0, none⟩), .pointer (some ⟨GB, 0, none⟩), .pointer (some ⟨NB, 0, none⟩), .pointer (some ⟨EB, 0, none⟩)] w fun e w' => e = .returned (.bool true) ∧ (∃ U', Un.Ur w' g n U' ∧ Un.Uf.Inv n U' G) ∧ w.grownBy w' (some g) := by
  have HV : Hid _ := hv
  have HH : Hid _ := hH
  have HU : Hid _ := hU
  have HI : Hid _ := hI
  have HN : Hid _ := hne
  have HG : Hid (H ≠ g) := hHg
  have HJ : Hid _ := hJ
  have v1 := hv.j
  have v2 := hv.a
  have v3 := hv.b
  clear hv hH hU hI hne hHg hJ
  go_enter Try.func43, Try.ntmps43
  go_wp2_with fail
  go_region_held3 (fun w' => w'.cell? ⟨JB, 0, none⟩ = some (.pointer (some ⟨H, 0, none⟩)) ∧ w'.cell? ⟨AB, 0, none⟩ = some (.int .i64 a) ∧ w'.cell? ⟨BB, 0, none⟩ = some (.int .i64 b)) (first | exact KEEP.out | go_keep)
    (first
     | (go_at_call_of 36 (Value.int IntKind.i64 ((a : Nat) : Int)); refine (Un.least_any H g n a U G _ (by exact HH.out) HG.out (by exact ⟨HU.out.block⟩) HI.out ha).mono ?_; rintro e w1 ⟨rfl, ⟨U1, u1, i1, -⟩, g1⟩; have G1 : Hid (w.grownBy w1 (some g)) := (by first | exact grown_trans (grown_drew (grown_refl _ _)) g1 | exact grown_trans (grown_drew (grown_drew (grown_refl _ _))) g1 | exact grown_trans (grown_drew (grown_drew (grown_drew (grown_refl _ _)))) g1 | exact grown_trans (grown_drewN (grown_refl _ _) _) g1 | exact g1); have KEEP : Hid (w1.cell? ⟨JB, 0, none⟩ = some (.pointer (some ⟨H, 0, none⟩)) ∧ w1.cell? ⟨AB, 0, none⟩ = some (.int .i64 a) ∧ w1.cell? ⟨BB, 0, none⟩ = some (.int .i64 b)) := (by exact ⟨Un.gcell G1.out HJ.out.1 HV.out.j, Un.gcell G1.out HJ.out.2.1 HV.out.a, Un.gcell G1.out HJ.out.2.2 HV.out.b⟩))
     | (go_at_call_of 36 (Value.int IntKind.i64 ((b : Nat) : Int)); refine (Un.least_any H g n b U1 G _ (by exact Un.gcell G1.out HG.out HH.out) HG.out (by exact ⟨u1.block⟩) i1 hb).mono ?_; rintro e w2 ⟨rfl, ⟨U2, u2, i2, -⟩, g2⟩; have G2 : Hid (w.grownBy w2 (some g)) := (by first | exact grown_trans (grown_drew G1.out) g2 | exact grown_trans (grown_drew (grown_drew G1.out)) g2 | exact grown_trans (grown_drewN G1.out _) g2 | exact grown_trans G1.out g2); have KEEP : Hid (w2.cell? ⟨JB, 0, none⟩ = some (.pointer (some ⟨H, 0, none⟩)) ∧ w2.cell? ⟨AB, 0, none⟩ = some (.int .i64 a) ∧ w2.cell? ⟨BB, 0, none⟩ = some (.int .i64 b)) := (by exact ⟨Un.gcell G2.out HJ.out.1 HV.out.j, Un.gcell G2.out HJ.out.2.1 HV.out.a, Un.gcell G2.out HJ.out.2.2 HV.out.b⟩))
     | fail)
  all_goals
    have HNE : Hid ((((G a : Nat) : Int) != ((G b : Nat) : Int)) = true) := by unfold Hid; rw [bne_iff_ne]; intro e; exact HN.out (Int.ofNat_inj.1 e)
    have hneq := HNE.out
    go_wp2_with fail
    go_ret
    exact ⟨rfl, ⟨U2, u2, i2⟩, G2.out⟩
set_option maxRecDepth 100000 in
set_option maxHeartbeats 8000000 in
theorem more_yes (JB AB BB GB NB EB H g n a b i : Nat) (u : Value) (es : List E) (U G : Nat → Nat) (vn ve : Value) (w0 w : World) (hv : Nv w JB AB BB GB H a b u) (hH : w.cell? ⟨H, 0, none⟩ = some (.slice (some ⟨g, 0, none⟩) n n)) (hHg : H ≠ g) (hJ : JB ≠ g ∧ AB ≠ g ∧ BB ≠ g) (hU : Un.Ur w g n U) (hI : Un.Uf.Inv n U G) (ha : a < n) (hb : b < n) (hne : G a = G b) (hes : SlE w0 u es) (hi : i < es.length) (hvn : Vb w NB vn 3) (hve : Vb w EB ve 24) (kn : w0.heap.size ≤ NB) (ke : w0.heap.size ≤ EB) (kg : w0.heap.size ≤ g) (hNE : NB ≠ EB) (hNg : NB ≠ g) (hEg : EB ≠ g) (hGg : GB ≠ g) (hb0 : Below w0.heap.size w0 w) :
    Calls Try.prog 43 #[.int .i64 i, .pointer (some ⟨JB, 0, none⟩), .pointer (some ⟨AB, 0, none⟩), .pointer (some ⟨BB, 0, none⟩), .pointer (some ⟨GB, 0, none⟩), .pointer (some ⟨NB, 0, none⟩), .pointer (some ⟨EB, 0, none⟩)] w fun e w' => e = .returned (.bool false) ∧ Vb w' NB (.int .i64 (cs es i)) 3 ∧ Vb w' EB (.int .i64 0) 24 ∧ Below w0.heap.size w0 w' := by
  have HV : Hid _ := hv
  obtain ⟨a0, c0, rfl⟩ := hes.val
  have HES : Hid _ := hes
  have VN : Hid _ := hvn
  have VE : Hid _ := hve
  have HQ : Hid (NB ≠ EB ∧ NB ≠ g ∧ EB ≠ g ∧ GB ≠ g) := ⟨hNE, hNg, hEg, hGg⟩
  have HB0 : Hid (Below w0.heap.size w0 w) := hb0
  clear hes hvn hve hNE hNg hEg hGg hb0
  have HH : Hid _ := hH
  have HU : Hid _ := hU
  have HI : Hid _ := hI
  have HN : Hid _ := hne
  have HG : Hid (H ≠ g) := hHg
  have HJ : Hid _ := hJ
  have v1 := hv.j
  have v2 := hv.a
  have v3 := hv.b
  clear hv hH hU hI hne hHg hJ
  go_enter Try.func43, Try.ntmps43
  go_wp2_with fail
  go_region_held3 (fun w' => w'.cell? ⟨JB, 0, none⟩ = some (.pointer (some ⟨H, 0, none⟩)) ∧ w'.cell? ⟨AB, 0, none⟩ = some (.int .i64 a) ∧ w'.cell? ⟨BB, 0, none⟩ = some (.int .i64 b)) (first | exact KEEP.out | go_keep)
    (first
     | (go_at_call_of 36 (Value.int IntKind.i64 ((a : Nat) : Int)); refine (Un.least_any H g n a U G _ (by exact HH.out) HG.out (by exact ⟨HU.out.block⟩) HI.out ha).mono ?_; rintro e w1 ⟨rfl, ⟨U1, u1, i1, -⟩, g1⟩; have G1 : Hid (w.grownBy w1 (some g)) := (by first | exact grown_trans (grown_drew (grown_refl _ _)) g1 | exact grown_trans (grown_drew (grown_drew (grown_refl _ _))) g1 | exact grown_trans (grown_drew (grown_drew (grown_drew (grown_refl _ _)))) g1 | exact grown_trans (grown_drewN (grown_refl _ _) _) g1 | exact g1); have KEEP : Hid (w1.cell? ⟨JB, 0, none⟩ = some (.pointer (some ⟨H, 0, none⟩)) ∧ w1.cell? ⟨AB, 0, none⟩ = some (.int .i64 a) ∧ w1.cell? ⟨BB, 0, none⟩ = some (.int .i64 b)) := (by exact ⟨Un.gcell G1.out HJ.out.1 HV.out.j, Un.gcell G1.out HJ.out.2.1 HV.out.a, Un.gcell G1.out HJ.out.2.2 HV.out.b⟩))
     | (go_at_call_of 36 (Value.int IntKind.i64 ((b : Nat) : Int)); refine (Un.least_any H g n b U1 G _ (by exact Un.gcell G1.out HG.out HH.out) HG.out (by exact ⟨u1.block⟩) i1 hb).mono ?_; rintro e w2 ⟨rfl, ⟨U2, u2, i2, -⟩, g2⟩; have G2 : Hid (w.grownBy w2 (some g)) := (by first | exact grown_trans (grown_drew G1.out) g2 | exact grown_trans (grown_drew (grown_drew G1.out)) g2 | exact grown_trans (grown_drewN G1.out _) g2 | exact grown_trans G1.out g2); have KEEP : Hid (w2.cell? ⟨JB, 0, none⟩ = some (.pointer (some ⟨H, 0, none⟩)) ∧ w2.cell? ⟨AB, 0, none⟩ = some (.int .i64 a) ∧ w2.cell? ⟨BB, 0, none⟩ = some (.int .i64 b)) := (by exact ⟨Un.gcell G2.out HJ.out.1 HV.out.j, Un.gcell G2.out HJ.out.2.1 HV.out.a, Un.gcell G2.out HJ.out.2.2 HV.out.b⟩))
     | fail)
  all_goals
    have HNE : Hid ((((G a : Nat) : Int) != ((G b : Nat) : Int)) = false) := by unfold Hid; rw [HN.out]; simp
    have hneq := HNE.out
    have N2 : Hid (Vb w2 NB vn 3) := VN.out.frame (G2.out.block NB VN.out.lt (fun e => HQ.out.2.1 (Option.some.inj e)))
    have E2 : Hid (Vb w2 EB ve 24) := VE.out.frame (G2.out.block EB VE.out.lt (fun e => HQ.out.2.2.1 (Option.some.inj e)))
    have HC9 : Hid (cs es i = (at3 es i).2.2) := rfl
    have g2c := Un.gcell G2.out HQ.out.2.2.2 HV.out.g
    have B2 : Hid (Below w0.heap.size w0 w2) := below_grown HB0.out G2.out kg HB0.out.size
    obtain ⟨b9, off, cap, hveq, hc⟩ := (HES.out.below B2.out).some' (by omega)
    simp only [Value.slice.injEq] at hveq
    obtain ⟨rfl, -, rfl⟩ := hveq
    obtain ⟨d0, d1, d2⟩ := hc i hi
    have hii : (i : Int) < (es.length : Int) := by omega
    rw [← HC9.out] at d2
    clear hc d0 d1
    have hq1 : ¬ NB = EB := HQ.out.1
    have hq2 : ¬ EB = NB := fun e => HQ.out.1 e.symm
    obtain ⟨nb0, nb1⟩ := N2.out.cell
    obtain ⟨eb0, eb1⟩ := E2.out.cell
    go_wp2_with fail
    go_ret
    refine ⟨rfl, (N2.out.put _).frame (Below.heap_setCell _ _ _ _ hq1), (E2.out.frame (Below.heap_setCell _ _ _ _ hq2)).put _, Below.setCell (Below.setCell B2.out kn _) ke _⟩
end Go.Proofs.Ytdgihpegdcoilaa
