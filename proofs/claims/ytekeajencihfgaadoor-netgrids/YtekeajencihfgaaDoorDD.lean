/-
  Contract: Moves.
-/
import Derived.Test.YtekeajencihfgaaDoorDC
import Derived.Deep.RegionLaw
import Derived.Deep.MidRow
import Derived.Maps.AppendAt
namespace Go.Proofs.YtekeajencihfgaaDoor
open Go.RowKit
open Gm

/-- The numbers of the eight steps, one behind the other. -/
def stCells : List Int := [0, -1, 5, 1, -1, 7, 1, 0, 5, 1, 1, 7, 0, 1, 5, -1, 1, 7, -1, 0, 5, -1, -1, 7]
/-- The table of steps lies where the program keeps it. -/
structure Steps (w : World) : Prop where
  cell : ∀ i, i < 24 → w.cell? ⟨0, i, none⟩ = some (.int .i64 (stCells.getD i 0))
theorem Steps.below {w w' : World} (h : Steps w) (hb : Below w.heap.size w w') : Steps w' := ⟨fun i hi => kept hb (h.cell i hi)⟩

def stVals : List Value := stCells.map (fun z => .int .i64 z)
theorem Steps.range {w : World} (h : Steps w) : w.rangeAt 0 0 stVals := by
  intro j v hj
  have hl : j < 24 := by
    rcases Nat.lt_or_ge j 24 with h | h
    · exact h
    · rw [List.getElem?_eq_none (by simp [stVals, stCells]; omega)] at hj; cases hj
  have := h.cell j hl
  rw [Nat.zero_add]
  rw [this]
  unfold stVals at hj
  rw [List.getElem?_map] at hj
  have hl' : j < stCells.length := hl
  rw [List.getElem?_eq_getElem hl'] at hj
  rw [List.getD_eq_getElem?_getD, List.getElem?_eq_getElem hl']
  simpa using hj
theorem step_index (k : Nat) (h : k < 8) (w : World) : (Instr.index 52 (.agg stVals.toArray) (.int .i64 k)).run Tryd.prog w = .ok (.agg #[.int .i64 (st k).1, .int .i64 (st k).2.1, .int .i64 (st k).2.2]) w := by
  rcases (show k = 0 ∨ k = 1 ∨ k = 2 ∨ k = 3 ∨ k = 4 ∨ k = 5 ∨ k = 6 ∨ k = 7 by omega) with rfl | rfl | rfl | rfl | rfl | rfl | rfl | rfl <;> kernel_rfl

/-- The cells of a list of edges, one behind the other. -/
def flat3 : List (Int × Int × Int) → List Value
  | [] => []
  | p :: r => .int .i64 p.1 :: .int .i64 p.2.1 :: .int .i64 p.2.2 :: flat3 r

theorem owns_below {w w' : World} {base n t sz : Nat} {v : Value} {xs : List Value} (h : w.ownsRow base t sz v n xs) (hb : Below w.heap.size w w') : w'.ownsRow base t sz v n xs := by
  obtain ⟨h1, h2⟩ := h
  refine ⟨h1, ?_⟩
  rcases h2 with h2 | ⟨g, cap, cur, h3, h4, h5, h6⟩
  · exact .inl h2
  · refine .inr ⟨g, cap, cur, h3, h4, ?_, h6⟩
    have hlt : g < w.heap.size := by
      rcases Nat.lt_or_ge g w.heap.size with hlt | hge
      · exact hlt
      · rw [Array.getElem?_eq_none hge] at h5; cases h5
    rw [hb.block _ hlt]; exact h5

/-- A list of edges that the calls made for themselves, behind base. -/
structure Es (w : World) (base : Nat) (v : Value) (es : List (Int × Int × Int)) : Prop where
  own : w.ownsRow base 39 3 v es.length (flat3 es)
theorem Es.below {w w' : World} {base : Nat} {v : Value} {es : List (Int × Int × Int)} (h : Es w base v es) (hb : Below w.heap.size w w') : Es w' base v es := ⟨owns_below h.own hb⟩
theorem Es.mono {w : World} {b b' : Nat} {v : Value} {es : List (Int × Int × Int)} (h : Es w b v es) (hb : b' ≤ b) : Es w b' v es := by
  obtain ⟨h1, h2⟩ := h.own
  refine ⟨h1, ?_⟩
  rcases h2 with h2 | ⟨g, cap, cur, h3, h4, h5⟩
  · exact .inl h2
  · exact .inr ⟨g, cap, cur, h3, Nat.le_trans hb h4, h5⟩
theorem flat3_append (a b : List (Int × Int × Int)) : flat3 (a ++ b) = flat3 a ++ flat3 b := by
  induction a with
  | nil => rfl
  | cons p r ih => simp [flat3, ih]
theorem info32 : (Tryd.prog.info? 39).map (fun i => (i.zero, i.size, i.bytes)) = some (some (.agg #[.int .i64 0, .int .i64 0, .int .i64 0]), 3, 24) := by kernel_rfl
theorem info32_parts : ∃ i, Tryd.prog.info? 39 = some i ∧ i.zero = some (.agg #[.int .i64 0, .int .i64 0, .int .i64 0]) ∧ i.size = 3 ∧ i.bytes = 24 := by
  obtain ⟨i, hi, hh⟩ := Option.map_eq_some_iff.1 info32
  simp only [Prod.mk.injEq] at hh
  exact ⟨i, hi, hh.1, hh.2.1, hh.2.2⟩
theorem ownBlock_lt {w : World} {base : Nat} {e : TypeId} {size : Nat} {v : Value} {n : Nat} {xs : List Value} (h : w.ownsRow base e size v n xs) : ∀ g, v.ownBlock = some g → base ≤ g ∧ g < w.heap.size := by
  intro g hg
  rcases h.2 with ⟨rfl, _⟩ | ⟨g', cap, cur, rfl, hb, hh, _⟩
  · cases hg
  · simp [Value.ownBlock] at hg
    subst hg
    refine ⟨hb, ?_⟩
    rcases Nat.lt_or_ge g' w.heap.size with hlt | hge
    · exact hlt
    · rw [Array.getElem?_eq_none hge] at hh; cases hh
theorem keep_far {w w' : World} {o : Obj} {X i : Nat} {v u : Value} (hg : (w.alloc o).drew.grownBy w' u.ownBlock) (hne : some X ≠ u.ownBlock) (h : w.cell? ⟨X, i, none⟩ = some v) : w'.cell? ⟨X, i, none⟩ = some v := by
  have hlt := World.block_lt_of_cell? w ⟨X, i, none⟩ h
  simp only at hlt
  rw [hg.cell_far ⟨X, i, none⟩ (by show X < (w.alloc o).heap.size; simp; omega) hne]
  show (w.alloc o).cell? ⟨X, i, none⟩ = some v
  rw [World.cell?_alloc_lt w o ⟨X, i, none⟩ hlt]; exact h
theorem wrap_small {z : Int} (h1 : 0 ≤ z) (h2 : z ≤ 1000) : IntKind.i64.wrap z = z := by
  rw [IntKind.wrap_i64]; omega
theorem wrapped {w : World} {base n : Nat} {v u1 u2 : Value} {xs : List Value} {m a : Int} (h : w.ownsRow base 39 3 v n (xs ++ [u1, u2, .int .i64 (IntKind.i64.wrap (m * IntKind.i64.wrap a))])) (h1 : 0 ≤ a) (h2 : a ≤ 1000) (h3 : 0 ≤ m * a) (h4 : m * a ≤ 126) : w.ownsRow base 39 3 v n (xs ++ [u1, u2, .int .i64 (m * a)]) := by
  rw [wrap_small h1 h2, wrap_small h3 (by omega)] at h
  exact h
/-- One edge more. -/
theorem Es.next {w : World} {base n cap gg : Nat} {es fs : List (Int × Int × Int)} {a b c : Int} (hf : fs = es ++ [(a, b, c)]) (hn : n = es.length) (h : w.ownsRow base 39 3 (.slice (some ⟨gg, 0, none⟩) (n + 1) cap) (n + 1) (flat3 es ++ [.int .i64 a, .int .i64 b, .int .i64 c])) : Es w base (.slice (some ⟨gg, 0, none⟩) (n + 1) cap) fs := by
  subst hf hn
  refine ⟨?_⟩
  rw [flat3_append, List.length_append]
  exact h

set_option maxRecDepth 100000 in
set_option maxHeartbeats 4000000 in
theorem moves_bad (W H at_ : Int) (v : Value) (cs : List Int) (w : World) (hv : SlI w v cs) (hlen : cs.length ≤ 9223372036854775807) (hc : gchk W H cs ≠ 0) :
    Calls Tryd.prog 15 #[.agg #[.int .i64 W, .int .i64 H, v], .int .i64 at_] w fun e w' => e = .returned (.tuple #[.slice none 0 0, .int .i64 (gchk W H cs)]) ∧ Below w.heap.size w w' := by
  obtain ⟨a0, c0, rfl⟩ := hv.val
  have HV : Hid _ := hv
  clear hv
  have hz : (gchk W H cs != 0) = true := by simp [hc]
  clear hc
  go_enter Tryd.func15, Tryd.ntmps15
  go_wp2_with fail
  refine (gcheck_any W H _ cs _ (HV.out.below (balloc (Below.refl _ _) _)) hlen).mono ?_
  rintro e w1 ⟨rfl, b1⟩
  go_wp2_with fail
  go_ret2
  exact ⟨rfl, bthen (balloc (Below.refl _ _) _) b1⟩

/-- The ground's box. -/
structure Box3 (W : World) (B : Nat) (gw gh : Int) (v : Value) : Prop where
  g0 : W.cell? ⟨B, 0, none⟩ = some (.int .i64 gw)
  g1 : W.cell? ⟨B, 1, none⟩ = some (.int .i64 gh)
  g2 : W.cell? ⟨B, 2, none⟩ = some v
theorem Box3.below {W W' : World} {B : Nat} {gw gh : Int} {v : Value} (h : Box3 W B gw gh v) (hb : Below W.heap.size W W') : Box3 W' B gw gh v :=
  ⟨kept hb h.g0, kept hb h.g1, kept hb h.g2⟩
theorem box3_start (w : World) (gw gh : Int) (v : Value) : Box3 (w.alloc (.cells #[.int .i64 gw, .int .i64 gh, v] 24)) w.heap.size gw gh v :=
  ⟨cell_new w _ _ 0 _ rfl, cell_new w _ _ 1 _ rfl, cell_new w _ _ 2 _ rfl⟩

set_option maxRecDepth 100000 in
set_option maxHeartbeats 4000000 in
theorem moves_at (W H at_ : Int) (v : Value) (cs : List Int) (w : World) (hv : SlI w v cs) (hc : gchk W H cs = 0) (ha : at_ < 0 ∨ (cs.length : Int) ≤ at_) :
    Calls Tryd.prog 15 #[.agg #[.int .i64 W, .int .i64 H, v], .int .i64 at_] w fun e w' => e = .returned (.tuple #[.slice none 0 0, .int .i64 1]) ∧ Below w.heap.size w w' := by
  obtain ⟨a0, c0, rfl⟩ := hv.val
  have HV : Hid _ := hv
  have HC : Hid _ := hc
  have hle := (gchk_zero hc).le
  clear hv hc
  by_cases h0 : at_ < 0
  · clear ha
    go_enter Tryd.func15, Tryd.ntmps15
    go_wp2_with fail
    refine (gcheck_any W H _ cs _ (HV.out.below (balloc (Below.refl _ _) _)) (by omega)).mono ?_
    rintro e w1 ⟨rfl, b1⟩
    rw [HC.out]
    go_wp2_with fail
    go_ret2
    exact ⟨rfl, bthen (balloc (Below.refl _ _) _) b1⟩
  · have h1 : (cs.length : Int) ≤ at_ := by omega
    clear ha
    go_enter Tryd.func15, Tryd.ntmps15
    go_wp2_with fail
    refine (gcheck_any W H _ cs _ (HV.out.below (balloc (Below.refl _ _) _)) (by omega)).mono ?_
    rintro e w1 ⟨rfl, b1⟩
    obtain ⟨p0, p1, p2⟩ := (box3_start w W H (.slice a0 cs.length c0)).below b1
    rw [HC.out]
    go_wp2_with fail
    go_ret2
    exact ⟨rfl, bthen (balloc (Below.refl _ _) _) b1⟩

theorem box3_new (w : World) (a b : Int) (v : Value) (t : TypeId) : Box3 (w.alloc (.cells #[.int .i64 a, .int .i64 b, v] t)) w.heap.size a b v :=
  ⟨cell_new w _ _ 0 _ rfl, cell_new w _ _ 1 _ rfl, cell_new w _ _ 2 _ rfl⟩
set_option maxRecDepth 100000 in
set_option maxHeartbeats 8000000 in
theorem moves_xy (W H x y : Int) (n : Nat) (v : Value) (cs : List Int) (w : World) (hv : SlI w v cs) (hc : gchk W H cs = 0) (ha : n < cs.length) (hs : Steps w) (hx : (n : Int) % W = x) (hy : (n : Int) / W = y) :
    Calls Tryd.prog 15 #[.agg #[.int .i64 W, .int .i64 H, v], .int .i64 n] w fun e w' => ∃ u, e = .returned (.tuple #[u, .int .i64 0]) ∧ Es w' w.heap.size u (moves (cl cs W H) W x y) ∧ Below w.heap.size w w' := by
  obtain ⟨b, off, c0, rfl, hcl⟩ := hv.some' (by omega)
  have HV : Hid _ := hv
  have HCL : Hid (∀ i, i < cs.length → w.cell? ⟨b, off + i, none⟩ = some (.int .i64 (cs.getD i 0))) := hcl
  clear hcl
  have HC : Hid _ := hc
  have hgd := gchk_zero hc
  have hle := hgd.le
  have HGD : Hid _ := hgd
  have HS : Hid _ := hs
  obtain ⟨k0, k1, k2, k3, k4⟩ := coords hgd.w1 (show (0 : Int) ≤ n by omega) (show (n : Int) < W * H by rw [← hgd.len]; omega)
  rw [hx] at k0 k1 k4
  rw [hy] at k2 k3 k4
  have hw1 := hgd.w1
  have hw8 := hgd.w8
  have hh8 := hgd.h8
  have hWz : (W == 0) = false := by simp; omega
  have hni : (n : Int) < (cs.length : Int) := by omega
  clear hv hc hgd hs
  go_enter Tryd.func15, Tryd.ntmps15
  go_wp2_with fail
  refine (gcheck_any W H _ cs _ (HV.out.below (balloc (Below.refl _ _) _)) (by omega)).mono ?_
  rintro e w1 ⟨rfl, b1⟩
  have P1 : Hid _ := (box3_start w W H (.slice (some ⟨b, off, none⟩) cs.length c0)).below b1
  have B1 : Hid (Below w.heap.size w w1) := bthen (balloc (Below.refl _ _) _) b1
  obtain ⟨p0, p1, p2⟩ := P1.out
  clear b1
  rw [HC.out]
  go_wp2_with fail
  go_quiet (fail)
  go_wp2_with fail
  have K4 : Hid _ := k4
  clear k4
  have B2 : Hid (Below w.heap.size w (w1.drewN nq)) := bdrewN B1.out nq
  have P2 : Hid (Box3 (w1.drewN nq) w.heap.size W H (.slice (some ⟨b, off, none⟩) cs.length c0)) := P1.out.below (bdrewN (Below.refl _ _) nq)
  generalize w1.drewN nq = w2 at *
  clear p0 p1 p2 B1 P1
  cases e1 : gnd cs W H x y
  · have E1 : Hid _ := e1
    clear e1
    refine (isGround_at W H _ cs _ _ _ w2 (HV.out.below B2.out) HGD.out E1.out).mono ?_
    rintro e w3 ⟨rfl, b3⟩
    go_wp2_with fail
    go_ret2
    have HM : moves (cl cs W H) W x y = [] := by unfold moves; rw [if_pos (by simpa [gnd] using E1.out)]
    exact ⟨_, rfl, by rw [HM]; exact ⟨World.ownsRow_nil _ _ _ _⟩, bthen B2.out b3⟩
  · have E1 : Hid _ := e1
    clear e1
    refine (isGround_at W H _ cs _ _ _ w2 (HV.out.below B2.out) HGD.out E1.out).mono ?_
    rintro e w3 ⟨rfl, b3⟩
    have P3 : Hid _ := P2.out.below b3
    have B3 : Hid (Below w.heap.size w w3) := bthen B2.out b3
    have S3 : Hid (Steps w3) := HS.out.below B3.out
    clear b3 P2 B2
    have hrange := S3.out.range
    go_wp2_with (refine wpList_load_mid rfl 52 (.global 0) rfl 0 0 rfl stVals _ hrange Tryd.underlying52 rfl (by kernel_rfl) ?_)
    clear hrange
    generalize hAR : stVals.toArray = AR
    have HAR : Hid _ := hAR
    clear hAR
    go_loopw [41, 9] (fun z out wr => ∃ k : Nat, z = .int .i64 k ∧ k ≤ 8 ∧ Es wr w3.heap.size out (mvs (cl cs W H) W x y (steps.take k)) ∧ Below w3.heap.size w3 wr) (fun z _ _ => 8 - (intOf z).toNat)
    case atStart => exact ⟨0, rfl, Nat.zero_le _, ⟨World.ownsRow_nil _ _ _ _⟩, Below.refl _ _⟩
    case round =>
      obtain ⟨k, rfl, hk, ho, hb⟩ := hrel
      have HO : Hid _ := ho
      have HB : Hid (Below w3.heap.size w3 wr) := hb
      clear ho hb
      by_cases hlt : k < 8
      · have hki : (k : Int) < 8 := by omega
        have hidx : ∀ w, (Instr.index 52 (.agg AR) (.int .i64 k)).run Tryd.prog w = .ok (.agg #[.int .i64 (st k).1, .int .i64 (st k).2.1, .int .i64 (st k).2.2]) w := fun w => by rw [← HAR.out]; exact step_index k hlt w
        have hbd := st_bounds k hlt
        have HY : Hid _ := @mvs_yes (cl cs W H) W x y k hlt
        have HN : Hid _ := @mvs_no (cl cs W H) W x y k hlt
        generalize st k = s at *
        obtain ⟨dx, dy, m⟩ := s
        simp only at hbd hidx
        obtain ⟨q1, q2, q3, q4, q5, q6⟩ := hbd
        obtain ⟨p0, p1, p2⟩ := (P3.out.below HB.out).below (balloc (Below.refl _ _) (.cells #[.int .i64 dx, .int .i64 dy, .int .i64 m] 51))
        go_wp2_with fail
        obtain ⟨W4, hW4⟩ : ∃ W4, W4 = wr.alloc (.cells #[.int .i64 dx, .int .i64 dy, .int .i64 m] 51) := ⟨_, rfl⟩
        obtain ⟨X, hX⟩ : ∃ X, X = wr.heap.size := ⟨_, rfl⟩
        have BA : Hid (Below wr.heap.size wr W4) := by rw [hW4]; exact balloc (Below.refl _ _) _
        have Q4 : Hid (Box3 W4 X dx dy (.int .i64 m)) := by rw [hW4, hX]; exact box3_new wr _ _ _ _
        have B4 : Hid (Below w3.heap.size w3 W4) := bthen HB.out BA.out
        have O4 : Hid (Es W4 w3.heap.size u9 (mvs (cl cs W H) W x y (steps.take k))) := HO.out.below BA.out
        have HXN : Hid (some X ≠ u9.ownBlock) := fun e => by
          have := (ownBlock_lt HO.out.own _ e.symm).2
          omega
        rw [← hW4, ← hX]
        clear hW4 hX BA HO HB p0 p1 p2 hidx
        refine (isOpen_any W H _ cs x y dx dy m W4 ((HV.out.below B3.out).below B4.out) HGD.out (by omega) (by omega) (by omega) (by omega) (by omega) (by omega) (by omega) (by omega)).mono ?_
        rintro e w5 ⟨rfl, b5⟩
        have Q5 : Hid _ := Q4.out.below b5
        have B5 : Hid (Below w3.heap.size w3 w5) := bthen B4.out b5
        have O5 : Hid (Es w5 w3.heap.size u9 (mvs (cl cs W H) W x y (steps.take k))) := O4.out.below b5
        clear b5 Q4 B4 O4
        cases eo : opn (cl cs W H) x y (dx, dy, m)
        · have HE : Hid _ := HN.out eo
          clear eo
          go_wp2_with fail
          go_roundw
          case rel => exact ⟨k + 1, by go_num, by omega, by rw [HE.out]; exact O5.out, B5.out⟩
          case measure => simp [intOf]; omega
        · have HE : Hid _ := HY.out eo
          obtain ⟨o1, o2, o3⟩ := opn_iff.1 eo
          simp only at o1
          have hin := cl_in o1
          obtain ⟨j1, j2⟩ := idx hin.1 hin.2.1 hin.2.2.1 hin.2.2.2
          obtain ⟨t, ht⟩ := Int.eq_ofNat_of_zero_le (show 0 ≤ (y + dy) * W + (x + dx) by omega)
          have ht' : (y + dy) * W + x + dx = (t : Int) := by omega
          rw [← HGD.out.len, ht] at j2
          have htl : t < cs.length := by omega
          have hti : (t : Int) < (cs.length : Int) := by omega
          have CN : Hid _ := kept B3.out (HCL.out n ha)
          have CT : Hid _ := kept B3.out (HCL.out t htl)
          have d0 := kept B5.out CN.out
          have d1 := kept B5.out CT.out
          have cc0 := HGD.out.cell n ha
          have cc1 := HGD.out.cell t htl
          have HED : Hid (edge (cl cs W H) W x y (dx, dy, m) = ((n : Int), (t : Int), m * (cs.getD n 0 + cs.getD t 0))) := by
            unfold Hid edge
            simp only
            rw [cl_at ⟨k0, k1, k2, k3⟩, cl_at hin, K4.out, ht, ht', Int.toNat_natCast, Int.toNat_natCast]
          rw [HED.out] at HE
          generalize cs.getD n 0 = a at *
          generalize cs.getD t 0 = b' at *
          have m1 : 0 ≤ m * (a + b') := Int.mul_nonneg (by omega) (by omega)
          have m2 : m * (a + b') ≤ 126 := by
            have := Int.mul_le_mul_of_nonneg_right (c := a + b') (show m ≤ 7 by omega) (by omega)
            omega
          have hml := mvs_length (cl cs W H) W x y k
          obtain ⟨p0, p1, p2⟩ := P3.out.below B5.out
          obtain ⟨q7, q8, q9⟩ := Q5.out
          obtain ⟨i0, hi0, hz0, hz1, hz2⟩ := info32_parts
          have hown := O5.out.own
          have hwz := B5.out.size
          have HNW : Hid (∀ z : Int, (w5.alloc (.cells #[.int .i64 n, .int .i64 t, .int .i64 z] 39)).drew.heap[w5.heap.size]? = some (.cells #[.int .i64 n, .int .i64 t, .int .i64 z] 39)) := fun z => heap_alloc_new w5 _
          clear eo o1 o2 o3 hin ht HED
          generalize mvs (cl cs W H) W x y (steps.take k) = ms at *
          go_wp2_with fail
          go_region_held3 (fun w' => w'.cell? ⟨X, 2, none⟩ = some (.int .i64 m) ∧ w'.cell? ⟨w.heap.size, 2, none⟩ = some (.slice (some ⟨b, off, none⟩) cs.length c0) ∧ w'.cell? ⟨b, off + n, none⟩ = some (.int .i64 a) ∧ w'.cell? ⟨b, off + t, none⟩ = some (.int .i64 b'))
            (first | go_keep | exact KEEP.out)
            (first
             | (refine step_append_lies _ (by rfl) _ _ _ (by rfl) w3.heap.size 39 i0 _ 3 24 Tryd.underlying25 hi0 hz0 hz1 hz2 rfl (by omega) u9 ms.length (flat3 ms) (by rfl) ((hown.alloc _).drew) ⟨w5.heap.size, 0, none⟩ 1 1 [.int .i64 n, .int .i64 t, .int .i64 (m * (a + b'))] (by rfl) (by rfl) (World.news_of_block (cs := #[.int .i64 n, .int .i64 t, .int .i64 (m * (a + b'))]) (t := 39) (fr := (0, 0)) (HNW.out _)) (by simp [Value.oneCell']) (by omega) (by unfold maxLen; omega) (by omega) (by simp; omega) (w5.heap.size + 1) (by simp) ?_; intro gg cap' w6 hown6 hgrow hat hlt6; have BD : Hid (Below w3.heap.size w3 w6) := (by exact (Below.drew (balloc B5.out _)).grown hgrow (by show _ ≤ (w5.alloc _).heap.size; simp; omega) (fun k hk => (ownBlock_lt hown k hk).1)); have KEEP : Hid (w6.cell? ⟨X, 2, none⟩ = some (.int .i64 m) ∧ w6.cell? ⟨w.heap.size, 2, none⟩ = some (.slice (some ⟨b, off, none⟩) cs.length c0) ∧ w6.cell? ⟨b, off + n, none⟩ = some (.int .i64 a) ∧ w6.cell? ⟨b, off + t, none⟩ = some (.int .i64 b')) := (by exact ⟨(keep_far hgrow HXN.out q9).trans rfl, kept BD.out P3.out.g2, kept BD.out CN.out, kept BD.out CT.out⟩))
             | (refine step_append_lies _ (by rfl) _ _ _ (by rfl) w3.heap.size 39 i0 _ 3 24 Tryd.underlying25 hi0 hz0 hz1 hz2 rfl (by omega) u9 ms.length (flat3 ms) (by rfl) ((hown.alloc _).drew) ⟨w5.heap.size, 0, none⟩ 1 1 [.int .i64 n, .int .i64 t, .int .i64 (IntKind.i64.wrap (m * IntKind.i64.wrap (a + b')))] (by rfl) (by rfl) (World.news_of_block (cs := #[.int .i64 n, .int .i64 t, .int .i64 (IntKind.i64.wrap (m * IntKind.i64.wrap (a + b')))]) (t := 39) (fr := (0, 0)) (HNW.out _)) (by simp [Value.oneCell']) (by omega) (by unfold maxLen; omega) (by omega) (by simp; omega) (w5.heap.size + 1) (by simp) ?_; intro gg cap' w6 hown6 hgrow hat hlt6; have BD : Hid (Below w3.heap.size w3 w6) := (by exact (Below.drew (balloc B5.out _)).grown hgrow (by show _ ≤ (w5.alloc _).heap.size; simp; omega) (fun k hk => (ownBlock_lt hown k hk).1)); have KEEP : Hid (w6.cell? ⟨X, 2, none⟩ = some (.int .i64 m) ∧ w6.cell? ⟨w.heap.size, 2, none⟩ = some (.slice (some ⟨b, off, none⟩) cs.length c0) ∧ w6.cell? ⟨b, off + n, none⟩ = some (.int .i64 a) ∧ w6.cell? ⟨b, off + t, none⟩ = some (.int .i64 b')) := (by exact ⟨(keep_far hgrow HXN.out q9).trans rfl, kept BD.out P3.out.g2, kept BD.out CN.out, kept BD.out CT.out⟩))
             | fail)
          all_goals
            go_wp2_with fail
            go_roundw
            case rel => exact ⟨k + 1, by go_num, by omega, Es.next HE.out rfl (wrapped hown6 (by omega) (by omega) m1 m2), BD.out⟩
            case measure => simp [intOf]; omega
      · have hke : k = 8 := by omega
        subst hke
        have HM : Hid (moves (cl cs W H) W x y = mvs (cl cs W H) W x y (steps.take 8)) := by unfold Hid moves; rw [if_neg (by simpa [gnd] using E1.out)]; rfl
        go_wp2_with fail
        go_ret2
        exact ⟨_, rfl, by rw [HM.out]; exact HO.out.mono B3.out.size, bthen B3.out HB.out⟩

theorem moves_yes (W H : Int) (n : Nat) (v : Value) (cs : List Int) (w : World) (hv : SlI w v cs) (hc : gchk W H cs = 0) (ha : n < cs.length) (hs : Steps w) :
    Calls Tryd.prog 15 #[.agg #[.int .i64 W, .int .i64 H, v], .int .i64 n] w fun e w' => ∃ u, e = .returned (.tuple #[u, .int .i64 0]) ∧ Es w' w.heap.size u (moves (cl cs W H) W ((n : Int) % W) ((n : Int) / W)) ∧ Below w.heap.size w w' :=
  moves_xy W H _ _ n v cs w hv hc ha hs rfl rfl
end Go.Proofs.YtekeajencihfgaaDoor
