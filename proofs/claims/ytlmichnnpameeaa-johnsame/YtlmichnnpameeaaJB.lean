/-
  Contracts: level.
-/
import Derived.Test.YtlmichnnpameeaaJA
import Derived.Test.YtlmichnnpameeaaER
import Derived.Deep.DeepCutAuto
namespace Go.Proofs.Ytlmichnnpameeaa
open Go.RowKit
open Nm Wm Dm Bm Jm

theorem bn_second (W : World) (o : Obj) (a b : Value) : Bn ((W.alloc o).alloc (.cells #[a, b] 24)).drew (W.heap.size + 1) a b := by
  have h := bn_new (W.alloc o) a b
  rw [show (W.alloc o).heap.size = W.heap.size + 1 by simp] at h
  exact h.below (Below.drew (Below.refl _ _))
theorem bn_first (W : World) (o : Obj) (a b : Value) : Bn ((W.alloc (.cells #[a, b] 24)).alloc o).drew W.heap.size a b := ((bn_new W a b).below (balloc (Below.refl _ _) o)).below (Below.drew (Below.refl _ _))
theorem er_second (W : World) (o : Obj) (m : Nat) : Er ((W.alloc o).alloc (.cells (zer3 m) 50)).drew (W.heap.size + 1) m (fun _ => (0, 0, 0)) := by
  have h := er_made (W.alloc o) m
  rw [show (W.alloc o).heap.size = W.heap.size + 1 by simp] at h
  exact h.below (Below.drew (Below.refl _ _))
theorem er_first (W : World) (o : Obj) (m : Nat) : Er ((W.alloc (.cells (zer3 m) 50)).alloc o).drew W.heap.size m (fun _ => (0, 0, 0)) := ((er_made W m).below (balloc (Below.refl _ _) o)).below (Below.drew (Below.refl _ _))
theorem cput {w : World} {g o b i : Nat} {v u : Value} (hne : b ≠ g) (h : w.cell? ⟨b, i, none⟩ = some u) : (w.setCell ⟨g, o, none⟩ v).cell? ⟨b, i, none⟩ = some u := by
  unfold World.cell? at *; rw [Below.heap_setCell _ _ _ _ hne]; exact h
/-- The first k edges by heights. -/
def lk3 (hs : List Int) (es : List E) (k i : Nat) : E := if i < k then lvl hs (at3 es i) else (0, 0, 0)
theorem lk3_next {hs : List Int} {es : List E} {k : Nat} {e : E} (he : lvl hs (at3 es k) = e) : ∀ i, i < es.length → lk3 hs es (k + 1) i = if i = k then (e.1, e.2.1, e.2.2) else lk3 hs es k i := by
  intro i _
  subst he
  unfold lk3
  by_cases h : i = k
  · subst h; rw [if_pos (by omega), if_pos rfl]
  · rw [if_neg h]
    by_cases h2 : i < k
    · rw [if_pos (by omega), if_pos h2]
    · rw [if_neg (by omega), if_neg h2]

set_option maxRecDepth 100000 in
set_option maxHeartbeats 8000000 in
theorem level_any (N : Nat) (v u : Value) (es : List E) (hs : List Int) (w : World) (hv : SlE w v es) (hu : SlI w u hs) (hb : Rnt N es) (hn : hs.length = N) (hh : ∀ i, i < N → -1000000000 ≤ hs.getD i 0 ∧ hs.getD i 0 ≤ 1000000000) :
    Calls Try.prog 43 #[.agg #[.int .i64 N, v], u] w fun e w' => ∃ G, e = .returned (.agg #[.int .i64 N, .slice (some ⟨G, 0, none⟩) es.length es.length]) ∧ w.heap.size ≤ G ∧ Er w' G es.length (fun i => lvl hs (at3 es i)) ∧ Below w.heap.size w w' := by
  obtain ⟨a0, c0, rfl⟩ := hv.val
  obtain ⟨a1, c1, rfl⟩ := hu.val
  have HV : Hid _ := hv
  have HU : Hid _ := hu
  have HB : Hid _ := hb
  have HH : Hid _ := hh
  have hlen := hb.len
  have HN : Hid _ := hn
  have hmk := made_edges es.length hlen
  clear hv hu hb hh hn
  go_enter Try.func43, Try.ntmps43
  go_upto_region 1 with fail
  have P0 : Hid _ := box2_new w (N : Int) (.slice a0 es.length c0) 24
  have B0 : Hid (Below w.heap.size w (w.alloc (.cells #[.int .i64 N, .slice a0 es.length c0] 24))) := balloc (Below.refl _ _) _
  have hz0 : (w.alloc (.cells #[.int .i64 N, .slice a0 es.length c0] 24)).heap.size = w.heap.size + 1 := by simp
  generalize w.alloc (.cells #[.int .i64 N, .slice a0 es.length c0] 24) = W0 at *
  have P1 : Hid _ := P0.out.below (balloc (Below.refl _ _) (.cells #[.int .i64 0, .slice none 0 0] 24))
  have B1 : Hid (Below w.heap.size w (W0.alloc (.cells #[.int .i64 0, .slice none 0 0] 24))) := balloc B0.out _
  have N1 : Hid _ := bn_new W0 (.int .i64 0) (.slice none 0 0)
  rw [hz0] at N1
  clear hz0
  generalize W0.alloc (.cells #[.int .i64 0, .slice none 0 0] 24) = W1 at *
  clear B0 P0
  obtain ⟨m, hm⟩ : ∃ m, es.length = m := ⟨_, rfl⟩
  have HM : Hid _ := hm
  rw [hm] at hmk P1 hlen ⊢
  clear hm
  go_cut [5] (fun v5 wc => ∃ (B5 G : Nat), v5 = .pointer (some ⟨B5, 0, none⟩) ∧ Bn wc B5 (.int .i64 N) (.slice (some ⟨G, 0, none⟩) m m) ∧ Er wc G m (fun _ => (0, 0, 0)) ∧ G ≠ B5 ∧ W1.heap.size ≤ B5 ∧ W1.heap.size ≤ G ∧ Below W1.heap.size W1 wc)
  case first =>
    obtain ⟨p0, p1⟩ := P1.out
    go_region_held3 (fun w' => w'.cell? ⟨w.heap.size, 0, none⟩ = some (.int .i64 N) ∧ w'.cell? ⟨w.heap.size, 1, none⟩ = some (.slice a0 m c0)) (first | go_keep | fail)
      (fail)
    all_goals
      go_wp2_with fail
      go_meet
      first
        | exact ⟨W1.heap.size + 1, W1.heap.size, rfl, bn_second _ _ _ _, er_first _ _ _, by omega, by omega, Nat.le_refl _, Below.drew (balloc (balloc (Below.refl _ _) _) _)⟩
        | exact ⟨W1.heap.size, W1.heap.size + 1, rfl, bn_first _ _ _ _, er_second _ _ _, by omega, Nat.le_refl _, by omega, Below.drew (balloc (balloc (Below.refl _ _) _) _)⟩
  case rest =>
    obtain ⟨B5, G, rfl, n5, r5, hne, hB5, hG, hbc⟩ := hcut
    have N5 : Hid _ := n5
    have R5 : Hid _ := r5
    have NE : Hid _ := hne
    have L1 : Hid _ := hB5
    have L2 : Hid _ := hG
    have B5' : Hid (Below W1.heap.size W1 wc) := hbc
    have SW : Hid (w.heap.size ≤ W1.heap.size) := B1.out.size
    obtain ⟨p0, p1⟩ := P1.out.below hbc
    clear n5 r5 hne hB5 hG hbc hmk
    go_wp2_with fail
    clear p0 p1
    go_loopw [18] (fun z wr => ∃ k : Nat, z = .int .i64 k ∧ k ≤ m ∧ Bn wr B5 (.int .i64 N) (.slice (some ⟨G, 0, none⟩) m m) ∧ Er wr G m (lk3 hs es k) ∧ Below W1.heap.size W1 wr) (fun z _ => m - (intOf z).toNat)
    case atStart => exact ⟨0, rfl, Nat.zero_le _, N5.out, R5.out.congr (fun i _ => by unfold lk3; rw [if_neg (by omega)]), B5'.out⟩
    case round =>
      obtain ⟨k, rfl, hk, hbn, her, hbr⟩ := hrel
      have HBN : Hid _ := hbn
      have HER : Hid _ := her
      have HBR : Hid (Below W1.heap.size W1 wr) := hbr
      clear hbn her hbr N5 R5 B5'
      by_cases hlt : k < m
      · have hki : (k : Int) < (m : Int) := by omega
        have hlt' : k < es.length := by have := HM.out; omega
        obtain ⟨b, off, cap, hveq, hc⟩ := ((HV.out.below B1.out).below HBR.out).some' (by omega)
        rw [HM.out] at hveq
        simp only [Value.slice.injEq] at hveq
        obtain ⟨rfl, -, rfl⟩ := hveq
        obtain ⟨e0, e1, e2⟩ := hc k hlt'
        clear hc
        have hok := HB.out.ok _ (mem_at hlt')
        obtain ⟨p, hpe⟩ : ∃ p, at3 es k = p := ⟨_, rfl⟩
        have HPE : Hid _ := hpe
        rw [hpe] at e0 e1 e2 hok
        clear hpe
        obtain ⟨x, y, c⟩ := p
        simp only at e0 e1 e2 hok
        obtain ⟨ok1, ok2, ok3, ok4, ok5, ok6⟩ := hok
        obtain ⟨x, rfl⟩ := Int.eq_ofNat_of_zero_le ok1
        obtain ⟨y, rfl⟩ := Int.eq_ofNat_of_zero_le ok3
        have hxN : x < hs.length := by have := HN.out; omega
        have hyN : y < hs.length := by have := HN.out; omega
        have hxi : (x : Int) < (hs.length : Int) := by omega
        have hyi : (y : Int) < (hs.length : Int) := by omega
        have hx := HH.out x (by have := HN.out; omega)
        have hy := HH.out y (by have := HN.out; omega)
        obtain ⟨hx0, hx1⟩ := hx
        obtain ⟨hy0, hy1⟩ := hy
        have HL : Hid (lvl hs (at3 es k) = ((x : Int), (y : Int), c + hs.getD x 0 - hs.getD y 0)) := by
          rw [HPE.out]; unfold Hid lvl; simp
        obtain ⟨hb', hoff, hcap, hueq, hcu⟩ := (((HU.out.below B1.out).below HBR.out).below (balloc (Below.refl _ _) (.cells #[.int .i64 x, .int .i64 y, .int .i64 c] 50))).some' (by omega)
        simp only [Value.slice.injEq] at hueq
        obtain ⟨rfl, -, rfl⟩ := hueq
        have cx := hcu x hxN
        have cy := hcu y hyN
        clear hcu
        have HBN2 : Hid _ := HBN.out.below (balloc (Below.refl _ _) (.cells #[.int .i64 x, .int .i64 y, .int .i64 c] 50))
        have HER2 : Hid _ := HER.out.below (balloc (Below.refl _ _) (.cells #[.int .i64 x, .int .i64 y, .int .i64 c] 50))
        have HBR2 : Hid (Below W1.heap.size W1 (wr.alloc (.cells #[.int .i64 x, .int .i64 y, .int .i64 c] 50))) := balloc HBR.out _
        obtain ⟨y0, y1, y2⟩ := box3_new wr x y (.int .i64 c) 50
        obtain ⟨n0, n1⟩ := HBN2.out.cell
        obtain ⟨t0, t1, t2⟩ := HER2.out.cell k hlt
        have f0 := HER2.out.frozen (k * 3)
        have f1 := HER2.out.frozen (k * 3 + 1)
        have f2 := HER2.out.frozen (k * 3 + 2)
        generalize hs.getD x 0 = dx at *
        generalize hs.getD y 0 = dy at *
        have PUT : Hid _ := HER2.out.put3 (f' := lk3 hs es (k + 1)) k hlt x y (c + dx - dy) (by intro i hi; exact lk3_next HL.out i (by have := HM.out; omega))
        go_wp2_with fail
        clear e0 e1 e2
        have GL : Hid (G < wr.heap.size) := HER.out.lt
        have HBL : Hid (hb' < w.heap.size) := by
          obtain ⟨b2, o2, c2, hq, hcq⟩ := HU.out.some' (by omega)
          simp only [Value.slice.injEq, Option.some.injEq, Addr.mk.injEq] at hq
          obtain ⟨⟨rfl, rfl, -⟩, -, rfl⟩ := hq
          exact World.block_lt_of_cell? w ⟨hb', hoff + x, none⟩ (hcq x hxN)
        have BNX : Hid (B5 < wr.heap.size) := HBN.out.lt
        generalize wr.alloc (.cells #[.int .i64 x, .int .i64 y, .int .i64 c] 50) = W7 at *
        obtain ⟨Y, hY⟩ : ∃ Y, wr.heap.size = Y := ⟨_, rfl⟩
        rw [hY] at y0 y1 y2 GL ⊢
        clear hY
        have hw1 : IntKind.i64.wrap (c + dx) = c + dx := by rw [IntKind.wrap_i64]; omega
        have hw2 : IntKind.i64.wrap (c + dx - dy) = c + dx - dy := by rw [IntKind.wrap_i64]; omega
        have KEEP : Hid (((((W7.setCell ⟨G, k * 3, none⟩ (.int .i64 x)).setCell ⟨G, k * 3 + 1, none⟩ (.int .i64 y)).setCell ⟨G, k * 3 + 2, none⟩ (.int .i64 (c + dx - dy))).drew) |> fun w' => w'.cell? ⟨B5, 1, none⟩ = some (.slice (some ⟨G, 0, none⟩) m m) ∧ w'.cell? ⟨Y, 0, none⟩ = some (.int .i64 x) ∧ w'.cell? ⟨Y, 1, none⟩ = some (.int .i64 y) ∧ w'.cell? ⟨Y, 2, none⟩ = some (.int .i64 c) ∧ w'.cell? ⟨hb', hoff + x, none⟩ = some (.int .i64 dx) ∧ w'.cell? ⟨hb', hoff + y, none⟩ = some (.int .i64 dy)) := by
          have q1 : B5 ≠ G := fun h => NE.out h.symm
          have q2 : Y ≠ G := by have := GL.out; omega
          have q3 : hb' ≠ G := by have := HBL.out; have := L2.out; have := SW.out; omega
          have put : ∀ (b o : Nat) (u : Value), b ≠ G → W7.cell? ⟨b, o, none⟩ = some u → ((((W7.setCell ⟨G, k * 3, none⟩ (.int .i64 x)).setCell ⟨G, k * 3 + 1, none⟩ (.int .i64 y)).setCell ⟨G, k * 3 + 2, none⟩ (.int .i64 (c + dx - dy))).drew).cell? ⟨b, o, none⟩ = some u := fun b o u hne h => cput hne (cput hne (cput hne h))
          exact ⟨put _ _ _ q1 n1, put _ _ _ q2 y0, put _ _ _ q2 y1, put _ _ _ q2 y2, put _ _ _ q3 cx, put _ _ _ q3 cy⟩
        go_region_held3 (fun w' => w'.cell? ⟨B5, 1, none⟩ = some (.slice (some ⟨G, 0, none⟩) m m) ∧ w'.cell? ⟨Y, 0, none⟩ = some (.int .i64 x) ∧ w'.cell? ⟨Y, 1, none⟩ = some (.int .i64 y) ∧ w'.cell? ⟨Y, 2, none⟩ = some (.int .i64 c) ∧ w'.cell? ⟨hb', hoff + x, none⟩ = some (.int .i64 dx) ∧ w'.cell? ⟨hb', hoff + y, none⟩ = some (.int .i64 dy)) (first | exact KEEP.out | go_keep)
          (fail)
        all_goals
          go_wp2_with fail
          go_roundw
          case rel =>
            refine ⟨k + 1, by go_num, by omega, ?_, PUT.out.below (Below.drew (Below.refl _ _)), ?_⟩
            · exact (((HBN2.out.other (fun h => NE.out h.symm)).other (fun h => NE.out h.symm)).other (fun h => NE.out h.symm)).below (Below.drew (Below.refl _ _))
            · exact Below.drew (Below.setCell (Below.setCell (Below.setCell HBR2.out (by have := L2.out; simpa using this) _) (by have := L2.out; simpa using this) _) (by have := L2.out; simpa using this) _)
          case measure => simp [intOf]; omega
      · have hke : k = m := by omega
        subst hke
        obtain ⟨n0, n1⟩ := HBN.out.cell
        have NR : Hid _ := N1.out.below HBR.out
        have NL : Hid _ := N1.out.lt
        obtain ⟨r0, r1⟩ := NR.out.cell
        obtain ⟨s0, s1⟩ := NR.out.frozen
        go_wp2_with fail
        have GR : Hid (w.heap.size + 1 < G) := by have := NL.out; have := L2.out; unfold Hid; omega
        have RR : Hid (Er ((wr.setCell ⟨w.heap.size + 1, 0, none⟩ (.int .i64 N)).setCell ⟨w.heap.size + 1, 1, none⟩ (.slice (some ⟨G, 0, none⟩) k k)) G k (fun i => lvl hs (at3 es i))) := by
          have hne : G ≠ w.heap.size + 1 := by have := GR.out; omega
          refine Er.frame (w := wr) (HER.out.congr (fun i hi => by unfold lk3; rw [if_pos hi])) ?_
          rw [Below.heap_setCell _ _ _ _ hne, Below.heap_setCell _ _ _ _ hne]
        have BF : Hid (Below w.heap.size w ((wr.setCell ⟨w.heap.size + 1, 0, none⟩ (.int .i64 N)).setCell ⟨w.heap.size + 1, 1, none⟩ (.slice (some ⟨G, 0, none⟩) k k))) := Below.setCell (Below.setCell (bthen B1.out HBR.out) (by simp) _) (by simp) _
        have q0 : ((wr.setCell ⟨w.heap.size + 1, 0, none⟩ (.int .i64 N)).setCell ⟨w.heap.size + 1, 1, none⟩ (.slice (some ⟨G, 0, none⟩) k k)).heap[w.heap.size + 1]? = some (.cells #[.int .i64 N, .slice (some ⟨G, 0, none⟩) k k] 24 (0, 0)) := (heap_setCell_same _ _ _ _ _ _ _ (heap_setCell_same _ _ _ _ _ _ _ NR.out.at_)).trans rfl
        rw [HM.out]
        generalize (wr.setCell ⟨w.heap.size + 1, 0, none⟩ (.int .i64 N)).setCell ⟨w.heap.size + 1, 1, none⟩ (.slice (some ⟨G, 0, none⟩) k k) = WF at *
        have Q0 : Hid _ := (Bn.mk q0).cell
        obtain ⟨z0, z1⟩ := Q0.out
        clear q0
        refine bodyPost_ret (v := .agg #[.int .i64 N, .slice (some ⟨G, 0, none⟩) k k]) ?_ rfl ⟨G, rfl, by have := GR.out; omega, RR.out, BF.out⟩
        simp [results, Try.results43, go_sem, z0, z1]
end Go.Proofs.Ytlmichnnpameeaa
