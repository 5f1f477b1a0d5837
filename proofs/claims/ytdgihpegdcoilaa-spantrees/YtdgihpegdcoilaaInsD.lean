/-
  Contracts: slices.Insert of one pop, into a row that has no room.
-/
import Derived.Test.YtdgihpegdcoilaaInsC
namespace Go.Proofs.Ytdgihpegdcoilaa.So
open Go.RowKit
open Hq

set_option maxRecDepth 100000 in
set_option maxHeartbeats 4000000 in
theorem ins_grow (base g cap i : Nat) (ps : List (Int × Int)) (vb : Nat) (x y : Int) (w : World) (hr : Row w g cap ps) (hbase : base ≤ w.heap.size) (hv : Box w vb (x, y)) (hi : i < ps.length) (hroom : cap < ps.length + 1) (hlen : ps.length + 1 ≤ 8796093022208) :
    Calls Try.prog 54 #[.slice (some ⟨g, 0, none⟩) ps.length cap, .int .i64 i, .slice (some ⟨vb, 0, none⟩) 1 1] w fun e w' => ∃ v', e = .returned v' ∧ w'.ownsRow base 68 2 v' (ps.length + 1) (flat (ps.take i ++ (x, y) :: ps.drop i)) ∧ Below base w w' := by
  obtain ⟨i0, hi0, hz0, hz1, hz2⟩ := info_parts info32
  have hlf := flat_length ps
  have hfc := hr.flat_cell
  have lg := hr.lt
  have lv := hv.lt
  have hcap : ps.length ≤ cap := by obtain ⟨cur, _, h, _⟩ := hr; exact h
  have hold : (Builtin.firstCells i0.size i (.slice (some ⟨g, 0, none⟩) i cap)).run Try.prog w.drew = .ok ((flat ps).take (i * 2)).toArray w.drew := by
    rw [hz1]
    exact run_firstCells_some w.drew 2 i ⟨g, 0, none⟩ i cap ((flat ps).take (i * 2)) (by rw [List.length_take, hlf]; omega) (fun j u hj => by
      have hadd : (⟨g, 0, none⟩ : Addr).add j = ⟨g, j, none⟩ := by unfold Addr.add; split <;> simp_all
      rw [hadd]
      rw [List.getElem?_take] at hj
      split at hj
      · exact hfc j u hj
      · cases hj)
  have hik : i + (ps.length + 1 - i) = ps.length + 1 := by omega
  have hkk : (ps.length : Int) + 1 - (i : Int) = ((ps.length + 1 - i : Nat) : Int) := by omega
  obtain ⟨G, hG⟩ : ∃ G, G = grownCap w (ps.length + 1) cap 68 := ⟨_, rfl⟩
  obtain ⟨ROW, hROW⟩ : ∃ ROW : Array Value, ROW = ((flat ps).take (i * 2)).toArray ++ Builtin.zeroCells (Value.agg #[.int .i64 0, .int .i64 0]).cells (ps.length + 1 - i) ++ Builtin.zeroCells (Value.agg #[.int .i64 0, .int .i64 0]).cells (G - (ps.length + 1)) := ⟨_, rfl⟩
  obtain ⟨W1, hW1⟩ : ∃ W1, W1 = w.drew.alloc (.cells ROW 68) := ⟨_, rfl⟩
  obtain ⟨N, hN⟩ : ∃ N, N = w.heap.size := ⟨_, rfl⟩
  have hrz : ∀ ty, (Builtin.append_ #[66, 3] ty #[.slice (some ⟨g, 0, none⟩) i cap, .int .i64 ((ps.length : Int) + 1 - (i : Int))]).run Try.prog w =
      .ok (.slice (some ⟨N, 0, none⟩) (ps.length + 1) G) W1 := fun ty => by
    have h := Lib.run_append_grow_zeros w 66 3 ty 68 i0 _ .i64 .i64 Try.underlying66 Try.underlying3 hi0 hz0 (some ⟨g, 0, none⟩) i cap _ hold (ps.length + 1 - i) (by omega) (by omega) (by omega) (by omega) (by rw [hz2]; omega) (by rw [hz2, hik]; exact growslice_fits hroom (by omega))
    rw [hik] at h
    rw [hkk, hN, hW1, hROW, hG]
    exact h
  have hGn : ps.length + 1 ≤ G := by rw [hG]; exact grownCap_ge w _ _ _
  have hGm : G ≤ maxLen := by rw [hG]; exact grownCap_le_maxLen w (ps.length + 1) cap 68 (by unfold maxLen; omega)
  have hzc : (Value.agg #[.int .i64 0, .int .i64 0]).cells.size = 2 := by kernel_rfl
  have hRs : ROW.size = G * 2 := by
    rw [hROW, Array.size_append, Array.size_append, size_zeroCells, size_zeroCells, hzc]
    simp [hlf]
    omega
  have hRt : ROW.toList.take (i * 2) = (flat ps).take (i * 2) := by
    have e : ((flat ps).take (i * 2)).length = i * 2 := by rw [List.length_take, hlf]; omega
    rw [hROW]
    simp only [Array.toList_append, List.append_assoc]
    exact List.take_left' e
  have hh1 : W1.heap[N]? = some (.cells ROW.toList.toArray 68 (0, 0)) := by
    rw [hW1, hN]
    exact (Array.getElem?_push_size ..)
  have hg1 : Below w.heap.size w W1 := by
    rw [hW1]
    exact ((Below.refl w.heap.size w).drew).alloc (Nat.le_refl _) _
  have hr1 : Row W1 g cap ps := hr.frame (hg1.block g lg)
  have hv1 : Box W1 vb (x, y) := hv.frame (hg1.block vb lv)
  have hNs : N < W1.heap.size := heap_lt hh1
  clear hROW hW1 hG
  have hcpA : ∀ ty dc, (Builtin.copy_ #[66, 66] ty #[.slice (some ⟨N, i * 2, none⟩) (ps.length + 1 - i) dc, .slice (some ⟨vb, 0, none⟩) 1 1]).run Try.prog W1 =
      .ok (goInt 1) (W1.setRow N (splice ROW.toList (i * 2) [.int .i64 x, .int .i64 y]).toArray) := fun ty dc =>
    run_copy2 W1 ty N (i * 2) (ps.length + 1 - i) dc ⟨vb, 0, none⟩ 1 1 1 _ [.int .i64 x, .int .i64 y] hh1 (by simp only [Nat.min_def]; split <;> omega) rfl (pair_news hv1)
      (by simp [hRs]; omega) (by simp [Value.oneCell'])
  have hL1 : (splice ROW.toList (i * 2) [.int .i64 x, .int .i64 y]).length = G * 2 := by
    rw [length_splice _ _ _ (by simp [hRs]; omega)]; simp [hRs]
  obtain ⟨W2, hW2⟩ : ∃ W2, W2 = W1.setRow N (splice ROW.toList (i * 2) [.int .i64 x, .int .i64 y]).toArray := ⟨_, rfl⟩
  have hh2 : W2.heap[N]? = some (.cells (splice ROW.toList (i * 2) [.int .i64 x, .int .i64 y]).toArray 68 (0, 0)) := by
    rw [hW2]; exact setRow_heap W1 N _ _ 68 _ hh1
  have hg2 : Below w.heap.size w W2 := by
    rw [hW2]
    exact hg1.grown (grown_setRow (grown_refl _ _)) (by omega) (fun k hk => by simp at hk; omega)
  have hr2 : Row W2 g cap ps := hr.frame (hg2.block g lg)
  rw [← hW2] at hcpA
  have hfc2 := hr2.flat_cell
  have hcpB : ∀ ty dc sc, (Builtin.copy_ #[66, 66] ty #[.slice (some ⟨N, (i + 1) * 2, none⟩) (ps.length - i) dc, .slice (some ⟨g, i * 2, none⟩) (ps.length - i) sc]).run Try.prog W2.drew =
      .ok (goInt ((ps.length - i : Nat) : Int)) (W2.drew.setRow N (splice (splice ROW.toList (i * 2) [.int .i64 x, .int .i64 y]) ((i + 1) * 2) ((flat ps).drop (i * 2))).toArray) := fun ty dc sc =>
    run_copy2 W2.drew ty N ((i + 1) * 2) (ps.length - i) dc ⟨g, i * 2, none⟩ (ps.length - i) sc (ps.length - i) _ ((flat ps).drop (i * 2)) hh2 (by simp only [Nat.min_def]; split <;> omega) (by simp [hlf]; omega)
      (fun j u hu => by
        have hadd : (⟨g, i * 2, none⟩ : Addr).add j = ⟨g, i * 2 + j, none⟩ := by unfold Addr.add; split <;> simp_all
        rw [List.getElem?_drop] at hu
        rw [hadd]
        exact hfc2 _ u hu)
      (by rw [hL1]; simp [hlf]; omega) (fun u hu => flat_one ps u (List.mem_of_mem_drop hu))
  have hbN : base ≤ N := by omega
  have HN : Hid (N = w.heap.size) := hN
  have HRZ : Hid _ := hrz
  have HCA : Hid _ := hcpA
  have HCB : Hid _ := hcpB
  have HH2 : Hid _ := hh2
  have HG2 : Hid _ := hg2
  clear hrz hcpA hcpB hh2 hg2 hW2 hh1 hg1 hr1 hv1 hr2 hfc hfc2 hv hr hold hkk hik hNs hN
  have hGm' := hGm
  unfold maxLen at hGm'
  have hii : (i : Int) < (ps.length : Int) := by omega
  have hic : (i : Int) ≤ (cap : Int) := by omega
  have hin : ((i : Int) == (ps.length : Int)) = false := beq_eq_false_iff_ne.2 (by omega)
  have hrm : (cap : Int) < (ps.length : Int) + 1 := by omega
  have hwi : IntKind.i64.wrap ((i : Int) + 1) = (i : Int) + 1 := by rw [IntKind.wrap_i64]; omega
  have hi1 : (0 : Int) ≤ (i : Int) + 1 := by omega
  have hi2 : i ≤ ps.length := by omega
  have hi3 : ¬ G = i + 1 := by omega
  have hi4 : ¬ G = i := by omega
  have hi5 : (i : Int) ≤ (ps.length : Int) + 1 := by omega
  have hi6 : ¬ cap = i := by omega
  have hi7 : (i : Int) ≤ (ps.length : Int) := by omega
  go_enter Try.func54, Try.ntmps54
  go_wp2_with (at_builtin; refine Lib.wpList_append_run _ rfl _ _ _ _ rfl _ _ rfl rfl _ _ (HRZ.out _) ?_)
  rw [HCA.out]
  go_wp2_with fail
  go_region_law (refine step_copy_known rfl _ _ 66 66 rfl (.slice (some ⟨N, (i + 1) * 2, none⟩) (ps.length - i) (G - (i + 1))) (.slice (some ⟨g, i * 2, none⟩) (ps.length - i) (cap - i)) (by simp [Act.eval, Act.put]) (by simp [Act.eval, Act.put]) (HCB.out _ _ _) ?_)
  go_wp2_with fail
  go_ret
  refine ⟨_, rfl, ?_, ((HG2.out.drew).mono hbase).grown (grown_setRow (grown_refl _ _)) (by have := HG2.out.size; have := HN.out; simp; omega) (fun k hk => by simp at hk; omega)⟩
  have hh3 := setRow_heap W2.drew N _ (splice (splice ROW.toList (i * 2) [.int .i64 x, .int .i64 y]) ((i + 1) * 2) ((flat ps).drop (i * 2))).toArray 68 _ HH2.out
  have hL : (splice (splice ROW.toList (i * 2) [.int .i64 x, .int .i64 y]) ((i + 1) * 2) ((flat ps).drop (i * 2))).length = G * 2 := by
    rw [length_splice _ _ _ (by rw [hL1]; simp [hlf]; omega), hL1]
  have hRow : Row (W2.drew.setRow N (splice (splice ROW.toList (i * 2) [.int .i64 x, .int .i64 y]) ((i + 1) * 2) ((flat ps).drop (i * 2))).toArray) N G (ps.take i ++ (x, y) :: ps.drop i) := by
    refine ⟨_, hh3, by simp; omega, hGm, by simpa using hL, ?_⟩
    have e1 : (ps.take i ++ (x, y) :: ps.drop i).length * 2 = ps.length * 2 + 2 := by simp; omega
    rw [e1, flat_ins ps i x y hi2, show (i + 1) * 2 = i * 2 + 2 by omega]
    exact splice_fill ROW.toList (flat ps) (i * 2) (ps.length * 2) _ _ (by omega) hlf hRt
  have ho := hRow.owns hbN
  have e2 : (ps.take i ++ (x, y) :: ps.drop i).length = ps.length + 1 := by simp; omega
  rw [e2] at ho
  exact ho

end Go.Proofs.Ytdgihpegdcoilaa.So
