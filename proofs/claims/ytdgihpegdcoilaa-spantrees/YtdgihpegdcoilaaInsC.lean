/-
  Contracts: slices.Insert of one pop, into a row that has room.
-/
import Derived.Test.YtdgihpegdcoilaaInsB
namespace Go.Proofs.Ytdgihpegdcoilaa.So
open Go.RowKit
open Hq

set_option maxRecDepth 100000 in
set_option maxHeartbeats 4000000 in
theorem ins_shift (base g cap i : Nat) (ps : List (Int × Int)) (vb : Nat) (x y : Int) (w : World) (hr : Row w g cap ps) (hbg : base ≤ g) (hv : Box w vb (x, y)) (hi : i < ps.length) (hroom : ps.length + 1 ≤ cap) (hne : vb ≠ g) (hlen : ps.length + 1 ≤ 8796093022208) :
    Calls Try.prog 54 #[.slice (some ⟨g, 0, none⟩) ps.length cap, .int .i64 i, .slice (some ⟨vb, 0, none⟩) 1 1] w fun e w' => ∃ v', e = .returned v' ∧ w'.ownsRow base 68 2 v' (ps.length + 1) (flat (ps.take i ++ (x, y) :: ps.drop i)) ∧ Below base w w' := by
  have hfc := hr.flat_cell
  have lg := hr.lt
  obtain ⟨cur, hh, hc1, hc2, hc3, hc4⟩ := hr
  have hc2' := hc2
  unfold maxLen at hc2
  have hov : ∀ lb cb, (callFunc 60 #[.slice (some ⟨vb, 0, none⟩) 1 1, .slice (some ⟨g, (i + 1) * 2, none⟩) lb cb]).run Try.prog w = .ok (.value (.bool false)) w := fun lb cb => by
    have hvv : w.heap[vb]? = some (.cells #[.int .i64 x, .int .i64 y] 68 (0, 0)) := hv
    rw [run_callFunc_extern Try.func60 (by kernel_rfl) (by kernel_rfl) (by kernel_rfl) (e := Extern.SlicesOverlaps.overlaps #[66, 66] #[4]) (by kernel_rfl),
      Lib.run_overlaps_apart w 66 4 68 Try.underlying66 2 size43 ⟨vb, 0, none⟩ ⟨g, (i + 1) * 2, none⟩ 1 1 lb cb hne 68 68 2 (cap * 2) (by simp [World.shape?, hvv]) (by simp [World.shape?, hh, hc3]) (by omega) hv.cell.2.2.1 (by simp [World.frozen?, hvv])]
    rfl
  have HOV : Hid _ := hov
  clear hov
  have hlf := flat_length ps
  have hcp1 : ∀ ty dc sc, (Builtin.copy_ #[66, 66] ty #[.slice (some ⟨g, (i + 1) * 2, none⟩) (ps.length - i) dc, .slice (some ⟨g, i * 2, none⟩) (ps.length + 1 - i) sc]).run Try.prog w.drew =
      .ok (goInt ((ps.length - i : Nat) : Int)) (w.drew.setRow g (splice cur.toList ((i + 1) * 2) ((flat ps).drop (i * 2))).toArray) := fun ty dc sc =>
    run_copy2 w.drew ty g ((i + 1) * 2) (ps.length - i) dc ⟨g, i * 2, none⟩ (ps.length + 1 - i) sc (ps.length - i) cur.toList ((flat ps).drop (i * 2)) (show w.heap[g]? = _ by simpa using hh) (by simp only [Nat.min_def]; split <;> omega) (by simp [hlf]; omega)
      (fun j u hu => by
        have hadd : (⟨g, i * 2, none⟩ : Addr).add j = ⟨g, i * 2 + j, none⟩ := by unfold Addr.add; split <;> simp_all
        rw [List.getElem?_drop] at hu
        rw [hadd]
        exact hfc _ u hu)
      (by simp [hlf, hc3]; omega) (fun u hu => flat_one ps u (List.mem_of_mem_drop hu))
  have HC1 : Hid _ := hcp1
  have HH1 : Hid ((w.drew.setRow g (splice cur.toList ((i + 1) * 2) ((flat ps).drop (i * 2))).toArray).heap[g]? = some (.cells (splice cur.toList ((i + 1) * 2) ((flat ps).drop (i * 2))).toArray 68 (0, 0))) := setRow_heap w.drew g _ _ 68 _ hh
  have HG1 : Hid (w.grownBy (w.drew.setRow g (splice cur.toList ((i + 1) * 2) ((flat ps).drop (i * 2))).toArray) (some g)) := grown_setRow (grown_drew (grown_refl _ _))
  clear hcp1
  generalize hW1 : w.drew.setRow g (splice cur.toList ((i + 1) * 2) ((flat ps).drop (i * 2))).toArray = W1 at *
  clear hW1
  have hii : (i : Int) < (ps.length : Int) := by omega
  have hic : (i : Int) ≤ (cap : Int) := by omega
  have hin : ((i : Int) == (ps.length : Int)) = false := beq_eq_false_iff_ne.2 (by omega)
  have hrm : ¬ ((cap : Int) < (ps.length : Int) + 1) := by omega
  have hwi : IntKind.i64.wrap ((i : Int) + 1) = (i : Int) + 1 := by rw [IntKind.wrap_i64]; omega
  have HV1 : Hid (Box W1 vb (x, y)) := hv.frame (HG1.out.block vb hv.lt (by simpa using hne))
  have hcp2 : ∀ ty dc, (Builtin.copy_ #[66, 66] ty #[.slice (some ⟨g, i * 2, none⟩) (ps.length + 1 - i) dc, .slice (some ⟨vb, 0, none⟩) 1 1]).run Try.prog W1 =
      .ok (goInt 1) (W1.setRow g (splice (splice cur.toList ((i + 1) * 2) ((flat ps).drop (i * 2))) (i * 2) [.int .i64 x, .int .i64 y]).toArray) := fun ty dc =>
    run_copy2 W1 ty g (i * 2) (ps.length + 1 - i) dc ⟨vb, 0, none⟩ 1 1 1 _ [.int .i64 x, .int .i64 y] HH1.out (by simp only [Nat.min_def]; split <;> omega) rfl (pair_news HV1.out)
      (by rw [length_splice _ _ _ (by simp [hlf, hc3]; omega)]; simp [hc3]; omega) (by simp [Value.oneCell'])
  have HC2 : Hid _ := hcp2
  clear hcp2 hfc
  have hi1 : (0 : Int) ≤ (i : Int) + 1 := by omega
  have hi2 : i ≤ ps.length := by omega
  have hi3 : ¬ cap = i + 1 := by omega
  have hi4 : ¬ cap = i := by omega
  have hi5 : (i : Int) ≤ (ps.length : Int) + 1 := by omega
  go_enter Try.func54, Try.ntmps54
  go_wp2_with fail
  rw [HOV.out]
  go_wp2_with fail
  go_region_law (refine step_copy_known rfl _ _ 66 66 rfl (.slice (some ⟨g, (i + 1) * 2, none⟩) (ps.length - i) (cap - (i + 1))) (.slice (some ⟨g, i * 2, none⟩) (ps.length + 1 - i) (cap - i)) (by simp [Act.eval, Act.put]) (by simp [Act.eval, Act.put]) (HC1.out _ _ _) ?_)
  go_wp2_with fail
  rw [HC2.out]
  go_wp2_with fail
  go_ret
  refine ⟨_, rfl, ?_, (Below.refl _ _).grown (grown_setRow HG1.out) (by omega) (fun k hk => by simp at hk; omega)⟩
  have hh2 := setRow_heap W1 g _ (splice (splice cur.toList ((i + 1) * 2) ((flat ps).drop (i * 2))) (i * 2) [.int .i64 x, .int .i64 y]).toArray 68 _ HH1.out
  have hL : (splice (splice cur.toList ((i + 1) * 2) ((flat ps).drop (i * 2))) (i * 2) [.int .i64 x, .int .i64 y]).length = cap * 2 := by
    rw [length_splice _ _ _ (by rw [length_splice _ _ _ (by simp [hlf, hc3]; omega)]; simp [hc3]; omega), length_splice _ _ _ (by simp [hlf, hc3]; omega)]
    simp [hc3]
  have hRow : Row (W1.setRow g (splice (splice cur.toList ((i + 1) * 2) ((flat ps).drop (i * 2))) (i * 2) [.int .i64 x, .int .i64 y]).toArray) g cap (ps.take i ++ (x, y) :: ps.drop i) := by
    refine ⟨_, hh2, by simp; omega, hc2', by simpa using hL, ?_⟩
    have e1 : (ps.take i ++ (x, y) :: ps.drop i).length * 2 = ps.length * 2 + 2 := by simp; omega
    rw [e1, flat_ins ps i x y hi2, show (i + 1) * 2 = i * 2 + 2 by omega]
    exact splice_shift cur.toList (flat ps) (i * 2) (ps.length * 2) _ _ (by omega) hlf hc4 (by simp [hc3]; omega)
  have ho := hRow.owns hbg
  have e2 : (ps.take i ++ (x, y) :: ps.drop i).length = ps.length + 1 := by simp; omega
  rw [e2] at ho
  exact ho

end Go.Proofs.Ytdgihpegdcoilaa.So
