/-
  Contract: span.priced: the edges by their numbers, each with its cost.
-/
import Derived.Test.YtdgihpegdcoilaaNA
import Derived.Test.YtdgihpegdcoilaaKk
import Derived.Test.YtdgihpegdcoilaaHeapG
import Derived.Laws.MakeOwn
namespace Go.Proofs.Ytdgihpegdcoilaa
open Go.RowKit
open Nm Kk

/-- A row of pops, as a whole. -/
structure Pr (w : World) (g cap : Nat) (ps : List (Int × Int)) : Prop where
  row : So.Row w g cap ps
theorem Pr.below {w w' : World} {g cap : Nat} {ps : List (Int × Int)} (h : Pr w g cap ps) (hb : Below w.heap.size w w') : Pr w' g cap ps := ⟨h.row.frame (hb.block _ h.row.lt)⟩
theorem Pr.frame {w w' : World} {g cap : Nat} {ps : List (Int × Int)} (h : Pr w g cap ps) (hb : w'.heap[g]? = w.heap[g]?) : Pr w' g cap ps := ⟨h.row.frame hb⟩
/-- The first k are written. -/
def pw (es : List E) (k : Nat) : List (Int × Int) := (List.range es.length).map (fun i => if i < k then (cs es i, (i : Int)) else (0, 0))
theorem pw_length (es : List E) (k : Nat) : (pw es k).length = es.length := by simp [pw]
theorem pw_all (es : List E) : pw es es.length = prc es := by
  unfold pw prc
  apply List.map_congr_left
  intro i hi
  rw [if_pos (by simpa using hi)]
theorem pw_at (es : List E) (k i : Nat) (h : i < es.length) : (pw es k)[i]? = some (if i < k then (cs es i, (i : Int)) else (0, 0)) := by
  unfold pw; rw [List.getElem?_map, List.getElem?_range h]; rfl
theorem pw_next (es : List E) (k : Nat) (h : k < es.length) : (pw es k).set k (cs es k, (k : Int)) = pw es (k + 1) := by
  apply List.ext_getElem?
  intro i
  rcases Nat.lt_or_ge i es.length with hi | hi
  · rw [List.getElem?_set, pw_at _ _ _ hi, pw_at _ _ _ hi]
    by_cases e : k = i
    · subst e; rw [if_pos rfl, if_pos (by rw [pw_length]; exact h), if_pos (by omega)]
    · rw [if_neg e]
      by_cases h3 : i < k
      · rw [if_pos h3, if_pos (by omega)]
      · rw [if_neg h3, if_neg (by omega)]
  · rw [List.getElem?_eq_none (by rw [List.length_set, pw_length]; exact hi), List.getElem?_eq_none (by rw [pw_length]; exact hi)]
theorem pw_none (es : List E) : pw es 0 = List.replicate es.length (0, 0) := by
  unfold pw
  apply List.ext_getElem
  · simp
  · intro i h1 h2
    simp
theorem zeros_made (n : Nat) : (madeCells #[Value.int .i64 0, Value.int .i64 0] (n * 2)).toList = So.flat (List.replicate n (0, 0)) := by
  apply List.ext_getElem?
  intro i
  by_cases h : i < n * 2
  · have h1 : (madeCells #[Value.int .i64 0, Value.int .i64 0] (n * 2)).toList[i]? = some (.int .i64 0) := by
      simp only [madeCells, Array.toList_map, Array.toList_range, List.getElem?_map, List.getElem?_range h, Option.map_some]
      rcases (show i % 2 = 0 ∨ i % 2 = 1 by omega) with e | e <;> simp [e]
    have f := So.flat_get (List.replicate n ((0 : Int), (0 : Int))) (i / 2) (by simp; omega)
    have e0 : So.Hq.at' (List.replicate n ((0 : Int), (0 : Int))) (i / 2) = (0, 0) := by
      unfold So.Hq.at'; simp [List.getD_eq_getElem?_getD, List.getElem?_replicate]; split <;> rfl
    rw [e0] at f
    rw [h1]
    rcases (show i = i / 2 * 2 ∨ i = i / 2 * 2 + 1 by omega) with e | e
    · rw [e]; exact f.1.symm
    · rw [e]; exact f.2.symm
  · rw [List.getElem?_eq_none (by simp [madeCells]; omega), List.getElem?_eq_none (by rw [So.flat_length]; simp; omega)]
theorem made_pops (n : Nat) (hn : n ≤ 600) (w : World) : (Instr.makeSlice 66 (.int .i64 n) (.int .i64 n)).run Try.prog w = .ok (.slice (some ⟨w.heap.size, 0, none⟩) n n) (w.alloc (.cells (So.flat (List.replicate n (0, 0))).toArray 68)) := by
  obtain ⟨i, hi, hz, hs, hb⟩ := info_parts So.info32
  have := run_makeSlice (P := Try.prog) w 66 68 i _ Try.underlying66 hi hz .i64 .i64 n n (by omega) (by omega) (by rw [hs]; omega) (by rw [hb]; omega) (by omega)
  rw [hs] at this
  simp only [Int.toNat_natCast] at this
  rw [this, ← zeros_made]
  rfl
theorem pr_new (w : World) (n : Nat) (hn : n ≤ 600) : Pr (w.alloc (.cells (So.flat (List.replicate n (0, 0))).toArray 68)) w.heap.size n (List.replicate n (0, 0)) :=
  ⟨⟨_, heap_alloc_new _ _, by simp, by unfold maxLen; omega, by simp [So.flat_length], by rw [List.take_of_length_le (by rw [So.flat_length]; simp)]⟩⟩

set_option maxRecDepth 100000 in
set_option maxHeartbeats 8000000 in
theorem priced_any (n : Int) (v : Value) (es : List E) (w : World) (hv : SlE w v es) (hlen : es.length ≤ 600) :
    Calls Try.prog 53 #[.agg #[.int .i64 n, v]] w fun e w' => ∃ g, e = .returned (.slice (some ⟨g, 0, none⟩) es.length es.length) ∧ w.heap.size ≤ g ∧ Pr w' g es.length (prc es) ∧ Below w.heap.size w w' := by
  obtain ⟨a0, c0, rfl⟩ := hv.val
  have HV : Hid _ := hv
  clear hv
  have hmk := made_pops es.length hlen
  have hn0 : ¬ (es.length : Int) < 0 := by omega
  go_enter Try.func53, Try.ntmps53
  go_wp2_with fail
  have P0 : Hid _ := box2_new w n (.slice a0 es.length c0) 35
  have B0 : Hid (Below w.heap.size w (w.alloc (.cells #[.int .i64 n, .slice a0 es.length c0] 35))) := balloc (Below.refl _ _) _
  obtain ⟨g, hgg⟩ : ∃ g, w.heap.size + 1 = g := ⟨_, rfl⟩
  rw [hgg]
  have hg : w.heap.size ≤ g := by omega
  have hW0 : (w.alloc (.cells #[.int .i64 n, .slice a0 es.length c0] 35)).heap.size = g := by simp [hgg]
  generalize w.alloc (.cells #[.int .i64 n, .slice a0 es.length c0] 35) = W0 at *
  have R1 : Hid _ := pr_new W0 es.length hlen
  have B1 : Hid (Below w.heap.size w (W0.alloc (.cells (So.flat (List.replicate es.length (0, 0))).toArray 68))) := balloc B0.out _
  generalize W0.alloc (.cells (So.flat (List.replicate es.length (0, 0))).toArray 68) = W1 at *
  rw [← pw_none] at R1
  rw [hW0] at R1
  clear hgg hW0 hmk P0 B0
  go_loopw [13] (fun z wr => ∃ k : Nat, z = .int .i64 k ∧ k ≤ es.length ∧ Pr wr g es.length (pw es k) ∧ Below w.heap.size w wr) (fun z _ => es.length - (intOf z).toNat)
  case atStart => exact ⟨0, rfl, Nat.zero_le _, R1.out, B1.out⟩
  case round =>
    clear R1 B1
    obtain ⟨k, rfl, hk, hp, hb⟩ := hrel
    have HP : Hid _ := hp
    have HB : Hid (Below w.heap.size w wr) := hb
    clear hp hb
    by_cases hlt : k < es.length
    · have hki : (k : Int) < (es.length : Int) := by omega
      obtain ⟨b, off, cap, hveq, hc⟩ := (HV.out.below HB.out).some' (by omega)
      simp only [Value.slice.injEq] at hveq
      obtain ⟨rfl, -, rfl⟩ := hveq
      obtain ⟨d0, d1, d2⟩ := hc k hlt
      clear hc
      have HN : Hid _ := pw_next es k hlt
      obtain ⟨p, hp⟩ : ∃ p, at3 es k = p := ⟨_, rfl⟩
      unfold cs at HN
      rw [hp] at d0 d1 d2 HN
      obtain ⟨x, y, z⟩ := p
      simp only at d0 d1 d2 HN
      clear hp
      have hln : k < (pw es k).length := by rw [pw_length]; exact hlt
      obtain ⟨r0, r1, r2, r3⟩ := (HP.out.below (balloc (Below.refl _ _) (.cells #[.int .i64 x, .int .i64 y, .int .i64 z] 50))).row.cell k hln
      have HPB : Hid _ := HP.out.below (balloc (Below.refl _ _) (.cells #[.int .i64 x, .int .i64 y, .int .i64 z] 50))
      clear hln
      go_wp2_with fail
      go_roundw
      case rel =>
        refine ⟨k + 1, by go_num, by omega, ⟨?_⟩, Below.setCell (Below.setCell (balloc HB.out _) hg _) hg _⟩
        have := HPB.out.row.put k z k
        rw [HN.out] at this
        exact this
      case measure => simp [intOf]; omega
    · obtain rfl : k = es.length := by omega
      rw [pw_all] at HP
      go_wp2_with fail
      go_ret
      exact ⟨g, rfl, hg, HP.out, HB.out⟩
end Go.Proofs.Ytdgihpegdcoilaa
