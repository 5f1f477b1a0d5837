/-
  Contracts: alone, check; a slice of pairs as it is read.
-/
import Derived.Test.YtdgihpegdcoilaaUA
import Derived.Laws.MakeOwn
namespace Go.Proofs.Ytdgihpegdcoilaa.Un
open Go.RowKit
open Uf

/-- Element number i. -/
def at' (l : List (Int × Int)) (i : Nat) : Int × Int := l.getD i (0, 0)
theorem take_succ_at (l : List (Int × Int)) (k : Nat) (h : k < l.length) : l.take (k + 1) = l.take k ++ [at' l k] := by
  rw [List.take_add_one, List.getElem?_eq_getElem h]
  simp [at', List.getD_eq_getElem?_getD, List.getElem?_eq_getElem h]
theorem at_mem (l : List (Int × Int)) (k : Nat) (h : k < l.length) : at' l k ∈ l := by
  simp [at', List.getD_eq_getElem?_getD, List.getElem?_eq_getElem h]

/-- A slice of pairs, as it is read: nil, or its pairs one behind the other. -/
structure SlR (w : World) (v : Value) (ls : List (Int × Int)) : Prop where
  is : (∃ (a : Option Addr) (c : Nat), (v = .slice a 0 c) ∧ (ls = [])) ∨ ∃ (b off cap : Nat), (v = .slice (some ⟨b, off, none⟩) ls.length cap) ∧ (∀ i, i < ls.length → w.cell? ⟨b, off + i * 2, none⟩ = some (.int .i64 (at' ls i).1) ∧ w.cell? ⟨b, off + i * 2 + 1, none⟩ = some (.int .i64 (at' ls i).2))
theorem SlR.no {w : World} {v : Value} {ls : List (Int × Int)} (a : Option Addr) (c : Nat) (h : v = .slice a 0 c) (e : ls = []) : SlR w v ls := ⟨.inl ⟨a, c, h, e⟩⟩
theorem SlR.row {w : World} {v : Value} {ls : List (Int × Int)} (b off cap : Nat) (h : v = .slice (some ⟨b, off, none⟩) ls.length cap) (hc : ∀ i, i < ls.length → w.cell? ⟨b, off + i * 2, none⟩ = some (.int .i64 (at' ls i).1) ∧ w.cell? ⟨b, off + i * 2 + 1, none⟩ = some (.int .i64 (at' ls i).2)) : SlR w v ls := ⟨.inr ⟨b, off, cap, h, hc⟩⟩

theorem SlR.below {w w' : World} {v : Value} {ls : List (Int × Int)} (h : SlR w v ls) (hb : Below w.heap.size w w') : SlR w' v ls := by
  rcases h.is with ⟨a, c, h, e⟩ | ⟨b, off, cap, hv, hc⟩
  · exact .no a c h e
  · exact .row b off cap hv (fun i hi => ⟨kept hb (hc i hi).1, kept hb (hc i hi).2⟩)
theorem SlR.val {w : World} {v : Value} {ls : List (Int × Int)} (h : SlR w v ls) : ∃ a c, v = .slice a ls.length c := by
  rcases h.is with ⟨a, c, rfl, rfl⟩ | ⟨b, off, cap, rfl, _⟩
  · exact ⟨_, _, rfl⟩
  · exact ⟨_, _, rfl⟩
theorem SlR.some' {w : World} {v : Value} {ls : List (Int × Int)} (h : SlR w v ls) (hl : 0 < ls.length) : ∃ b off cap, v = .slice (some ⟨b, off, none⟩) ls.length cap ∧ ∀ i, i < ls.length → w.cell? ⟨b, off + i * 2, none⟩ = some (.int .i64 (at' ls i).1) ∧ w.cell? ⟨b, off + i * 2 + 1, none⟩ = some (.int .i64 (at' ls i).2) := by
  rcases h.is with ⟨_, _, _, rfl⟩ | ⟨b, off, cap, hv, hc⟩
  · simp at hl
  · exact ⟨b, off, cap, hv, hc⟩
theorem SlR.drewN {w : World} {v : Value} {ls : List (Int × Int)} (h : SlR w v ls) (q : Nat) : SlR (w.drewN q) v ls := by
  rcases h.is with ⟨a, c, h, e⟩ | ⟨b, off, cap, hv, hc⟩
  · exact .no a c h e
  · exact .row b off cap hv hc

theorem madeOne (z : Value) (n : Nat) : madeCells #[z] n = Array.ofFn (n := n) fun _ => z := by
  apply Array.ext
  · simp [madeCells]
  · intro i h1 h2
    simp [madeCells, Nat.mod_one]

theorem info3 : (Try.prog.info? 3).map (fun i => (i.zero, i.size, i.bytes)) = some (some (.int .i64 0), 1, 8) := by kernel_rfl

theorem made_run (n : Nat) (hn : n ≤ 64) (w : World) : (Instr.makeSlice 23 (.int .i64 n) (.int .i64 n)).run Try.prog w = .ok (.slice (some ⟨w.heap.size, 0, none⟩) n n) (w.alloc (.cells (Array.ofFn (n := n) fun _ => .int .i64 0) 3)) := by
  obtain ⟨i, hi, hh⟩ := Option.map_eq_some_iff.1 info3
  simp only [Prod.mk.injEq] at hh
  obtain ⟨hz, hs, hb⟩ := hh
  have := run_makeSlice (P := Try.prog) w 23 3 i (.int .i64 0) Try.underlying23 hi hz .i64 .i64 n n (by omega) (by omega) (by rw [hs]; omega) (by rw [hb]; omega) (by omega)
  rw [hs] at this
  simp only [Int.toNat_natCast, Nat.mul_one] at this
  rw [this, ← madeOne]
  rfl

set_option maxRecDepth 100000 in
set_option maxHeartbeats 4000000 in
theorem alone_any (n : Nat) (w : World) (hn : n ≤ 64) :
    Calls Try.prog 34 #[.int .i64 n] w fun e w' => ∃ H, e = .returned (.pointer (some ⟨H, 0, none⟩)) ∧ w.heap.size < H ∧ w'.cell? ⟨H, 0, none⟩ = some (.slice (some ⟨w.heap.size, 0, none⟩) n n) ∧ Ur w' w.heap.size n id ∧ Below w.heap.size w w' := by
  have hmk := made_run n hn
  go_enter Try.func34, Try.ntmps34
  go_wp2_with fail
  go_loopw [9, 4] (fun x _ wr => ∃ k : Nat, x = .int .i64 k ∧ k ≤ n ∧ ∃ V, Ur wr w.heap.size n V ∧ (∀ i, i < k → V i = i) ∧ Below w.heap.size w wr) (fun x _ _ => n - (intOf x).toNat)
  case atStart => exact ⟨0, rfl, Nat.zero_le _, fun _ => 0, ⟨by rw [heap_alloc_new]; rfl⟩, fun i hi => absurd hi (by omega), balloc (Below.refl _ _) _⟩
  case round =>
    obtain ⟨k, rfl, hk, V, hv, hid, hb⟩ := hrel
    have HV : Hid _ := hv
    have HD : Hid _ := hid
    have HB : Hid _ := hb
    by_cases hlt : k < n
    · have hki : (k : Int) < (n : Int) := by omega
      obtain ⟨c0, f0⟩ := hv.cell k hlt
      clear hv hid hb
      go_wp2_with fail
      go_roundw
      case rel =>
        refine ⟨k + 1, by go_num, by omega, _, HV.out.put k k, fun i hi => ?_, Below.setCell HB.out (Nat.le_refl _) _⟩
        by_cases e : i = k
        · subst e; rw [upd_same]
        · rw [upd_other _ _ e]; exact HD.out i (by omega)
      case measure => simp [intOf]; omega
    · have hke : k = n := by omega
      subst hke
      clear hv hid hb
      go_wp2_with fail
      go_ret
      exact ⟨_, rfl, HV.out.lt, by unfold World.cell?; rw [heap_alloc_new]; rfl, (HV.out.congr HD.out).below (balloc (Below.refl _ _) _), balloc HB.out _⟩
end Go.Proofs.Ytdgihpegdcoilaa.Un
