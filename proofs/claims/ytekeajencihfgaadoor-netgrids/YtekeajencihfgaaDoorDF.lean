/-
  Edges as they are read; slices.Equal of edges that are the same; slices.Contains of an edge that is there.
-/
import Derived.Test.YtekeajencihfgaaDoorDD
namespace Go.Proofs.YtekeajencihfgaaDoor
open Go.RowKit
open Gm

def at3 (l : List (Int × Int × Int)) (i : Nat) : Int × Int × Int := l.getD i (0, 0, 0)
theorem flat3_length (ps : List (Int × Int × Int)) : (flat3 ps).length = ps.length * 3 := by
  induction ps with
  | nil => rfl
  | cons p r ih => simp [flat3, ih]; omega
theorem flat3_get (ps : List (Int × Int × Int)) (i : Nat) (h : i < ps.length) : (flat3 ps)[i * 3]? = some (.int .i64 (at3 ps i).1) ∧ (flat3 ps)[i * 3 + 1]? = some (.int .i64 (at3 ps i).2.1) ∧ (flat3 ps)[i * 3 + 2]? = some (.int .i64 (at3 ps i).2.2) := by
  induction ps generalizing i with
  | nil => simp at h
  | cons p r ih =>
    cases i with
    | zero => exact ⟨rfl, rfl, rfl⟩
    | succ i =>
      have := ih i (by simpa using h)
      have e1 : (i + 1) * 3 = i * 3 + 1 + 1 + 1 := by omega
      have e2 : (i + 1) * 3 + 1 = i * 3 + 1 + 1 + 1 + 1 := by omega
      have e3 : (i + 1) * 3 + 2 = i * 3 + 2 + 1 + 1 + 1 := by omega
      rw [e3, e2, e1]
      simp only [flat3, List.getElem?_cons_succ]
      exact this

/-- A slice of edges, as it is read. -/
structure SlE (w : World) (v : Value) (es : List (Int × Int × Int)) : Prop where
  is : (∃ (a : Option Addr) (c : Nat), (v = .slice a 0 c) ∧ (es = [])) ∨ ∃ (g cap : Nat), (v = .slice (some ⟨g, 0, none⟩) es.length cap) ∧ (∀ i, i < es.length → w.cell? ⟨g, i * 3, none⟩ = some (.int .i64 (at3 es i).1) ∧ w.cell? ⟨g, i * 3 + 1, none⟩ = some (.int .i64 (at3 es i).2.1) ∧ w.cell? ⟨g, i * 3 + 2, none⟩ = some (.int .i64 (at3 es i).2.2))
theorem SlE.no {w : World} {v : Value} {es : List (Int × Int × Int)} (a : Option Addr) (c : Nat) (h : v = .slice a 0 c) (e : es = []) : SlE w v es := ⟨.inl ⟨a, c, h, e⟩⟩
theorem SlE.row {w : World} {v : Value} {es : List (Int × Int × Int)} (g cap : Nat) (h : v = .slice (some ⟨g, 0, none⟩) es.length cap) (hc : ∀ i, i < es.length → w.cell? ⟨g, i * 3, none⟩ = some (.int .i64 (at3 es i).1) ∧ w.cell? ⟨g, i * 3 + 1, none⟩ = some (.int .i64 (at3 es i).2.1) ∧ w.cell? ⟨g, i * 3 + 2, none⟩ = some (.int .i64 (at3 es i).2.2)) : SlE w v es := ⟨.inr ⟨g, cap, h, hc⟩⟩
theorem Es.sl {w : World} {base : Nat} {v : Value} {es : List (Int × Int × Int)} (h : Es w base v es) : SlE w v es := by
  rcases h.own.2 with ⟨rfl, h0⟩ | ⟨g, cap, cur, rfl, _, h1, h2, h3, h4, h5⟩
  · exact .no _ _ rfl (List.length_eq_zero_iff.1 h0)
  · refine .row g cap rfl (fun i hi => ?_)
    obtain ⟨f1, f2, f3⟩ := flat3_get es i hi
    have k1 : cur[i * 3]? = some (.int .i64 (at3 es i).1) := by
      rw [← f1, ← h5, List.getElem?_take_of_lt (by omega), Array.getElem?_toList]
    have k2 : cur[i * 3 + 1]? = some (.int .i64 (at3 es i).2.1) := by
      rw [← f2, ← h5, List.getElem?_take_of_lt (by omega), Array.getElem?_toList]
    have k3 : cur[i * 3 + 2]? = some (.int .i64 (at3 es i).2.2) := by
      rw [← f3, ← h5, List.getElem?_take_of_lt (by omega), Array.getElem?_toList]
    simp [World.cell?, h1, k1, k2, k3]
theorem SlE.below {w w' : World} {v : Value} {es : List (Int × Int × Int)} (h : SlE w v es) (hb : Below w.heap.size w w') : SlE w' v es := by
  rcases h.is with ⟨a, c, h, e⟩ | ⟨g, cap, hv, hc⟩
  · exact .no a c h e
  · exact .row g cap hv (fun i hi => ⟨kept hb (hc i hi).1, kept hb (hc i hi).2.1, kept hb (hc i hi).2.2⟩)
theorem SlE.drewN {w : World} {v : Value} {es : List (Int × Int × Int)} (h : SlE w v es) (q : Nat) : SlE (w.drewN q) v es := by
  rcases h.is with ⟨a, c, h, e⟩ | ⟨g, cap, hv, hc⟩
  · exact .no a c h e
  · exact .row g cap hv hc
theorem SlE.val {w : World} {v : Value} {es : List (Int × Int × Int)} (h : SlE w v es) : ∃ a c, v = .slice a es.length c := by
  rcases h.is with ⟨a, c, rfl, rfl⟩ | ⟨g, cap, rfl, _⟩
  · exact ⟨_, _, rfl⟩
  · exact ⟨_, _, rfl⟩
theorem SlE.some' {w : World} {v : Value} {es : List (Int × Int × Int)} (h : SlE w v es) (hl : 0 < es.length) : ∃ g cap, v = .slice (some ⟨g, 0, none⟩) es.length cap ∧ ∀ i, i < es.length → w.cell? ⟨g, i * 3, none⟩ = some (.int .i64 (at3 es i).1) ∧ w.cell? ⟨g, i * 3 + 1, none⟩ = some (.int .i64 (at3 es i).2.1) ∧ w.cell? ⟨g, i * 3 + 2, none⟩ = some (.int .i64 (at3 es i).2.2) := by
  rcases h.is with ⟨_, _, _, rfl⟩ | ⟨g, cap, hv, hc⟩
  · simp at hl
  · exact ⟨g, cap, hv, hc⟩

set_option maxRecDepth 100000 in
set_option maxHeartbeats 4000000 in
theorem eequal_yes (v u : Value) (es : List (Int × Int × Int)) (w : World) (hv : SlE w v es) (hu : SlE w u es) (hl : es.length ≤ 9223372036854775807) :
    Calls Tryd.prog 16 #[v, u] w fun e w' => e = .returned (.bool true) ∧ ∃ q, w' = w.drewN q := by
  obtain ⟨a, c, rfl⟩ := hv.val
  obtain ⟨a', c', rfl⟩ := hu.val
  have HV : Hid _ := hv
  have HU : Hid _ := hu
  clear hv hu
  go_enter Tryd.func16, Tryd.ntmps16
  go_wp2_with fail
  go_loopw [13] (fun x wr => ∃ k : Nat, x = .int .i64 k ∧ k ≤ es.length ∧ ∃ q, wr = w.drewN q) (fun x _ => es.length - (intOf x).toNat)
  case atStart => exact ⟨0, rfl, Nat.zero_le _, 0, rfl⟩
  case round =>
    obtain ⟨k, rfl, hk, q, rfl⟩ := hrel
    by_cases hlt : k < es.length
    · have hki : (k : Int) < (es.length : Int) := by omega
      obtain ⟨g, cap, hveq, hc⟩ := HV.out.some' (by omega)
      simp only [Value.slice.injEq] at hveq
      obtain ⟨rfl, -, rfl⟩ := hveq
      obtain ⟨h, cap', hueq, hd⟩ := HU.out.some' (by omega)
      simp only [Value.slice.injEq] at hueq
      obtain ⟨rfl, -, rfl⟩ := hueq
      obtain ⟨c0, c1, c2⟩ := hc k hlt
      obtain ⟨d0, d1, d2⟩ := hd k hlt
      clear hc hd
      generalize at3 es k = p at *
      obtain ⟨x, y, z⟩ := p
      simp only at c0 c1 c2 d0 d1 d2
      go_wp2_with fail
      go_quiet (fail)
      go_wp2
      go_roundw
      case rel => exact ⟨k + 1, by go_num, by omega, q + nq, rfl⟩
      case measure => simp [intOf]; omega
    · have hke : k = es.length := by omega
      subst hke
      go_wp2_with fail
      go_ret
      exact ⟨rfl, q, rfl⟩

end Go.Proofs.YtekeajencihfgaaDoor
