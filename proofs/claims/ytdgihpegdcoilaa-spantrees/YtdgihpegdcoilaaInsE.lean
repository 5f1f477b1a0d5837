/-
  Contract: slices.Insert of one pop, into any row of the call's own.
-/
import Derived.Test.YtdgihpegdcoilaaInsD
namespace Go.Proofs.Ytdgihpegdcoilaa.So
open Go.RowKit
open Hq

theorem insert_any (base i : Nat) (out : Value) (ps : List (Int × Int)) (vb : Nat) (x y : Int) (w : World) (ho : w.ownsRow base 68 2 out ps.length (flat ps)) (hbase : base ≤ w.heap.size) (hv : Box w vb (x, y)) (hi : i ≤ ps.length) (hne : out.ownBlock ≠ some vb) (hlen : ps.length + 1 ≤ 8796093022208) :
    Calls Try.prog 54 #[out, .int .i64 i, .slice (some ⟨vb, 0, none⟩) 1 1] w fun e w' => ∃ v', e = .returned v' ∧ w'.ownsRow base 68 2 v' (ps.length + 1) (flat (ps.take i ++ (x, y) :: ps.drop i)) ∧ Below base w w' := by
  rcases ho.2 with ⟨rfl, h0⟩ | ⟨g, cap, cur, rfl, hb, _⟩
  · obtain rfl : ps = [] := by
      have := ho.1
      cases ps with
      | nil => rfl
      | cons p r => simp at h0
    obtain rfl : i = 0 := by simpa using hi
    exact ins_nil base vb x y w hbase hv
  · obtain ⟨hr, _⟩ := Row.of_owns rfl ho
    have hne' : vb ≠ g := fun e => hne (by rw [e]; rfl)
    rcases Nat.lt_or_ge i ps.length with h | h
    · rcases Nat.lt_or_ge cap (ps.length + 1) with h2 | h2
      · exact ins_grow base g cap i ps vb x y w hr hbase hv h h2 hlen
      · exact ins_shift base g cap i ps vb x y w hr hb hv h h2 hne' hlen
    · obtain rfl : i = ps.length := by omega
      have := ins_end base g cap ps vb x y w hr hb hv hlen
      simpa using this

end Go.Proofs.Ytdgihpegdcoilaa.So
