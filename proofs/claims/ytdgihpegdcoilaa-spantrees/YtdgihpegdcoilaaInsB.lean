/-
  Contracts: slices.Insert of one pop.
-/
import Derived.Test.YtdgihpegdcoilaaInsA
import Derived.Deep.RegionLaw
namespace Go.Proofs.Ytdgihpegdcoilaa.So
open Go.RowKit
open Hq

theorem flat_one (l : List (Int × Int)) : ∀ u ∈ flat l, u.oneCell' = true := by
  induction l with
  | nil => simp [flat]
  | cons p r ih => simp [flat, Value.oneCell']; exact ih

theorem pair_news {w : World} {vb : Nat} {x y : Int} (hv : Box w vb (x, y)) : ∀ j u, ([.int .i64 x, .int .i64 y] : List Value)[j]? = some u → w.cell? ((⟨vb, 0, none⟩ : Addr).add j) = some u :=
  World.news_of_block (cs := #[.int .i64 x, .int .i64 y]) hv

set_option maxRecDepth 100000 in
set_option maxHeartbeats 4000000 in
theorem ins_nil (base : Nat) (vb : Nat) (x y : Int) (w : World) (hbase : base ≤ w.heap.size) (hv : Box w vb (x, y)) :
    Calls Try.prog 54 #[.slice none 0 0, .int .i64 0, .slice (some ⟨vb, 0, none⟩) 1 1] w fun e w' => ∃ v', e = .returned v' ∧ w'.ownsRow base 68 2 v' 1 (flat [(x, y)]) ∧ Below base w w' := by
  obtain ⟨i0, hi0, hz0, hz1, hz2⟩ := info_parts info32
  have HN : Hid _ := pair_news hv
  clear hv
  go_enter Try.func54, Try.ntmps54
  go_wp2_with (at_builtin; refine wpList_append_own_at _ rfl _ _ _ rfl base 68 i0 _ 2 16 Try.underlying66 hi0 hz0 hz1 hz2 rfl (by omega) (.slice none 0 0) 0 [] rfl (World.ownsRow_nil _ _ _ _) ⟨vb, 0, none⟩ 1 1 [.int .i64 x, .int .i64 y] rfl rfl HN.out (by simp [Value.oneCell']) (by unfold maxLen; omega) (by omega) hbase ?_; intro v' W4 hown4 hgrow4 hiff4 hat4)
  go_ret
  exact ⟨_, rfl, hown4, (Below.refl _ _).grown hgrow4 hbase (fun k hk => by simp [Value.ownBlock] at hk)⟩

set_option maxRecDepth 100000 in
set_option maxHeartbeats 4000000 in
theorem ins_end (base g cap : Nat) (ps : List (Int × Int)) (vb : Nat) (x y : Int) (w : World) (hr : Row w g cap ps) (hbg : base ≤ g) (hv : Box w vb (x, y)) (hlen : ps.length + 1 ≤ 8796093022208) :
    Calls Try.prog 54 #[.slice (some ⟨g, 0, none⟩) ps.length cap, .int .i64 ps.length, .slice (some ⟨vb, 0, none⟩) 1 1] w fun e w' => ∃ v', e = .returned v' ∧ w'.ownsRow base 68 2 v' (ps.length + 1) (flat (ps ++ [(x, y)])) ∧ Below base w w' := by
  obtain ⟨i0, hi0, hz0, hz1, hz2⟩ := info_parts info32
  have HN : Hid _ := pair_news hv
  have HO : Hid (w.ownsRow base 68 2 (.slice (some ⟨g, 0, none⟩) ps.length cap) ps.length (flat ps)) := hr.owns hbg
  have lg := hr.lt
  obtain ⟨cur, hh, hc1, hc2, hc3, hc4⟩ := hr
  have hci : (ps.length : Int) ≤ (cap : Int) := by omega
  unfold maxLen at hc2
  clear hv hh hc3 hc4 hc1
  go_enter Try.func54, Try.ntmps54
  go_wp2_with (at_builtin; refine wpList_append_own_at _ rfl _ _ _ rfl base 68 i0 _ 2 16 Try.underlying66 hi0 hz0 hz1 hz2 rfl (by omega) (.slice (some ⟨g, 0, none⟩) ps.length cap) ps.length (flat ps) rfl HO.out ⟨vb, 0, none⟩ 1 1 [.int .i64 x, .int .i64 y] rfl rfl HN.out (by simp [Value.oneCell']) (by unfold maxLen; omega) (by omega) (by omega) ?_; intro v' W4 hown4 hgrow4 hiff4 hat4)
  all_goals
    go_ret
    refine ⟨_, rfl, ?_, (Below.refl _ _).grown hgrow4 (by omega) (fun k hk => by simp [Value.ownBlock] at hk; omega)⟩
    rw [flat_append]
    exact hown4

theorem size43 (w : World) : (Go.sizeOf 68).run Try.prog w = .ok 2 w := by
  obtain ⟨i0, hi0, hz0, hz1, hz2⟩ := info_parts info32
  simp [Go.sizeOf, typeInfo, hi0, hz1]

theorem grown_setRow {a b : World} {g : Nat} {cs : Array Value} (h1 : a.grownBy b (some g)) : a.grownBy (b.setRow g cs) (some g) :=
  ⟨h1.os, h1.tape, h1.output, by simp [World.setRow]; exact h1.size, fun k hk hr => by
    rw [setRow_other b g k cs (fun e => hr (by rw [e]))]
    exact h1.block k hk hr⟩

end Go.Proofs.Ytdgihpegdcoilaa.So
