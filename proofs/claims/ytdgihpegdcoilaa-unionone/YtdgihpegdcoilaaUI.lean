/-
  Contract: slices.Clone of pairs.
-/
import Derived.Test.YtdgihpegdcoilaaUH
namespace Go.Proofs.Ytdgihpegdcoilaa.Un
open Go.RowKit
open Uf

theorem is_nil (c : Nat) (w : World) : (binOp .eql 22 (.slice none 0 c) (.slice none 0 0)).run Try.prog w = .ok (.bool true) w := by kernel_rfl
theorem not_nil (ad : Addr) (n c : Nat) (w : World) : (binOp .eql 22 (.slice (some ad) n c) (.slice none 0 0)).run Try.prog w = .ok (.bool false) w := by kernel_rfl

set_option maxRecDepth 100000 in
set_option maxHeartbeats 4000000 in
theorem clone_nil (c : Nat) (w : World) : Calls Try.prog 22 #[.slice none 0 c] w fun e w' => e = .returned (.slice none 0 0) ∧ w' = w := by
  have hnil := is_nil c
  go_enter Try.func22, Try.ntmps22
  go_wp2_with fail
  go_ret
  exact ⟨rfl, rfl⟩

set_option maxRecDepth 100000 in
set_option maxHeartbeats 4000000 in
theorem clone_some (ad : Addr) (n c : Nat) (ls : List (Int × Int)) (w : World) (hn : n = ls.length) (hlen : ls.length ≤ 8796093021952) (hc : ∀ (j : Nat) (u : Value), (flat ls)[j]? = some u → w.cell? (ad.add j) = some u) :
    Calls Try.prog 22 #[.slice (some ad) n c] w fun e w' => ∃ v, e = .returned v ∧ w'.ownsRow w.heap.size 43 2 v ls.length (flat ls) ∧ Below w.heap.size w w' := by
  obtain ⟨i0, hi0, hz0, hz1, hz2⟩ := info34_parts
  have hown : (w.alloc (.cells #[] 43)).ownsRow w.heap.size 43 2 (.slice (some ⟨w.heap.size, 0, none⟩) 0 0) 0 [] :=
    ⟨rfl, .inr ⟨w.heap.size, 0, #[], rfl, Nat.le_refl _, heap_alloc_new w _, Nat.le_refl _, by unfold maxLen; omega, rfl, rfl⟩⟩
  have HC : Hid (∀ (j : Nat) (u : Value), (flat ls)[j]? = some u → (w.alloc (.cells #[] 43)).cell? (ad.add j) = some u) := fun j u hu => by
    have := hc j u hu
    rw [World.cell?_alloc_lt w _ _ (World.block_lt_of_cell? w _ this)]
    exact this
  have HN : Hid _ := hn
  clear hc hn
  have hnil := not_nil ad n c
  go_enter Try.func22, Try.ntmps22
  go_wp2_with (at_builtin; refine wpList_append_own_at _ rfl _ _ _ rfl w.heap.size 43 i0 _ 2 16 Try.underlying22 hi0 hz0 hz1 hz2 rfl (by omega) _ 0 [] rfl hown ad n c (flat ls) rfl (by rw [HN.out]; exact flat_length ls) HC.out (flat_one ls) (by rw [HN.out]; unfold maxLen; omega) (by rw [HN.out]; omega) (by simp) ?_; intro v' W4 hown4 hgrow4 hiff4 hat4)
  go_ret
  rw [HN.out, Nat.zero_add] at hown4
  exact ⟨_, rfl, hown4, (Below.alloc (Below.refl _ _) (Nat.le_refl _) _).grown hgrow4 (by simp) (fun k hk => (ownBlock_lt hown k hk).1)⟩

theorem clone_any (v : Value) (ls : List (Int × Int)) (w : World) (hv : SlR w v ls) (hlen : ls.length ≤ 8796093021952) :
    Calls Try.prog 22 #[v] w fun e w' => ∃ v, e = .returned v ∧ w'.ownsRow w.heap.size 43 2 v ls.length (flat ls) ∧ Below w.heap.size w w' := by
  rcases hv with ⟨a, c, rfl, rfl⟩ | ⟨b, off, cap, rfl, hc⟩
  · cases a with
    | none =>
      refine (clone_nil c w).mono ?_
      rintro e w' ⟨rfl, rfl⟩
      exact ⟨_, rfl, World.ownsRow_nil _ _ _ _, Below.refl _ _⟩
    | some ad => exact clone_some ad 0 c [] w rfl hlen (fun j u hu => by simp [flat] at hu)
  · exact clone_some ⟨b, off, none⟩ _ cap ls w rfl hlen (news_flat hc)
end Go.Proofs.Ytdgihpegdcoilaa.Un
