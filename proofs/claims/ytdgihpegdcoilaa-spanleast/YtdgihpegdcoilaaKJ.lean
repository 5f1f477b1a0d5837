/-
  Contracts: pairs of edges; are two places joined, as the document asks it.
-/
import Derived.Test.YtdgihpegdcoilaaKT
import Derived.Test.YtdgihpegdcoilaaUG
import Derived.Test.YtdgihpegdcoilaaUH
namespace Go.Proofs.Ytdgihpegdcoilaa
open Go.RowKit
open Nm Kk

/-- Pairs that the calls made for themselves. -/
structure Ps (w : World) (base : Nat) (v : Value) (l : List (Int × Int)) : Prop where
  own : w.ownsRow base 43 2 v l.length (Un.flat l)
theorem Ps.below {w w' : World} {base : Nat} {v : Value} {l : List (Int × Int)} (h : Ps w base v l) (hb : Below w.heap.size w w') : Ps w' base v l := ⟨owns_below h.own hb⟩
theorem Ps.mono {w : World} {b b' : Nat} {v : Value} {l : List (Int × Int)} (h : Ps w b v l) (hb : b' ≤ b) : Ps w b' v l := by
  obtain ⟨h1, h2⟩ := h.own
  refine ⟨⟨h1, ?_⟩⟩
  rcases h2 with h2 | ⟨g, cap, cur, h3, h4, h5⟩
  · exact .inl h2
  · exact .inr ⟨g, cap, cur, h3, Nat.le_trans hb h4, h5⟩
theorem Ps.nil (w : World) (base : Nat) : Ps w base (.slice none 0 0) [] := ⟨World.ownsRow_nil _ _ _ _⟩
theorem Ps.sl {w : World} {base : Nat} {v : Value} {l : List (Int × Int)} (h : Ps w base v l) : Un.SlR w v l := Un.owns_slr rfl h.own
theorem Ps.val {w : World} {base : Nat} {v : Value} {l : List (Int × Int)} (h : Ps w base v l) : ∃ a c, v = .slice a l.length c := Un.owns_val h.own
theorem Ps.next {w : World} {b n cap gg : Nat} {xs ys : List (Int × Int)} {x y : Int} (hx : ys = xs ++ [(x, y)]) (hn : n = xs.length) (h : w.ownsRow b 43 2 (.slice (some ⟨gg, 0, none⟩) (n + 1) cap) (n + 1) (Un.flat xs ++ [.int .i64 x, .int .i64 y])) : Ps w b (.slice (some ⟨gg, 0, none⟩) (n + 1) cap) ys := by
  subst hx hn
  refine ⟨?_⟩
  rw [Un.flat_append, List.length_append]
  exact h
theorem ints_at (l : List Nat) (k : Nat) (h : k < l.length) : (ints l).getD k 0 = ((l.getD k 0 : Nat) : Int) := by
  unfold ints; simp [List.getD_eq_getElem?_getD, h]
theorem getD_mem (l : List Nat) (k : Nat) (h : k < l.length) : l.getD k 0 ∈ l := by
  simp [List.getD_eq_getElem?_getD, h]
theorem take_getD (l : List Nat) (k : Nat) (h : k < l.length) : l.take (k + 1) = l.take k ++ [l.getD k 0] := by
  rw [List.take_add_one, List.getElem?_eq_getElem h]
  simp [List.getD_eq_getElem?_getD, h]
theorem pl_next {es : List E} {l : List Nat} {k i : Nat} {x y c : Int} (h : k < l.length) (hi : l.getD k 0 = i) (he : at3 es i = (x, y, c)) : pl es (l.take (k + 1)) = pl es (l.take k) ++ [(x, y)] := by
  rw [take_getD l k h, pl_snoc, hi]; unfold en; rw [he]

set_option maxRecDepth 100000 in
set_option maxHeartbeats 8000000 in
theorem pairs_any (n : Int) (v ev : Value) (es : List E) (L : List Nat) (w : World) (hv : SlE w v es) (hL : SlI w ev (ints L)) (hlt : ∀ x, x ∈ L → x < es.length) (hll : L.length ≤ 600) :
    Calls Try.prog 25 #[.agg #[.int .i64 n, v], ev] w fun e w' => ∃ u, e = .returned u ∧ Ps w' w.heap.size u (pl es L) ∧ Below w.heap.size w w' := by
  obtain ⟨a0, c0, rfl⟩ := hv.val
  obtain ⟨a1, c1, rfl⟩ := hL.val
  rw [ints_length] at hL ⊢
  have HV : Hid _ := hv
  have HL : Hid _ := hL
  have HM : Hid _ := hlt
  clear hv hL hlt
  go_enter Try.func25, Try.ntmps25
  go_wp2_with fail
  have P0 : Hid _ := box2_new w n (.slice a0 es.length c0) 35
  have B0 : Hid (Below w.heap.size w (w.alloc (.cells #[.int .i64 n, .slice a0 es.length c0] 35))) := balloc (Below.refl _ _) _
  generalize w.alloc (.cells #[.int .i64 n, .slice a0 es.length c0] 35) = W0 at *
  go_loopw [10, 5] (fun z out wr => ∃ k : Nat, z = .int .i64 k ∧ k ≤ L.length ∧ Ps wr W0.heap.size out (pl es (L.take k)) ∧ Below W0.heap.size W0 wr) (fun z _ _ => L.length - (intOf z).toNat)
  case atStart => exact ⟨0, rfl, Nat.zero_le _, Ps.nil _ _, Below.refl _ _⟩
  case round =>
    obtain ⟨k, rfl, hk, ho, hb⟩ := hrel
    obtain ⟨ao, co, rfl⟩ := ho.val
    have HO : Hid _ := ho
    have HB : Hid (Below W0.heap.size W0 wr) := hb
    clear ho hb
    have hpl : (pl es (L.take k)).length = k := by rw [pl_length, List.length_take]; omega
    by_cases hlt : k < L.length
    · have hki : (k : Int) < (L.length : Int) := by omega
      obtain ⟨b1, off1, cap1, hveq1, hc1⟩ := (HL.out.below (bthen B0.out HB.out)).some' (by rw [ints_length]; omega)
      rw [ints_length] at hveq1 hc1
      simp only [Value.slice.injEq] at hveq1
      obtain ⟨rfl, -, rfl⟩ := hveq1
      have l0 := hc1 k hlt
      rw [ints_at L k hlt] at l0
      clear hc1
      have hm := HM.out _ (getD_mem L k hlt)
      have HT : Hid (∀ i x y c, L.getD k 0 = i → at3 es i = (x, y, c) → pl es (L.take (k + 1)) = pl es (L.take k) ++ [(x, y)]) := fun i x y c h1 h2 => pl_next hlt h1 h2
      obtain ⟨i, hi⟩ : ∃ i, L.getD k 0 = i := ⟨_, rfl⟩
      rw [hi] at l0 hm
      have HI : Hid _ := hi
      clear hi
      obtain ⟨b, off, cap, hveq, hc⟩ := (HV.out.below (bthen B0.out HB.out)).some' (by omega)
      simp only [Value.slice.injEq] at hveq
      obtain ⟨rfl, -, rfl⟩ := hveq
      obtain ⟨d0, d1, -⟩ := hc i hm
      clear hc
      obtain ⟨p, hp⟩ : ∃ p, at3 es i = p := ⟨_, rfl⟩
      have HN := HT.out i p.1 p.2.1 p.2.2 HI.out hp
      rw [hp] at d0 d1
      clear hp
      obtain ⟨x, y, c⟩ := p
      simp only at d0 d1 HN
      have HNN : Hid _ := HN
      clear HN HT HI
      have hii : (i : Int) < (es.length : Int) := by omega
      obtain ⟨p0, p1⟩ := P0.out.below HB.out
      obtain ⟨i0, hi0, hz0, hz1, hz2⟩ := Un.info34_parts
      have hown := HO.out.own
      rw [hpl] at hown ⊢
      have HPL : Hid _ := hpl
      clear hpl
      generalize pl es (L.take k) = l at *
      have hwz := HB.out.size
      have HNW : Hid ((wr.alloc (.cells #[.int .i64 (x : Int), .int .i64 y] 43)).drew.heap[wr.heap.size]? = some (.cells #[.int .i64 x, .int .i64 y] 43)) := heap_alloc_new wr _
      have K0 := P0.out.g1
      have K1 : Hid (∀ w4, Below W0.heap.size W0 w4 → w4.cell? ⟨w.heap.size, 1, none⟩ = some (.slice (some ⟨b, off, none⟩) es.length c0)) := fun w4 h => kept h K0
      go_wp2_with fail
      go_region_law
        ((refine step_append_lies _ (by rfl) _ _ _ (by rfl) W0.heap.size 43 i0 _ 2 16 Try.underlying22 hi0 hz0 hz1 hz2 rfl (by omega) _ k (Un.flat l) (by rfl) ((hown.alloc _).drew)
            ⟨wr.heap.size, 0, none⟩ 1 1 [.int .i64 x, .int .i64 y] (by rfl) (by rfl) (World.news_of_block (cs := #[.int .i64 x, .int .i64 y]) (t := 43) (fr := (0, 0)) HNW.out) (by simp [Value.oneCell'])
            (by omega) (by unfold maxLen; omega) (by omega) (by simp; omega) (wr.heap.size + 1) (by simp) ?_; intro gg cap' w4 hown4 hgrow hat hlt4))
      all_goals
        go_wp2_with fail
        go_roundw
        case rel => exact ⟨k + 1, by go_num, by omega, Ps.next HNN.out HPL.out.symm hown4, (Below.drew (Below.alloc HB.out hwz _)).grown hgrow (by show _ ≤ (wr.alloc _).heap.size; simp; omega) (fun k hk => (ownBlock_lt hown k hk).1)⟩
        case measure => simp [intOf]; omega
    · obtain rfl : k = L.length := by omega
      rw [hpl] at HO ⊢
      rw [List.take_length] at HO
      go_wp2_with fail
      go_ret
      exact ⟨_, rfl, HO.out.mono B0.out.size, bthen B0.out HB.out⟩
end Go.Proofs.Ytdgihpegdcoilaa
