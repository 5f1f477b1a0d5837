/-
  Contract: are two places joined, as the document asks it.
-/
import Derived.Test.YtdgihpegdcoilaaKJ
namespace Go.Proofs.Ytdgihpegdcoilaa
open Go.RowKit
open Nm Kk

set_option maxRecDepth 100000 in
set_option maxHeartbeats 8000000 in
theorem joined_any (n a b : Nat) (v ev : Value) (es : List E) (L : List Nat) (w : World) (hv : SlE w v es) (hL : SlI w ev (ints L)) (hlt : ∀ x, x ∈ L → x < es.length) (hll : L.length ≤ 600) (hg : Gn n es) (ha : a < n) (hb : b < n) :
    Calls Try.prog 41 #[.agg #[.int .i64 n, v], ev, .int .i64 a, .int .i64 b] w fun e w' => e = .returned (.bool (decide (Un.Uf.grp (pl es L) a = Un.Uf.grp (pl es L) b))) ∧ Below w.heap.size w w' := by
  obtain ⟨a0, c0, rfl⟩ := hv.val
  obtain ⟨a1, c1, rfl⟩ := hL.val
  rw [ints_length] at hL ⊢
  have HV : Hid _ := hv
  have HL : Hid _ := hL
  have HM : Hid _ := hlt
  clear hv hL hlt
  obtain ⟨D, hD⟩ : ∃ D : Bool, decide (Un.Uf.grp (pl es L) a = Un.Uf.grp (pl es L) b) = D := ⟨_, rfl⟩
  rw [hD]
  have HD : Hid ((((Un.Uf.grp (pl es L) a : Nat) : Int) == ((Un.Uf.grp (pl es L) b : Nat) : Int)) = D) := by
    unfold Hid; rw [← hD]
    by_cases h : Un.Uf.grp (pl es L) a = Un.Uf.grp (pl es L) b
    · simp [h]
    · simp [h]; omega
  clear hD
  have HR : Hid _ := Un.Uf.rnd_grp (gn_ok hg HM.out)
  have HK : Hid (Un.Uf.Ok n (pl es L)) := by have := gn_ok hg HM.out; rw [Int.toNat_natCast] at this; exact this
  rw [Int.toNat_natCast] at HR
  have hn : n ≤ 64 := by have := hg.n64; omega
  go_enter Try.func41, Try.ntmps41
  go_wp2_with fail
  have P0 : Hid _ := box2_new w (n : Int) (.slice a0 es.length c0) 35
  have B0 : Hid (Below w.heap.size w (w.alloc (.cells #[.int .i64 (n : Int), .slice a0 es.length c0] 35))) := balloc (Below.refl _ _) _
  generalize w.alloc (.cells #[.int .i64 (n : Int), .slice a0 es.length c0] 35) = W0 at *
  go_loopw [15, 9] (fun z out wr => ∃ k : Nat, z = .int .i64 k ∧ k ≤ L.length ∧ Ps wr W0.heap.size out (pl es (L.take k)) ∧ Below W0.heap.size W0 wr) (fun z _ _ => L.length - (intOf z).toNat)
  case atStart => exact ⟨0, rfl, Nat.zero_le _, Ps.nil _ _, Below.refl _ _⟩
  case round =>
    obtain ⟨k, rfl, hk, ho, hb⟩ := hrel
    obtain ⟨ao, co, rfl⟩ := ho.val
    have HO : Hid _ := ho
    have HB : Hid (Below W0.heap.size W0 wr) := hb
    clear ho hb
    have hpl : (pl es (L.take k)).length = k := by rw [pl_length, List.length_take]; omega
    by_cases hlt : k < L.length
    · have hki : (k : Int) < (L.length : Int) := by omega
      obtain ⟨b1, off1, cap1, hveq1, hc1⟩ := (HL.out.below (bthen B0.out HB.out)).some' (by rw [ints_length]; omega)
      rw [ints_length] at hveq1 hc1
      simp only [Value.slice.injEq] at hveq1
      obtain ⟨rfl, -, rfl⟩ := hveq1
      have l0 := hc1 k hlt
      rw [ints_at L k hlt] at l0
      clear hc1
      have hm := HM.out _ (getD_mem L k hlt)
      have HT : Hid (∀ i x y c, L.getD k 0 = i → at3 es i = (x, y, c) → pl es (L.take (k + 1)) = pl es (L.take k) ++ [(x, y)]) := fun i x y c h1 h2 => pl_next hlt h1 h2
      obtain ⟨i, hi⟩ : ∃ i, L.getD k 0 = i := ⟨_, rfl⟩
      rw [hi] at l0 hm
      have HI : Hid _ := hi
      clear hi
      obtain ⟨b, off, cap, hveq, hc⟩ := (HV.out.below (bthen B0.out HB.out)).some' (by omega)
      simp only [Value.slice.injEq] at hveq
      obtain ⟨rfl, -, rfl⟩ := hveq
      obtain ⟨d0, d1, -⟩ := hc i hm
      clear hc
      obtain ⟨p, hp⟩ : ∃ p, at3 es i = p := ⟨_, rfl⟩
      have HN := HT.out i p.1 p.2.1 p.2.2 HI.out hp
      rw [hp] at d0 d1
      clear hp
      obtain ⟨x, y, c⟩ := p
      simp only at d0 d1 HN
      have HNN : Hid _ := HN
      clear HN HT HI
      have hii : (i : Int) < (es.length : Int) := by omega
      obtain ⟨p0, p1⟩ := P0.out.below HB.out
      obtain ⟨i0, hi0, hz0, hz1, hz2⟩ := Un.info34_parts
      have hown := HO.out.own
      rw [hpl] at hown ⊢
      have HPL : Hid _ := hpl
      clear hpl
      generalize pl es (L.take k) = l at *
      have hwz := HB.out.size
      have HNW : Hid ((wr.alloc (.cells #[.int .i64 (x : Int), .int .i64 y] 43)).drew.heap[wr.heap.size]? = some (.cells #[.int .i64 x, .int .i64 y] 43)) := heap_alloc_new wr _
      have K0 := P0.out.g1
      have K1 : Hid (∀ w4, Below W0.heap.size W0 w4 → w4.cell? ⟨w.heap.size, 1, none⟩ = some (.slice (some ⟨b, off, none⟩) es.length c0)) := fun w4 h => kept h K0
      go_wp2_with fail
      go_region_law
        ((refine step_append_lies _ (by rfl) _ _ _ (by rfl) W0.heap.size 43 i0 _ 2 16 Try.underlying22 hi0 hz0 hz1 hz2 rfl (by omega) _ k (Un.flat l) (by rfl) ((hown.alloc _).drew)
            ⟨wr.heap.size, 0, none⟩ 1 1 [.int .i64 x, .int .i64 y] (by rfl) (by rfl) (World.news_of_block (cs := #[.int .i64 x, .int .i64 y]) (t := 43) (fr := (0, 0)) HNW.out) (by simp [Value.oneCell'])
            (by omega) (by unfold maxLen; omega) (by omega) (by simp; omega) (wr.heap.size + 1) (by simp) ?_; intro gg cap' w4 hown4 hgrow hat hlt4))
      all_goals
        go_wp2_with fail
        go_roundw
        case rel => exact ⟨k + 1, by go_num, by omega, Ps.next HNN.out HPL.out.symm hown4, (Below.drew (Below.alloc HB.out hwz _)).grown hgrow (by show _ ≤ (wr.alloc _).heap.size; simp; omega) (fun k hk => (ownBlock_lt hown k hk).1)⟩
        case measure => simp [intOf]; omega
    · obtain rfl : k = L.length := by omega
      rw [hpl] at HO ⊢
      rw [List.take_length] at HO
      obtain ⟨p0, p1⟩ := P0.out.below HB.out
      go_wp2_with fail
      refine (Un.groups_any n _ (pl es L) wr HO.out.sl hn (by rw [pl_length]; omega) HK.out).mono ?_
      rintro e w5 ⟨h, rfl, hh, r5, b5⟩
      have U5 : Hid (Un.Ur w5 h n (Un.Uf.grp (pl es L))) := r5.congr HR.out
      have B5 : Hid (Below w.heap.size w w5) := bthen (bthen B0.out HB.out) b5
      clear r5 b5
      obtain ⟨u0, -⟩ := U5.out.cell a ha
      obtain ⟨u1, -⟩ := U5.out.cell b hb
      generalize Un.Uf.grp (pl es L) a = ga at u0 HD
      generalize Un.Uf.grp (pl es L) b = gb at u1 HD
      have hai : (a : Int) < (n : Int) := by omega
      have hbi : (b : Int) < (n : Int) := by omega
      go_wp2_with fail
      go_quiet (fail)
      go_wp2_with fail
      go_ret
      exact ⟨ret_bool HD.out, bdrewN B5.out nq⟩
end Go.Proofs.Ytdgihpegdcoilaa
