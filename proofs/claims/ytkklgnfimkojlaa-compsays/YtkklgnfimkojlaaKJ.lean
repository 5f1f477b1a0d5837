/-
  Contract: the document's Knots.
-/
import Derived.Test.YtkklgnfimkojlaaRA
import Derived.Test.YtkklgnfimkojlaaKC
namespace Go.Proofs.Ytkklgnfimkojlaa
open Go.RowKit
open Nm Wm Dm Bm Fm Fl Km
attribute [local go_sem ↓] Go.wp_at_zero Go.wp_at_succ

theorem info41 : (Try.prog.info? 41).map (fun i => (i.zero, i.size, i.bytes)) = some (some (.slice none 0 0), 1, 24) := by kernel_rfl
/-- A table of truth values that grows. -/
structure Tsb (w : World) (base : Nat) (v : Value) (N k : Nat) (T : Nat → Nat → Bool) (us : List Value) : Prop where
  own : w.ownsRow base 41 1 v k us
  rows : ∀ i, i < k → ∃ G, us[i]? = some (.slice (some ⟨G, 0, none⟩) N N) ∧ Uv 4 encb w G N (T i)
theorem Tsb.below {w w' : World} {base : Nat} {v : Value} {N k : Nat} {T : Nat → Nat → Bool} {us : List Value} (h : Tsb w base v N k T us) (hb : Below w.heap.size w w') : Tsb w' base v N k T us := by
  refine ⟨owns_below h.own hb, fun i hi => ?_⟩
  obtain ⟨G, h1, h2⟩ := h.rows i hi
  exact ⟨G, h1, h2.below hb⟩
theorem Tsb.other {w : World} {base N G : Nat} {v : Value} {k : Nat} {us : List Value} {d : Nat → Bool} (h : w.ownsRow base 41 1 v k us) (hu : Uv 4 encb w G N d) : v.ownBlock ≠ some G := by
  intro e
  rcases h.2 with ⟨rfl, _⟩ | ⟨g, cap, cur, rfl, _, h1, _⟩
  · simp [Value.ownBlock] at e
  · simp only [Value.ownBlock, Option.some.injEq] at e
    subst e
    rw [hu.block] at h1
    simp at h1
theorem Tsb.next {w w3 w' : World} {base N k g cap' G : Nat} {v : Value} {T : Nat → Nat → Bool} {us : List Value} (h : Tsb w base v N k T us) (hb : Below w.heap.size w w3) (hr : Uv 4 encb w G N (T k)) (hown : w'.ownsRow base 41 1 (.slice (some ⟨g, 0, none⟩) (k + 1) cap') (k + 1) (us ++ [.slice (some ⟨G, 0, none⟩) N N])) (hgrow : w3.grownBy w' v.ownBlock) :
    Tsb w' base (.slice (some ⟨g, 0, none⟩) (k + 1) cap') N (k + 1) T (us ++ [.slice (some ⟨G, 0, none⟩) N N]) := by
  have hl : us.length = k := by have := h.own.1; omega
  have key : ∀ G d, Uv 4 encb w G N d → Uv 4 encb w' G N d := by
    intro G d hx
    have hlt := hx.lt
    have hn := Tsb.other h.own hx
    exact hx.frame ((hgrow.block G (by have := hb.size; omega) (fun e => hn e.symm)).trans (hb.block _ hlt))
  refine ⟨hown, fun i hi => ?_⟩
  by_cases e : i = k
  · subst e
    exact ⟨G, by rw [List.getElem?_append_right (by omega), hl]; simp, key _ _ hr⟩
  · obtain ⟨x, h1, h2⟩ := h.rows i (by omega)
    exact ⟨x, by rw [List.getElem?_append_left (by omega)]; exact h1, key _ _ h2⟩
theorem Box2.frame {W W' : World} {B : Nat} {n : Int} {v : Value} (h : Box2 W B n v) (hb : W'.heap[B]? = W.heap[B]?) : Box2 W' B n v := by
  have h0 := h.g0
  have h1 := h.g1
  unfold World.cell? at h0 h1
  refine ⟨?_, ?_⟩ <;> unfold World.cell? <;> dsimp only at * <;> rw [hb] <;> assumption
/-- The table, as it is read. -/
theorem Tsb.rd {w : World} {base : Nat} {v : Value} {N : Nat} {T : Nat → Nat → Bool} {us : List Value} (h : Tsb w base v N N T us) (h0 : 0 < N) : ∃ g cap, v = .slice (some ⟨g, 0, none⟩) N cap ∧ ∀ i, i < N → ∃ G, w.cell? ⟨g, i, none⟩ = some (.slice (some ⟨G, 0, none⟩) N N) ∧ Uv 4 encb w G N (T i) := by
  rcases h.own.2 with ⟨rfl, h1⟩ | ⟨g, cap, cur, rfl, _, h1, h2, _, h4, h5⟩
  · omega
  · refine ⟨g, cap, rfl, fun i hi => ?_⟩
    obtain ⟨G, k1, k2⟩ := h.rows i hi
    refine ⟨G, ?_, k2⟩
    have : cur[i]? = us[i]? := by rw [← h5, List.getElem?_take_of_lt (by omega), Array.getElem?_toList]
    simp [World.cell?, h1, this, k1]
set_option maxRecDepth 100000 in
set_option maxHeartbeats 16000000 in
theorem rknots (N : Nat) (v : Value) (es : List E) (w : World) (hv : SlE w v es) (hb : Rnt N es) :
    Calls Try.prog 15 #[.agg #[.int .i64 N, v]] w fun e w' => ∃ ov, e = .returned ov ∧ Is w' w.heap.size ov (lst N (fun x => ((kn (fwb (fun _ => true) es N) x : Nat) : Int))) ∧ Below w.heap.size w w' := by
  obtain ⟨a0, c0, rfl⟩ := hv.val
  have HV : Hid _ := hv
  have HB : Hid _ := hb
  have hn64 := hb.n64
  have hn1 := hb.n1
  have HK : Hid (∀ x, x < N → kn (fwb (fun _ => true) es N) x = kn (fun u => rrd (fun _ => true) es (one u) N) x) := fun x hx => kn_congr (fun u v hu hv => fwb_rrd (edge := fun _ => true) hb.inn u hv) hx
  have HS : Hid (∀ x, x < N → bth (fun u => rrd (fun _ => true) es (one u) N) x x = true) := fun x hx => by have := (lds_rrd hb.inn).self hx; unfold bth; rw [Bool.and_eq_true]; exact ⟨this, this⟩
  obtain ⟨K, hK⟩ : ∃ K, (fun x => ((kn (fwb (fun _ => true) es N) x : Nat) : Int)) = K := ⟨_, rfl⟩
  have HKE : Hid _ := hK
  rw [hK]
  clear hv hb hK
  go_enter Try.func15, Try.ntmps15
  go_wp2_with fail
  have P0 : Hid _ := box2_new w (N : Int) (.slice a0 es.length c0) 24
  have B0 : Hid (Below w.heap.size w (w.alloc (.cells #[.int .i64 N, .slice a0 es.length c0] 24))) := balloc (Below.refl _ _) _
  have T0 : Hid (Tsb (w.alloc (.cells #[.int .i64 N, .slice a0 es.length c0] 24)) (w.heap.size + 1) (.slice none 0 0) N 0 (fun u => rrd (fun _ => true) es (one u) N) []) := ⟨World.ownsRow_nil _ _ _ _, fun i hi => absurd hi (by omega)⟩
  generalize w.alloc (.cells #[.int .i64 N, .slice a0 es.length c0] 24) = W0 at *
  obtain ⟨TT, hTT⟩ : ∃ TT, (fun u => rrd (fun _ => true) es (one u) N) = TT := ⟨_, rfl⟩
  have HRT : Hid (∀ u, TT u = rrd (fun _ => true) es (one u) N) := fun u => by rw [← hTT]
  rw [hTT] at HK HS T0
  clear hTT
  go_loopw [10, 3] (fun z u wr => ∃ (k : Nat) (ao : Option Addr) (co : Nat) (us : List Value), z = .int .i64 k ∧ u = .slice ao k co ∧ k ≤ N ∧ Tsb wr (w.heap.size + 1) (.slice ao k co) N k TT us ∧ Below w.heap.size w wr ∧ Box2 wr w.heap.size (N : Int) (.slice a0 es.length c0)) (fun z _ _ => N - (intOf z).toNat)
  case atStart => exact ⟨0, none, 0, [], rfl, rfl, Nat.zero_le _, T0.out, B0.out, P0.out⟩
  case round =>
    obtain ⟨k, ao, co, us, rfl, rfl, hk, ht, hbr, hp⟩ := hrel
    clear T0 B0 P0
    have TR : Hid _ := ht
    have BR : Hid (Below w.heap.size w wr) := hbr
    have PR : Hid _ := hp
    clear ht hbr hp
    obtain ⟨p0, p1⟩ := PR.out
    by_cases hlt : k < N
    · have hki : (k : Int) < (N : Int) := by omega
      have HM : Hid _ := fun (_ : Unit) => rreach_any N k _ es wr (HV.out.below BR.out) HB.out hlt
      obtain ⟨i0, hi0, hy0, hy1, hy2⟩ := info_parts info41
      go_wp2_with fail
      refine (HM.out ()).mono ?_
      rintro e w3 ⟨G, rfl, u3, b3⟩
      have U3 : Hid (Uv 4 encb w3 G N (TT k)) := by rw [HRT.out]; exact u3
      have T3 : Hid _ := TR.out.below b3
      have P3 : Hid _ := PR.out.below b3
      have B3 : Hid (Below w.heap.size w w3) := bthen BR.out b3
      clear b3 u3 p0 p1 HM
      have hown := T3.out.own
      have hsz := B3.out.size
      have hsz1 : w.heap.size < w3.heap.size := World.block_lt_of_cell? w3 ⟨w.heap.size, 0, none⟩ P3.out.g0
      go_wp2_with (at_builtin; refine wpList_append_lies _ rfl _ _ _ rfl (w.heap.size + 1) 41 i0 _ 1 24 Try.underlying35 hi0 hy0 hy1 hy2 rfl (by omega) (.slice ao k co) k us rfl (hown.alloc _) ⟨w3.heap.size, 0, none⟩ 1 1 [.slice (some ⟨G, 0, none⟩) N N] rfl rfl (World.news_of_block (cs := #[.slice (some ⟨G, 0, none⟩) N N]) (t := 41) (fr := (0, 0)) (heap_alloc_new _ _)) (by simp [Value.oneCell']) (by omega) (by unfold maxLen; omega) (by omega) (by simp; omega) (w3.heap.size + 1) (by simp) ?_; intro gg cap' w5 hown5 hgrow hat hlt5; have T5 : Hid _ := (Tsb.next T3.out (balloc (Below.refl _ _) _) U3.out hown5 hgrow); have P5 : Hid _ := P3.out.frame ((hgrow.block w.heap.size (by simp; omega) (fun e => by have := (ownBlock_lt hown _ e.symm).1; omega)).trans (Below.heap_alloc _ _ _ (by omega))); have B6 : Hid (Below w.heap.size w w5) := (by exact (balloc B3.out _).grown hgrow (by simp; omega) (fun x hx => Nat.le_of_succ_le (ownBlock_lt hown x hx).1)); clear hown5 hgrow hat hlt5)
      go_roundw
      case rel => exact ⟨k + 1, _, _, _, by go_num, rfl, by omega, T5.out, B6.out, P5.out⟩
      case measure => simp [intOf]; omega
    · obtain rfl : N = k := by omega
      obtain ⟨g, cap, hge, hgr⟩ := TR.out.rd hn1
      simp only [Value.slice.injEq] at hge
      obtain ⟨rfl, -, rfl⟩ := hge
      have GR : Hid (∀ i, i < N → ∃ G, wr.cell? ⟨g, i, none⟩ = some (.slice (some ⟨G, 0, none⟩) N N) ∧ Uv 4 encb wr G N (TT i)) := hgr
      clear hgr
      go_wp2_with fail
      clear p0 p1 TR PR
      obtain ⟨wo, hwo⟩ : ∃ wo, wo = wr := ⟨_, rfl⟩
      subst hwo
      go_loopw [22, 5] (fun z u wr => ∃ (k : Nat) (ao : Option Addr) (c1 : Nat) (l : List Int), z = .int .i64 k ∧ u = .slice ao l.length c1 ∧ k ≤ N ∧ l = lst k K ∧ Is wr wo.heap.size (.slice ao l.length c1) l ∧ Below wo.heap.size wo wr) (fun z _ _ => N - (intOf z).toNat)
      case atStart => exact ⟨0, none, 0, [], rfl, rfl, Nat.zero_le _, rfl, Is.nil _ _, Below.refl _ _⟩
      case round =>
        obtain ⟨k, ao, c1, l, rfl, rfl, hk, hl, hi, hbr⟩ := hrel
        have LR : Hid _ := hl
        have IR : Hid _ := hi
        have BX : Hid (Below wo.heap.size wo wr) := hbr
        have hll : l.length ≤ 64 := by rw [hl, lst_length]; omega
        clear hl hi hbr
        by_cases hlt : k < N
        · have hki : (k : Int) < (N : Int) := by omega
          obtain ⟨m, hm⟩ : ∃ m, kn TT k = m := ⟨_, rfl⟩
          have hmk : m ≤ k := by rw [← hm]; exact kn_le TT k
          have HM : Hid (Kn TT k m) := by rw [← hm]; exact kn_is TT k
          have HN : Hid (lst (k + 1) K = l ++ [((m : Nat) : Int)]) := by
            have h1 := HK.out k hlt
            unfold Hid
            rw [LR.out]
            unfold lst
            rw [List.range_succ, List.map_append]
            rw [← HKE.out, ← hm, ← h1]; rfl
          have HB1 : Hid (bth TT m k = true) := by
            rcases (show m < k ∨ m = k by omega) with h | h
            · exact HM.out.b h
            · rw [h]; exact HS.out k hlt
          clear hm
          go_wp2_with fail
          obtain ⟨w1, hw1⟩ : ∃ w1, w1 = wr := ⟨_, rfl⟩
          subst hw1
          go_loopw [7] (fun z wr => ∃ x : Nat, z = .int .i64 x ∧ x ≤ m ∧ Below w1.heap.size w1 wr) (fun z _ => m - (intOf z).toNat)
          case atStart => exact ⟨0, rfl, Nat.zero_le _, Below.refl _ _⟩
          case round =>
            obtain ⟨x, rfl, hx, hbr⟩ := hrel
            have BY : Hid (Below w1.heap.size w1 wr) := hbr
            have BZ : Hid (Below wo.heap.size wo wr) := bthen BX.out hbr
            clear hbr
            have hxi : (x : Int) < (N : Int) := by omega
            obtain ⟨G1, g1, r1⟩ := GR.out x (by omega)
            obtain ⟨G2, g2, r2⟩ := GR.out k hlt
            obtain ⟨q1, -⟩ := (r1.below BZ.out).cell k hlt
            obtain ⟨q2, -⟩ := (r2.below BZ.out).cell x (by omega)
            have g1 := kept BZ.out g1
            have g2 := kept BZ.out g2
            clear r1 r2
            cases ha : TT x k with
            | false =>
              have HX : Hid (x ≠ m) := fun e => by have := HB1.out; rw [← e] at this; unfold bth at this; rw [ha] at this; cases this
              have hxm : x < m := by have := HX.out; omega
              rw [ha] at q1
              clear ha
              go_wp2_with fail
              go_roundw
              case rel => exact ⟨x + 1, by go_num, by omega, BY.out⟩
              case measure => simp [intOf]; omega
            | true =>
              cases hb : TT k x with
              | false =>
                have HX : Hid (x ≠ m) := fun e => by have := HB1.out; rw [← e] at this; unfold bth at this; rw [hb, Bool.and_false] at this; cases this
                have hxm : x < m := by have := HX.out; omega
                rw [ha] at q1
                rw [hb] at q2
                clear ha hb
                go_wp2_with fail
                go_roundw
                case rel => exact ⟨x + 1, by go_num, by omega, BY.out⟩
                case measure => simp [intOf]; omega
              | true =>
                have HX : Hid (x = m) := by
                  rcases (show x < m ∨ x = m by omega) with h | h
                  · have := HM.out.no x h; unfold bth at this; rw [ha, hb] at this; cases this
                  · exact h
                obtain rfl : x = m := HX.out
                rw [ha] at q1
                rw [hb] at q2
                have IX : Hid _ := IR.out.below BY.out
                have hown := IX.out.own
                obtain ⟨i0, hi0, hy0, hy1, hy2⟩ := info3_parts
                have HNW : Hid _ := heap_alloc_new wr (.cells #[.int .i64 ((x : Nat) : Int)] 3)
                have hwl := BZ.out.size
                clear ha hb HX
                go_wp2_with (at_builtin; refine wpList_append_lies _ rfl _ _ _ rfl wo.heap.size 3 i0 _ 1 8 Try.underlying25 hi0 hy0 hy1 hy2 rfl (by omega) (.slice ao l.length c1) l.length _ rfl (hown.alloc _) ⟨wr.heap.size, 0, none⟩ 1 1 [.int .i64 ((x : Nat) : Int)] rfl rfl (World.news_of_block (cs := #[.int .i64 ((x : Nat) : Int)]) (t := 3) (fr := (0, 0)) HNW.out) (by simp [Value.oneCell']) (by omega) (by unfold maxLen; omega) (by omega) (by simp; omega) (wr.heap.size + 1) (by simp) ?_; intro gg cap' w4 hown4 hgrow hat hlt4; have A4 : Hid (Below wo.heap.size wo w4) := (by exact (balloc BZ.out _).grown hgrow (by simp; omega) (fun k hk => (ownBlock_lt hown k hk).1)); clear hgrow hat)
                go_roundw
                case rel => exact ⟨k + 1, some ⟨gg, 0, none⟩, cap', l ++ [((x : Nat) : Int)], by go_num, by simp, by omega, HN.out.symm, by rw [List.length_append]; exact Is.next rfl rfl hown4, A4.out⟩
                case measure => simp [intOf]; omega
        · obtain rfl : N = k := by omega
          go_wp2_with fail
          go_ret
          exact ⟨_, rfl, by rw [← LR.out]; exact IR.out.mono BR.out.size, bthen BR.out BX.out⟩
end Go.Proofs.Ytkklgnfimkojlaa
