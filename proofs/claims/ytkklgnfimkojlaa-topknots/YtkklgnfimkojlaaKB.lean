/-
  Contracts: how many hold each knot; what comes free.
-/
import Derived.Test.YtkklgnfimkojlaaKA
namespace Go.Proofs.Ytkklgnfimkojlaa
open Go.RowKit
open Nm Wm Dm Bm Fm Fl Km
attribute [local go_sem ↓] Go.wp_at_zero Go.wp_at_succ

theorem grown_cell {w w' : World} {Q b i : Nat} {u : Value} (h : w.grownBy w' (some Q)) (hb : b ≠ Q) (hc : w.cell? ⟨b, i, none⟩ = some u) : w'.cell? ⟨b, i, none⟩ = some u := by
  have hl := World.block_lt_of_cell? w ⟨b, i, none⟩ hc
  have e := h.block b hl (fun e => hb (Option.some.inj e))
  unfold World.cell? at *
  dsimp only at *
  rw [e]; exact hc
theorem SlE.grown {w w' : World} {Q : Nat} {v : Value} {es : List E} (hv : SlE w v es) (h : w.grownBy w' (some Q)) (hq : 0 < es.length → ∀ a c o, v = .slice (some ⟨a, o, none⟩) es.length c → a ≠ Q) : SlE w' v es := by
  rcases hv.is with ⟨a, c, h1, h2⟩ | ⟨b, off, cap, h1, h2⟩
  · exact .no a c h1 h2
  · exact .row b off cap h1 (fun i hi => by
      have hb := hq (by omega) _ _ _ h1
      exact ⟨grown_cell h hb (h2 i hi).1, grown_cell h hb (h2 i hi).2.1, grown_cell h hb (h2 i hi).2.2⟩)
theorem hd_c {K : Nat → Nat} {es : List E} {k x y : Nat} {c : Int} (he : at3 es k = ((x : Int), (y : Int), c)) (h : ¬ K x = K y) : hd K es (k + 1) = upd (hd K es k) (K y) (hd K es k (K y) + 1) := by
  have h' : K (at3 es k).1.toNat ≠ K (at3 es k).2.1.toNat := by rw [he]; exact h
  rw [hd_yes h', he]
  funext t
  unfold upd
  dsimp only [Int.toNat_natCast]
  by_cases e : t = K y
  · rw [if_pos e, if_pos e, e]
  · rw [if_neg e, if_neg e]
theorem hd_n {K : Nat → Nat} {es : List E} {k x y : Nat} {c : Int} (he : at3 es k = ((x : Int), (y : Int), c)) (h : K x = K y) : hd K es (k + 1) = hd K es k := by
  apply hd_no
  rw [he]; exact fun hn => hn h
theorem rl_c {K : Nat → Nat} {es : List E} {b : Nat} {W : Nat → Int} {k x y : Nat} {c : Int} (he : at3 es k = ((x : Int), (y : Int), c)) (h : K x = b) (h2 : ¬ K y = b) :
    rlw K es b W (k + 1) = upd (rlw K es b W k) (K y) (rlw K es b W k (K y) - 1) ∧ rlf K es b W (k + 1) = if rlw K es b W k (K y) - 1 = 0 then rlf K es b W k ++ [K y] else rlf K es b W k := by
  have h' : K (at3 es k).1.toNat = b ∧ K (at3 es k).2.1.toNat ≠ b := by rw [he]; exact ⟨h, h2⟩
  constructor
  · rw [rlw_yes h', he]
    funext t
    unfold upd
    dsimp only [Int.toNat_natCast]
    by_cases e : t = K y
    · rw [if_pos e, if_pos e, e]
    · rw [if_neg e, if_neg e]
  · rw [rlf, if_pos h', he]; rfl
theorem rl_n {K : Nat → Nat} {es : List E} {b : Nat} {W : Nat → Int} {k x y : Nat} {c : Int} (he : at3 es k = ((x : Int), (y : Int), c)) (h : ¬ (K x = b ∧ ¬ K y = b)) :
    rlw K es b W (k + 1) = rlw K es b W k ∧ rlf K es b W (k + 1) = rlf K es b W k := by
  have h' : ¬ (K (at3 es k).1.toNat = b ∧ K (at3 es k).2.1.toNat ≠ b) := by rw [he]; exact h
  exact ⟨rlw_no h', rlf_no h'⟩
theorem rlw_rng {K : Nat → Nat} {es : List E} {b : Nat} {W : Nat → Int} (hW : ∀ t, 0 ≤ W t ∧ W t ≤ 600) (k t : Nat) : -k ≤ rlw K es b W k t ∧ rlw K es b W k t ≤ 600 := by
  induction k with
  | zero => have := hW t; rw [rlw]; omega
  | succ k ih =>
    rw [rlw]
    split
    · dsimp only; split <;> omega
    · omega
set_option maxRecDepth 100000 in
set_option maxHeartbeats 8000000 in
theorem held_any (N G : Nat) (K : Nat → Nat) (v : Value) (es : List E) (w : World) (hv : SlE w v es) (hb : Rnt N es) (hk : Kok N es K) (hu : Ur w G N (fun x => (K x : Nat))) :
    Calls Try.prog 33 #[.agg #[.int .i64 N, v], .slice (some ⟨G, 0, none⟩) N N] w fun e w' => ∃ Q, e = .returned (.slice (some ⟨Q, 0, none⟩) N N) ∧ Ur w' Q N (hd K es es.length) ∧ w.heap.size ≤ Q ∧ Below w.heap.size w w' := by
  obtain ⟨a0, c0, rfl⟩ := hv.val
  have HV : Hid _ := hv
  have HB : Hid _ := hb
  have HK : Hid _ := hk
  have HU : Hid _ := hu
  have hn64 := hb.n64
  have hlen := hb.len
  have hmk := made_ur N hn64
  clear hv hb hk hu
  go_enter Try.func33, Try.ntmps33
  go_wp2_with fail
  clear hmk
  have B0 : Hid (Below w.heap.size w (w.alloc (.cells #[.int .i64 N, .slice a0 es.length c0] 24))) := balloc (Below.refl _ _) _
  have hz0 : (w.alloc (.cells #[.int .i64 N, .slice a0 es.length c0] 24)).heap.size = w.heap.size + 1 := by simp
  generalize w.alloc (.cells #[.int .i64 N, .slice a0 es.length c0] 24) = W0 at *
  have U1 : Hid (Ur (W0.alloc (.cells (Array.ofFn (n := N) fun _ => .int .i64 0) 3)) (w.heap.size + 1) N (hd K es 0)) := ⟨by rw [← hz0]; exact heap_alloc_new W0 _⟩
  have B1 : Hid (Below w.heap.size w (W0.alloc (.cells (Array.ofFn (n := N) fun _ => .int .i64 0) 3))) := balloc B0.out _
  generalize W0.alloc (.cells (Array.ofFn (n := N) fun _ => .int .i64 0) 3) = W1 at *
  obtain ⟨Q, hQ⟩ : ∃ Q, w.heap.size + 1 = Q := ⟨_, rfl⟩
  rw [hQ] at U1 ⊢
  have HQ : Hid (w.heap.size < Q) := by unfold Hid; omega
  have GQ : Hid (G ≠ Q) := by have := HU.out.lt; unfold Hid; omega
  clear hQ hz0 B0
  go_loopw [14] (fun z wr => ∃ k : Nat, z = .int .i64 k ∧ k ≤ es.length ∧ Ur wr Q N (hd K es k) ∧ Below w.heap.size w wr) (fun z _ => es.length - (intOf z).toNat)
  case atStart => exact ⟨0, rfl, Nat.zero_le _, U1.out, B1.out⟩
  case round =>
    obtain ⟨k, rfl, hk, hu, hbr⟩ := hrel
    clear U1 B1
    have UR : Hid _ := hu
    have BW : Hid (Below w.heap.size w wr) := hbr
    clear hu hbr
    by_cases hlt : k < es.length
    · have hki : (k : Int) < (es.length : Int) := by omega
      obtain ⟨b0, off, cap, hveq, hc⟩ := (HV.out.below BW.out).some' (by omega)
      simp only [Value.slice.injEq] at hveq
      obtain ⟨rfl, -, rfl⟩ := hveq
      obtain ⟨e0, e1, e2⟩ := hc k hlt
      clear hc
      have hok := HB.out.ok _ (mem_at hlt)
      obtain ⟨p, hpe⟩ : ∃ p, at3 es k = p := ⟨_, rfl⟩
      rw [hpe] at e0 e1 e2 hok
      have HPE : Hid _ := hpe
      clear hpe
      obtain ⟨x, y, c⟩ := p
      simp only at e0 e1 e2 hok
      obtain ⟨ok1, ok2, ok3, ok4, ok5, ok6⟩ := hok
      obtain ⟨x, rfl⟩ := Int.eq_ofNat_of_zero_le ok1
      obtain ⟨y, rfl⟩ := Int.eq_ofNat_of_zero_le ok3
      have hxN : x < N := by omega
      have hyN : y < N := by omega
      have kxN : K x < N := HK.out.lt x hxN
      have kyN : K y < N := HK.out.lt y hyN
      have kyi : ((K y : Nat) : Int) < (N : Int) := by omega
      have D1 : Hid _ := box3_new wr (x : Int) (y : Int) (.int .i64 c) 34
      have U2 : Hid _ := UR.out.below (balloc (Below.refl _ _) (.cells #[.int .i64 x, .int .i64 y, .int .i64 c] 34))
      have K2 : Hid _ := (HU.out.below BW.out).below (balloc (Below.refl _ _) (.cells #[.int .i64 x, .int .i64 y, .int .i64 c] 34))
      have B2 : Hid (Below w.heap.size w (wr.alloc (.cells #[.int .i64 x, .int .i64 y, .int .i64 c] 34))) := balloc BW.out _
      have QX : Hid (Q < wr.heap.size) := UR.out.lt
      go_upto_region 5 with fail
      clear e0 e1 e2
      generalize wr.alloc (.cells #[.int .i64 x, .int .i64 y, .int .i64 c] 34) = W2 at *
      generalize wr.heap.size = X at *
      obtain ⟨d0, d1, d2⟩ := D1.out
      obtain ⟨g1, -⟩ := K2.out.cell x hxN
      obtain ⟨g2, -⟩ := K2.out.cell y hyN
      obtain ⟨q1, q2⟩ := U2.out.cell (K y) kyN
      have hr := hd_rng K es k (K y)
      by_cases hne : K x = K y
      · have H1 : Hid _ := hd_n HPE.out hne
        have hni : (((K x : Nat) : Int) != ((K y : Nat) : Int)) = false := by simp [hne]
        have HNE : Hid _ := hne
        clear hne
        go_quiet (fail)
        go_wp2_with fail
        go_roundw
        case rel => exact ⟨k + 1, by go_num, by omega, by rw [H1.out]; exact U2.out.below (bdrewN (Below.refl _ _) nq), bdrewN B2.out nq⟩
        case measure => simp [intOf]; omega
      · have H1 : Hid _ := hd_c HPE.out hne
        have hni : (((K x : Nat) : Int) != ((K y : Nat) : Int)) = true := by simp; omega
        have HNE : Hid _ := hne
        clear hne
        go_quiet (fail)
        have U3 : Hid _ := U2.out.below (bdrewN (Below.refl _ _) nq)
        have K3 : Hid _ := K2.out.below (bdrewN (Below.refl _ _) nq)
        have B3 : Hid (Below w.heap.size w (W2.drewN nq)) := bdrewN B2.out nq
        have D3 : Hid _ := D1.out.below (bdrewN (Below.refl _ _) nq)
        generalize W2.drewN nq = W3 at *
        clear d0 d1 d2 g1 g2 q1 q2
        obtain ⟨d0, d1, d2⟩ := D3.out
        obtain ⟨g1, -⟩ := K3.out.cell x hxN
        obtain ⟨g2, -⟩ := K3.out.cell y hyN
        obtain ⟨q1, q2⟩ := U3.out.cell (K y) kyN
        go_wp2_with fail
        go_roundw
        case rel => exact ⟨k + 1, by go_num, by omega, by rw [H1.out]; exact U3.out.put _ _, Below.setCell B3.out (Nat.le_of_lt HQ.out) _⟩
        case measure => simp [intOf]; omega
    · obtain rfl : k = es.length := by omega
      go_wp2_with fail
      go_ret
      exact ⟨Q, rfl, UR.out, by have := HQ.out; omega, BW.out⟩
set_option maxRecDepth 100000 in
set_option maxHeartbeats 8000000 in
theorem release_any (N G Q b : Nat) (K : Nat → Nat) (W : Nat → Int) (v : Value) (es : List E) (w : World) (hv : SlE w v es) (hb : Rnt N es) (hk : Kok N es K) (hu : Ur w G N (fun x => (K x : Nat))) (hq : Ur w Q N W) (hne : G ≠ Q) (hW : ∀ t, 0 ≤ W t ∧ W t ≤ 600) (hvq : 0 < es.length → ∀ a c o, v = .slice (some ⟨a, o, none⟩) es.length c → a ≠ Q) :
    Calls Try.prog 38 #[.agg #[.int .i64 N, v], .slice (some ⟨G, 0, none⟩) N N, .slice (some ⟨Q, 0, none⟩) N N, .int .i64 b] w fun e w' => ∃ u, e = .returned u ∧ Is w' w.heap.size u ((rlf K es b W es.length).map (fun n => ((n : Nat) : Int))) ∧ Ur w' Q N (rlw K es b W es.length) ∧ w.grownBy w' (some Q) := by
  obtain ⟨a0, c0, rfl⟩ := hv.val
  have HV : Hid _ := hv
  have HB : Hid _ := hb
  have HK : Hid _ := hk
  have HU : Hid _ := hu
  have HQ : Hid _ := hq
  have HVQ : Hid _ := hvq
  have hlen := hb.len
  clear hv hb hk hu hq hvq
  go_enter Try.func38, Try.ntmps38
  go_wp2_with fail
  have G1 : Hid (w.grownBy (w.alloc (.cells #[.int .i64 N, .slice a0 es.length c0] 24)) (some Q)) := grown_below (balloc (Below.refl _ _) _)
  have U1 : Hid (Ur (w.alloc (.cells #[.int .i64 N, .slice a0 es.length c0] 24)) Q N (rlw K es b W 0)) := HQ.out.below (balloc (Below.refl _ _) _)
  have I1 : Hid (Is (w.alloc (.cells #[.int .i64 N, .slice a0 es.length c0] 24)) w.heap.size (.slice none 0 0) ((rlf K es b W 0).map (fun n => ((n : Nat) : Int)))) := Is.nil _ _
  have QL : Hid (Q < w.heap.size) := HQ.out.lt
  generalize w.alloc (.cells #[.int .i64 N, .slice a0 es.length c0] 24) = W1 at *
  go_loopw [16, 9] (fun z u wr => ∃ (k : Nat) (ao : Option Addr) (co : Nat) (l : List Int), z = .int .i64 k ∧ k ≤ es.length ∧ u = .slice ao l.length co ∧ l = (rlf K es b W k).map (fun n => ((n : Nat) : Int)) ∧ Is wr w.heap.size (.slice ao l.length co) l ∧ Ur wr Q N (rlw K es b W k) ∧ w.grownBy wr (some Q)) (fun z _ _ => es.length - (intOf z).toNat)
  case atStart => exact ⟨0, none, 0, [], rfl, Nat.zero_le _, rfl, rfl, I1.out, U1.out, G1.out⟩
  case round =>
    obtain ⟨k, ao, co, l, rfl, hk, rfl, hl, hi, hu, hg⟩ := hrel
    clear I1 U1 G1
    have IR : Hid _ := hi
    have UR : Hid _ := hu
    have GR : Hid _ := hg
    have LR : Hid _ := hl
    have hll : l.length ≤ 600 := by rw [hl, List.length_map]; have := rlf_len K es b W k; omega
    clear hi hu hg hl
    by_cases hlt : k < es.length
    · have hki : (k : Int) < (es.length : Int) := by omega
      have EW : Hid _ := HV.out.grown GR.out HVQ.out
      obtain ⟨b0, off, cap, hveq, hc⟩ := EW.out.some' (by omega)
      simp only [Value.slice.injEq] at hveq
      obtain ⟨rfl, -, rfl⟩ := hveq
      obtain ⟨e0, e1, e2⟩ := hc k hlt
      clear hc
      have hok := HB.out.ok _ (mem_at hlt)
      obtain ⟨p, hpe⟩ : ∃ p, at3 es k = p := ⟨_, rfl⟩
      rw [hpe] at e0 e1 e2 hok
      have HPE : Hid _ := hpe
      clear hpe
      obtain ⟨x, y, c⟩ := p
      simp only at e0 e1 e2 hok
      obtain ⟨ok1, ok2, ok3, ok4, ok5, ok6⟩ := hok
      obtain ⟨x, rfl⟩ := Int.eq_ofNat_of_zero_le ok1
      obtain ⟨y, rfl⟩ := Int.eq_ofNat_of_zero_le ok3
      have hxN : x < N := by omega
      have hyN : y < N := by omega
      have kxN : K x < N := HK.out.lt x hxN
      have kyN : K y < N := HK.out.lt y hyN
      have kyi : ((K y : Nat) : Int) < (N : Int) := by omega
      have XL : Hid (w.heap.size ≤ wr.heap.size) := GR.out.size
      have D1 : Hid _ := box3_new wr (x : Int) (y : Int) (.int .i64 c) 34
      have A1 : Hid (Below wr.heap.size wr (wr.alloc (.cells #[.int .i64 x, .int .i64 y, .int .i64 c] 34))) := balloc (Below.refl _ _) _
      have hkw := HU.out.frame (GR.out.block G HU.out.lt (fun e => hne (Option.some.inj e)))
      have K2 : Hid _ := hkw.below A1.out
      obtain ⟨z1, -⟩ := K2.out.cell y hyN
      obtain ⟨d0, d1, d2⟩ := D1.out
      go_upto_region 6 with fail
      clear e0 e1 e2 d0 d1 d2 z1 K2
      have U2 : Hid _ := UR.out.below A1.out
      have K2 : Hid _ := hkw.below A1.out
      have I2 : Hid _ := IR.out.below A1.out
      have G2 : Hid (w.grownBy (wr.alloc (.cells #[.int .i64 x, .int .i64 y, .int .i64 c] 34)) (some Q)) := grown_trans GR.out (grown_below A1.out)
      generalize wr.alloc (.cells #[.int .i64 x, .int .i64 y, .int .i64 c] 34) = W2 at *
      generalize wr.heap.size = X at *
      obtain ⟨d0, d1, d2⟩ := D1.out
      obtain ⟨g1, -⟩ := K2.out.cell x hxN
      have hr := rlw_rng (K := K) (es := es) (b := b) hW k (K y)
      by_cases hx : K x = b
      · have t1 : (((K x : Nat) : Int) != (b : Int)) = false := by simp [hx]
        by_cases hy : K y = b
        · obtain ⟨r1, r2⟩ := rl_n (b := b) (W := W) HPE.out (fun h => h.2 hy)
          have R1 : Hid _ := r1
          have R2 : Hid _ := r2
          have t2 : (((K y : Nat) : Int) == (b : Int)) = true := by simp [hy]
          have HX : Hid _ := hx
          have HY : Hid _ := hy
          clear hx hy r1 r2
          go_wp2_with fail
          go_roundw
          case rel => exact ⟨k + 1, ao, co, l, by go_num, by omega, rfl, by rw [R2.out]; exact LR.out, I2.out, by rw [R1.out]; exact U2.out, G2.out⟩
          case measure => simp [intOf]; omega
        · obtain ⟨r1, r2⟩ := rl_c (b := b) (W := W) HPE.out hx hy
          have R1 : Hid _ := r1
          have R2 : Hid _ := r2
          have t2 : (((K y : Nat) : Int) == (b : Int)) = false := by simp; omega
          have HX : Hid _ := hx
          have HY : Hid _ := hy
          clear hx hy r1 r2
          obtain ⟨q1, q2⟩ := U2.out.cell (K y) kyN
          have QX : Hid (Q < X) := by have := QL.out; have := XL.out; unfold Hid; omega
          have U3 : Hid _ := U2.out.put (K y) (rlw K es b W k (K y) - 1)
          rw [← R1.out] at U3
          have I3 : Hid _ := I2.out.other (u := .int .i64 (rlw K es b W k (K y) - 1)) (o := K y) QL.out
          have G3 : Hid (w.grownBy (W2.setCell ⟨Q, K y, none⟩ (.int .i64 (rlw K es b W k (K y) - 1))) (some Q)) := grown_setCell G2.out
          obtain ⟨m, hm⟩ : ∃ m, rlw K es b W k (K y) = m := ⟨_, rfl⟩
          have HM : Hid (rlw K es b W (k + 1) (K y) = m - 1) := by unfold Hid; rw [R1.out, hm]; exact upd_same _ _ _
          rw [hm] at q1 hr R2 G3 U3 I3
          clear hm R1
          go_upto_region 8 with fail
          generalize W2.setCell ⟨Q, K y, none⟩ (.int .i64 (m - 1)) = W3 at *
          clear q1 q2 d0 d1 d2 g1 U2 K2 I2 D1 A1 G2
          obtain ⟨q1, -⟩ := U3.out.cell (K y) kyN
          rw [HM.out] at q1
          by_cases hz : m = 1
          · subst hz
            have hz1 : ((1 : Int) - 1 == 0) = true := rfl
            have L1 : Hid (l ++ [((K y : Nat) : Int)] = (rlf K es b W (k + 1)).map (fun n => ((n : Nat) : Int))) := by unfold Hid; rw [R2.out, if_pos (by rfl), List.map_append, ← LR.out]; rfl
            obtain ⟨i0, hi0, hy0, hy1, hy2⟩ := info3_parts
            have hown := I3.out.own
            have W3L : Hid (w.heap.size ≤ W3.heap.size) := G3.out.size
            have HNW : Hid _ := heap_alloc_new W3 (.cells #[.int .i64 ((K y : Nat) : Int)] 3)
            have hwl := W3L.out
            go_wp2_with (at_builtin; refine wpList_append_lies _ rfl _ _ _ rfl w.heap.size 3 i0 _ 1 8 Try.underlying25 hi0 hy0 hy1 hy2 rfl (by omega) (.slice ao l.length co) l.length _ rfl (hown.alloc _) ⟨W3.heap.size, 0, none⟩ 1 1 [.int .i64 ((K y : Nat) : Int)] rfl rfl (World.news_of_block (cs := #[.int .i64 ((K y : Nat) : Int)]) (t := 3) (fr := (0, 0)) HNW.out) (by simp [Value.oneCell']) (by omega) (by unfold maxLen; omega) (by omega) (by simp; omega) (W3.heap.size + 1) (by simp) ?_; intro gg cap' w4 hown4 hgrow hat hlt4; have FAR : Hid (∀ g, g < w.heap.size → w4.heap[g]? = W3.heap[g]?) := (by exact fun g hg => (hgrow.block g (by simp; omega) (fun e => by have := (ownBlock_lt hown g e.symm).1; omega)).trans (Below.heap_alloc _ _ _ (by omega))); have A4 : Hid (Below w.heap.size W3 w4) := (by exact ((Below.refl _ _).alloc hwl _).grown hgrow (by simp; omega) (fun k hk => (ownBlock_lt hown k hk).1)); have U4 : Hid _ := U3.out.frame (FAR.out _ QL.out); have G4 : Hid (w.grownBy w4 (some Q)) := (by exact ⟨A4.out.os.trans G3.out.os, A4.out.tape.trans G3.out.tape, A4.out.output.trans G3.out.output, Nat.le_trans G3.out.size A4.out.size, fun j hj hr => (A4.out.block j hj).trans (G3.out.block j hj hr)⟩); clear hgrow hat)
            go_roundw
            case rel => exact ⟨k + 1, some ⟨gg, 0, none⟩, cap', l ++ [((K y : Nat) : Int)], by go_num, by omega, by simp, L1.out, by rw [List.length_append]; exact Is.next rfl rfl hown4, U4.out, G4.out⟩
            case measure => simp [intOf]; omega
          · have hz1 : (m - 1 == 0) = false := by simp; omega
            have L1 : Hid (l = (rlf K es b W (k + 1)).map (fun n => ((n : Nat) : Int))) := by unfold Hid; rw [R2.out, if_neg (by omega)]; exact LR.out
            go_wp2_with fail
            go_roundw
            case rel => exact ⟨k + 1, ao, co, l, by go_num, by omega, rfl, L1.out, I3.out, U3.out, G3.out⟩
            case measure => simp [intOf]; omega
      · obtain ⟨r1, r2⟩ := rl_n (b := b) (W := W) HPE.out (fun h => hx h.1)
        have R1 : Hid _ := r1
        have R2 : Hid _ := r2
        have t1 : (((K x : Nat) : Int) != (b : Int)) = true := by simp; omega
        have HX : Hid _ := hx
        clear hx r1 r2
        go_wp2_with fail
        go_roundw
        case rel => exact ⟨k + 1, ao, co, l, by go_num, by omega, rfl, by rw [R2.out]; exact LR.out, I2.out, by rw [R1.out]; exact U2.out, G2.out⟩
        case measure => simp [intOf]; omega
    · obtain rfl : k = es.length := by omega
      go_wp2_with fail
      go_ret
      exact ⟨_, rfl, by rw [← LR.out]; exact IR.out, UR.out, GR.out⟩
end Go.Proofs.Ytkklgnfimkojlaa
