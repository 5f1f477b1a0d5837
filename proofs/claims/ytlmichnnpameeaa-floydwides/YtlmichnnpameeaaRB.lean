/-
  Contract: the document's Wide.
-/
import Derived.Test.YtlmichnnpameeaaRC
import Derived.Test.YtlmichnnpameeaaTB
import Derived.Deep.DeepCutAuto
namespace Go.Proofs.Ytlmichnnpameeaa
open Go.RowKit
open Nm Wm Dm Bm Fm Fl
attribute [local go_sem ↓] Go.wp_at_zero Go.wp_at_succ
theorem wown_val {w : World} {base k : Nat} {v : Value} {us : List Value} (h : w.ownsRow base 41 1 v k us) : ∃ a c, v = .slice a k c := by
  rcases h.2 with ⟨rfl, rfl⟩ | ⟨g, cap, cur, rfl, _⟩
  · exact ⟨_, _, rfl⟩
  · exact ⟨_, _, rfl⟩
theorem wcput {w : World} {g o b i : Nat} {v u : Value} (hne : b ≠ g) (h : w.cell? ⟨b, i, none⟩ = some u) : (w.setCell ⟨g, o, none⟩ v).cell? ⟨b, i, none⟩ = some u := by
  unfold World.cell? at *; rw [Below.heap_setCell _ _ _ _ hne]; exact h
def wpart (f g : Nat → Int) (k i : Nat) : Int := if i < k then f i else g i
theorem wpart_same {f g : Nat → Int} {k : Nat} (h : f k = g k) (i : Nat) : wpart f g k i = wpart f g (k + 1) i := by
  unfold wpart
  by_cases h1 : i < k
  · rw [if_pos h1, if_pos (by omega)]
  · by_cases h2 : i = k
    · subst h2; rw [if_neg h1, if_pos (by omega), h]
    · rw [if_neg h1, if_neg (by omega)]
theorem wpart_put {f g : Nat → Int} {k : Nat} {x : Int} (h : f k = x) (i : Nat) : upd (wpart f g k) k x i = wpart f g (k + 1) i := by
  by_cases h2 : i = k
  · subst h2; rw [upd_same]; unfold wpart; rw [if_pos (by omega), h]
  · rw [upd_other _ _ h2]
    unfold wpart
    by_cases h1 : i < k
    · rw [if_pos h1, if_pos (by omega)]
    · rw [if_neg h1, if_neg (by omega)]
theorem wts_ne {w : World} {base k b cap : Nat} {v : Value} {us : List Value} {l : List Int} (h : w.ownsRow base 41 1 v k us) (hr : Rw w b cap l) : v.ownBlock ≠ some b := by
  intro e
  rcases h.2 with ⟨rfl, rfl⟩ | ⟨g, cp, cur, rfl, _, h1, _⟩
  · cases e
  · simp only [Value.ownBlock, Option.some.injEq] at e
    subst e
    obtain ⟨c2, h2, _⟩ := hr.at_
    rw [h2] at h1
    simp at h1
theorem Box3.put2 {w : World} {Y Q o : Nat} {a b : Int} {c v : Value} (h : Box3 w Y a b c) (hne : Y ≠ Q) : Box3 (w.setCell ⟨Q, o, none⟩ v) Y a b c := ⟨wcput hne h.g0, wcput hne h.g1, wcput hne h.g2⟩
theorem Box3.lt {w : World} {Y : Nat} {a b : Int} {c : Value} (h : Box3 w Y a b c) : Y < w.heap.size := World.block_lt_of_cell? w ⟨Y, 0, none⟩ h.g0
theorem ur_uv {w : World} {Q G n m : Nat} {d : Nat → Int} {d' : Nat → Bool} (h : Ur w Q n d) (h' : Uv 4 encb w G m d') : G ≠ Q := by
  intro e
  have h1 := h.block
  have h2 := h'.block
  rw [e, h1] at h2
  simp at h2
theorem dwd_next {N : Nat} {es : List E} {s k x y : Nat} {c : Int} (he : at3 es k = ((x : Int), (y : Int), c)) (u : Nat) : dwd N es s (k + 1) u = if rrd (fun e => decide (c ≤ e.2.2)) es (one s) N u = true then max (dwd N es s k u) c else dwd N es s k u := by
  rw [dwd, he]
set_option maxRecDepth 100000 in
set_option maxHeartbeats 8000000 in
theorem rwide_any (N : Nat) (v : Value) (es : List E) (w : World) (hv : SlE w v es) (hb : Rnt N es) :
    Calls Try.prog 15 #[.agg #[.int .i64 N, v]] w fun e w' => ∃ a c, e = .returned (.slice a N c) ∧ SlT w' (.slice a N c) (tbl N (fun s => upd (dwd N es s es.length) s far)) ∧ Below w.heap.size w w' := by
  obtain ⟨a0, c0, rfl⟩ := hv.val
  have HV : Hid _ := hv
  have HB : Hid _ := hb
  have hn64 := hb.n64
  have hlen := hb.len
  have hmk := made_ur N hn64
  clear hv hb
  go_enter Try.func15, Try.ntmps15
  go_wp2_with fail
  have P0 : Hid _ := box2_new w (N : Int) (.slice a0 es.length c0) 24
  have B0 : Hid (Below w.heap.size w (w.alloc (.cells #[.int .i64 N, .slice a0 es.length c0] 24))) := balloc (Below.refl _ _) _
  generalize w.alloc (.cells #[.int .i64 N, .slice a0 es.length c0] 24) = W0 at *
  go_loopw [13, 3] (fun z o wr => ∃ (k : Nat) (us : List Value), z = .int .i64 k ∧ k ≤ N ∧ Ts wr W0.heap.size o N k (fun s => upd (dwd N es s es.length) s far) us ∧ Below W0.heap.size W0 wr) (fun z _ _ => N - (intOf z).toNat)
  case atStart => exact ⟨0, [], rfl, Nat.zero_le _, ⟨World.ownsRow_nil _ _ _ _, fun i hi => absurd hi (by omega)⟩, Below.refl _ _⟩
  case round =>
    obtain ⟨s, us, rfl, hk, hts, hbr⟩ := hrel
    have TS : Hid _ := hts
    have BR : Hid (Below W0.heap.size W0 wr) := hbr
    clear hts hbr
    by_cases hlt : s < N
    · have hsi : (s : Int) < (N : Int) := by omega
      have PR : Hid _ := P0.out.below BR.out
      obtain ⟨p0, p1⟩ := PR.out
      obtain ⟨ao, co, rfl⟩ := wown_val TS.out.own
      go_wp2_with fail
      clear p0 p1
      have U3 : Hid (Ur (wr.alloc (.cells (Array.ofFn (n := N) fun _ => .int .i64 0) 3)) wr.heap.size N (fun _ => 0)) := ⟨heap_alloc_new _ _⟩
      have B3 : Hid (Below wr.heap.size wr (wr.alloc (.cells (Array.ofFn (n := N) fun _ => .int .i64 0) 3))) := balloc (Below.refl _ _) _
      generalize wr.alloc (.cells (Array.ofFn (n := N) fun _ => .int .i64 0) 3) = W3 at *
      obtain ⟨wq, hwq⟩ : ∃ wq, wq = wr := ⟨_, rfl⟩
      subst hwq
      obtain ⟨Q, hQ⟩ : ∃ Q, wq.heap.size = Q := ⟨_, rfl⟩
      have HQ : Hid _ := hQ
      rw [hQ] at U3 B3 ⊢
      clear hQ
      go_loopw [21] (fun z wr => ∃ k : Nat, z = .int .i64 k ∧ k ≤ N ∧ Ur wr Q N (wpart (fun _ => -far) (fun _ => 0) k) ∧ Below Q wq wr) (fun z _ => N - (intOf z).toNat)
      case atStart => exact ⟨0, rfl, Nat.zero_le _, U3.out.congr (fun i _ => by unfold wpart; rw [if_neg (by omega)]), B3.out⟩
      case round =>
        obtain ⟨k, rfl, hk2, hu, hb2⟩ := hrel
        have UR : Hid _ := hu
        have B2 : Hid (Below Q wq wr) := hb2
        clear hu hb2 U3 B3
        by_cases hkl : k < N
        · have hki : (k : Int) < (N : Int) := by omega
          obtain ⟨v1, v2⟩ := UR.out.cell k hkl
          go_wp2_with fail
          go_roundw
          case rel => exact ⟨k + 1, by go_num, by omega, (UR.out.put k (-far)).congr (fun i _ => wpart_put rfl i), Below.setCell B2.out (by simp) _⟩
          case measure => simp [intOf]; omega
        · obtain rfl : N = k := by omega
          have UM : Hid (Ur wr Q N (dwd N es s 0)) := UR.out.congr (fun i hi => by unfold wpart; rw [if_pos hi]; rfl)
          have BM : Hid (Below Q wq wr) := B2.out
          obtain ⟨p0, p1⟩ := PR.out.below (by rw [HQ.out]; exact BM.out)
          clear UR B2
          go_wp2_with fail
          clear p0 p1
          go_loopw [31] (fun z wr => ∃ k : Nat, z = .int .i64 k ∧ k ≤ es.length ∧ Ur wr Q N (dwd N es s k) ∧ Below Q wq wr) (fun z _ => es.length - (intOf z).toNat)
          case atStart => exact ⟨0, rfl, Nat.zero_le _, UM.out, BM.out⟩
          case round =>
            obtain ⟨k, rfl, hk3, hu, hb2⟩ := hrel
            have UR : Hid _ := hu
            have B2 : Hid (Below Q wq wr) := hb2
            clear hu hb2 UM BM
            have HVR : Hid _ := ((HV.out.below B0.out).below BR.out).below (by rw [HQ.out]; exact B2.out)
            by_cases hkl : k < es.length
            · have hki : (k : Int) < (es.length : Int) := by omega
              obtain ⟨b, off, cap, hveq, hc⟩ := HVR.out.some' (by omega)
              simp only [Value.slice.injEq] at hveq
              obtain ⟨rfl, -, rfl⟩ := hveq
              obtain ⟨e0, e1, e2⟩ := hc k hkl
              clear hc
              have hok := HB.out.ok _ (mem_at hkl)
              obtain ⟨p, hpe⟩ : ∃ p, at3 es k = p := ⟨_, rfl⟩
              rw [hpe] at e0 e1 e2 hok
              obtain ⟨x, y, c⟩ := p
              simp only at e0 e1 e2 hok
              obtain ⟨ok1, ok2, ok3, ok4, ok5, ok6⟩ := hok
              obtain ⟨x, rfl⟩ := Int.eq_ofNat_of_zero_le ok1
              obtain ⟨y, rfl⟩ := Int.eq_ofNat_of_zero_le ok3
              have HS : Hid _ := dwd_next (N := N) (s := s) hpe
              clear hpe
              have X7 : Hid _ := box3_new wr x y (.int .i64 c) 50
              have U7 : Hid _ := UR.out.below (balloc (Below.refl _ _) (.cells #[.int .i64 x, .int .i64 y, .int .i64 c] 50))
              have B7 : Hid (Below Q wq (wr.alloc (.cells #[.int .i64 x, .int .i64 y, .int .i64 c] 50))) := B2.out.alloc (by have := UR.out.lt; omega) _
              have YQ : Hid (wr.heap.size ≠ Q) := by have := UR.out.lt; unfold Hid; omega
              have P7 : Hid _ := (PR.out.below (by rw [HQ.out]; exact B2.out)).below (balloc (Below.refl _ _) (.cells #[.int .i64 x, .int .i64 y, .int .i64 c] 50))
              have H7 : Hid _ := HVR.out.below (balloc (Below.refl _ _) (.cells #[.int .i64 x, .int .i64 y, .int .i64 c] 50))
              obtain ⟨p0, p1⟩ := P7.out
              go_wp2_with fail
              clear p0 p1 e0 e1 e2
              generalize wr.alloc (.cells #[.int .i64 x, .int .i64 y, .int .i64 c] 50) = W7 at *
              obtain ⟨Y, hY⟩ : ∃ Y, wr.heap.size = Y := ⟨_, rfl⟩
              rw [hY] at X7 YQ ⊢
              clear hY
              refine (rreach_w N s Y x y c _ es W7 H7.out HB.out hlt X7.out).mono ?_
              rintro e w8 ⟨G, rfl, u8, b8⟩
              have V8 : Hid _ := u8
              have X8 : Hid _ := X7.out.below b8
              have U8 : Hid _ := U7.out.below b8
              have B8 : Hid (Below Q wq w8) := B7.out.trans (b8.mono (by have := U7.out.lt; omega))
              have GQ : Hid (G ≠ Q) := ur_uv U8.out u8
              clear u8 b8 X7 U7 B7 P7 H7 UR B2 HVR
              obtain ⟨RR, hRR⟩ : ∃ RR, rrd (fun e => decide (c ≤ e.2.2)) es (one s) N = RR := ⟨_, rfl⟩
              rw [hRR] at V8 HS
              clear hRR
              obtain ⟨D0, hD0⟩ : ∃ D0, dwd N es s k = D0 := ⟨_, rfl⟩
              rw [hD0] at U8 HS
              obtain ⟨D1, hD1⟩ : ∃ D1, dwd N es s (k + 1) = D1 := ⟨_, rfl⟩
              have HD1 : Hid _ := hD1
              rw [hD1] at HS
              clear hD0 hD1
              go_wp2_with fail
              go_loopw [40] (fun z wr => ∃ u : Nat, z = .int .i64 u ∧ u ≤ N ∧ Ur wr Q N (wpart D1 D0 u) ∧ Uv 4 encb wr G N RR ∧ Box3 wr Y x y (.int .i64 c) ∧ Below Q wq wr) (fun z _ => N - (intOf z).toNat)
              case atStart => exact ⟨0, rfl, Nat.zero_le _, U8.out.congr (fun i _ => by unfold wpart; rw [if_neg (by omega)]), V8.out, X8.out, B8.out⟩
              case round =>
                obtain ⟨u, rfl, hu1, hu, hv9, hx9, hb2⟩ := hrel
                have UR : Hid _ := hu
                have VR : Hid _ := hv9
                have XR : Hid _ := hx9
                have B2 : Hid (Below Q wq wr) := hb2
                clear hu hv9 hx9 hb2 U8 V8 X8 B8
                by_cases hul : u < N
                · have hui : (u : Int) < (N : Int) := by omega
                  obtain ⟨q0, -⟩ := VR.out.cell u hul
                  obtain ⟨v1, v2⟩ := UR.out.cell u hul
                  have hp2 : wpart D1 D0 u u = D0 u := by unfold wpart; rw [if_neg (by omega)]
                  rw [hp2] at v1
                  clear hp2
                  have HSU : Hid _ := HS.out u
                  obtain ⟨x0, x1, x2⟩ := XR.out
                  cases hru : RR u
                  · rw [hru] at q0 HSU
                    have HE : Hid (D1 u = D0 u) := by have := HSU.out; rw [if_neg (by simp)] at this; exact this
                    clear hru x0 x1 x2 v1 v2
                    go_wp2_with fail
                    go_roundw
                    case rel => exact ⟨u + 1, by go_num, by omega, UR.out.congr (fun i _ => wpart_same HE.out i), VR.out, XR.out, B2.out⟩
                    case measure => simp [intOf]; omega
                  · rw [hru] at q0 HSU
                    have HE : Hid (D1 u = max (D0 u) c) := by have := HSU.out; rw [if_pos rfl] at this; exact this
                    clear hru
                    obtain ⟨z, hz⟩ : ∃ z, D0 u = z := ⟨_, rfl⟩
                    rw [hz] at v1 HE
                    clear hz HSU
                    rcases Int.lt_or_le z c with hzc | hzc
                    · have HE2 : Hid (D1 u = c) := by have := HE.out; unfold Hid; omega
                      go_wp2_with fail
                      refine wp_region_last_lit 10 rfl (by kernel_rfl) (by kernel_rfl) ?_
                      simp only [List.take_succ_cons, List.take_zero]
                      repeat (quiet_step (fail))
                      refine wpQuiet_nil ?_
                      intro w9 hw9
                      obtain ⟨nq, rfl⟩ := hw9
                      have U9 : Hid _ := UR.out.below (bdrewN (Below.refl _ _) nq)
                      have V9 : Hid _ := VR.out.below (bdrewN (Below.refl _ _) nq)
                      have X9 : Hid _ := XR.out.below (bdrewN (Below.refl _ _) nq)
                      have B9 : Hid (Below Q wq (wr.drewN nq)) := bdrewN B2.out nq
                      obtain ⟨t1, t2⟩ := U9.out.cell u hul
                      refine wpOp_step rfl (fun K hK => ?_)
                      go_simp
                      refine hK _ _ ?_
                      clear hK K
                      go_wp2_with fail
                      go_roundw
                      case rel => exact ⟨u + 1, by go_num, by omega, (U9.out.put u c).congr (fun i _ => wpart_put HE2.out i), V9.out.frame (Below.heap_setCell _ _ _ _ GQ.out), X9.out.put2 YQ.out, Below.setCell B9.out (by simp) _⟩
                      case measure => simp [intOf]; omega
                    · have HE2 : Hid (D1 u = z) := by have := HE.out; unfold Hid; omega
                      go_wp2_with fail
                      refine wp_region_last_lit 10 rfl (by kernel_rfl) (by kernel_rfl) ?_
                      simp only [List.take_succ_cons, List.take_zero]
                      repeat (quiet_step (fail))
                      refine wpQuiet_nil ?_
                      intro w9 hw9
                      obtain ⟨nq, rfl⟩ := hw9
                      have U9 : Hid _ := UR.out.below (bdrewN (Below.refl _ _) nq)
                      have V9 : Hid _ := VR.out.below (bdrewN (Below.refl _ _) nq)
                      have X9 : Hid _ := XR.out.below (bdrewN (Below.refl _ _) nq)
                      have B9 : Hid (Below Q wq (wr.drewN nq)) := bdrewN B2.out nq
                      obtain ⟨t1, t2⟩ := U9.out.cell u hul
                      refine wpOp_step rfl (fun K hK => ?_)
                      go_simp
                      refine hK _ _ ?_
                      clear hK K
                      go_wp2_with fail
                      go_roundw
                      case rel => exact ⟨u + 1, by go_num, by omega, (U9.out.put u z).congr (fun i _ => wpart_put HE2.out i), V9.out.frame (Below.heap_setCell _ _ _ _ GQ.out), X9.out.put2 YQ.out, Below.setCell B9.out (by simp) _⟩
                      case measure => simp [intOf]; omega
                · obtain rfl : u = N := by omega
                  go_wp2_with fail
                  go_roundw
                  case rel => exact ⟨k + 1, by go_num, by omega, by rw [HD1.out]; exact UR.out.congr (fun i hi => by unfold wpart; rw [if_pos hi]), B2.out⟩
                  case measure => simp [intOf]; omega
            · obtain rfl : k = es.length := by omega
              obtain ⟨v1, v2⟩ := UR.out.cell s hlt
              have U4 : Hid (Ur (wr.setCell ⟨Q, s, none⟩ (.int .i64 1099511627776)) Q N (upd (dwd N es s es.length) s far)) := UR.out.put s far
              have B4 : Hid (Below wq.heap.size wq (wr.setCell ⟨Q, s, none⟩ (.int .i64 1099511627776))) := by unfold Hid; rw [HQ.out]; exact Below.setCell B2.out (by simp) _
              have T4 : Hid _ := TS.out.below B4.out
              have R4 : Hid _ := U4.out.rw hn64
              have NE : Hid _ := wts_ne T4.out.own R4.out
              have B5 : Hid (Below W0.heap.size W0 (wr.setCell ⟨Q, s, none⟩ (.int .i64 1099511627776))) := bthen BR.out B4.out
              clear B4
              go_upto_region 22 with fail
              generalize wr.setCell ⟨Q, s, none⟩ (.int .i64 1099511627776) = W4 at *
              clear v1 v2
              obtain ⟨i0, hi0, hz0, hz1, hz2⟩ := info25_parts
              have hown := T4.out.own
              have hsz := B5.out.size
              go_wp2_with (at_builtin; refine wpList_append_lies _ rfl _ _ _ rfl W0.heap.size 41 i0 _ 1 24 Try.underlying25 hi0 hz0 hz1 hz2 rfl (by omega) (.slice ao s co) s us rfl (hown.alloc _) ⟨W4.heap.size, 0, none⟩ 1 1 [.slice (some ⟨Q, 0, none⟩) N N] rfl rfl (World.news_of_block (cs := #[.slice (some ⟨Q, 0, none⟩) N N]) (t := 41) (fr := (0, 0)) (heap_alloc_new _ _)) (by simp [Value.oneCell']) (by omega) (by unfold maxLen; omega) (by omega) (by simp; omega) (W4.heap.size + 1) (by simp) ?_; intro gg cap' w5 hown5 hgrow hat hlt5; have T5 : Hid _ := (Ts.next T4.out (balloc (Below.refl _ _) _) R4.out NE.out hown5 hgrow (by simp) hat); have B6 : Hid (Below W0.heap.size W0 w5) := (by exact (balloc B5.out _).grown hgrow (by simp; omega) (fun x hx => (ownBlock_lt hown x hx).1)); clear hown5 hgrow hat hlt5)
              go_roundw
              case rel => exact ⟨s + 1, _, by go_num, by omega, T5.out, B6.out⟩
              case measure => simp [intOf]; omega
    · have hke : s = N := by omega
      subst hke
      obtain ⟨ao, co, rfl⟩ := wown_val TS.out.own
      go_wp2_with fail
      go_ret
      exact ⟨ao, co, rfl, TS.out.slt, bthen B0.out BR.out⟩
end Go.Proofs.Ytlmichnnpameeaa
