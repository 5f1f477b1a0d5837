/-
  Contract: span.take, where Neck calls it.
-/
import Derived.Test.YtdgihpegdcoilaaKX
import Derived.Test.YtdgihpegdcoilaaKT
import Derived.Test.YtdgihpegdcoilaaHeapF
namespace Go.Proofs.Ytdgihpegdcoilaa
open Go.RowKit
open Nm Kk

theorem Nv.off {base : Nat} {w w' : World} {JB AB BB GB H a b g : Nat} {u : Value} (h : Nv w JB AB BB GB H a b u) (ho : Off base w w' g g) (k1 : JB < base) (k2 : AB < base) (k3 : BB < base) (k4 : GB < base) (n1 : JB ≠ g) (n2 : AB ≠ g) (n3 : BB ≠ g) (n4 : GB ≠ g) : Nv w' JB AB BB GB H a b u :=
  ⟨ho.cell k1 n1 n1 h.j, ho.cell k2 n2 n2 h.a, ho.cell k3 n3 n3 h.b, ho.cell k4 n4 n4 h.g⟩

set_option maxRecDepth 100000 in
set_option maxHeartbeats 8000000 in
theorem take_neck (n H g JB AB BB GB NB EB a b : Nat) (v : Value) (es : List E) (w0 w : World) (hv : SlE w0 v es) (hg : Gn n es) (h0 : Below w0.heap.size w0 w) (hH : w.cell? ⟨H, 0, none⟩ = some (.slice (some ⟨g, 0, none⟩) n n)) (hU : Un.Ur w g n id) (hN : Vb w NB (.int .i64 0) 3) (hE : Vb w EB (.int .i64 5) 24) (hNv : Nv w JB AB BB GB H a b v)
    (hHg : H ≠ g) (hJ : JB ≠ g ∧ AB ≠ g ∧ BB ≠ g ∧ GB ≠ g) (hQ : NB ≠ EB ∧ NB ≠ g ∧ EB ≠ g) (kg : w0.heap.size ≤ g) (kN : w0.heap.size ≤ NB) (kE : w0.heap.size ≤ EB) (ha : a < n) (hb : b < n) (hab : a ≠ b) :
    Calls Try.prog 38 #[.agg #[.int .i64 n, v], .pointer (some ⟨H, 0, none⟩), .func (.func 43) #[] #[.pointer (some ⟨JB, 0, none⟩), .pointer (some ⟨AB, 0, none⟩), .pointer (some ⟨BB, 0, none⟩), .pointer (some ⟨GB, 0, none⟩), .pointer (some ⟨NB, 0, none⟩), .pointer (some ⟨EB, 0, none⟩)]] w fun e w' => e = .returned (.tuple #[]) ∧ Vb w' NB (.int .i64 (nk es a b).1) 3 ∧ Vb w' EB (.int .i64 (nk es a b).2) 24 ∧ Below w0.heap.size w0 w' := by
  obtain ⟨a0, c0, rfl⟩ := hv.val
  have HV : Hid _ := hv
  have hl := hg.len
  have HG : Hid _ := hg
  have H0 : Hid (Below w0.heap.size w0 w) := h0
  have HH : Hid _ := hH
  have HU : Hid _ := hU
  have HN : Hid _ := hN
  have HE5 : Hid _ := hE
  have HNv : Hid _ := hNv
  have NE : Hid (H ≠ g) := hHg
  have NJ : Hid _ := hJ
  have NQ : Hid _ := hQ
  have lJ := World.block_lt_of_cell? w ⟨JB, 0, none⟩ hNv.j
  have lA := World.block_lt_of_cell? w ⟨AB, 0, none⟩ hNv.a
  have lB := World.block_lt_of_cell? w ⟨BB, 0, none⟩ hNv.b
  have lG := World.block_lt_of_cell? w ⟨GB, 1, none⟩ hNv.g
  have HAB : Hid (a ≠ b) := hab
  have hHl := World.block_lt_of_cell? w ⟨H, 0, none⟩ hH
  have hgl := hU.lt
  have hNl := hN.lt
  have hEl := hE.lt
  simp only at lJ lA lB lG hHl
  clear hv hg h0 hH hU hN hE hNv hHg hJ hQ hab
  go_enter Try.func38, Try.ntmps38
  go_wp2_with fail
  have P0 : Hid _ := box2_new w (n : Int) (.slice a0 es.length c0) 35
  have B0 : Hid (Below w.heap.size w (w.alloc (.cells #[.int .i64 (n : Int), .slice a0 es.length c0] 35))) := balloc (Below.refl _ _) _
  generalize w.alloc (.cells #[.int .i64 (n : Int), .slice a0 es.length c0] 35) = W0 at *
  refine (priced_any n _ es W0 (HV.out.below (H0.out.trans (B0.out.mono H0.out.size))) hl).mono ?_
  rintro e w1 ⟨o1, rfl, ho1, p1, b1⟩
  have HS : Hid (So.SlR w1 (.slice (some ⟨o1, 0, none⟩) es.length es.length) (prc es)) := by
    have := p1.row.slr; rw [prc_length] at this; exact this
  have P1 : Hid _ := P0.out.below b1
  have B1 : Hid (Below w.heap.size w w1) := bthen B0.out b1
  clear p1 b1 P0
  go_wp2_with fail
  refine (So.sort_any _ (prc es) w1 HS.out (by rw [prc_length]; omega)).mono ?_
  rintro e w2 ⟨o, cp, rfl, ho, r2, b2⟩
  rw [prc_length]
  have R2 : Hid (Pr w2 o cp (So.Hq.srt (prc es))) := ⟨r2⟩
  have P2 : Hid _ := P1.out.below b2
  have B2 : Hid (Below w.heap.size w w2) := bthen B1.out b2
  have ow : w.heap.size ≤ o := by have := B1.out.size; omega
  have hol := r2.lt
  have NO : Hid (o ≠ g) := fun e => by omega
  have NBX : Hid (w.heap.size ≠ g) := fun e => by omega
  have hw2 : w.heap.size < w2.heap.size := by have := World.block_lt_of_cell? w2 _ P2.out.g0; exact this
  clear r2 b2 B1 P1 HS ho ho1 B0
  have U2 : Hid _ := HU.out.below B2.out
  have VN2 : Hid _ := HN.out.below B2.out
  have VE2 : Hid _ := HE5.out.below B2.out
  have NV2 : Hid _ := HNv.out.below B2.out
  have H2 : Hid _ := kept B2.out HH.out
  have Z2 : Hid (Below w0.heap.size w0 w2) := H0.out.trans (B2.out.mono H0.out.size)
  have bz := B2.out.size
  have z0 := H0.out.size
  go_wp2_with fail
  go_loopw [13] (fun z wr => ∃ (k : Nat) (U : Nat → Nat), z = .int .i64 k ∧ k ≤ es.length ∧ Un.Ur wr g n U ∧ Un.Uf.Inv n U (Un.Uf.grp (pl es ((ids es).take k))) ∧ (∀ j, j ≤ k → ¬ jd es a b j) ∧ Off w2.heap.size w2 wr g g) (fun z _ => es.length - (intOf z).toNat)
  case atStart => exact ⟨0, _, rfl, Nat.zero_le _, U2.out, Un.Uf.inv_id n, fun j hj => by rw [show j = 0 by omega]; exact jd_zero HAB.out, Off.refl _ _ _ _⟩
  case round =>
    obtain ⟨k, U, rfl, hk, hu, hi, hjd, hoff⟩ := hrel
    have XU : Hid _ := hu
    have XI : Hid _ := hi
    have XJ : Hid _ := hjd
    have XO : Hid _ := hoff
    clear hu hi hjd hoff
    by_cases hlt : k < es.length
    · have hki : (k : Int) < (es.length : Int) := by omega
      obtain ⟨e1, e2⟩ := srt_at es k hlt
      have HT : Hid _ := ids_take es k hlt
      obtain ⟨i, hi⟩ : ∃ i, (ids es).getD k 0 = i := ⟨_, rfl⟩
      rw [hi] at e1 e2 HT
      have HIK : Hid _ := hi
      clear hi
      have RW : Hid (Pr wr o cp (So.Hq.srt (prc es))) := R2.out.frame (XO.out.block o hol NO.out NO.out)
      have hln : k < (So.Hq.srt (prc es)).length := by rw [So.Hq.srt_length, prc_length]; exact hlt
      obtain ⟨r0, r1, -, -⟩ := RW.out.row.cell k hln
      rw [e1] at r0 r1
      simp only at r0 r1
      have ZW : Hid (Below w0.heap.size w0 wr) := XO.out.below Z2.out kg kg (by omega)
      obtain ⟨b9, off, cap, hveq, hc⟩ := (HV.out.below ZW.out).some' (by omega)
      simp only [Value.slice.injEq] at hveq
      obtain ⟨rfl, -, rfl⟩ := hveq
      have hen := gn_en HG.out e2
      obtain ⟨d0, d1, d2⟩ := hc i e2
      have p1 := XO.out.cell hw2 NBX.out NBX.out P2.out.g1
      have hii : (i : Int) < (es.length : Int) := by omega
      have HE : Hid (en es i = ((at3 es i).1, (at3 es i).2.1)) := rfl
      have HC9 : Hid (cs es i = (at3 es i).2.2) := rfl
      clear hc e1 hln
      obtain ⟨p, hp⟩ : ∃ p, at3 es i = p := ⟨_, rfl⟩
      rw [hp] at d0 d1 d2 HE HC9
      clear hp
      obtain ⟨x, y, c⟩ := p
      simp only at d0 d1 d2 HE HC9
      rw [HE.out] at hen
      simp only at hen
      obtain ⟨x, rfl⟩ := Int.eq_ofNat_of_zero_le hen.1
      obtain ⟨y, rfl⟩ := Int.eq_ofNat_of_zero_le hen.2.2.1
      have hxn : x < n := by omega
      have hyn : y < n := by omega
      rw [HC9.out] at r0
      clear hen
      have r0' := kept_alloc (x := .cells #[.int .i64 c, .int .i64 (i : Int)] 68) d0
      have r1' := kept_alloc (x := .cells #[.int .i64 c, .int .i64 (i : Int)] 68) d1
      have r2' := kept_alloc (x := .cells #[.int .i64 c, .int .i64 (i : Int)] 68) d2
      have p1' := kept_alloc (x := .cells #[.int .i64 c, .int .i64 (i : Int)] 68) p1
      go_wp2_with fail
      clear r0 r1 r0' r1' r2' p1' p1 d0 d1 d2
      have BA1 : Hid (Below wr.heap.size wr (wr.alloc (.cells #[.int .i64 c, .int .i64 (i : Int)] 68))) := balloc (Below.refl _ _) _
      have HA1 := cell_new wr #[.int .i64 c, .int .i64 (i : Int)] 68 1 _ rfl
      generalize wr.alloc (.cells #[.int .i64 c, .int .i64 (i : Int)] 68) = Wa at *
      have BA2 : Hid (Below wr.heap.size wr (Wa.alloc (.cells #[.int .i64 (x : Int), .int .i64 (y : Int), .int .i64 c] 50))) := balloc BA1.out _
      have HA2 : Hid _ := kept_alloc (x := .cells #[.int .i64 (x : Int), .int .i64 (y : Int), .int .i64 c] 50) HA1
      generalize Wa.alloc (.cells #[.int .i64 (x : Int), .int .i64 (y : Int), .int .i64 c] 50) = Wb at *
      clear HA1 BA1
      have YU : Hid _ := XU.out.below BA2.out
      have YH : Hid _ := kept BA2.out (XO.out.cell (by omega) NE.out NE.out H2.out)
      have hws := XO.out.size
      have YO : Hid (Off w2.heap.size w2 Wb g g) := XO.out.trans (Off.of_below BA2.out hws)
      have HG9 : Hid _ := grp_next HT.out HE.out
      obtain ⟨D, hD⟩ : ∃ D : Bool, decide (Un.Uf.grp (pl es ((ids es).take k)) x ≠ Un.Uf.grp (pl es ((ids es).take k)) y) = D := ⟨_, rfl⟩
      have HD : Hid _ := hD
      clear hD
      have hbs := BA2.out.size
      refine (Un.join_any H g n x y U _ Wb YH.out NE.out YU.out XI.out hxn hyn).mono ?_
      rintro e w8 ⟨rfl, ⟨U', u8, i8⟩, g8⟩
      rw [HD.out]
      have ZI : Hid (Un.Uf.Inv n U' (Un.Uf.grp (pl es ((ids es).take (k + 1))))) := by rw [HG9.out]; exact i8
      have ZU : Hid _ := u8
      have ZG : Hid _ := g8
      have ZO : Hid (Off w2.heap.size w2 w8 g g) := YO.out.trans (Off.of_grown g8 (by omega))
      have ZH : Hid _ := Un.gcell g8 NE.out YH.out
      have p8 := Un.gcell g8 (show wr.heap.size ≠ g by omega) HA2.out
      have h8 := g8.size
      clear u8 i8 g8
      have ZN : Hid (Nv w8 JB AB BB GB H a b (.slice (some ⟨b9, off, none⟩) es.length c0)) := NV2.out.off ZO.out (by omega) (by omega) (by omega) (by omega) NJ.out.1 NJ.out.2.1 NJ.out.2.2.1 NJ.out.2.2.2
      have ZVN : Hid (Vb w8 NB (.int .i64 0) 3) := VN2.out.frame (ZO.out.block NB (by omega) NQ.out.2.1 NQ.out.2.1)
      have ZVE : Hid (Vb w8 EB (.int .i64 5) 24) := VE2.out.frame (ZO.out.block EB (by omega) NQ.out.2.2 NQ.out.2.2)
      have ZZ : Hid (Below w0.heap.size w0 w8) := ZO.out.below Z2.out kg kg (by omega)
      cases D
      · have KN : Hid (∀ j, j ≤ k + 1 → ¬ jd es a b j) := fun j hj => by
          rcases (show j ≤ k ∨ j = k + 1 by omega) with h | h
          · exact XJ.out j h
          · rw [h]
            exact jd_same HT.out HE.out (Classical.byContradiction (of_decide_eq_false HD.out)) (XJ.out k (Nat.le_refl _))
        go_wp2_with fail
        go_roundw
        case rel => exact ⟨k + 1, U', by go_num, by omega, ZU.out, ZI.out, KN.out, ZO.out⟩
        case measure => simp [intOf]; omega
      · by_cases hj : jd es a b (k + 1)
        · have HK1 : Hid (nk es a b = (cs es i, 0)) := by
            have := nk_some hlt hj XJ.out
            rw [HIK.out] at this; exact this
          have HJ9 : Hid _ := hj
          clear hj
          go_wp2_with fail
          refine (more_yes JB AB BB GB NB EB H g n a b i _ es U' _ _ _ w0 w8 ZN.out ZH.out NE.out ⟨NJ.out.1, NJ.out.2.1, NJ.out.2.2.1⟩ ZU.out ZI.out ha hb HJ9.out HV.out e2 ZVN.out ZVE.out kN kE kg NQ.out.1 NQ.out.2.1 NQ.out.2.2 NJ.out.2.2.2 ZZ.out).mono ?_
          rintro e w9 ⟨rfl, n9, e9, z9⟩
          have N9 : Hid (Vb w9 NB (.int .i64 (nk es a b).1) 3) := by rw [HK1.out]; exact n9
          have E9 : Hid (Vb w9 EB (.int .i64 (nk es a b).2) 24) := by rw [HK1.out]; exact e9
          have Z9 : Hid (Below w0.heap.size w0 w9) := z9
          clear n9 e9 z9
          go_wp2_with fail
          exact bodyPost_ret (v := .tuple #[]) (by simp [results, Try.results38, go_sem]) rfl ⟨rfl, N9.out, E9.out, Z9.out⟩
        · have KN : Hid (∀ j, j ≤ k + 1 → ¬ jd es a b j) := fun j h => by
            rcases (show j ≤ k ∨ j = k + 1 by omega) with h | h
            · exact XJ.out j h
            · rw [h]; exact hj
          have HJ9 : Hid _ := hj
          clear hj
          go_wp2_with fail
          refine (more_no JB AB BB GB NB EB H g n a b i _ U' _ w8 ZN.out ZH.out NE.out ⟨NJ.out.1, NJ.out.2.1, NJ.out.2.2.1⟩ ZU.out ZI.out ha hb HJ9.out).mono ?_
          rintro e w9 ⟨rfl, ⟨U9, u9, i9⟩, g9⟩
          have QU : Hid _ := u9
          have QI : Hid _ := i9
          have QO : Hid (Off w2.heap.size w2 w9 g g) := ZO.out.trans (Off.of_grown g9 (by omega))
          clear u9 i9 g9
          go_wp2_with fail
          go_roundw
          case rel => exact ⟨k + 1, U9, by go_num, by omega, QU.out, QI.out, KN.out, QO.out⟩
          case measure => simp [intOf]; omega
    · obtain rfl : k = es.length := by omega
      have HK1 : Hid (nk es a b = (0, 5)) := nk_none (fun k hk => XJ.out (k + 1) (by omega))
      have FN : Hid (Vb wr NB (.int .i64 (nk es a b).1) 3) := by rw [HK1.out]; exact VN2.out.frame (XO.out.block NB (by omega) NQ.out.2.1 NQ.out.2.1)
      have FE : Hid (Vb wr EB (.int .i64 (nk es a b).2) 24) := by rw [HK1.out]; exact VE2.out.frame (XO.out.block EB (by omega) NQ.out.2.2 NQ.out.2.2)
      have FZ : Hid (Below w0.heap.size w0 wr) := XO.out.below Z2.out kg kg (by omega)
      go_wp2_with fail
      go_end0
      exact ⟨rfl, FN.out, FE.out, FZ.out⟩
end Go.Proofs.Ytdgihpegdcoilaa
