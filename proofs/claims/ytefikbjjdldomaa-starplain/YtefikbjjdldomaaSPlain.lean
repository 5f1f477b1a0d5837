/-
  The law StarPlain.
-/
import Derived.Test.YtefikbjjdldomaaPx
import Derived.Test.YtefikbjjdldomaaOpenN
import Derived.Test.YtefikbjjdldomaaDN
namespace Go.Proofs.Ytefikbjjdldomaa.SPlain
open Go.RowKit Go.Deep
open _root_.Go.Proofs.Ytefikbjjdldomaa.Nm Wm Dm Sk

set_option maxRecDepth 100000 in
set_option maxHeartbeats 32000000 in
theorem walk (n s t : Int) (v : Value) (es : List E) (w : World) (hv : SlE w v es) (hlen : es.length ≤ 9223372036854775807) :
    Calls Try.prog 6 #[.agg #[.int .i64 n, v], .int .i64 s, .int .i64 t] w fun e w' => e = .returned (.bool true) ∧ Below w.heap.size w w' := by
  obtain ⟨a0, c0, rfl⟩ := hv.val
  have HV : Hid _ := hv
  clear hv
  go_enter Try.func6, Try.ntmps6
  have P0 : Hid _ := box2_new w n (.slice a0 es.length c0) 24
  have B0 : Hid (Below w.heap.size w (w.alloc (.cells #[.int .i64 n, .slice a0 es.length c0] 24))) := balloc (Below.refl _ _) _
  go_wp2_with fail
  generalize w.alloc (.cells #[.int .i64 n, .slice a0 es.length c0] 24) = W0 at *
  refine (two_any W0).mono ?_
  rintro e w1 ⟨X, rfl, e1, b1⟩
  have B1 : Hid (Below W0.heap.size W0 w1) := b1
  have E1 : Hid _ := e1.below (balloc (Below.refl _ _) (.cells #[.int .i64 0, .int .i64 0] 3))
  have L1 : Hid _ := lit_nums w1 [0, 0] #[.int .i64 0, .int .i64 0] 2 rfl rfl
  clear b1 e1
  go_wp2_with fail
  refine (star_two0 _ _ _ E1.out L1.out).mono ?_
  rintro e w2 ⟨vp, vo, rfl, ip, io, b2⟩
  have B2 : Hid (Below W0.heap.size W0 w2) := bthen (balloc B1.out _) b2
  obtain ⟨ap, cp, rfl⟩ := ip.sl.val
  obtain ⟨ao, co, rfl⟩ := io.sl.val
  have IQ : Hid _ := io.sl
  have LEN : Hid ((ints [0, 1]).length = 2) := rfl
  have FB : Hid (Below w2.heap.size w2 ((w2.alloc (.cells #[.slice ap (ints [0, 1]).length cp, .int .i64 5, .slice ao (ints [0, 1]).length co] 29)).alloc (.cells #[.int .i64 0, .int .i64 1] 3))) := balloc (balloc (Below.refl _ _) _) _
  have IQ2 : Hid _ := IQ.out.below FB.out
  have L2 : Hid (SlI ((w2.alloc (.cells #[.slice ap (ints [0, 1]).length cp, .int .i64 5, .slice ao (ints [0, 1]).length co] 29)).alloc (.cells #[.int .i64 0, .int .i64 1] 3)) (.slice (some ⟨w2.heap.size + 1, 0, none⟩) 2 2) [0, 1]) := by
    have h1 := lit_nums (w2.alloc (.cells #[.slice ap (ints [0, 1]).length cp, .int .i64 5, .slice ao (ints [0, 1]).length co] 29)) [0, 1] #[.int .i64 0, .int .i64 1] 2 rfl rfl
    have e1 : (w2.alloc (.cells #[.slice ap (ints [0, 1]).length cp, .int .i64 5, .slice ao (ints [0, 1]).length co] 29)).heap.size = w2.heap.size + 1 := by simp
    rw [e1] at h1
    exact h1
  clear b2 E1 L1 B1 ip io
  go_wp2_with fail
  refine (iequal_yes _ _ [0, 1] _ IQ2.out L2.out (by simp)).mono ?_
  rintro e w3 ⟨rfl, b3⟩
  have Z3 : Hid (Below W0.heap.size W0 w3) := bthen B2.out (bthen FB.out b3)
  have B3 : Hid (Below w.heap.size w w3) := bthen B0.out Z3.out
  have P3 : Hid _ := P0.out.below Z3.out
  clear b3 FB IQ2 L2 IQ B2 Z3 P0 B0
  obtain ⟨p0, p1⟩ := P3.out
  by_cases hc : lk n es [s] = 0
  · obtain ⟨hnp, hps⟩ := lk_one hc
    obtain ⟨hgn, hp, hn⟩ := pn_of hnp
    obtain ⟨N, rfl⟩ : ∃ N : Nat, n = (N : Int) := ⟨n.toNat, by omega⟩
    rw [Int.toNat_natCast] at hp
    obtain ⟨S, rfl, hS⟩ := plc_nat hps
    have hSN : S < N := by omega
    have HP : Hid _ := hp
    have HNP : Hid _ := hnp
    have hn64 := hp.n64
    clear hc hgn hn hps hp hnp
    go_wp2_with fail
    refine (dist_yes N S _ es w3 (HV.out.below B3.out) HNP.out HP.out hSN).mono ?_
    rintro e w4 ⟨G, D, rfl, hG, ur, hd, b4⟩
    have B4 : Hid (Below w.heap.size w w4) := bthen B3.out b4
    have P4 : Hid _ := P3.out.below b4
    have UR4 : Hid _ := ur
    have HD : Hid _ := hd
    clear b4 ur hd hG p0 p1
    obtain ⟨p0, p1⟩ := P4.out
    have L5 : Hid _ := lit_nums w4 [t] #[.int .i64 t] 1 rfl rfl
    have B5 : Hid (Below w.heap.size w (w4.alloc (.cells #[.int .i64 t] 3))) := balloc B4.out _
    have P5 : Hid _ := P4.out.below (balloc (Below.refl _ _) (.cells #[.int .i64 t] 3))
    have UR5 : Hid _ := UR4.out.below (balloc (Below.refl _ _) (.cells #[.int .i64 t] 3))
    go_wp2_with fail
    generalize w4.alloc (.cells #[.int .i64 t] 3) = W5 at *
    refine (look_any N _ _ es [t] W5 (HV.out.below B5.out) L5.out hlen (by simp)).mono ?_
    rintro e w6 ⟨rfl, b6⟩
    have B6 : Hid (Below w.heap.size w w6) := bthen B5.out b6
    have P6 : Hid _ := P5.out.below b6
    have UR6 : Hid _ := UR5.out.below b6
    clear b6 p0 p1 L5
    obtain ⟨p0, p1⟩ := P6.out
    cases hpt : plc N t with
    | false =>
      have hz : (lk N es [t] != 0) = true := by rw [lk_out (ps := [t]) HNP.out (k := 0) (by simp) hpt]; rfl
      clear hpt
      go_wp2_with fail
      go_ret
      exact ⟨rfl, B6.out⟩
    | true =>
      have HL : Hid _ := lk_sing HNP.out hpt
      obtain ⟨T, rfl, hT⟩ := plc_nat hpt
      have hTN : T < N := by omega
      rw [HL.out]
      have hmk := made_ur N hn64
      have CT : Hid (∀ (W : World) (Z : Nat), Below w6.heap.size w6 W → Ur W Z N (fun _ => 0) → Calls Try.prog 11 #[.agg #[.int .i64 N, .slice a0 es.length c0], .int .i64 S, .int .i64 T, .slice (some ⟨Z, 0, none⟩) N N] W fun e w' => ∃ ax lx cx c az lz cz er, e = .returned (.tuple #[.agg #[.slice ax lx cx, .int .i64 c, .slice az lz cz], .int .i64 er]) ∧ Rs9 w' W.heap.size N es (zer N) S T D (.slice ax lx cx) c (.slice az lz cz) er ∧ Below W.heap.size W w') := fun W Z hb hu =>
        srun_uni N S T _ _ es (zer N) W D (HV.out.below (bthen B6.out hb)) hu.sl hSN hTN HP.out HNP.out (agr_zer HP.out hTN) HD.out
      have KP : Hid (∀ w', Below w6.heap.size w6 w' → w'.cell? ⟨w.heap.size, 0, none⟩ = some (.int .i64 N) ∧ w'.cell? ⟨w.heap.size, 1, none⟩ = some (.slice a0 es.length c0)) := fun w' hb => ⟨kept hb p0, kept hb p1⟩
      clear hpt
      have UA : Hid (Ur (w6.alloc (.cells (Array.ofFn (n := N) fun _ => .int .i64 0) 3)).drew w6.heap.size N (fun _ => 0)) := ⟨heap_alloc_new w6 _⟩
      have UB : Hid (Ur ((w6.alloc (.cells #[.slice none 0 0, .int .i64 0, .slice none 0 0] 29)).alloc (.cells (Array.ofFn (n := N) fun _ => .int .i64 0) 3)).drew (w6.heap.size + 1) N (fun _ => 0)) := ⟨new_at _ _ (by simp)⟩
      have UC : Hid (Ur ((w6.alloc (.cells (Array.ofFn (n := N) fun _ => .int .i64 0) 3)).alloc (.cells #[.slice none 0 0, .int .i64 0, .slice none 0 0] 29)).drew w6.heap.size N (fun _ => 0)) := ⟨(Below.heap_alloc _ _ _ (by simp)).trans (heap_alloc_new w6 _)⟩
      have BA : Hid (Below w6.heap.size w6 (w6.alloc (.cells (Array.ofFn (n := N) fun _ => .int .i64 0) 3)).drew) := Below.drew (balloc (Below.refl _ _) _)
      have BB : Hid (Below w6.heap.size w6 ((w6.alloc (.cells #[.slice none 0 0, .int .i64 0, .slice none 0 0] 29)).alloc (.cells (Array.ofFn (n := N) fun _ => .int .i64 0) 3)).drew) := Below.drew (balloc (balloc (Below.refl _ _) _) _)
      have BC : Hid (Below w6.heap.size w6 ((w6.alloc (.cells (Array.ofFn (n := N) fun _ => .int .i64 0) 3)).alloc (.cells #[.slice none 0 0, .int .i64 0, .slice none 0 0] 29)).drew) := Below.drew (balloc (balloc (Below.refl _ _) _) _)
      have RB : Hid (Rb ((w6.alloc (.cells #[.slice none 0 0, .int .i64 0, .slice none 0 0] 29)).alloc (.cells (Array.ofFn (n := N) fun _ => .int .i64 0) 3)).drew w6.heap.size (.slice none 0 0) (.int .i64 0) (.slice none 0 0)) := ⟨(Below.heap_alloc _ _ _ (by simp)).trans (heap_alloc_new w6 _)⟩
      have RC : Hid (Rb ((w6.alloc (.cells (Array.ofFn (n := N) fun _ => .int .i64 0) 3)).alloc (.cells #[.slice none 0 0, .int .i64 0, .slice none 0 0] 29)).drew (w6.heap.size + 1) (.slice none 0 0) (.int .i64 0) (.slice none 0 0)) := ⟨new_at _ _ (by simp)⟩
      have x0 := kept_alloc (x := (.cells #[.slice none 0 0, .int .i64 0, .slice none 0 0] 29)) p0
      have x1 := kept_alloc (x := (.cells #[.slice none 0 0, .int .i64 0, .slice none 0 0] 29)) p1
      have m0 := kept_alloc (x := (.cells (Array.ofFn (n := N) fun _ => .int .i64 0) 3)) p0
      have m1 := kept_alloc (x := (.cells (Array.ofFn (n := N) fun _ => .int .i64 0) 3)) p1
      have xm0 := kept_alloc (x := (.cells (Array.ofFn (n := N) fun _ => .int .i64 0) 3)) x0
      have xm1 := kept_alloc (x := (.cells (Array.ofFn (n := N) fun _ => .int .i64 0) 3)) x1
      have mx0 := kept_alloc (x := (.cells #[.slice none 0 0, .int .i64 0, .slice none 0 0] 29)) m0
      have mx1 := kept_alloc (x := (.cells #[.slice none 0 0, .int .i64 0, .slice none 0 0] 29)) m1
      go_upto_region 7 with fail
      go_cut [10, 11] (fun er fb wx => ∃ FB ax lx cx c az lz cz e', er = .int .i64 e' ∧ fb = .pointer (some ⟨FB, 0, none⟩) ∧ Rb wx FB (.slice ax lx cx) (.int .i64 c) (.slice az lz cz) ∧ (∃ z0, Rs9 wx z0 N es (zer N) S T D (.slice ax lx cx) c (.slice az lz cz) e') ∧ Below w6.heap.size w6 wx)
      case first =>
        go_region_law (first
          | (go_simp; go_at_call 11; refine (CT.out _ _ (by first | with_reducible exact BA.out | with_reducible exact BB.out | with_reducible exact BC.out) (by first | with_reducible exact UA.out | with_reducible exact UB.out | with_reducible exact UC.out)).mono ?_; rintro e w8 ⟨ax, lx, cx, c, az, lz, cz, er, rfl, hr, b8⟩; have HR : Hid (Rs9 w8 _ N es (zer N) S T D (.slice ax lx cx) c (.slice az lz cz) er) := hr; have B8 : Hid (Below w6.heap.size w6 w8) := bthen (by first | with_reducible exact BA.out | with_reducible exact BB.out | with_reducible exact BC.out) b8; (first | (have R8 : Hid (Rb w8 (w6.heap.size + 1) (.slice none 0 0) (.int .i64 0) (.slice none 0 0)) := RC.out.below b8; have LT := RC.out.lt; obtain ⟨y0, y1, y2⟩ := R8.out.cell; obtain ⟨z0, z1, z2⟩ := R8.out.frozen) | (have R8 : Hid (Rb w8 w6.heap.size (.slice none 0 0) (.int .i64 0) (.slice none 0 0)) := RB.out.below b8; have LT := RB.out.lt; obtain ⟨y0, y1, y2⟩ := R8.out.cell; obtain ⟨z0, z1, z2⟩ := R8.out.frozen) | skip); clear hr b8; (try dsimp only))
          | fail)
        all_goals
          go_wp2_with fail
          go_meet
          first
            | exact ⟨_, _, _, _, _, _, _, _, _, rfl, rfl, R8.out.put _ _ _, ⟨_, HR.out.put LT _ _ _⟩, rb_below B8.out (by omega) _ _ _⟩
            | exact ⟨_, _, _, _, _, _, _, _, _, rfl, rfl, ⟨heap_alloc_new _ _⟩, ⟨_, HR.out.below (balloc (Below.refl _ _) _)⟩, balloc B8.out _⟩
      case rest =>
        obtain ⟨FB, ax, lx, cx, c, az, lz, cz, e', rfl, rfl, rb, ⟨z0, hr⟩, b8⟩ := hcut
        have B8 : Hid (Below w.heap.size w wc) := bthen B6.out b8
        have UR8 : Hid _ := UR6.out.below b8
        have R8 : Hid _ := rb
        clear x0 x1 m0 m1 xm0 xm1 mx0 mx1 UA UB UC BA BB BC RB RC CT KP hmk b8 rb p0 p1
        obtain ⟨k0, k1, k2⟩ := R8.out.cell
        obtain ⟨d0, _⟩ := UR8.out.cell T hTN
        rcases hr with ⟨hf, rfl, -, -, -⟩ | ⟨rfl, -, s', o, -, io, hs, hw⟩
        · rw [hf] at d0
          clear hf
          go_wp2_with fail
          go_ret
          exact ⟨rfl, B8.out⟩
        · have IQ : Hid _ := io.sl
          have HS : Hid _ := hs
          have HW : Hid _ := hw
          clear io hs hw
          go_wp2_with fail
          clear k0 k1 k2 d0
          go_loopw [67] (fun z wr => ∃ i : Nat, z = .int .i64 i ∧ i ≤ N ∧ Below wc.heap.size wc wr) (fun z _ => N - (intOf z).toNat)
          case atStart => exact ⟨0, rfl, Nat.zero_le _, Below.refl _ _⟩
          case round =>
            obtain ⟨i, rfl, hi, hb⟩ := hrel
            have HB : Hid (Below wc.heap.size wc wr) := hb
            clear hb
            by_cases hlt : i < N
            · have hii : (i : Int) < (N : Int) := by omega
              have hTi : (T : Int) < (N : Int) := by omega
              obtain ⟨d0, _⟩ := (UR8.out.below HB.out).cell T hTN
              obtain ⟨d1, _⟩ := (UR8.out.below HB.out).cell i hlt
              obtain ⟨_, _, k2⟩ := (R8.out.below HB.out).cell
              have IR : Hid _ := IQ.out.below HB.out
              have HO : Hid (o.length ≤ 9223372036854775806) := by
                have := HW.out.len; unfold Hid; omega
              have hall := HS.out.all i hlt
              have hup := HS.out.up i
              have hz0 : gf (zer N) i = 0 := zer_at hlt
              have hT := HD.out.hi T hTN
              have hfar : far = 1099511627776 := rfl
              rw [hz0] at hall hup
              have e1 : D i < D T → decide (i ∈ o) = true := fun h => decide_eq_true (hall (by omega) (by omega))
              have e2 : D T < D i → decide (i ∈ o) = false := fun h => decide_eq_false (fun hm => by have := hup hm; omega)
              have CN : Hid (∀ q, Calls Try.prog 27 #[.slice az lz cz, .int .i64 ((i : Nat) : Int)] (wr.drewN q) fun e w' => e = .returned (.bool (decide (i ∈ o))) ∧ w' = wr.drewN q) := fun q => contains_any _ o i _ (IR.out.drewN q) HO.out
              have CN0 : Hid (Calls Try.prog 27 #[.slice az lz cz, .int .i64 ((i : Nat) : Int)] wr fun e w' => e = .returned (.bool (decide (i ∈ o))) ∧ w' = wr) := contains_any _ o i _ IR.out HO.out
              clear hall hup hz0 hT hfar
              obtain ⟨Di, hDi⟩ : ∃ x, D i = x := ⟨_, rfl⟩
              obtain ⟨DT, hDT⟩ : ∃ x, D T = x := ⟨_, rfl⟩
              rw [hDi] at d1 e1 e2
              rw [hDT] at d0 e1 e2
              clear hDi hDT
              rcases (show Di < DT ∨ DT < Di ∨ Di = DT by omega) with h | h | h
              · have g1 : decide (Di < DT) = true := decide_eq_true h
                have g2 : decide (DT < Di) = false := decide_eq_false (by omega)
                have g3 := e1 h
                rw [g3] at CN CN0
                clear e1 e2 g3
                go_wp2_with fail
                refine CN0.out.mono ?_
                rintro e w5 ⟨rfl, rfl⟩
                go_wp2_with fail
                go_roundw
                case rel => exact ⟨i + 1, by go_num, by omega, HB.out⟩
                case measure => simp [intOf]; omega
              · have g1 : decide (Di < DT) = false := decide_eq_false (by omega)
                have g2 : decide (DT < Di) = true := decide_eq_true h
                have g3 := e2 h
                rw [g3] at CN CN0
                clear e1 e2 g3
                go_wp2_with fail
                refine CN0.out.mono ?_
                rintro e w5 ⟨rfl, rfl⟩
                go_wp2_with fail
                go_roundw
                case rel => exact ⟨i + 1, by go_num, by omega, HB.out⟩
                case measure => simp [intOf]; omega
              · have g1 : decide (Di < DT) = false := decide_eq_false (by omega)
                have g2 : decide (DT < Di) = false := decide_eq_false (by omega)
                clear e1 e2
                go_wp2_with fail
                go_roundw
                case rel => exact ⟨i + 1, by go_num, by omega, HB.out⟩
                case measure => simp [intOf]; omega
            · obtain rfl : i = N := by omega
              go_wp2_with fail
              go_ret
              exact ⟨rfl, bthen B8.out HB.out⟩
  · have hz : (lk n es [s] != 0) = true := by simp [hc]
    have HC : Hid _ := hc
    clear hc
    go_wp2_with fail
    refine (dist_bad n s _ es w3 (HV.out.below B3.out) hlen HC.out).mono ?_
    rintro e w4 ⟨rfl, b4⟩
    have B4 : Hid (Below w.heap.size w w4) := bthen B3.out b4
    clear b4
    go_wp2_with fail
    go_ret
    exact ⟨rfl, B4.out⟩
end Go.Proofs.Ytefikbjjdldomaa.SPlain
