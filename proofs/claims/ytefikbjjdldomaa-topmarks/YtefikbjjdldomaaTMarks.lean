/-
  The law TopMarks.
-/
import Derived.Test.YtefikbjjdldomaaTMa
import Derived.Test.YtefikbjjdldomaaYZ
import Derived.Test.YtefikbjjdldomaaOpenN
import Derived.BigQuiet
namespace Go.Proofs.Ytefikbjjdldomaa.TMarks
open Go.RowKit Go.Deep
open _root_.Go.Proofs.Ytefikbjjdldomaa.Nm Wm Dm Sk

theorem SlI.take' {w : World} {a : Option Addr} {n c : Nat} {l : List Int} (h : SlI w (.slice a n c) l) (i : Nat) (hi : i ≤ l.length) : SlI w (.slice a i c) (l.take i) := by
  have hl : (l.take i).length = i := by rw [List.length_take]; omega
  rcases h.is with ⟨a', c', e, e0⟩ | ⟨b, off, cap, e, hc, hle⟩
  · have : l.length = 0 := by rw [e0]; rfl
    obtain rfl : i = 0 := by omega
    simp only [Value.slice.injEq] at e
    obtain ⟨rfl, rfl, rfl⟩ := e
    exact .no _ _ rfl rfl
  · simp only [Value.slice.injEq] at e
    obtain ⟨rfl, rfl, rfl⟩ := e
    refine .row b off c (by rw [hl]) (fun j hj => ?_) (by rw [hl]; omega)
    rw [hl] at hj
    rw [hc j (by omega), List.getD_eq_getElem?_getD, List.getD_eq_getElem?_getD, List.getElem?_take_of_lt hj]
set_option maxRecDepth 100000 in
set_option maxHeartbeats 32000000 in
theorem walk (n s t : Int) (v u : Value) (es : List E) (h : List Int) (w : World) (hv : SlE w v es) (hu : SlI w u h) (hlen : es.length ≤ 9223372036854775807) (hhl : h.length ≤ 9223372036854775807) :
    Calls Try.prog 10 #[.agg #[.int .i64 n, v], .int .i64 s, .int .i64 t, u] w fun e w' => e = .returned (.bool true) ∧ Below w.heap.size w w' := by
  obtain ⟨a0, c0, rfl⟩ := hv.val
  obtain ⟨a1, c1, rfl⟩ := hu.val
  have HV : Hid _ := hv
  have HU : Hid _ := hu
  clear hv hu
  have hcap : h.length ≤ c1 := by
    rcases HU.out.is with ⟨a', c', e, e0⟩ | ⟨b, off, cap, e, hc, hle⟩
    · rw [e0]; exact Nat.zero_le _
    · simp only [Value.slice.injEq] at e
      obtain ⟨-, -, rfl⟩ := e
      exact hle
  obtain ⟨M, hM⟩ : ∃ M : Nat, (if (3 : Int) < (h.length : Int) then (3 : Int) else (h.length : Int)) = (M : Int) := ⟨min 3 h.length, by split <;> omega⟩
  have hMl : M ≤ h.length ∧ M ≤ 3 := by split at hM <;> omega
  have hMc : M ≤ c1 := by omega
  have HT : Hid (SlI w (.slice a1 M c1) (h.take M)) := SlI.take' HU.out M hMl.1
  have HM : Hid ((h.take M).length = M) := by unfold Hid; rw [List.length_take]; omega
  have hM3 : M ≤ 3 := hMl.2
  generalize h.take M = p at HT HM
  have P0 : Hid _ := box2_new w n (.slice a0 es.length c0) 24
  have B0 : Hid (Below w.heap.size w (w.alloc (.cells #[.int .i64 n, .slice a0 es.length c0] 24))) := balloc (Below.refl _ _) _
  clear hcap hMl
  go_enter Try.func10, Try.ntmps10
  go_wp2_with fail
  generalize w.alloc (.cells #[.int .i64 n, .slice a0 es.length c0] 24) = W0 at *
  refine (of_uni n t _ _ es p W0 (HV.out.below B0.out) (HT.out.below B0.out) hlen (by rw [HM.out]; omega)).mono ?_
  rintro e w1 ⟨ar, lr, cr, er, rfl, ho, b1⟩
  have B1 : Hid (Below w.heap.size w w1) := bthen B0.out b1
  have P1 : Hid _ := P0.out.below b1
  have HO1 : Hid _ := ho
  have HT1 : Hid _ := HT.out.below B1.out
  have HV1 : Hid _ := HV.out.below B1.out
  clear ho b1 P0
  obtain ⟨p0, p1⟩ := P1.out
  have CL : Hid (∀ W, Below w1.heap.size w1 W → Calls Try.prog 31 #[.slice a1 M c1] W fun e w' => ∃ v, e = .returned v ∧ Is w' W.heap.size v p ∧ Below W.heap.size W w') := fun W hb => iclone_any _ p W (HT1.out.below hb) (by rw [HM.out]; omega)
  have CO : Hid (∀ W x q, Below w1.heap.size w1 W → SlI W x q → q.length ≤ 9223372036854775807 → Calls Try.prog 30 #[.agg #[.int .i64 n, .slice a0 es.length c0], x, .int .i64 t] W fun e w' => ∃ ar lr cr er, e = .returned (.tuple #[.slice ar lr cr, .int .i64 er]) ∧ Ofp w' n t es q (.slice ar lr cr) er ∧ Below W.heap.size W w') := fun W x q hb hx hq => of_uni n t _ x es q W (HV1.out.below hb) hx hlen hq
  have BX : Hid (Below w1.heap.size w1 w1.drew) := Below.drew (Below.refl _ _)
  have BY : Hid (Below w1.heap.size w1 (w1.alloc (.cells #[.int .i64 t] 3)).drew) := Below.drew (balloc (Below.refl _ _) _)
  have LY : Hid ((w1.alloc (.cells #[.int .i64 t] 3)).drew.heap[w1.heap.size]? = some (.cells #[.int .i64 t] 3)) := heap_alloc_new w1 _
  obtain ⟨i0, hi0, hz0, hz1, hz2⟩ := info3_parts
  have d0 := kept_alloc (x := .cells #[.int .i64 t] 3) p0
  have d1 := kept_alloc (x := .cells #[.int .i64 t] 3) p1
  have hm63 : M + 1 ≤ maxLen := by unfold maxLen; omega
  go_wp2_with fail
  go_cut [11, 12] (fun yv fv wx => ∃ ax lx cx ex, yv = .slice ax lx cx ∧ fv = .int .i64 ex ∧ Ofp wx n t es (p ++ [t]) (.slice ax lx cx) ex ∧ Below w1.heap.size w1 wx)
  case first =>
    go_region_law (first
      | (go_simp; go_at_call 31; refine (CL.out _ (by first | with_reducible exact BX.out | with_reducible exact BY.out)).mono ?_; rintro e w5 ⟨vc, rfl, ic, b5⟩; have B5 : Hid (Below w1.heap.size w1 w5) := bthen (by first | with_reducible exact BX.out | with_reducible exact BY.out) b5; have hown : w5.ownsRow w1.heap.size 3 1 vc M (p.map (fun z => Value.int .i64 z)) := (by have := (ic.mono (b' := w1.heap.size) (by simp)).own; rw [HM.out] at this; exact this); have y0 := kept B5.out p0; have y1 := kept B5.out p1; have g0 := kept_alloc (x := .cells #[.int .i64 t] 3) y0; have g1 := kept_alloc (x := .cells #[.int .i64 t] 3) y1; (try (have LB : Hid (w5.heap[w1.heap.size]? = some (.cells #[.int .i64 t] 3)) := (b5.block _ (by simp)).trans LY.out)); clear ic b5)
      | (refine step_append_lies _ (by rfl) _ _ _ (by rfl) w1.heap.size 3 i0 _ 1 8 Try.underlying25 hi0 hz0 hz1 hz2 rfl (by omega) vc M (p.map (fun z => Value.int .i64 z)) (by rfl) (hown.alloc _)
              ⟨w5.heap.size, 0, none⟩ 1 1 [.int .i64 t] (by rfl) (by rfl) (World.news_of_block (cs := #[.int .i64 t]) (t := 3) (fr := (0, 0)) (heap_alloc_new w5 _)) (by simp [Value.oneCell'])
              (by omega) hm63 (by omega) (by have := B5.out.size; simp; omega) _ rfl ?_; intro gq cap w6 hown6 hgrow hat hlt; have B6 : Hid (Below w1.heap.size w1 w6) := (balloc B5.out (.cells #[.int .i64 t] 3)).grown hgrow (by have := B5.out.size; simp; omega) (fun k hk => (ownBlock_lt hown k hk).1); have S6 : Hid (SlI w6 (.slice (some ⟨gq, 0, none⟩) (M + 1) cap) (p ++ [t])) := (Is.next rfl HM.out.symm hown6).sl; have q0 := kept B6.out p0; have q1 := kept B6.out p1; clear hown6 hgrow hat hlt)
      | (refine step_append_lies _ (by rfl) _ _ _ (by rfl) w1.heap.size 3 i0 _ 1 8 Try.underlying25 hi0 hz0 hz1 hz2 rfl (by omega) vc M (p.map (fun z => Value.int .i64 z)) (by rfl) hown
              ⟨w1.heap.size, 0, none⟩ 1 1 [.int .i64 t] (by rfl) (by rfl) (World.news_of_block (cs := #[.int .i64 t]) (t := 3) (fr := (0, 0)) LB.out) (by simp [Value.oneCell'])
              (by omega) hm63 (by omega) B5.out.size _ rfl ?_; intro gq cap w6 hown6 hgrow hat hlt; have B6 : Hid (Below w1.heap.size w1 w6) := B5.out.grown hgrow B5.out.size (fun k hk => (ownBlock_lt hown k hk).1); have S6 : Hid (SlI w6 (.slice (some ⟨gq, 0, none⟩) (M + 1) cap) (p ++ [t])) := (Is.next rfl HM.out.symm hown6).sl; have q0 := kept B6.out p0; have q1 := kept B6.out p1; clear hown6 hgrow hat hlt)
      | (go_simp; go_at_call 30; refine (CO.out _ _ _ B6.out S6.out (by rw [List.length_append, HM.out]; simp; omega)).mono ?_; rintro e w7 ⟨ax, lx, cx, ex, rfl, ho, b7⟩; have HO7 : Hid _ := ho; have B7 : Hid (Below w1.heap.size w1 w7) := bthen B6.out b7; clear ho b7)
      | fail)
    all_goals
      go_wp2_with fail
      go_meet
      exact ⟨_, _, _, _, rfl, rfl, HO7.out, B7.out⟩
  case rest =>
    obtain ⟨ax, lx, cx, ex, rfl, rfl, ho, b2⟩ := hcut
    have B2 : Hid (Below w.heap.size w wc) := bthen B1.out b2
    have P2 : Hid _ := P1.out.below b2
    have HO2 : Hid _ := ho
    have HB2 : Hid (Below w1.heap.size w1 wc) := b2
    clear ho b2 p0 p1 d0 d1 BX BY LY CL CO hz0 hz1 hz2 hi0 hm63
    obtain ⟨p0, p1⟩ := P2.out
    by_cases h1 : er = 0
    · subst h1
      by_cases h2 : ex = 0
      · subst h2
        obtain ⟨hm1, ht, hs1⟩ : mrk n es p = 0 ∧ plc n t = true ∧ SlI w1 (.slice ar lr cr) (lst n.toNat (grt n.toNat es p t.toNat)) := by
          rcases HO1.out with h | ⟨-, h⟩
          · exact absurd rfl h
          · exact h
        obtain ⟨hm2, -, hs2⟩ : mrk n es (p ++ [t]) = 0 ∧ plc n t = true ∧ SlI wc (.slice ax lx cx) (lst n.toNat (grt n.toNat es (p ++ [t]) t.toNat)) := by
          rcases HO2.out with h | ⟨-, h⟩
          · exact absurd rfl h
          · exact h
        obtain ⟨N, rfl, hp, hnp, -, hpl⟩ := mrk_good hm1
        obtain ⟨N', hN', -, -, -, hpl2⟩ := mrk_good hm2
        obtain rfl : N = N' := by omega
        obtain ⟨T, rfl, hT⟩ := plc_nat ht
        have hTN : T < N := by omega
        simp only [Int.toNat_natCast] at hs1 hs2
        have HES : Hid (∀ v, v < N → IsD N es v (cst N es v)) := fun x hx => isd_ex x _ _ HV.out hp hx
        have HP : Hid _ := hp
        have HNP : Hid _ := hnp
        have HA1 : Hid _ := grt_agr hp HES.out hpl hTN
        have HA2 : Hid _ := grt_agr hp HES.out hpl2 hTN
        have HEQ : Hid (∀ v, v < N → grt N es (p ++ [(T : Int)]) T v = cst N es v T) := fun v hv => (grt_end hp HES.out hpl hTN hv).2
        have HG1 : Hid _ := hs1.below HB2.out
        have HG2 : Hid _ := hs2
        clear hm1 hm2 hs1 hs2 hp hnp hpl hpl2 hN' ht hT HO1 HO2
        have hn64 := HP.out.n64
        go_wp2_with fail
        refine (begun_any _).mono ?_
        rintro e w3 ⟨rfl, b3⟩
        have B3 : Hid (Below w.heap.size w w3) := bthen B2.out b3
        have P3 : Hid _ := P2.out.below b3
        have G1 : Hid _ := HG1.out.below b3
        have G2 : Hid _ := HG2.out.below b3
        have L4 : Hid _ := lit_nums w3 [s] #[.int .i64 s] 1 rfl rfl
        have B4 : Hid (Below w.heap.size w (w3.alloc (.cells #[.int .i64 s] 3))) := balloc B3.out _
        have P4 : Hid _ := P3.out.below (balloc (Below.refl _ _) (.cells #[.int .i64 s] 3))
        have G14 : Hid _ := G1.out.below (balloc (Below.refl _ _) (.cells #[.int .i64 s] 3))
        have G24 : Hid _ := G2.out.below (balloc (Below.refl _ _) (.cells #[.int .i64 s] 3))
        clear b3 p0 p1 P2 HG1 HG2 G1 G2
        obtain ⟨p0, p1⟩ := P3.out
        go_wp2_with fail
        generalize w3.alloc (.cells #[.int .i64 s] 3) = W4 at *
        refine (look_any N _ _ es [s] W4 (HV.out.below B4.out) L4.out hlen (by simp)).mono ?_
        rintro e w5 ⟨rfl, b5⟩
        have B5 : Hid (Below w.heap.size w w5) := bthen B4.out b5
        have P5 : Hid _ := P4.out.below b5
        have G15 : Hid _ := G14.out.below b5
        have G25 : Hid _ := G24.out.below b5
        clear b5 p0 p1 L4 P3 P4 G14 G24 B3
        obtain ⟨p0, p1⟩ := P5.out
        by_cases hc : lk N es [s] = 0
        · obtain ⟨S, rfl, hS⟩ := plc_nat (lk_one hc).2
          have hSN : S < N := by omega
          rw [hc]
          clear hc hS
          go_wp2_with fail
          refine (srun_agr N S T _ _ es _ w5 (cst N es S) (HV.out.below B5.out) G15.out hSN hTN HP.out HNP.out HA1.out (HES.out S hSN)).mono ?_
          rintro e w6 (⟨hf, rfl, b6⟩ | ⟨s1, o1, vp, vo, rfl, ip, io, b6, hs, hw⟩)
          · have HF : Hid _ := hf
            have B6 : Hid (Below w.heap.size w (w6.alloc (.cells #[.slice none 0 0, .int .i64 0, .slice none 0 0] 29))) := balloc (bthen B5.out b6) _
            have b7 := bthen b6 (balloc (Below.refl _ _) (.cells #[.slice none 0 0, .int .i64 0, .slice none 0 0] 29))
            have P6 : Hid _ := P5.out.below b7
            have G26 : Hid _ := G25.out.below b7
            have R6 : Hid (Rb (w6.alloc (.cells #[.slice none 0 0, .int .i64 0, .slice none 0 0] 29)) w6.heap.size (.slice none 0 0) (.int .i64 0) (.slice none 0 0)) := ⟨heap_alloc_new w6 _⟩
            obtain ⟨F, hF⟩ : ∃ F, w6.heap.size = F := ⟨_, rfl⟩
            clear b6 b7 p0 p1 hf G15 G25 P5
            obtain ⟨p0, p1⟩ := P6.out
            go_wp2_with fail
            generalize w6.alloc (.cells #[.slice none 0 0, .int .i64 0, .slice none 0 0] 29) = W7 at *
            rw [hF] at R6
            clear hF
            refine (srun_agr N S T _ _ es _ W7 (cst N es S) (HV.out.below B6.out) G26.out hSN hTN HP.out HNP.out HA2.out (HES.out S hSN)).mono ?_
            rintro e w8 (⟨-, rfl, b8⟩ | ⟨s2, o2, vp, vo, rfl, ip, io, b8, hs, hw⟩)
            · have B8 : Hid (Below w.heap.size w (w8.alloc (.cells #[.slice none 0 0, .int .i64 0, .slice none 0 0] 29))) := balloc (bthen B6.out b8) _
              have R8 : Hid _ := R6.out.below (bthen b8 (balloc (Below.refl _ _) (.cells #[.slice none 0 0, .int .i64 0, .slice none 0 0] 29)))
              clear b8 p0 p1
              obtain ⟨k0, k1, k2⟩ := R8.out.cell
              go_wp2_with fail
              go_ret
              exact ⟨rfl, B8.out⟩
            · exact absurd HF.out (by have h1 := hw.dlt; have h2 : far = 1099511627776 := rfl; omega)
          · obtain ⟨bx, cx6, rfl⟩ := ip.sl.val
            obtain ⟨bz, cz6, rfl⟩ := io.sl.val
            obtain ⟨lx6, hlx⟩ : ∃ lx6, (ints (way s1 S T)).length = lx6 := ⟨_, rfl⟩
            obtain ⟨lz6, hlz⟩ : ∃ lz6, (ints o1).length = lz6 := ⟨_, rfl⟩
            rw [hlx, hlz]
            obtain ⟨cT, hcT⟩ : ∃ cT, cst N es S T = cT := ⟨_, rfl⟩
            have HDT : Hid (cst N es S T = cT) := hcT
            have HLT : Hid (cst N es S T < far) := hw.dlt
            rw [hcT]
            have B6 : Hid (Below w.heap.size w (w6.alloc (.cells #[.slice bx lx6 cx6, .int .i64 cT, .slice bz lz6 cz6] 29))) := balloc (bthen B5.out b6) _
            have b7 := bthen b6 (balloc (Below.refl _ _) (.cells #[.slice bx lx6 cx6, .int .i64 cT, .slice bz lz6 cz6] 29))
            have P6 : Hid _ := P5.out.below b7
            have G26 : Hid _ := G25.out.below b7
            have R6 : Hid (Rb (w6.alloc (.cells #[.slice bx lx6 cx6, .int .i64 cT, .slice bz lz6 cz6] 29)) w6.heap.size (.slice bx lx6 cx6) (.int .i64 cT) (.slice bz lz6 cz6)) := ⟨heap_alloc_new w6 _⟩
            obtain ⟨F, hF⟩ : ∃ F, w6.heap.size = F := ⟨_, rfl⟩
            clear b6 b7 p0 p1 G15 G25 P5 hlx hlz hcT ip io hs hw
            obtain ⟨p0, p1⟩ := P6.out
            go_wp2_with fail
            generalize w6.alloc (.cells #[.slice bx lx6 cx6, .int .i64 cT, .slice bz lz6 cz6] 29) = W7 at *
            rw [hF] at R6
            clear hF
            refine (srun_agr N S T _ _ es _ W7 (cst N es S) (HV.out.below B6.out) G26.out hSN hTN HP.out HNP.out HA2.out (HES.out S hSN)).mono ?_
            rintro e w8 (⟨hf, rfl, b8⟩ | ⟨s2, o, vp, vo, rfl, ip, io, b8, hs, hw⟩)
            · exact absurd hf (by have h1 := HLT.out; have h2 : far = 1099511627776 := rfl; omega)
            obtain ⟨by8, cy8, rfl⟩ := ip.sl.val
            obtain ⟨bz8, cz8, rfl⟩ := io.sl.val
            obtain ⟨ly8, hly⟩ : ∃ ly8, (ints (way s2 S T)).length = ly8 := ⟨_, rfl⟩
            obtain ⟨lo, hlo⟩ : ∃ lo, (ints o).length = lo := ⟨_, rfl⟩
            have HLO : Hid (o.length = lo) := by unfold Hid; rw [← hlo, ints_length]
            have HS : Hid _ := hs
            have HW : Hid _ := hw
            have IZ8 : Hid (SlI w8 (.slice bz8 lo cz8) (ints o)) := by rw [← hlo]; exact io.sl
            rw [hly, hlo, HDT.out]
            have B8 : Hid (Below w.heap.size w (w8.alloc (.cells #[.slice by8 ly8 cy8, .int .i64 cT, .slice bz8 lo cz8] 29))) := balloc (bthen B6.out b8) _
            have b9 := bthen b8 (balloc (Below.refl _ _) (.cells #[.slice by8 ly8 cy8, .int .i64 cT, .slice bz8 lo cz8] 29))
            have P8 : Hid _ := P6.out.below b9
            have R68 : Hid _ := R6.out.below b9
            have IZ9 : Hid _ := IZ8.out.below (balloc (Below.refl _ _) (.cells #[.slice by8 ly8 cy8, .int .i64 cT, .slice bz8 lo cz8] 29))
            have R8 : Hid (Rb (w8.alloc (.cells #[.slice by8 ly8 cy8, .int .i64 cT, .slice bz8 lo cz8] 29)) w8.heap.size (.slice by8 ly8 cy8) (.int .i64 cT) (.slice bz8 lo cz8)) := ⟨heap_alloc_new w8 _⟩
            obtain ⟨FY, hFY⟩ : ∃ FY, w8.heap.size = FY := ⟨_, rfl⟩
            clear b8 b9 p0 p1 hly hlo ip io hs hw IZ8 P6 R6 G26
            obtain ⟨p0, p1⟩ := P8.out
            obtain ⟨k0, k1, k2⟩ := R68.out.cell
            obtain ⟨q0, q1, q2⟩ := R8.out.cell
            go_wp2_with fail
            generalize w8.alloc (.cells #[.slice by8 ly8 cy8, .int .i64 cT, .slice bz8 lo cz8] 29) = W9 at *
            rw [hFY] at R8
            clear hFY
            refine (dist_yes N S _ es W9 (HV.out.below B8.out) HNP.out HP.out hSN).mono ?_
            rintro e w10 ⟨G, d, rfl, hG, ur, hd, b10⟩
            have B10 : Hid (Below w.heap.size w w10) := bthen B8.out b10
            have P10 : Hid _ := P8.out.below b10
            have R10 : Hid _ := R8.out.below b10
            have IZ10 : Hid _ := IZ9.out.below b10
            have UR10 : Hid _ := ur
            have DD : Hid (∀ i, i < N → d i = cst N es S i) := fun i hi => hd.eq HP.out (HES.out S hSN) hi
            clear b10 hG ur hd p0 p1 k0 k1 k2 q0 q1 q2 P8 R8 R68 IZ9
            obtain ⟨q0, q1, q2⟩ := R10.out.cell
            go_wp2_with fail
            clear q0 q1 q2
            go_loopw [104] (fun z wr => ∃ i : Nat, z = .int .i64 i ∧ i ≤ lo ∧ Below w10.heap.size w10 wr) (fun z _ => lo - (intOf z).toNat)
            case atStart => exact ⟨0, rfl, Nat.zero_le _, Below.refl _ _⟩
            case round =>
              obtain ⟨i, rfl, hi, hb⟩ := hrel
              have HB : Hid (Below w10.heap.size w10 wr) := hb
              clear hb
              have hlo64 : lo ≤ 64 := by have := HW.out.len; have := HLO.out; omega
              by_cases hlt : i < lo
              · have hii : (i : Int) < (lo : Int) := by omega
                have hol : i < o.length := by rw [HLO.out]; exact hlt
                obtain ⟨bz, oz, cz', hze, hzc⟩ := (IZ10.out.below HB.out).some' (by rw [ints_length]; omega)
                simp only [Value.slice.injEq] at hze
                obtain ⟨rfl, -, rfl⟩ := hze
                have e0 := hzc i (by rw [ints_length]; omega)
                rw [ints_at hol] at e0
                clear hzc
                obtain ⟨x, hx⟩ : ∃ x, o[i] = x := ⟨_, rfl⟩
                rw [hx] at e0
                have hxo : x ∈ o := by rw [← hx]; exact List.getElem_mem hol
                have hxN : x < N := HW.out.inn x hxo
                obtain ⟨p0, p1⟩ := P10.out.below HB.out
                have hfar : far = 1099511627776 := rfl
                have SUM : Hid (cst N es S x + cst N es x T = cT ∧ 0 ≤ cst N es S x ∧ 0 ≤ cst N es x T ∧ cT < far) := by
                  have h1 := HS.out.up x hxo
                  have h2 : gf (lst N (grt N es (p ++ [(T : Int)]) T)) x = cst N es x T := (lst_at hxN).trans (HEQ.out x hxN)
                  rw [h2, HDT.out] at h1
                  have h3 := HLT.out
                  rw [HDT.out] at h3
                  have h4 := ((HES.out S hSN).lo x hxN)
                  have h5 := ((HES.out x hxN).lo T hTN)
                  have h6 := (HES.out S hSN).over HP.out (HES.out x hxN) hxN (by omega) T hTN (by omega)
                  rw [HDT.out] at h6
                  exact ⟨by omega, h4, h5, h3⟩
                clear hx hxo hfar
                go_wp2_with fail
                refine (dist_yes N x _ es wr (HV.out.below (bthen B10.out HB.out)) HNP.out HP.out hxN).mono ?_
                rintro e w11 ⟨G', d', rfl, hG', ur', hd', b11⟩
                have BC : Hid (Below w10.heap.size w10 w11) := bthen HB.out b11
                obtain ⟨d0, -⟩ := (UR10.out.below BC.out).cell x hxN
                obtain ⟨d1, -⟩ := (UR10.out.below BC.out).cell T hTN
                obtain ⟨d2, -⟩ := ur'.cell T hTN
                rw [DD.out x hxN] at d0
                rw [DD.out T hTN, HDT.out] at d1
                rw [hd'.eq HP.out (HES.out x hxN) hTN] at d2
                have hxi : (x : Int) < (N : Int) := by omega
                have hTi : (T : Int) < (N : Int) := by omega
                obtain ⟨A, hA⟩ : ∃ A, cst N es S x = A := ⟨_, rfl⟩
                obtain ⟨A', hA'⟩ : ∃ A', cst N es x T = A' := ⟨_, rfl⟩
                have SM := SUM.out
                rw [hA] at d0 SM
                rw [hA'] at d2 SM
                have hfar : far = 1099511627776 := rfl
                have hw0 : IntKind.i64.wrap (A + A') = cT := by rw [SM.1, IntKind.wrap_i64]; omega
                clear hA hA' hG' ur' hd' b11 p0 p1 e0 SM SUM hfar
                go_wp2_with fail
                go_quiet (fail)
                go_wp2_with fail
                go_roundw
                case rel => exact ⟨i + 1, by go_num, by omega, bdrewN BC.out _⟩
                case measure => simp [intOf]; omega
              · go_wp2_with fail
                go_ret
                exact ⟨rfl, bthen B10.out HB.out⟩
        · have hz : (lk N es [s] != 0) = true := by simp [hc]
          clear hc
          go_wp2_with fail
          refine (begun_any _).mono ?_
          rintro e w6 ⟨rfl, b6⟩
          have B6 : Hid (Below w.heap.size w w6) := bthen B5.out b6
          clear b6
          go_wp2_with fail
          go_ret
          exact ⟨rfl, B6.out⟩
      · have hz : (ex != 0) = true := by simp [h2]
        clear h2
        go_wp2_with fail
        refine (begun_any _).mono ?_
        rintro e w3 ⟨rfl, b3⟩
        have B3 : Hid (Below w.heap.size w w3) := bthen B2.out b3
        clear b3
        go_wp2_with fail
        refine (begun_any _).mono ?_
        rintro e w4 ⟨rfl, b4⟩
        have B4 : Hid (Below w.heap.size w w4) := bthen B3.out b4
        clear b4
        go_wp2_with fail
        go_ret
        exact ⟨rfl, B4.out⟩
    · have hz : (er != 0) = true := by simp [h1]
      clear h1
      go_wp2_with fail
      refine (begun_any _).mono ?_
      rintro e w3 ⟨rfl, b3⟩
      have B3 : Hid (Below w.heap.size w w3) := bthen B2.out b3
      clear b3
      go_wp2_with fail
      refine (begun_any _).mono ?_
      rintro e w4 ⟨rfl, b4⟩
      have B4 : Hid (Below w.heap.size w w4) := bthen B3.out b4
      clear b4
      go_wp2_with fail
      go_ret
      exact ⟨rfl, B4.out⟩
end Go.Proofs.Ytefikbjjdldomaa.TMarks
