/-
  The law StarLeast.
-/
import Derived.Test.YtefikbjjdldomaaPW
import Derived.Test.YtefikbjjdldomaaFB
import Derived.Test.YtefikbjjdldomaaOpenN
import Derived.BigQuiet
namespace Go.Proofs.Ytefikbjjdldomaa.SLeast
open Go.RowKit Go.Deep
open _root_.Go.Proofs.Ytefikbjjdldomaa.Nm Wm Dm Sk

/-- The sum of cost and guess of the place looked from before the i-th. -/
def lastv (D : Nat → Int) (h : List Int) (o : List Nat) (i : Nat) : Int := if i = 0 then 0 else D (o.getD (i - 1) 0) + h.getD (o.getD (i - 1) 0) 0
theorem last_next {D : Nat → Int} {h : List Int} {o : List Nat} {i x : Nat} (hi : i < o.length) (hx : o[i] = x) : lastv D h o (i + 1) = D x + h.getD x 0 := by
  have e : o.getD i 0 = x := by rw [← hx]; simp [List.getD_eq_getElem?_getD, hi]
  unfold lastv
  rw [if_neg (by omega), Nat.add_sub_cancel, e]
theorem last_le {D : Nat → Int} {h : List Int} {o : List Nat} (hs : o.Pairwise (fun u v => D u + gf h u ≤ D v + gf h v)) {i x : Nat} (hi : i < o.length) (hx : o[i] = x) (h0 : 0 ≤ D x + h.getD x 0) : ¬ D x + h.getD x 0 < lastv D h o i := by
  unfold lastv
  split
  · omega
  · have h1 := List.pairwise_iff_getElem.1 hs (i - 1) i (by omega) hi (by omega)
    have e : o.getD (i - 1) 0 = o[i - 1] := by simp [List.getD_eq_getElem?_getD, show i - 1 < o.length by omega]
    rw [e, ← hx]
    unfold gf at h1
    omega
set_option maxRecDepth 100000 in
set_option maxHeartbeats 32000000 in
theorem walk (n s t : Int) (v u : Value) (es : List E) (h : List Int) (w : World) (hv : SlE w v es) (hu : SlI w u h) (hlen : es.length ≤ 9223372036854775807) (hhl : h.length ≤ 9223372036854775807) :
    Calls Try.prog 5 #[.agg #[.int .i64 n, v], .int .i64 s, .int .i64 t, u] w fun e w' => e = .returned (.bool true) ∧ Below w.heap.size w w' := by
  obtain ⟨a0, c0, rfl⟩ := hv.val
  obtain ⟨a1, c1, rfl⟩ := hu.val
  have HV : Hid _ := hv
  have HU : Hid _ := hu
  clear hv hu
  go_enter Try.func5, Try.ntmps5
  have P0 : Hid _ := box2_new w n (.slice a0 es.length c0) 24
  have B0 : Hid (Below w.heap.size w (w.alloc (.cells #[.int .i64 n, .slice a0 es.length c0] 24))) := balloc (Below.refl _ _) _
  go_wp2_with fail
  generalize w.alloc (.cells #[.int .i64 n, .slice a0 es.length c0] 24) = W0 at *
  refine (two_any W0).mono ?_
  rintro e w1 ⟨X, rfl, e1, b1⟩
  have B1 : Hid (Below W0.heap.size W0 w1) := b1
  have E1 : Hid _ := e1.below (balloc (Below.refl _ _) (.cells #[.int .i64 5, .int .i64 0] 3))
  have L1 : Hid _ := lit_nums w1 [5, 0] #[.int .i64 5, .int .i64 0] 2 rfl rfl
  clear b1 e1
  go_wp2_with fail
  refine (star_two5 _ _ _ E1.out L1.out).mono ?_
  rintro e w2 ⟨vp, vo, rfl, ip, io, b2⟩
  have B2 : Hid (Below W0.heap.size W0 w2) := bthen (balloc B1.out _) b2
  obtain ⟨ap, cp, rfl⟩ := ip.sl.val
  obtain ⟨ao, co, rfl⟩ := io.sl.val
  have IQ : Hid _ := io.sl
  have IP : Hid _ := ip.sl
  have LEN : Hid ((ints [0, 1]).length = 2) := rfl
  have FB : Hid (Below w2.heap.size w2 (((w2.alloc (.cells #[.slice ap (ints [0, 1]).length cp, .int .i64 5, .slice ao (ints [0, 1]).length co] 29)).alloc (.cells #[.int .i64 0, .int .i64 1] 3)).alloc (.cells #[.int .i64 0, .int .i64 1] 3))) := balloc (balloc (balloc (Below.refl _ _) _) _) _
  have LA : Hid (SlI (((w2.alloc (.cells #[.slice ap (ints [0, 1]).length cp, .int .i64 5, .slice ao (ints [0, 1]).length co] 29)).alloc (.cells #[.int .i64 0, .int .i64 1] 3)).alloc (.cells #[.int .i64 0, .int .i64 1] 3)) (.slice (some ⟨w2.heap.size + 1, 0, none⟩) 2 2) (ints [0, 1])) := by
    have h1 := lit_nums (w2.alloc (.cells #[.slice ap (ints [0, 1]).length cp, .int .i64 5, .slice ao (ints [0, 1]).length co] 29)) [0, 1] #[.int .i64 0, .int .i64 1] 2 rfl rfl
    have e1 : (w2.alloc (.cells #[.slice ap (ints [0, 1]).length cp, .int .i64 5, .slice ao (ints [0, 1]).length co] 29)).heap.size = w2.heap.size + 1 := by simp
    rw [e1] at h1
    exact h1.below (balloc (Below.refl _ _) _)
  have LB : Hid (SlI (((w2.alloc (.cells #[.slice ap (ints [0, 1]).length cp, .int .i64 5, .slice ao (ints [0, 1]).length co] 29)).alloc (.cells #[.int .i64 0, .int .i64 1] 3)).alloc (.cells #[.int .i64 0, .int .i64 1] 3)) (.slice (some ⟨w2.heap.size + 2, 0, none⟩) 2 2) (ints [0, 1])) := by
    have h1 := lit_nums ((w2.alloc (.cells #[.slice ap (ints [0, 1]).length cp, .int .i64 5, .slice ao (ints [0, 1]).length co] 29)).alloc (.cells #[.int .i64 0, .int .i64 1] 3)) [0, 1] #[.int .i64 0, .int .i64 1] 2 rfl rfl
    have e1 : ((w2.alloc (.cells #[.slice ap (ints [0, 1]).length cp, .int .i64 5, .slice ao (ints [0, 1]).length co] 29)).alloc (.cells #[.int .i64 0, .int .i64 1] 3)).heap.size = w2.heap.size + 2 := by simp
    rw [e1] at h1
    exact h1
  have CS : Hid _ := fun (_ : Unit) => samefound_yes 5 _ _ _ _ (ints [0, 1]) (ints [0, 1]) _ (IP.out.below FB.out) LA.out (IQ.out.below FB.out) LB.out (by simp [ints]) (by simp [ints])
  clear b2 E1 L1 B1 ip io
  go_wp2_with fail
  refine (CS.out ()).mono ?_
  rintro e w3 ⟨rfl, b3⟩
  have Z3 : Hid (Below W0.heap.size W0 w3) := bthen B2.out (bthen FB.out b3)
  have B3 : Hid (Below w.heap.size w w3) := bthen B0.out Z3.out
  have P3 : Hid _ := P0.out.below Z3.out
  clear b3 FB LA LB CS IQ IP B2 Z3 P0 B0
  obtain ⟨p0, p1⟩ := P3.out
  by_cases hc : sls n es s t h = 0
  · obtain ⟨N, S, T, rfl, rfl, rfl, hSN, hTN, hp, hg, hl⟩ := sls_zero hc
    have hag := agr_of hl hg
    have HNP : Hid _ := (lk_zero hl).1
    obtain ⟨D, hD⟩ := d_ex _ es w HV.out hp hSN
    have HP : Hid _ := hp
    have HAG : Hid _ := hag
    have HD : Hid _ := hD
    have HC : Hid _ := hc
    have hn64 := hp.n64
    obtain ⟨bh, oh, ch, he, hcl⟩ := HU.out.some2 (by rw [hag.len]; omega)
    simp only [Value.slice.injEq] at he
    obtain ⟨rfl, -, rfl⟩ := he
    have HCL : Hid _ := hcl.1
    clear hag hg hl hD hp hc hcl
    have hTi : (T : Int) < (N : Int) := by omega
    go_wp2_with fail
    refine (srun_agr N S T _ _ es h w3 D (HV.out.below B3.out) (HU.out.below B3.out) hSN hTN HP.out HNP.out HAG.out HD.out).mono ?_
    rintro e w4 (⟨hf, rfl, b4⟩ | ⟨s', o, vp, vo, rfl, ip, io, b4, hs, hw⟩)
    · have HF : Hid _ := hf
      have B4 : Hid (Below w.heap.size w w4) := bthen B3.out b4
      have P4 : Hid _ := P3.out.below (bthen b4 (balloc (Below.refl _ _) (.cells #[.slice none 0 0, .int .i64 0, .slice none 0 0] 29)))
      have B5 : Hid (Below w.heap.size w (w4.alloc (.cells #[.slice none 0 0, .int .i64 0, .slice none 0 0] 29))) := balloc B4.out _
      clear b4 p0 p1 hf
      obtain ⟨p0, p1⟩ := P4.out
      go_wp2_with fail
      generalize w4.alloc (.cells #[.slice none 0 0, .int .i64 0, .slice none 0 0] 29) = W5 at *
      refine (slook_any N S T _ _ es h W5 (HV.out.below B5.out) (HU.out.below B5.out) hlen hhl).mono ?_
      rintro e w6 ⟨rfl, b6⟩
      have B6 : Hid (Below w.heap.size w w6) := bthen B5.out b6
      have P6 : Hid _ := P4.out.below b6
      rw [HC.out]
      clear b6 p0 p1
      obtain ⟨p0, p1⟩ := P6.out
      go_wp2_with fail
      refine (dist_yes N S _ es w6 (HV.out.below B6.out) HNP.out HP.out hSN).mono ?_
      rintro e w7 ⟨G, d, rfl, hG, ur, hd, b7⟩
      have B7 : Hid (Below w.heap.size w w7) := bthen B6.out b7
      obtain ⟨d0, -⟩ := ur.cell T hTN
      rw [hd.eq HP.out HD.out hTN, HF.out] at d0
      clear b7 hG ur hd p0 p1
      go_wp2_with fail
      go_ret
      exact ⟨rfl, B7.out⟩
    · have B4 : Hid (Below w.heap.size w w4) := bthen B3.out b4
      have HS : Hid _ := hs
      have HW : Hid _ := hw
      have HWC : Hid _ := wgh_walk HP.out HNP.out hSN hTN hw
      have HCT : Hid (s'.c T = D T) := hs.ct
      obtain ⟨ax, cx, rfl⟩ := ip.sl.val
      obtain ⟨az, cz, rfl⟩ := io.sl.val
      obtain ⟨lx, hlx⟩ : ∃ lx, (ints (way s' S T)).length = lx := ⟨_, rfl⟩
      obtain ⟨lo, hlo⟩ : ∃ lo, (ints o).length = lo := ⟨_, rfl⟩
      have IX : Hid (SlI w4 (.slice ax lx cx) (ints (way s' S T))) := by rw [← hlx]; exact ip.sl
      have IZ : Hid (SlI w4 (.slice az lo cz) (ints o)) := by rw [← hlo]; exact io.sl
      have HLO : Hid (o.length = lo) := by unfold Hid; rw [← hlo, ints_length]
      rw [hlx, hlo]
      obtain ⟨cT, hcT⟩ : ∃ cT, D T = cT := ⟨_, rfl⟩
      have HDT : Hid (D T = cT) := hcT
      rw [hcT]
      have P4 : Hid _ := P3.out.below (bthen b4 (balloc (Below.refl _ _) (.cells #[.slice ax lx cx, .int .i64 cT, .slice az lo cz] 29)))
      have B5 : Hid (Below w.heap.size w (w4.alloc (.cells #[.slice ax lx cx, .int .i64 cT, .slice az lo cz] 29))) := balloc B4.out _
      have R5 : Hid (Rb (w4.alloc (.cells #[.slice ax lx cx, .int .i64 cT, .slice az lo cz] 29)) w4.heap.size (.slice ax lx cx) (.int .i64 cT) (.slice az lo cz)) := ⟨heap_alloc_new w4 _⟩
      have IX5 : Hid _ := IX.out.below (balloc (Below.refl _ _) (.cells #[.slice ax lx cx, .int .i64 cT, .slice az lo cz] 29))
      have IZ5 : Hid _ := IZ.out.below (balloc (Below.refl _ _) (.cells #[.slice ax lx cx, .int .i64 cT, .slice az lo cz] 29))
      clear b4 p0 p1 hs hw hlx hlo hcT ip io IX IZ
      obtain ⟨p0, p1⟩ := P4.out
      obtain ⟨F, hF⟩ : ∃ F, w4.heap.size = F := ⟨_, rfl⟩
      go_wp2_with fail
      generalize w4.alloc (.cells #[.slice ax lx cx, .int .i64 cT, .slice az lo cz] 29) = W5 at *
      rw [hF] at R5
      clear hF
      refine (slook_any N S T _ _ es h W5 (HV.out.below B5.out) (HU.out.below B5.out) hlen hhl).mono ?_
      rintro e w6 ⟨rfl, b6⟩
      have B6 : Hid (Below w.heap.size w w6) := bthen B5.out b6
      have P6 : Hid _ := P4.out.below b6
      have R6 : Hid _ := R5.out.below b6
      have IX6 : Hid _ := IX5.out.below b6
      have IZ6 : Hid _ := IZ5.out.below b6
      rw [HC.out]
      clear b6 p0 p1 P4 R5 IX5 IZ5
      obtain ⟨p0, p1⟩ := P6.out
      go_wp2_with fail
      refine (dist_yes N S _ es w6 (HV.out.below B6.out) HNP.out HP.out hSN).mono ?_
      rintro e w7 ⟨G, d, rfl, hG, ur, hd, b7⟩
      have B7 : Hid (Below w.heap.size w w7) := bthen B6.out b7
      have UR7 : Hid _ := ur
      have DD : Hid (∀ i, i < N → d i = D i) := fun i hi => hd.eq HP.out HD.out hi
      have P7 : Hid _ := P6.out.below b7
      have R7 : Hid _ := R6.out.below b7
      have IX7 : Hid _ := IX6.out.below b7
      have IZ7 : Hid _ := IZ6.out.below b7
      clear b7 hG ur hd p0 p1 P6 R6 IX6 IZ6
      obtain ⟨p0, p1⟩ := P7.out
      obtain ⟨k0, k1, k2⟩ := R7.out.cell
      obtain ⟨d0, -⟩ := UR7.out.cell T hTN
      rw [DD.out T hTN, HDT.out] at d0
      have WK : Hid (∀ W, Below w7.heap.size w7 W → Calls Try.prog 23 #[.agg #[.int .i64 N, .slice a0 es.length c0], .agg #[.slice ax lx cx, .int .i64 cT], .int .i64 S, .int .i64 T] W fun e w' => e = .returned (.bool true) ∧ Below W.heap.size W w') := fun W hb => by
        obtain ⟨q1, q2, q3, q4, q5⟩ := HWC.out
        rw [HCT.out, HDT.out] at q1
        exact walks_any N S T cT _ _ es _ W (HV.out.below (bthen B7.out hb)) (IX7.out.below hb) hlen q1 q2 q3 q4 q5
      have CO : Hid (∀ W, Below w7.heap.size w7 W → Calls Try.prog 24 #[.slice az lo cz] W fun e w' => e = .returned (.bool true) ∧ w' = W) := fun W hb => once_any (.slice az lo cz) o W (IZ7.out.below hb) (by have := HW.out.len; omega) HW.out.nd
      have ALL : Hid (∀ W, Below w7.heap.size w7 W → (W.cell? ⟨w.heap.size, 0, none⟩ = some (.int .i64 N) ∧ W.cell? ⟨w.heap.size, 1, none⟩ = some (.slice a0 es.length c0) ∧ W.cell? ⟨F, 0, none⟩ = some (.slice ax lx cx) ∧ W.cell? ⟨F, 1, none⟩ = some (.int .i64 cT) ∧ W.cell? ⟨F, 2, none⟩ = some (.slice az lo cz) ∧ W.cell? ⟨G, T, none⟩ = some (.int .i64 cT))) := fun W hb => ⟨kept hb p0, kept hb p1, kept hb k0, kept hb k1, kept hb k2, kept hb d0⟩
      go_wp2_with fail
      go_region_held3 (fun w' => w'.cell? ⟨w.heap.size, 0, none⟩ = some (.int .i64 N) ∧ w'.cell? ⟨w.heap.size, 1, none⟩ = some (.slice a0 es.length c0) ∧ w'.cell? ⟨F, 0, none⟩ = some (.slice ax lx cx) ∧ w'.cell? ⟨F, 1, none⟩ = some (.int .i64 cT) ∧ w'.cell? ⟨F, 2, none⟩ = some (.slice az lo cz) ∧ w'.cell? ⟨G, T, none⟩ = some (.int .i64 cT)) (first | go_keep | exact KEEP.out)
        (first
         | (go_at_call 23; refine (WK.out _ (by exact Below.drew (Below.refl _ _))).mono ?_; rintro e w8 ⟨rfl, b8⟩; have BB : Hid (Below w7.heap.size w7 w8) := (by exact bthen (Below.drew (Below.refl _ _)) b8); clear b8; have KEEP : Hid ((w8.cell? ⟨w.heap.size, 0, none⟩ = some (.int .i64 N) ∧ w8.cell? ⟨w.heap.size, 1, none⟩ = some (.slice a0 es.length c0) ∧ w8.cell? ⟨F, 0, none⟩ = some (.slice ax lx cx) ∧ w8.cell? ⟨F, 1, none⟩ = some (.int .i64 cT) ∧ w8.cell? ⟨F, 2, none⟩ = some (.slice az lo cz) ∧ w8.cell? ⟨G, T, none⟩ = some (.int .i64 cT))) := ALL.out _ BB.out)
         | (go_at_call 24; refine (CO.out _ (by exact BB.out)).mono ?_; rintro e w9 ⟨rfl, rfl⟩)
         | fail)
      have B9 : Hid (Below w.heap.size w w9) := bthen B7.out BB.out
      have R9 : Hid _ := R7.out.below BB.out
      have UR9 : Hid _ := UR7.out.below BB.out
      have P9 : Hid _ := P7.out.below BB.out
      have IZ9 : Hid _ := IZ7.out.below BB.out
      clear k0 k1 k2 p0 p1 d0 WK CO ALL KEEP BB R7 UR7 P7 IZ7 IX7 B7 B6 B5 B4
      obtain ⟨k0, k1, k2⟩ := R9.out.cell
      go_wp2_with fail
      clear k0 k1 k2
      go_loopw [102, 15] (fun z y wr => ∃ i : Nat, z = .int .i64 i ∧ i ≤ lo ∧ y = .int .i64 (lastv D h o i) ∧ Below w9.heap.size w9 wr) (fun z _ _ => lo - (intOf z).toNat)
      case atStart => exact ⟨0, rfl, Nat.zero_le _, rfl, Below.refl _ _⟩
      case round =>
        obtain ⟨i, rfl, hi, rfl, hb⟩ := hrel
        have HB : Hid (Below w9.heap.size w9 wr) := hb
        clear hb
        have hlo64 : lo ≤ 64 := by have := HW.out.len; have := HLO.out; omega
        by_cases hlt : i < lo
        · have hii : (i : Int) < (lo : Int) := by omega
          have hol : i < o.length := by rw [HLO.out]; exact hlt
          obtain ⟨bz, oz, cz', hze, hzc⟩ := (IZ9.out.below HB.out).some' (by rw [ints_length]; omega)
          simp only [Value.slice.injEq] at hze
          obtain ⟨rfl, -, rfl⟩ := hze
          have e0 := hzc i (by rw [ints_length]; omega)
          rw [ints_at hol] at e0
          clear hzc
          obtain ⟨x, hx⟩ : ∃ x, o[i] = x := ⟨_, rfl⟩
          have HX : Hid (o[i] = x) := hx
          rw [hx] at e0
          have hxo : x ∈ o := by rw [← hx]; exact List.getElem_mem hol
          have hxN : x < N := HW.out.inn x hxo
          have hxi : (x : Int) < (N : Int) := by omega
          have hxh : (x : Int) < (h.length : Int) := by rw [HAG.out.len]; exact hxi
          obtain ⟨p0, p1⟩ := P9.out.below HB.out
          obtain ⟨d0, -⟩ := (UR9.out.below HB.out).cell x hxN
          rw [DD.out x hxN] at d0
          have f0 := kept (bthen B9.out HB.out) (HCL.out x (by rw [HAG.out.len]; exact hxN))
          have s1 : decide ((x : Int) < 0) = false := decide_eq_false (by omega)
          have s2 : decide ((N : Int) ≤ (x : Int)) = false := decide_eq_false (by omega)
          have hDx := HD.out.lo x hxN
          have hDf := HS.out.lt x hxo
          have hhx := HAG.out.lo x hxN
          have hfar : far = 1099511627776 := rfl
          have s3 : decide (D x + h.getD x 0 < lastv D h o i) = false := decide_eq_false (last_le HS.out.srt hol hx (by omega))
          have s4 : (D x == 1099511627776) = false := by simp; omega
          have HN : Hid (lastv D h o (i + 1) = D x + h.getD x 0) := last_next hol hx
          generalize lastv D h o i = lv at s3 ⊢
          have hsum : IntKind.i64.wrap (D x + h.getD x 0) = D x + h.getD x 0 := by rw [IntKind.wrap_i64]; omega
          obtain ⟨Dx, hDxe⟩ : ∃ Dx, D x = Dx := ⟨_, rfl⟩
          obtain ⟨hh, hhe⟩ : ∃ hh, h.getD x 0 = hh := ⟨_, rfl⟩
          rw [hDxe] at d0 s3 s4 hsum HN
          rw [hhe] at f0 s3 hsum HN
          clear hx hxo hDxe hhe hDx hDf hhx hfar
          go_wp2_with fail
          go_quiet (fail)
          go_wp2_with fail

          go_quiet (fail)
          go_wp2_with fail
          go_roundw
          case rel => exact ⟨i + 1, by go_num, by omega, by rw [HN.out], bdrewN HB.out _⟩
          case measure => simp [intOf]; omega
        · go_wp2_with fail
          go_ret
          exact ⟨rfl, bthen B9.out HB.out⟩
  · have HC : Hid _ := hc
    have hz : (sls n es s t h != 0) = true := by simp [hc]
    clear hc
    go_wp2_with fail
    refine (srun_no n s t _ _ es h w3 (HV.out.below B3.out) (HU.out.below B3.out) hlen hhl HC.out).mono ?_
    rintro e w4 ⟨rfl, b4⟩
    have B4 : Hid (Below w.heap.size w w4) := bthen B3.out b4
    have P4 : Hid _ := P3.out.below (bthen b4 (balloc (Below.refl _ _) (.cells #[.slice none 0 0, .int .i64 0, .slice none 0 0] 29)))
    have R4 : Hid (Rb (w4.alloc (.cells #[.slice none 0 0, .int .i64 0, .slice none 0 0] 29)) w4.heap.size (.slice none 0 0) (.int .i64 0) (.slice none 0 0)) := ⟨heap_alloc_new w4 _⟩
    have B5 : Hid (Below w.heap.size w (w4.alloc (.cells #[.slice none 0 0, .int .i64 0, .slice none 0 0] 29))) := balloc B4.out _
    clear b4 p0 p1
    obtain ⟨p0, p1⟩ := P4.out
    go_wp2_with fail
    generalize w4.alloc (.cells #[.slice none 0 0, .int .i64 0, .slice none 0 0] 29) = W5 at *
    refine (slook_any n s t _ _ es h W5 (HV.out.below B5.out) (HU.out.below B5.out) hlen hhl).mono ?_
    rintro e w6 ⟨rfl, b6⟩
    obtain ⟨k0, k1, k2⟩ := R4.out.below b6 |>.cell
    have B6 : Hid (Below w.heap.size w w6) := bthen B5.out b6
    clear b6
    go_wp2_with fail
    go_ret
    exact ⟨rfl, B6.out⟩
end Go.Proofs.Ytefikbjjdldomaa.SLeast
