/-
  Contract: the document's WayOf.
-/
import Derived.Test.YtahijfljpjgdlaaYC
import Derived.Test.YtahijfljpjgdlaaDN
import Derived.Test.YtahijfljpjgdlaaWC
import Derived.Deep.DeepCutAuto
import Derived.Deep.RegionWith
namespace Go.Proofs.Ytahijfljpjgdlaa
open Go.RowKit
open Nm Wm Dm Ym
attribute [local go_sem ↓] Go.wp_at_zero Go.wp_at_succ

theorem news1 {w w0 : World} {v : Value} {cs : List Int} (h : SlI w0 v cs) : ∀ (b n c : Nat), v = .slice (some ⟨b, 0, none⟩) n c → Below w0.heap.size w0 w → ∀ j u, (cs.map (fun z => Value.int .i64 z))[j]? = some u → w.cell? ((⟨b, 0, none⟩ : Addr).add j) = some u := by
  intro b n c hv hb j u hj
  have hadd : (⟨b, 0, none⟩ : Addr).add j = ⟨b, j, none⟩ := by unfold Addr.add; split <;> simp_all
  rw [hadd]
  have hjl : j < cs.length := by
    have := (List.getElem?_eq_some_iff.1 hj).1
    simpa using this
  obtain ⟨b', off', cap', hveq, hcl⟩ := h.some' (by omega)
  rw [hv] at hveq
  simp only [Value.slice.injEq, Option.some.injEq, Addr.mk.injEq] at hveq
  obtain ⟨⟨rfl, rfl, -⟩, -, -⟩ := hveq
  have := kept hb (hcl j hjl)
  rw [Nat.zero_add] at this
  rw [this, ← hj]
  simp [hjl]
/-- A slice's length. -/
def lenV : Value → Nat
  | .slice _ n _ => n
  | _ => 0
/-- The document's Dist, where the costs are known. -/
theorem rdist_is (N s : Nat) (d : Nat → Int) (v : Value) (es : List E) (w : World) (hv : SlE w v es) (hp : Pn N es) (hd : IsD N es s d) (hs : s < N) :
    Calls Try.prog 14 #[.agg #[.int .i64 N, v], .int .i64 s] w fun e w' => ∃ b cap, e = .returned (.slice (some ⟨b, 0, none⟩) N cap) ∧ Rw w' b cap (lst N d) ∧ Below w.heap.size w w' := by
  refine (rdist_any N s v es w hv hp hs).mono ?_
  rintro e w' ⟨b, cap, rfl, hr, hb⟩
  rw [lst_congr (spr_is hp hd)] at hr
  exact ⟨b, cap, rfl, hr, hb⟩

set_option maxRecDepth 100000 in
set_option maxHeartbeats 16000000 in
theorem wayof_any (N s t : Nat) (v : Value) (es : List E) (d : Nat → Int) (w : World) (hv : SlE w v es) (hp : Pn N es) (hg : Gn N es) (hd : IsD N es s d) (hs : s < N) (ht : t < N) (hf : d t < far) :
    Calls Try.prog 17 #[.agg #[.int .i64 N, v], .int .i64 s, .int .i64 t] w fun e w' => ∃ g cap k, e = .returned (.agg #[.slice (some ⟨g, 0, none⟩) (k + 1) cap, .int .i64 (d t)]) ∧ Bk N es s d t k ∧ anc (ah N es d) t k = s ∧ SlI w' (.slice (some ⟨g, 0, none⟩) (k + 1) cap) (bp (ah N es d) t k).reverse ∧ Below w.heap.size w w' := by
  obtain ⟨a0, c0, rfl⟩ := hv.val
  have HV : Hid _ := hv
  have HP : Hid _ := hp
  have HG : Hid _ := hg
  have HD : Hid _ := hd
  have HK0 : Hid _ := bk_zero (N := N) (es := es) (s := s) ht hf
  have hlen := hp.len
  have hn64 := hp.n64
  obtain ⟨f, hfe⟩ : ∃ f, ah N es d = f := ⟨_, rfl⟩
  have HFE : Hid _ := hfe
  clear hv hp hg hd hf hfe
  go_enter Try.func17, Try.ntmps17
  go_wp2_with fail
  have P0 : Hid _ := box2_new w (N : Int) (.slice a0 es.length c0) 24
  have B0 : Hid (Below w.heap.size w (w.alloc (.cells #[.int .i64 N, .slice a0 es.length c0] 24))) := balloc (Below.refl _ _) _
  have hz0 : (w.alloc (.cells #[.int .i64 N, .slice a0 es.length c0] 24)).heap.size = w.heap.size + 1 := by simp
  generalize w.alloc (.cells #[.int .i64 N, .slice a0 es.length c0] 24) = W0 at *
  have N1 : Hid _ := bw_new W0 (.slice none 0 0) (.int .i64 0)
  rw [hz0] at N1
  have P1 : Hid _ := P0.out.below (balloc (Below.refl _ _) (.cells #[.slice none 0 0, .int .i64 0] 34))
  have B1 : Hid (Below w.heap.size w (W0.alloc (.cells #[.slice none 0 0, .int .i64 0] 34))) := balloc B0.out _
  generalize W0.alloc (.cells #[.slice none 0 0, .int .i64 0] 34) = W1 at *
  clear hz0 P0 B0
  refine (rdist_is N s d _ es W1 (HV.out.below B1.out) HP.out HD.out hs).mono ?_
  rintro e w2 ⟨b2, cap2, rfl, r2, bb2⟩
  have R2 : Hid _ := r2
  have P2 : Hid _ := P1.out.below bb2
  have N2 : Hid _ := N1.out.below bb2
  have B2 : Hid (Below w.heap.size w w2) := bthen B1.out bb2
  clear r2 bb2 P1 N1 B1
  go_wp2_with fail
  have I3 : Hid _ := lit_is w2 (t : Int) w2.heap.size (Nat.le_refl _)
  have B3 : Hid (Below w2.heap.size w2 (w2.alloc (.cells #[.int .i64 t] 3))) := balloc (Below.refl _ _) _
  generalize w2.alloc (.cells #[.int .i64 t] 3) = W3 at *
  go_loopw [8] (fun u wr => ∃ k g cap : Nat, u = .slice (some ⟨g, 0, none⟩) (k + 1) cap ∧ Bk N es s d t k ∧ Is wr w2.heap.size (.slice (some ⟨g, 0, none⟩) (k + 1) cap) (bp f t k).reverse ∧ Below w2.heap.size w2 wr) (fun u _ => N - lenV u)
  case atStart => exact ⟨0, w2.heap.size, 1, rfl, HK0.out, I3.out, B3.out⟩
  case round =>
    clear I3 B3 HK0
    obtain ⟨k, g, cap, rfl, hbk, his, hb⟩ := hrel
    have HBK : Hid _ := hbk
    have HI : Hid _ := his
    have HB : Hid (Below w2.heap.size w2 wr) := hb
    have hkN := hbk.short HP.out
    have hlt : anc f t k < N := by have := hbk.lt k (Nat.le_refl _); rw [HFE.out] at this; exact this
    have hfk : d (anc f t k) < 1099511627776 := by have := hbk.fin k (Nat.le_refl _); rw [HFE.out] at this; exact this
    have c0' : wr.cell? ⟨g, 0, none⟩ = some (.int .i64 (anc f t k)) := by
      obtain ⟨g', o', c', hveq, hcl⟩ := his.sl.some' (by rw [List.length_reverse, bp_length]; omega)
      simp only [Value.slice.injEq, Option.some.injEq, Addr.mk.injEq] at hveq
      obtain ⟨⟨rfl, rfl, -⟩, -, rfl⟩ := hveq
      have := hcl 0 (by rw [List.length_reverse, bp_length]; omega)
      rw [rev_at (Nat.zero_le _), Nat.sub_zero] at this
      exact this
    have h1k : (0 : Int) < (k : Int) + 1 := by omega
    clear hbk his hb
    by_cases he : anc f t k = s
    · have HE : Hid _ := he
      have heb : ((anc f t k : Int) != (s : Int)) = false := by simp [he]
      have hie : ((anc f t k : Nat) : Int) = (s : Int) := by rw [he]
      have c1 : wr.cell? ⟨b2, t, none⟩ = some (.int .i64 (d t)) := by
        have := kept HB.out (R2.out.cell t (by rw [lst_length]; exact ht)).1
        rw [lst_at ht] at this
        exact this
      have htN : (t : Int) < (N : Int) := by omega
      obtain ⟨x0, x1⟩ := (N2.out.below HB.out).cell
      obtain ⟨y0, y1⟩ := (N2.out.below HB.out).frozen
      rw [hie] at c0'
      clear he hfk
      obtain ⟨x, hx⟩ : ∃ x, d t = x := ⟨_, rfl⟩
      have HXT : Hid _ := hx
      rw [hx] at c1
      clear hx
      go_wp2_with fail
      refine bodyPost_ret (v := .agg #[.slice (some ⟨g, 0, none⟩) (k + 1) cap, .int .i64 x]) ?_ rfl ?_
      · simp [results, Try.results17, go_sem, *]
      · exact ⟨g, cap, k, by rw [HXT.out], HBK.out, by rw [HFE.out]; exact HE.out, by rw [HFE.out]; exact ((HI.out.other N2.out.lt).other N2.out.lt).sl, Below.setCell (Below.setCell (bthen B2.out HB.out) (by simp) _) (by simp) _⟩
    · have HBN : Hid (Bk N es s d t (k + 1)) := bk_next HP.out HD.out HBK.out (by rw [HFE.out]; exact he)
      have heb : ((anc f t k : Int) != (s : Int)) = true := by simp; omega
      have hne : ¬ ((anc f t k : Nat) : Int) = (s : Int) := by omega
      have HAH : Hid _ := ah_is HP.out HD.out (v := anc f t k) hlt he hfk
      have HAL : Hid (∀ u, Tg es d u (anc f t k) → f (anc f t k) ≤ u) := fun u hu => by have := ahd_least (N := N) hu; rw [show ahd N es d (anc f t k) es.length = f (anc f t k) by rw [← HFE.out]; rfl] at this; exact this
      rw [HFE.out] at HAH
      have HYN : Hid (anc f t (k + 1) = f (anc f t k)) := rfl
      obtain ⟨wo, hwo⟩ : ∃ wo, wo = wr := ⟨_, rfl⟩
      subst hwo
      clear he
      go_wp2_with fail
      obtain ⟨v, hv⟩ : ∃ v, anc f t k = v := ⟨_, rfl⟩
      have HVE : Hid _ := hv
      rw [hv] at c0' hlt hfk heb hne HAH HAL HYN ⊢
      clear hv
      obtain ⟨y, hy⟩ : ∃ y, f v = y := ⟨_, rfl⟩
      rw [hy] at HAH HAL HYN
      have hyN := HAH.out.1
      clear hy
      go_loopw [10] (fun z wx => ∃ j : Nat, z = .int .i64 j ∧ j ≤ y ∧ Below wo.heap.size wo wx) (fun z _ => N - (intOf z).toNat)
      case atStart => exact ⟨0, rfl, Nat.zero_le _, Below.refl _ _⟩
      case round =>
        obtain ⟨j, rfl, hj, hb⟩ := hrel
        have HX : Hid (Below wo.heap.size wo wr) := hb
        clear hb
        have HPJ : Hid _ := (P2.out.below HB.out).below HX.out
        have hjN : j < N := by omega
        have hji : (j : Int) < (N : Int) := by omega
        have hvi : (v : Int) < (N : Int) := by omega
        have cj := kept HX.out (kept HB.out (R2.out.cell j (by rw [lst_length]; exact hjN)).1)
        have cv := kept HX.out (kept HB.out (R2.out.cell v (by rw [lst_length]; exact hlt)).1)
        rw [lst_at hjN] at cj
        rw [lst_at hlt] at cv
        have CJ : Hid _ := cj
        have CV : Hid _ := cv
        have HRE : Hid (∀ w', Below wr.heap.size wr w' → _) := fun w' (hb : Below wr.heap.size wr w') => redge_any N j v (.slice a0 es.length c0) es w' ((((HV.out.below B2.out).below HB.out).below HX.out).below hb) HG.out
        have HYT : Hid _ := tg_chp HP.out HD.out HAH.out.2 (show d v < far from hfk)
        have hdj0 := HD.out.lo j hjN
        have hdj1 := HD.out.hi j hjN
        have hdv0 := HD.out.lo v hlt
        have hF : far = 1099511627776 := rfl
        rw [hF] at hdj1
        clear hF
        obtain ⟨p0, p1⟩ := HPJ.out
        cases hc : chp j v es with
        | none =>
          have HJY : Hid (j + 1 ≤ y) := by
            rcases (show j = y ∨ j < y by omega) with h | h
            · exfalso; rw [← h, hc] at HYT; exact absurd HYT.out (by simp)
            · exact h
          have HE : Hid (edg j v es = 1099511627776) := by unfold Hid edg; rw [hc]; rfl
          rw [HE.out] at HRE
          clear hc cj cv
          go_wp2_with fail
          refine wp_region_any (by kernel_rfl) ?_
          try (change wpAny _ _ _ _ _ _ _ (World.drew _))
          refine wpAny_take (i := 1) (v := .int .i64 j) rfl (by kernel_rfl) (by kernel_rfl) (by kernel_rfl) (fun _ _ _ h => h) (Or.inl ⟨by kernel_rfl, by intro w; go_simp⟩) ?_
          refine wpAny_take (i := 2) (v := .int .i64 v) rfl (by kernel_rfl) (by kernel_rfl) (by kernel_rfl) (fun _ _ _ h => h) (Or.inl ⟨by kernel_rfl, by intro w; go_simp⟩) ?_
          refine wpAny_ready (rs := [0]) (by kernel_rfl) (by simp) ?_
          refine AllReady.cons rfl (fun K hK => ?_) AllReady.nil
          go_simp
          refine hK _ _ ?_
          clear hK K
          refine wpAny_ready (rs := [3]) (by kernel_rfl) (by simp) ?_
          refine AllReady.cons rfl (fun K hK => ?_) AllReady.nil
          go_simp
          go_wp2_with ((go_at_call 33; refine (HRE.out _ ?_).mono ?_; exact Below.drew (Below.refl _ _); rintro e w5 ⟨rfl, b5⟩; have B5 : Hid (Below wr.heap.size wr w5) := (bthen (Below.drew (Below.refl _ _)) b5); clear b5))
          refine wpAny_take (i := 4) (v := .bool true) rfl (by kernel_rfl) (by kernel_rfl) (by kernel_rfl) (fun _ _ _ h => h) (Or.inl ⟨by kernel_rfl, by intro w; go_simp⟩) ?_
          refine wpAny_take (i := 5) (v := .bool true) rfl (by kernel_rfl) (by kernel_rfl) (by kernel_rfl) (fun _ _ _ h => h) (Or.inl ⟨by kernel_rfl, by intro w; go_simp⟩) ?_
          refine wpAny_take (i := 6) (v := undef) rfl (by kernel_rfl) (by kernel_rfl) (by kernel_rfl) (fun _ _ _ h => h) (Or.inr ⟨by kernel_rfl, rfl⟩) ?_
          go_simp
          refine wpAny_take (i := 7) (v := undef) rfl (by kernel_rfl) (by kernel_rfl) (by kernel_rfl) (fun _ _ _ h => h) (Or.inr ⟨by kernel_rfl, rfl⟩) ?_
          go_simp
          refine wpAny_take (i := 8) (v := undef) rfl (by kernel_rfl) (by kernel_rfl) (by kernel_rfl) (fun _ _ _ h => h) (Or.inr ⟨by kernel_rfl, rfl⟩) ?_
          go_simp
          refine wpAny_take (i := 9) (v := undef) rfl (by kernel_rfl) (by kernel_rfl) (by kernel_rfl) (fun _ _ _ h => h) (Or.inr ⟨by kernel_rfl, rfl⟩) ?_
          go_simp
          refine wpAny_take (i := 10) (v := undef) rfl (by kernel_rfl) (by kernel_rfl) (by kernel_rfl) (fun _ _ _ h => h) (Or.inr ⟨by kernel_rfl, rfl⟩) ?_
          go_simp
          refine wpAny_take (i := 11) (v := .bool true) rfl (by kernel_rfl) (by kernel_rfl) (by kernel_rfl) (fun _ _ _ h => h) (Or.inl ⟨by kernel_rfl, by intro w; go_simp⟩) ?_
          refine wpAny_take (i := 12) (v := .bool true) rfl (by kernel_rfl) (by kernel_rfl) (by kernel_rfl) (fun _ _ _ h => h) (Or.inl ⟨by kernel_rfl, by intro w; go_simp⟩) ?_
          refine wpAny_take (i := 13) (v := undef) rfl (by kernel_rfl) (by kernel_rfl) (by kernel_rfl) (fun _ _ _ h => h) (Or.inr ⟨by kernel_rfl, rfl⟩) ?_
          go_simp
          refine wpAny_take (i := 14) (v := undef) rfl (by kernel_rfl) (by kernel_rfl) (by kernel_rfl) (fun _ _ _ h => h) (Or.inr ⟨by kernel_rfl, rfl⟩) ?_
          go_simp
          refine wpAny_take (i := 15) (v := undef) rfl (by kernel_rfl) (by kernel_rfl) (by kernel_rfl) (fun _ _ _ h => h) (Or.inr ⟨by kernel_rfl, rfl⟩) ?_
          go_simp
          refine wpAny_take (i := 16) (v := undef) rfl (by kernel_rfl) (by kernel_rfl) (by kernel_rfl) (fun _ _ _ h => h) (Or.inr ⟨by kernel_rfl, rfl⟩) ?_
          go_simp
          refine wpAny_take (i := 17) (v := undef) rfl (by kernel_rfl) (by kernel_rfl) (by kernel_rfl) (fun _ _ _ h => h) (Or.inr ⟨by kernel_rfl, rfl⟩) ?_
          go_simp
          refine wpAny_take (i := 18) (v := undef) rfl (by kernel_rfl) (by kernel_rfl) (by kernel_rfl) (fun _ _ _ h => h) (Or.inr ⟨by kernel_rfl, rfl⟩) ?_
          go_simp
          refine wpAny_take (i := 19) (v := undef) rfl (by kernel_rfl) (by kernel_rfl) (by kernel_rfl) (fun _ _ _ h => h) (Or.inr ⟨by kernel_rfl, rfl⟩) ?_
          go_simp
          refine wpAny_take (i := 20) (v := undef) rfl (by kernel_rfl) (by kernel_rfl) (by kernel_rfl) (fun _ _ _ h => h) (Or.inr ⟨by kernel_rfl, rfl⟩) ?_
          go_simp
          refine wpAny_take (i := 21) (v := undef) rfl (by kernel_rfl) (by kernel_rfl) (by kernel_rfl) (fun _ _ _ h => h) (Or.inr ⟨by kernel_rfl, rfl⟩) ?_
          go_simp
          refine wpAny_take (i := 22) (v := undef) rfl (by kernel_rfl) (by kernel_rfl) (by kernel_rfl) (fun _ _ _ h => h) (Or.inr ⟨by kernel_rfl, rfl⟩) ?_
          go_simp
          refine wpAny_take (i := 23) (v := undef) rfl (by kernel_rfl) (by kernel_rfl) (by kernel_rfl) (fun _ _ _ h => h) (Or.inr ⟨by kernel_rfl, rfl⟩) ?_
          go_simp
          refine wpAny_take (i := 24) (v := undef) rfl (by kernel_rfl) (by kernel_rfl) (by kernel_rfl) (fun _ _ _ h => h) (Or.inr ⟨by kernel_rfl, rfl⟩) ?_
          go_simp
          refine wpAny_take (i := 25) (v := undef) rfl (by kernel_rfl) (by kernel_rfl) (by kernel_rfl) (fun _ _ _ h => h) (Or.inr ⟨by kernel_rfl, rfl⟩) ?_
          go_simp
          refine wpAny_take (i := 26) (v := undef) rfl (by kernel_rfl) (by kernel_rfl) (by kernel_rfl) (fun _ _ _ h => h) (Or.inr ⟨by kernel_rfl, rfl⟩) ?_
          go_simp
          refine wpAny_take (i := 27) (v := .bool true) rfl (by kernel_rfl) (by kernel_rfl) (by kernel_rfl) (fun _ _ _ h => h) (Or.inl ⟨by kernel_rfl, by intro w; go_simp⟩) ?_
          refine wpAny_done (by kernel_rfl) ?_ _
          go_wp2_with fail
          go_roundw
          case rel => exact ⟨j + 1, by go_num, HJY.out, bthen HX.out B5.out⟩
          case measure => simp [intOf]; omega
        | some c =>
          have HCB : Hid (1 ≤ c ∧ c ≤ 10000) := by
            obtain ⟨⟨e, he, _, _, rfl⟩, _⟩ := chp_some hc
            have := HP.out.ok e he
            exact ⟨this.2.2.2.2.1, this.2.2.2.2.2⟩
          have HE : Hid (edg j v es = c) := by unfold Hid edg; rw [hc]; rfl
          have HTG : Hid (d j + c = d v → Tg es d j v) := fun h => chp_tg hc h
          have HYC : Hid (j = y → d j + c = d v ∧ d j < 1099511627776) := fun h => by
            have h1 := HYT.out
            rw [← h, hc] at h1
            have h2 := (tg_less HP.out HAH.out.2).1
            rw [← h] at h2
            have h3 := Option.some.inj h1
            exact ⟨by omega, by omega⟩
          rw [HE.out] at HRE
          have hcb := HCB.out
          have hcf : (c == 1099511627776) = false := by simp; omega
          have hcn : ¬ c = 1099511627776 := by omega
          clear hc cj cv HYT
          by_cases hdf : d j < 1099511627776
          · have hjf : (d j == 1099511627776) = false := by simp; omega
            have hjn : ¬ d j = 1099511627776 := by omega
            obtain ⟨dj, hdj⟩ : ∃ x, d j = x := ⟨_, rfl⟩
            obtain ⟨dv, hdv⟩ : ∃ x, d v = x := ⟨_, rfl⟩
            rw [hdj] at CJ HTG HYC hdf hjf hjn hdj0 hdj1
            rw [hdv] at CV HTG HYC hdv0 hfk
            clear hdj hdv
            have cj := CJ.out
            have cv := CV.out
            by_cases hs4 : dj + c = dv
            · have HJE : Hid (j = y) := by have := HAL.out j (HTG.out hs4); unfold Hid; omega
              have hsb : (dj + c != dv) = false := by simp [hs4]
              have hwr : IntKind.i64.wrap (dj + c) = dj + c := by rw [IntKind.wrap_i64]; omega
              clear hs4 HTG HYC HAL
              go_wp2_with fail
              go_region_held3 (fun w' => w'.cell? ⟨w.heap.size, 0, none⟩ = some (.int .i64 N) ∧ w'.cell? ⟨w.heap.size, 1, none⟩ = some (.slice a0 es.length c0) ∧ w'.cell? ⟨b2, j, none⟩ = some (.int .i64 dj) ∧ w'.cell? ⟨b2, v, none⟩ = some (.int .i64 dv)) (first | go_keep | exact KEEP.out)
                (first
                 | (go_at_call 33; refine (HRE.out _ (by with_reducible first | exact Below.drew (Below.refl _ _) | exact BB.out)).mono ?_; rintro e w5 ⟨rfl, b5⟩; have bb0 : Below wr.heap.size wr w5 := (by with_reducible first | exact bthen (Below.drew (Below.refl _ _)) b5 | exact bthen BB.out b5); have BB : Hid (Below wr.heap.size wr w5) := bb0; clear bb0 b5; have KEEP : Hid (w5.cell? ⟨w.heap.size, 0, none⟩ = some (.int .i64 N) ∧ w5.cell? ⟨w.heap.size, 1, none⟩ = some (.slice a0 es.length c0) ∧ w5.cell? ⟨b2, j, none⟩ = some (.int .i64 dj) ∧ w5.cell? ⟨b2, v, none⟩ = some (.int .i64 dv)) := ⟨kept BB.out HPJ.out.g0, kept BB.out HPJ.out.g1, kept BB.out CJ.out, kept BB.out CV.out⟩)
                 | fail)
              all_goals
                have hown := lit_is w5 (j : Int) w2.heap.size (bthen HB.out (bthen HX.out BB.out)).size
                have BW5 : Hid (Below w2.heap.size w2 w5) := bthen HB.out (bthen HX.out BB.out)
                have SP : Hid _ := HI.out.sl.below (bthen HX.out BB.out)
                have HOW : Hid _ := hown.own
                have NW : Hid _ := news1 (w := w5.alloc (.cells #[.int .i64 j] 3)) SP.out g (k + 1) cap rfl (balloc (Below.refl _ _) _)
                have hwz := BW5.out.size
                have hbl := bp_length f t k
                obtain ⟨i0, hi0, hz0, hz1, hz2⟩ := info3_parts
                clear hown
                go_wp2_with (first
                  | (at_builtin; refine wpList_append_lies _ rfl _ _ _ rfl w2.heap.size 3 i0 _ 1 8 Try.underlying27 hi0 hz0 hz1 hz2 rfl (by omega) (.slice (some ⟨w5.heap.size, 0, none⟩) 1 1) 1 [.int .i64 j] rfl HOW.out ⟨g, 0, none⟩ (k + 1) cap ((bp f t k).reverse.map (fun z => .int .i64 z)) rfl (by simp [hbl]) NW.out (by simp [Value.oneCell']) (by omega) (by unfold maxLen; omega) (by omega) (by simp; omega) (w5.heap.size + 1) (by simp) ?_; intro gg cap' w6 hown6 hgrow hat hlt6; have B6 : Hid (Below w2.heap.size w2 w6) := (by exact (balloc BW5.out _).grown hgrow (by simp; omega) (fun k hk => by simp [Value.ownBlock] at hk; omega)); clear hgrow hat)
                  | go_in)
                go_roundw
                case rel =>
                  refine ⟨k + 1, gg, cap', by rw [Nat.add_comm 1 (k + 1)], HBN.out, ?_, B6.out⟩
                  rw [rev_next, HYN.out, ← HJE.out]
                  rw [Nat.add_comm 1 (k + 1)] at hown6
                  refine ⟨?_⟩
                  rw [List.length_cons, List.length_reverse, hbl]
                  exact hown6
                case measure => simp only [lenV]; have := HBN.out.short HP.out; omega
            · have HJY : Hid (j + 1 ≤ y) := by
                rcases (show j = y ∨ j < y by omega) with h | h
                · exact absurd (HYC.out h).1 hs4
                · exact h
              have hsb : (dj + c != dv) = true := by simp [hs4]
              have hwr : IntKind.i64.wrap (dj + c) = dj + c := by rw [IntKind.wrap_i64]; omega
              clear HTG HYC HAL
              go_wp2_with fail
              go_region_held3 (fun w' => w'.cell? ⟨w.heap.size, 0, none⟩ = some (.int .i64 N) ∧ w'.cell? ⟨w.heap.size, 1, none⟩ = some (.slice a0 es.length c0) ∧ w'.cell? ⟨b2, j, none⟩ = some (.int .i64 dj) ∧ w'.cell? ⟨b2, v, none⟩ = some (.int .i64 dv)) (first | go_keep | exact KEEP.out)
                (first
                 | (go_at_call 33; refine (HRE.out _ (by with_reducible first | exact Below.drew (Below.refl _ _) | exact BB.out)).mono ?_; rintro e w5 ⟨rfl, b5⟩; have bb0 : Below wr.heap.size wr w5 := (by with_reducible first | exact bthen (Below.drew (Below.refl _ _)) b5 | exact bthen BB.out b5); have BB : Hid (Below wr.heap.size wr w5) := bb0; clear bb0 b5; have KEEP : Hid (w5.cell? ⟨w.heap.size, 0, none⟩ = some (.int .i64 N) ∧ w5.cell? ⟨w.heap.size, 1, none⟩ = some (.slice a0 es.length c0) ∧ w5.cell? ⟨b2, j, none⟩ = some (.int .i64 dj) ∧ w5.cell? ⟨b2, v, none⟩ = some (.int .i64 dv)) := ⟨kept BB.out HPJ.out.g0, kept BB.out HPJ.out.g1, kept BB.out CJ.out, kept BB.out CV.out⟩)
                 | fail)
              all_goals
                go_wp2_with fail
                go_roundw
                case rel => exact ⟨j + 1, by go_num, HJY.out, bthen HX.out BB.out⟩
                case measure => simp [intOf]; omega
          · have HDF : Hid (d j = 1099511627776) := by unfold Hid; omega
            have HJY : Hid (j + 1 ≤ y) := by
              rcases (show j = y ∨ j < y by omega) with h | h
              · exact absurd (HYC.out h).2 hdf
              · exact h
            rw [HDF.out] at CJ
            clear hdf hdj0 hdj1 HTG HYC
            go_wp2_with fail
            refine wp_region_any (by kernel_rfl) ?_
            try (change wpAny _ _ _ _ _ _ _ (World.drew _))
            refine wpAny_take (i := 1) (v := .int .i64 j) rfl (by kernel_rfl) (by kernel_rfl) (by kernel_rfl) (fun _ _ _ h => h) (Or.inl ⟨by kernel_rfl, by intro w; go_simp⟩) ?_
            refine wpAny_take (i := 2) (v := .int .i64 v) rfl (by kernel_rfl) (by kernel_rfl) (by kernel_rfl) (fun _ _ _ h => h) (Or.inl ⟨by kernel_rfl, by intro w; go_simp⟩) ?_
            refine wpAny_ready (rs := [0]) (by kernel_rfl) (by simp) ?_
            refine AllReady.cons rfl (fun K hK => ?_) AllReady.nil
            go_simp
            refine hK _ _ ?_
            clear hK K
            refine wpAny_ready (rs := [3]) (by kernel_rfl) (by simp) ?_
            refine AllReady.cons rfl (fun K hK => ?_) AllReady.nil
            go_simp
            go_wp2_with ((go_at_call 33; refine (HRE.out _ ?_).mono ?_; exact Below.drew (Below.refl _ _); rintro e w5 ⟨rfl, b5⟩; have B5 : Hid (Below wr.heap.size wr w5) := (bthen (Below.drew (Below.refl _ _)) b5); clear b5; have cj5 := kept B5.out CJ.out))
            refine wpAny_take (i := 4) (v := .bool false) rfl (by kernel_rfl) (by kernel_rfl) (by kernel_rfl) (fun _ _ _ h => h) (Or.inl ⟨by kernel_rfl, by intro w; go_simp⟩) ?_
            refine wpAny_take (i := 5) (v := .bool false) rfl (by kernel_rfl) (by kernel_rfl) (by kernel_rfl) (fun _ _ _ h => h) (Or.inl ⟨by kernel_rfl, by intro w; go_simp⟩) ?_
            refine wpAny_take (i := 6) (v := .slice (some ⟨b2, 0, none⟩) N cap2) rfl (by kernel_rfl) (by kernel_rfl) (by kernel_rfl) (fun _ _ _ h => h) (Or.inl ⟨by kernel_rfl, by intro w; go_simp⟩) ?_
            refine wpAny_take (i := 7) (v := .int .i64 j) rfl (by kernel_rfl) (by kernel_rfl) (by kernel_rfl) (fun _ _ _ h => h) (Or.inl ⟨by kernel_rfl, by intro w; go_simp⟩) ?_
            refine wpAny_take (i := 8) (v := .pointer (some ⟨b2, j, none⟩)) rfl (by kernel_rfl) (by kernel_rfl) (by kernel_rfl) (fun _ _ _ h => h) (Or.inl ⟨by kernel_rfl, by intro w; go_simp⟩) ?_
            refine wpAny_ready (rs := [9]) (by kernel_rfl) (by simp) ?_
            refine AllReady.cons rfl (fun K hK => ?_) AllReady.nil
            go_simp
            refine hK _ _ ?_
            clear hK K
            refine wpAny_take (i := 10) (v := .bool true) rfl (by kernel_rfl) (by kernel_rfl) (by kernel_rfl) (fun _ _ _ h => h) (Or.inl ⟨by kernel_rfl, by intro w; go_simp⟩) ?_
            refine wpAny_take (i := 11) (v := .bool true) rfl (by kernel_rfl) (by kernel_rfl) (by kernel_rfl) (fun _ _ _ h => h) (Or.inl ⟨by kernel_rfl, by intro w; go_simp⟩) ?_
            refine wpAny_take (i := 12) (v := .bool true) rfl (by kernel_rfl) (by kernel_rfl) (by kernel_rfl) (fun _ _ _ h => h) (Or.inl ⟨by kernel_rfl, by intro w; go_simp⟩) ?_
            refine wpAny_take (i := 13) (v := undef) rfl (by kernel_rfl) (by kernel_rfl) (by kernel_rfl) (fun _ _ _ h => h) (Or.inr ⟨by kernel_rfl, rfl⟩) ?_
            go_simp
            refine wpAny_take (i := 14) (v := undef) rfl (by kernel_rfl) (by kernel_rfl) (by kernel_rfl) (fun _ _ _ h => h) (Or.inr ⟨by kernel_rfl, rfl⟩) ?_
            go_simp
            refine wpAny_take (i := 15) (v := undef) rfl (by kernel_rfl) (by kernel_rfl) (by kernel_rfl) (fun _ _ _ h => h) (Or.inr ⟨by kernel_rfl, rfl⟩) ?_
            go_simp
            refine wpAny_take (i := 16) (v := undef) rfl (by kernel_rfl) (by kernel_rfl) (by kernel_rfl) (fun _ _ _ h => h) (Or.inr ⟨by kernel_rfl, rfl⟩) ?_
            go_simp
            refine wpAny_take (i := 17) (v := undef) rfl (by kernel_rfl) (by kernel_rfl) (by kernel_rfl) (fun _ _ _ h => h) (Or.inr ⟨by kernel_rfl, rfl⟩) ?_
            go_simp
            refine wpAny_take (i := 18) (v := undef) rfl (by kernel_rfl) (by kernel_rfl) (by kernel_rfl) (fun _ _ _ h => h) (Or.inr ⟨by kernel_rfl, rfl⟩) ?_
            go_simp
            refine wpAny_take (i := 19) (v := undef) rfl (by kernel_rfl) (by kernel_rfl) (by kernel_rfl) (fun _ _ _ h => h) (Or.inr ⟨by kernel_rfl, rfl⟩) ?_
            go_simp
            refine wpAny_take (i := 20) (v := undef) rfl (by kernel_rfl) (by kernel_rfl) (by kernel_rfl) (fun _ _ _ h => h) (Or.inr ⟨by kernel_rfl, rfl⟩) ?_
            go_simp
            refine wpAny_take (i := 21) (v := undef) rfl (by kernel_rfl) (by kernel_rfl) (by kernel_rfl) (fun _ _ _ h => h) (Or.inr ⟨by kernel_rfl, rfl⟩) ?_
            go_simp
            refine wpAny_take (i := 22) (v := undef) rfl (by kernel_rfl) (by kernel_rfl) (by kernel_rfl) (fun _ _ _ h => h) (Or.inr ⟨by kernel_rfl, rfl⟩) ?_
            go_simp
            refine wpAny_take (i := 23) (v := undef) rfl (by kernel_rfl) (by kernel_rfl) (by kernel_rfl) (fun _ _ _ h => h) (Or.inr ⟨by kernel_rfl, rfl⟩) ?_
            go_simp
            refine wpAny_take (i := 24) (v := undef) rfl (by kernel_rfl) (by kernel_rfl) (by kernel_rfl) (fun _ _ _ h => h) (Or.inr ⟨by kernel_rfl, rfl⟩) ?_
            go_simp
            refine wpAny_take (i := 25) (v := undef) rfl (by kernel_rfl) (by kernel_rfl) (by kernel_rfl) (fun _ _ _ h => h) (Or.inr ⟨by kernel_rfl, rfl⟩) ?_
            go_simp
            refine wpAny_take (i := 26) (v := undef) rfl (by kernel_rfl) (by kernel_rfl) (by kernel_rfl) (fun _ _ _ h => h) (Or.inr ⟨by kernel_rfl, rfl⟩) ?_
            go_simp
            refine wpAny_take (i := 27) (v := .bool true) rfl (by kernel_rfl) (by kernel_rfl) (by kernel_rfl) (fun _ _ _ h => h) (Or.inl ⟨by kernel_rfl, by intro w; go_simp⟩) ?_
            refine wpAny_done (by kernel_rfl) ?_ _
            go_wp2_with fail
            go_roundw
            case rel => exact ⟨j + 1, by go_num, HJY.out, bthen HX.out B5.out⟩
            case measure => simp [intOf]; omega
end Go.Proofs.Ytahijfljpjgdlaa
