/-
  The law HeurMore.
-/
import Derived.Test.YtkbebdanpgaehaaEO
import Derived.Test.YtkbebdanpgaehaaKW
import Derived.Test.YtkbebdanpgaehaaOpenN
import Derived.Lib.MinMax
namespace Go.Proofs.Ytkbebdanpgaehaa.HMore
open Go.RowKit Go.Deep
open Nm Wm Dm

theorem is_val {w : World} {base n : Nat} {v : Value} {l : List Int} (h : Is w base v l) (hn : l.length = n) : ∃ a c, v = .slice a n c := by
  obtain ⟨a, c, e⟩ := h.sl.val; rw [hn] at e; exact ⟨a, c, e⟩
theorem cut3 {w : World} {u : Value} {p : List Int} (h : SlI w u p) : ∃ m : List Int, min (p.length : Int) 3 = (m.length : Int) ∧ p.take 3 = m ∧ m.length ≤ 3 ∧ m.length ≤ p.length ∧ ∀ a b, u = .slice a p.length b → m.length ≤ b ∧ SlI w (.slice a m.length b) m := by
  refine ⟨p.take 3, by rw [List.length_take]; omega, rfl, by rw [List.length_take]; omega, by rw [List.length_take]; omega, fun a b e => ?_⟩
  subst e
  rcases h.is with ⟨a', c, hh, rfl⟩ | ⟨b', off, cap, hh, hc, hle⟩
  · simp only [Value.slice.injEq] at hh
    obtain ⟨rfl, -, rfl⟩ := hh
    exact ⟨by simp, .no _ _ rfl rfl⟩
  · simp only [Value.slice.injEq] at hh
    obtain ⟨rfl, -, rfl⟩ := hh
    have hl : (p.take 3).length ≤ p.length := by rw [List.length_take]; omega
    refine ⟨by omega, .row b' off b rfl (fun i hi => ?_) (by omega)⟩
    have hi3 : i < 3 := by rw [List.length_take] at hi; omega
    have e : (p.take 3).getD i 0 = p.getD i 0 := by simp [List.getD_eq_getElem?_getD, List.getElem?_take_of_lt hi3]
    rw [e]
    exact hc i (by omega)
theorem of_some (n t : Int) (v u : Value) (es : List E) (p : List Int) (w : World) (hv : SlE w v es) (hu : SlI w u p) (hlen : es.length ≤ 9223372036854775807) (hl : p.length ≤ 9223372036854775807) :
    Calls Try.prog 18 #[.agg #[.int .i64 n, v], u, .int .i64 t] w fun e w' => ∃ a m c k, e = .returned (.tuple #[.slice a m c, .int .i64 k]) ∧ Below w.heap.size w w' := by
  by_cases hc : ofc n es p t = 0
  · obtain ⟨M, s, rfl, rfl, hs, hm⟩ := ofc_zero hc
    exact (of_yes M s v u es p w hv hu hlen hl hm hs).mono fun _ _ ⟨G, h1, _, h3⟩ => ⟨_, _, _, _, h1, h3⟩
  · exact (of_no n t v u es p w hv hu hlen hl hc).mono fun _ _ ⟨h1, h3⟩ => ⟨_, _, _, _, h1, h3⟩
set_option maxRecDepth 100000 in
set_option maxHeartbeats 16000000 in
theorem walk_no (n t q : Int) (v u : Value) (es : List E) (p : List Int) (w : World) (hv : SlE w v es) (hu : SlI w u p) (hlen : es.length ≤ 9223372036854775807) (hc : ofc n es (p.take 3) t ≠ 0) :
    Calls Try.prog 8 #[.agg #[.int .i64 n, v], u, .int .i64 t, .int .i64 q] w fun e w' => e = .returned (.bool true) ∧ Below w.heap.size w w' := by
  obtain ⟨a0, c0, rfl⟩ := hv.val
  have HV : Hid _ := hv
  obtain ⟨m, hmin, hml, hms, hsl, hu3⟩ := cut3 hu
  obtain ⟨a1, c1, rfl⟩ := hu.val
  have HC : Hid (ofc n es m t ≠ 0) := by rw [← hml]; exact hc
  have hz : (ofc n es m t != 0) = true := by have := HC.out; simp [this]
  obtain ⟨hcap, hu3⟩ := hu3 _ _ rfl
  clear hc
  have HU : Hid _ := hu3
  have HM : Hid (p.take 3 = m) := hml
  clear hv hu hu3 hml
  go_enter Try.func8, Try.ntmps8
  have P0 : Hid _ := box2_new w n (.slice a0 es.length c0) 24
  have B0 : Hid (Below w.heap.size w (w.alloc (.cells #[.int .i64 n, .slice a0 es.length c0] 24))) := balloc (Below.refl _ _) _
  go_wp2_with fail
  generalize w.alloc (.cells #[.int .i64 n, .slice a0 es.length c0] 24) = W0 at *
  refine (two_any W0).mono ?_
  rintro e w1 ⟨X, rfl, e1, b1⟩
  have B1 : Hid (Below W0.heap.size W0 w1) := b1
  have E1 : Hid _ := e1
  clear b1 e1
  go_wp2_with fail
  refine (of_two1 _ _ _ E1.out (.no none 0 rfl rfl)).mono ?_
  rintro e w2 ⟨X2, rfl, g2, b2⟩
  have B2 : Hid (Below W0.heap.size W0 w2) := bthen B1.out b2
  have G2 : Hid _ := g2.below (balloc (Below.refl _ _) (.cells #[.int .i64 0, .int .i64 0] 3))
  have L2 : Hid _ := lit_nums w2 [0, 0] #[.int .i64 0, .int .i64 0] 2 rfl rfl
  clear b2 g2 E1 B1
  go_wp2_with fail
  refine (iequal_yes _ _ [0, 0] _ G2.out L2.out (by simp)).mono ?_
  rintro e w3 ⟨rfl, b3⟩
  have B3 : Hid (Below W0.heap.size W0 w3) := bthen (balloc B2.out _) b3
  have Z3 : Hid (Below w.heap.size w w3) := bthen B0.out B3.out
  have P3 : Hid _ := P0.out.below B3.out
  clear b3 G2 L2 B2 B3 P0 B0
  obtain ⟨p0, p1⟩ := P3.out
  go_wp2_with fail
  clear p0 p1
  refine (of_no n t _ _ es m w3 (HV.out.below Z3.out) (HU.out.below Z3.out) hlen (by omega) HC.out).mono ?_
  rintro e w4 ⟨rfl, b4⟩
  have P4 : Hid _ := P3.out.below b4
  have Z4 : Hid (Below w.heap.size w w4) := bthen Z3.out b4
  have U4 : Hid _ := HU.out.below Z4.out
  have V4 : Hid _ := HV.out.below Z4.out
  clear b4 P3 Z3
  obtain ⟨p0, p1⟩ := P4.out
  have hb4 : w.heap.size < w4.heap.size := World.block_lt_of_cell? w4 ⟨w.heap.size, 0, none⟩ p0
  obtain ⟨i1, hi1, hy0, hy1, hy2⟩ := info3_parts
  go_wp2_with fail
  go_region_law (first
     | (go_simp; go_at_call 23; refine (iclone_any _ m _ (by first | exact U4.out.below (Below.drew (Below.refl _ _)) | exact U4.out.below (balloc (Below.drew (Below.refl _ _)) _) | exact U4.out.below (Below.drew (balloc (Below.refl _ _) _))) (by omega)).mono ?_; rintro e w5 ⟨vc, rfl, hic, b5⟩; have BB : Hid (Below w4.heap.size w4 w5) := (by first | exact bthen (Below.drew (Below.refl _ _)) b5 | exact bthen (balloc (Below.drew (Below.refl _ _)) _) b5 | exact bthen (Below.drew (balloc (Below.refl _ _) _)) b5); have C5 : Hid (Is w5 w4.heap.size vc m) := (by exact hic.mono (by simp)); (first | (have NW : Hid (w5.heap[w4.heap.size]? = some (.cells #[.int .i64 (t : Int)] 3)) := (by exact (b5.block _ (by simp)).trans (heap_alloc_new _ _))) | skip); obtain ⟨ac, cc, rfl⟩ := is_val C5.out rfl; obtain ⟨s0, s1⟩ := P4.out.below BB.out; have hb5 : w.heap.size < w5.heap.size := (by exact World.block_lt_of_cell? w5 ⟨w.heap.size, 0, none⟩ s0); have hown : w5.ownsRow w4.heap.size 3 1 (.slice ac m.length cc) m.length (m.map (fun z => .int .i64 z)) := C5.out.own; have hsz5 := BB.out.size; clear b5 hic; (try dsimp only))
     | (refine step_append_lies _ (by rfl) _ _ _ (by rfl) w4.heap.size 3 i1 _ 1 8 Try.underlying25 hi1 hy0 hy1 hy2 rfl (by omega) (.slice ac m.length cc) m.length (m.map (fun z => .int .i64 z)) (by rfl) (hown.alloc _) ⟨w5.heap.size, 0, none⟩ 1 1 [.int .i64 (t : Int)] (by rfl) (by rfl) (World.news_of_block (cs := #[.int .i64 (t : Int)]) (t := 3) (fr := (0, 0)) (heap_alloc_new _ _)) (by simp [Value.oneCell']) (by omega) (by unfold maxLen; omega) (by omega) (by first | omega | (simp; omega)) (w5.heap.size + 1) (by first | rfl | simp) ?_; intro g8 cap8 w6 hown6 hgrow hat hlt6; have B6 : Hid (Below w4.heap.size w4 w6) := (by exact (balloc BB.out _).grown hgrow (by first | omega | (simp; omega)) (fun x hx => (ownBlock_lt hown x hx).1)); have I6 : Hid (Is w6 w4.heap.size (.slice (some ⟨g8, 0, none⟩) (m.length + 1) cap8) (m ++ [(t : Int)])) := (by exact Is.next rfl rfl hown6); obtain ⟨r0, r1⟩ := P4.out.below B6.out; clear hown6 hgrow hat hlt6)
     | (refine step_append_lies _ (by rfl) _ _ _ (by rfl) w4.heap.size 3 i1 _ 1 8 Try.underlying25 hi1 hy0 hy1 hy2 rfl (by omega) (.slice ac m.length cc) m.length (m.map (fun z => .int .i64 z)) (by rfl) hown ⟨w4.heap.size, 0, none⟩ 1 1 [.int .i64 (t : Int)] (by rfl) (by rfl) (World.news_of_block (cs := #[.int .i64 (t : Int)]) (t := 3) (fr := (0, 0)) NW.out) (by simp [Value.oneCell']) (by omega) (by unfold maxLen; omega) (by omega) (by first | omega | (simp; omega)) (w5.heap.size) (by first | rfl | simp) ?_; intro g8 cap8 w6 hown6 hgrow hat hlt6; have B6 : Hid (Below w4.heap.size w4 w6) := (by exact BB.out.grown hgrow (by first | omega | (simp; omega)) (fun x hx => (ownBlock_lt hown x hx).1)); have I6 : Hid (Is w6 w4.heap.size (.slice (some ⟨g8, 0, none⟩) (m.length + 1) cap8) (m ++ [(t : Int)])) := (by exact Is.next rfl rfl hown6); obtain ⟨r0, r1⟩ := P4.out.below B6.out; clear hown6 hgrow hat hlt6)
     | (go_simp; go_at_call 18; refine (of_some n t _ _ es (m ++ [t]) _ (V4.out.below B6.out) I6.out.sl hlen (by simp; omega)).mono ?_; rintro e w7 ⟨a7, m7, c7, k7, rfl, b7⟩; have B7 : Hid (Below w4.heap.size w4 w7) := (by exact bthen B6.out b7); clear b7)
     | fail)
  all_goals
    go_wp2_with fail
    go_ret
    exact ⟨rfl, bthen Z4.out B7.out⟩
theorem mrk_app {N t : Nat} {es : List E} {m : List Int} (h : mrk N es m = 0) (h3 : m.length ≤ 3) (ht : t < N) : mrk N es (m ++ [(t : Int)]) = 0 := by
  obtain ⟨h1, h2, h4⟩ := mrk_zero h
  refine mrk_ok h1 (by simp; omega) (fun k hk => ?_)
  by_cases e : k < m.length
  · have : (m ++ [(t : Int)]).getD k 0 = m.getD k 0 := by simp [List.getD_eq_getElem?_getD, List.getElem?_append_left e]
    rw [this]
    exact List.all_eq_true.1 h4 _ (by simp [List.getD_eq_getElem?_getD, e])
  · have hke : k = m.length := by simp at hk; omega
    subst hke
    have : (m ++ [(t : Int)]).getD m.length 0 = (t : Int) := by simp [List.getD_eq_getElem?_getD]
    rw [this]
    exact plc_yes (by omega) (by omega)
set_option maxRecDepth 100000 in
set_option maxHeartbeats 16000000 in
theorem walk_yes (N t : Nat) (q : Int) (v u : Value) (es : List E) (p : List Int) (w : World) (hv : SlE w v es) (hu : SlI w u p) (hlen : es.length ≤ 9223372036854775807) (hc : mrk N es (p.take 3) = 0) (ht : t < N) :
    Calls Try.prog 8 #[.agg #[.int .i64 N, v], u, .int .i64 t, .int .i64 q] w fun e w' => e = .returned (.bool true) ∧ Below w.heap.size w w' := by
  obtain ⟨a0, c0, rfl⟩ := hv.val
  have HV : Hid _ := hv
  obtain ⟨m, hmin, hml, hms, hsl, hu3⟩ := cut3 hu
  obtain ⟨a1, c1, rfl⟩ := hu.val
  obtain ⟨hcap, hu3⟩ := hu3 _ _ rfl
  rw [hml] at hc
  have HC : Hid _ := hc
  have HC2 : Hid _ := mrk_app hc hms ht
  obtain ⟨M, hM, hp, hnp, hp4, hpl⟩ := mrk_good hc
  obtain rfl : N = M := by omega
  have hn64 := hp.n64
  have hn1 := hp.n1
  have HP : Hid _ := hp
  have HNP : Hid _ := hnp
  have HES : Hid (∀ v, v < N → IsD N es v (cst N es v)) := fun x hx => isd_ex x _ _ hv hp hx
  have HGE : Hid (∀ v, v < N → grt N es m t v ≤ grt N es (m ++ [(t : Int)]) t v ∧ grt N es (m ++ [(t : Int)]) t v = cst N es v t) := fun x hx => grt_end hp HES.out hpl ht hx
  have hti : (t : Int) < (N : Int) := by omega
  clear hc hM hp hnp hpl
  have HU : Hid _ := hu3
  have HM : Hid (p.take 3 = m) := hml
  clear hv hu hu3 hml
  go_enter Try.func8, Try.ntmps8
  have P0 : Hid _ := box2_new w (N : Int) (.slice a0 es.length c0) 24
  have B0 : Hid (Below w.heap.size w (w.alloc (.cells #[.int .i64 N, .slice a0 es.length c0] 24))) := balloc (Below.refl _ _) _
  go_wp2_with fail
  generalize w.alloc (.cells #[.int .i64 N, .slice a0 es.length c0] 24) = W0 at *
  refine (two_any W0).mono ?_
  rintro e w1 ⟨X, rfl, e1, b1⟩
  have B1 : Hid (Below W0.heap.size W0 w1) := b1
  have E1 : Hid _ := e1
  clear b1 e1
  go_wp2_with fail
  refine (of_two1 _ _ _ E1.out (.no none 0 rfl rfl)).mono ?_
  rintro e w2 ⟨X2, rfl, g2, b2⟩
  have B2 : Hid (Below W0.heap.size W0 w2) := bthen B1.out b2
  have G2 : Hid _ := g2.below (balloc (Below.refl _ _) (.cells #[.int .i64 0, .int .i64 0] 3))
  have L2 : Hid _ := lit_nums w2 [0, 0] #[.int .i64 0, .int .i64 0] 2 rfl rfl
  clear b2 g2 E1 B1
  go_wp2_with fail
  refine (iequal_yes _ _ [0, 0] _ G2.out L2.out (by simp)).mono ?_
  rintro e w3 ⟨rfl, b3⟩
  have B3 : Hid (Below W0.heap.size W0 w3) := bthen (balloc B2.out _) b3
  have Z3 : Hid (Below w.heap.size w w3) := bthen B0.out B3.out
  have P3 : Hid _ := P0.out.below B3.out
  clear b3 G2 L2 B2 B3 P0 B0
  obtain ⟨p0, p1⟩ := P3.out
  go_wp2_with fail
  clear p0 p1
  refine (of_yes N t _ _ es m w3 (HV.out.below Z3.out) (HU.out.below Z3.out) hlen (by omega) HC.out ht).mono ?_
  rintro e w4 ⟨G, rfl, ur, b4⟩
  have GR : Hid _ := ur
  have P4 : Hid _ := P3.out.below b4
  have Z4 : Hid (Below w.heap.size w w4) := bthen Z3.out b4
  have U4 : Hid _ := HU.out.below Z4.out
  have V4 : Hid _ := HV.out.below Z4.out
  clear b4 P3 Z3 ur
  obtain ⟨p0, p1⟩ := P4.out
  have hb4 : w.heap.size < w4.heap.size := World.block_lt_of_cell? w4 ⟨w.heap.size, 0, none⟩ p0
  obtain ⟨i1, hi1, hy0, hy1, hy2⟩ := info3_parts
  go_wp2_with fail
  go_region_law (first
     | (go_simp; go_at_call 23; refine (iclone_any _ m _ (by first | exact U4.out.below (Below.drew (Below.refl _ _)) | exact U4.out.below (balloc (Below.drew (Below.refl _ _)) _) | exact U4.out.below (Below.drew (balloc (Below.refl _ _) _))) (by omega)).mono ?_; rintro e w5 ⟨vc, rfl, hic, b5⟩; have BB : Hid (Below w4.heap.size w4 w5) := (by first | exact bthen (Below.drew (Below.refl _ _)) b5 | exact bthen (balloc (Below.drew (Below.refl _ _)) _) b5 | exact bthen (Below.drew (balloc (Below.refl _ _) _)) b5); have C5 : Hid (Is w5 w4.heap.size vc m) := (by exact hic.mono (by simp)); (first | (have NW : Hid (w5.heap[w4.heap.size]? = some (.cells #[.int .i64 (t : Int)] 3)) := (by exact (b5.block _ (by simp)).trans (heap_alloc_new _ _))) | skip); obtain ⟨ac, cc, rfl⟩ := is_val C5.out rfl; obtain ⟨s0, s1⟩ := P4.out.below BB.out; have hb5 : w.heap.size < w5.heap.size := (by exact World.block_lt_of_cell? w5 ⟨w.heap.size, 0, none⟩ s0); have hown : w5.ownsRow w4.heap.size 3 1 (.slice ac m.length cc) m.length (m.map (fun z => .int .i64 z)) := C5.out.own; have hsz5 := BB.out.size; clear b5 hic; (try dsimp only))
     | (refine step_append_lies _ (by rfl) _ _ _ (by rfl) w4.heap.size 3 i1 _ 1 8 Try.underlying25 hi1 hy0 hy1 hy2 rfl (by omega) (.slice ac m.length cc) m.length (m.map (fun z => .int .i64 z)) (by rfl) (hown.alloc _) ⟨w5.heap.size, 0, none⟩ 1 1 [.int .i64 (t : Int)] (by rfl) (by rfl) (World.news_of_block (cs := #[.int .i64 (t : Int)]) (t := 3) (fr := (0, 0)) (heap_alloc_new _ _)) (by simp [Value.oneCell']) (by omega) (by unfold maxLen; omega) (by omega) (by first | omega | (simp; omega)) (w5.heap.size + 1) (by first | rfl | simp) ?_; intro g8 cap8 w6 hown6 hgrow hat hlt6; have B6 : Hid (Below w4.heap.size w4 w6) := (by exact (balloc BB.out _).grown hgrow (by first | omega | (simp; omega)) (fun x hx => (ownBlock_lt hown x hx).1)); have I6 : Hid (Is w6 w4.heap.size (.slice (some ⟨g8, 0, none⟩) (m.length + 1) cap8) (m ++ [(t : Int)])) := (by exact Is.next rfl rfl hown6); obtain ⟨r0, r1⟩ := P4.out.below B6.out; clear hown6 hgrow hat hlt6)
     | (refine step_append_lies _ (by rfl) _ _ _ (by rfl) w4.heap.size 3 i1 _ 1 8 Try.underlying25 hi1 hy0 hy1 hy2 rfl (by omega) (.slice ac m.length cc) m.length (m.map (fun z => .int .i64 z)) (by rfl) hown ⟨w4.heap.size, 0, none⟩ 1 1 [.int .i64 (t : Int)] (by rfl) (by rfl) (World.news_of_block (cs := #[.int .i64 (t : Int)]) (t := 3) (fr := (0, 0)) NW.out) (by simp [Value.oneCell']) (by omega) (by unfold maxLen; omega) (by omega) (by first | omega | (simp; omega)) (w5.heap.size) (by first | rfl | simp) ?_; intro g8 cap8 w6 hown6 hgrow hat hlt6; have B6 : Hid (Below w4.heap.size w4 w6) := (by exact BB.out.grown hgrow (by first | omega | (simp; omega)) (fun x hx => (ownBlock_lt hown x hx).1)); have I6 : Hid (Is w6 w4.heap.size (.slice (some ⟨g8, 0, none⟩) (m.length + 1) cap8) (m ++ [(t : Int)])) := (by exact Is.next rfl rfl hown6); obtain ⟨r0, r1⟩ := P4.out.below B6.out; clear hown6 hgrow hat hlt6)
     | (go_simp; go_at_call 18; refine (of_yes N t _ _ es (m ++ [(t : Int)]) _ (V4.out.below B6.out) I6.out.sl hlen (by simp; omega) HC2.out ht).mono ?_; rintro e w7 ⟨G7, rfl, ur7, b7⟩; have B7 : Hid (Below w4.heap.size w4 w7) := (by exact bthen B6.out b7); have GK : Hid _ := ur7; clear ur7 b7; obtain ⟨r0, r1⟩ := P4.out.below B7.out)
     | fail)
  all_goals
    clear s0 s1 p0 p1 hsz5 hb5 hb4 hown
    go_wp2_with fail
    refine (within_any q N w7 hn1 hn64).mono ?_
    rintro e w8 ⟨rfl, rfl⟩
    have HWL : Hid (wi q N < N) := wi_lt q hn1
    generalize wi q N = s at *
    have hs := HWL.out
    have hsi : (s : Int) < (N : Int) := by omega
    go_wp2_with fail
    refine (dist_yes N s _ es _ (V4.out.below B7.out) HNP.out HP.out hs).mono ?_
    rintro e w9 ⟨D, d, rfl, hD, ur, hd, b9⟩
    obtain ⟨ge1, ge2⟩ := HGE.out s hs
    have hdt : d t = cst N es s t := hd.eq HP.out (HES.out s hs) ht
    have B9 : Hid (Below w4.heap.size w4 w9) := bthen B7.out b9
    obtain ⟨f0, -⟩ := (GR.out.below B9.out).cell s hs
    obtain ⟨f1, -⟩ := (GK.out.below b9).cell s hs
    obtain ⟨f2, -⟩ := ur.cell t ht
    rw [hdt] at f2
    rw [ge2] at f1 ge1
    generalize grt N es m t s = x at *
    generalize cst N es s t = y at *
    have hxy : decide (x ≤ y) = true := decide_eq_true ge1
    have hyy : (y == y) = true := by simp
    clear hdt ge2 hd ur b9 hD
    go_wp2_with fail
    go_quiet (fail)
    go_wp2_with fail
    go_ret
    exact ⟨rfl, bdrewN (bthen Z4.out B9.out) _⟩
theorem walk (n t q : Int) (v u : Value) (es : List E) (p : List Int) (w : World) (hv : SlE w v es) (hu : SlI w u p) (hlen : es.length ≤ 9223372036854775807) (_hl : p.length ≤ 9223372036854775807) :
    Calls Try.prog 8 #[.agg #[.int .i64 n, v], u, .int .i64 t, .int .i64 q] w fun e w' => e = .returned (.bool true) ∧ Below w.heap.size w w' := by
  by_cases hc : ofc n es (p.take 3) t = 0
  · obtain ⟨M, s, rfl, rfl, hs, hm⟩ := ofc_zero hc
    exact walk_yes M s q v u es p w hv hu hlen hm hs
  · exact walk_no n t q v u es p w hv hu hlen hc
end Go.Proofs.Ytkbebdanpgaehaa.HMore
