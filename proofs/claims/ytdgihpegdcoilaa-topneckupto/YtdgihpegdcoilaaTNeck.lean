/-
  The law TopNeck, of lists no longer than may be.
-/
import Derived.Test.YtdgihpegdcoilaaTn
import Derived.Test.YtdgihpegdcoilaaKZ
import Derived.Test.YtdgihpegdcoilaaFF
import Derived.Test.YtdgihpegdcoilaaYZ
import Derived.Test.YtdgihpegdcoilaaOpenN
namespace Go.Proofs.Ytdgihpegdcoilaa.TNeck
open Go.RowKit
open Nm Wm Dm Bm Fm Fl Kk Tn

theorem next2 {w : World} {base n cap gg : Nat} {es fs : List E} {a b c x y z : Int} (hf : fs = es ++ [(a, b, c), (x, y, z)]) (hn : n = es.length) (h : w.ownsRow base 50 3 (.slice (some ⟨gg, 0, none⟩) (n + 2) cap) (n + 2) (flat3 es ++ [.int .i64 a, .int .i64 b, .int .i64 c, .int .i64 x, .int .i64 y, .int .i64 z])) : Es w base (.slice (some ⟨gg, 0, none⟩) (n + 2) cap) fs := by
  subst hf hn
  refine ⟨?_⟩
  rw [flat3_append, List.length_append]
  exact h
theorem es_val {w : World} {base n : Nat} {v : Value} {l : List E} (h : Es w base v l) (hn : l.length = n) : ∃ a c, v = .slice a n c := by
  obtain ⟨a, c, e⟩ := h.sl.val; rw [hn] at e; exact ⟨a, c, e⟩
theorem code_in (n : Int) (e : E) : code n e = 0 ∨ code n e = 4 ∨ code n e = 1 := by unfold code; split <;> (try split) <;> simp
theorem nck_in (n : Int) (es : List E) : nck n es = 0 ∨ nck n es = 4 ∨ nck n es = 1 ∨ nck n es = 2 := by
  unfold nck
  split
  · simp
  · split
    · simp
    · have : ech n es = 0 ∨ ech n es = 4 ∨ ech n es = 1 := by
        induction es with
        | nil => exact .inl rfl
        | cons e r ih =>
          unfold ech
          split
          · exact ih (by simp at *; omega)
          · exact code_in n e
      omega
/-- What a cost is turned round to. -/
def neg (c : Int) : Int := wrap64 (-c)
theorem wide_any (n : Int) (v : Value) (es : List E) (w : World) (hv : SlE w v es) (hlen : es.length ≤ 9223372036854775807) :
    Calls Try.prog 31 #[.agg #[.int .i64 n, v]] w fun e w' => ∃ a m c k, e = .returned (.tuple #[.slice a m c, .int .i64 k]) ∧ Below w.heap.size w w' := by
  by_cases hc : nck n es = 0
  · obtain ⟨hr, hn⟩ := bn_of hc
    rw [← hn]
    exact (fwide_yes n.toNat v es w hv hr).mono fun _ _ ⟨R, Gs, h1, _, h3⟩ => ⟨_, _, _, _, h1, h3⟩
  · exact (fwide_net n v es w hv hlen hc).mono fun _ _ ⟨h1, h3⟩ => ⟨_, _, _, _, h1, h3⟩
set_option maxRecDepth 100000 in
set_option maxHeartbeats 16000000 in
theorem walk_bad (n a b : Int) (v : Value) (es : List E) (w : World) (hv : SlE w v es) (hlen : es.length ≤ 1048576) (hc : nck n es ≠ 0) :
    Calls Try.prog 11 #[.agg #[.int .i64 n, v], .int .i64 a, .int .i64 b] w fun e w' => e = .returned (.bool true) ∧ Below w.heap.size w w' := by
  obtain ⟨a0, c0, rfl⟩ := hv.val
  have HV0 : Hid _ := hv
  have HC : Hid _ := hc
  obtain ⟨k1, hk1⟩ : ∃ k, nck n es = k := ⟨_, rfl⟩
  have HK : Hid _ := hk1
  have y1 := nck_in n es
  rw [hk1] at y1 hc
  have z1 : (k1 != 0) = true := by simp [hc]
  have z2 : (k1 != 5) = true := by simp; omega
  clear hc hk1 y1
  clear hv
  go_enter Try.func11, Try.ntmps11
  have P0 : Hid _ := (box2_new w n (.slice a0 es.length c0) 35)
  have N0 : Hid _ := bn_new (w.alloc (.cells #[.int .i64 n, .slice a0 es.length c0] 35)) (.int .i64 n) (.slice none 0 0)
  have B0 : Hid (Below w.heap.size w (w.alloc (.cells #[.int .i64 n, .slice a0 es.length c0] 35))) := balloc (Below.refl _ _) _
  have HV : Hid _ := HV0.out.below B0.out
  have hz0 : (w.alloc (.cells #[.int .i64 n, .slice a0 es.length c0] 35)).heap.size = w.heap.size + 1 := by simp
  obtain ⟨p0, p1⟩ := P0.out
  obtain ⟨r0, r1⟩ := P0.out.below (balloc (Below.refl _ _) (.cells #[.int .i64 n, .slice none 0 0] 35))
  go_wp2_with fail
  clear p0 p1 r0 r1
  rw [← hz0]
  generalize w.alloc (.cells #[.int .i64 n, .slice a0 es.length c0] 35) = V at *
  have HZV : Hid _ := hz0
  clear hz0
  go_loopw [20] (fun z wr => ∃ (k : Nat) (out : Value), z = .int .i64 k ∧ k ≤ es.length ∧ Bn wr V.heap.size (.int .i64 n) out ∧ Es wr (V.heap.size + 1) out (dbl neg (es.take k)) ∧ V.heap.size + 1 ≤ wr.heap.size ∧ Below V.heap.size V wr) (fun z _ => es.length - (intOf z).toNat)
  case atStart => exact ⟨0, _, rfl, Nat.zero_le _, N0.out, Es.nil _ _, by rw [World.size_alloc]; exact Nat.le_refl _, balloc (Below.refl _ _) _⟩
  case round =>
    obtain ⟨k, out, rfl, hk, y1, o, hz, hb⟩ := hrel
    have hdl : (dbl neg (es.take k)).length = 2 * k := by rw [dbl_length, List.length_take]; omega
    obtain ⟨ao, co, rfl⟩ := es_val o hdl
    clear N0
    have Y1 : Hid _ := y1
    have O : Hid _ := o
    have HZ : Hid _ := hz
    have HB : Hid (Below V.heap.size V wr) := hb
    clear y1 o hz hb
    by_cases hlt : k < es.length
    · have hki : (k : Int) < (es.length : Int) := by omega
      obtain ⟨bb, off, cap, hveq, hcl⟩ := (HV.out.below HB.out).some' (by omega)
      simp only [Value.slice.injEq] at hveq
      obtain ⟨rfl, -, rfl⟩ := hveq
      obtain ⟨d0, d1, d2⟩ := hcl k hlt
      clear hcl
      have HT : Hid _ := dbl_take (f := neg) hlt
      obtain ⟨p, hp⟩ : ∃ p, at3 es k = p := ⟨_, rfl⟩
      rw [hp] at d0 d1 d2 HT
      clear hp
      obtain ⟨x, y, z⟩ := p
      simp only at d0 d1 d2 HT
      have HNW : Hid (((wr.alloc (.cells #[.int .i64 x, .int .i64 y, .int .i64 z] 50)).alloc (.cells #[.int .i64 x, .int .i64 y, .int .i64 (wrap64 (-z)), .int .i64 y, .int .i64 x, .int .i64 (wrap64 (-z))] 50)).heap[wr.heap.size + 1]? = some (.cells #[.int .i64 x, .int .i64 y, .int .i64 (wrap64 (-z)), .int .i64 y, .int .i64 x, .int .i64 (wrap64 (-z))] 50)) := new_at _ _ (by simp)
      have hown : wr.ownsRow (V.heap.size + 1) 50 3 (.slice ao (2 * k) co) (2 * k) (flat3 (dbl neg (es.take k))) := by have := O.out.own; rw [hdl] at this; exact this
      have HDL : Hid _ := hdl
      have hzz := HZ.out
      clear hdl
      generalize dbl neg (es.take k) = l at *
      obtain ⟨i0, hi0, hz0, hz1, hz2⟩ := info47_parts
      have Z1 : Hid _ := Y1.out.below (balloc (Below.refl _ _) (.cells #[.int .i64 x, .int .i64 y, .int .i64 z] 50))
      obtain ⟨s0, s1⟩ := Z1.out.cell
      go_wp2_with (at_builtin; refine wpList_append_lies _ rfl _ _ _ rfl (V.heap.size + 1) 50 i0 _ 3 24 Try.underlying33 hi0 hz0 hz1 hz2 rfl (by omega) (.slice ao (2 * k) co) (2 * k) (flat3 l) rfl ((hown.alloc _).alloc _) ⟨wr.heap.size + 1, 0, none⟩ 2 2 [.int .i64 x, .int .i64 y, .int .i64 (wrap64 (-z)), .int .i64 y, .int .i64 x, .int .i64 (wrap64 (-z))] rfl rfl (World.news_of_block (cs := #[.int .i64 x, .int .i64 y, .int .i64 (wrap64 (-z)), .int .i64 y, .int .i64 x, .int .i64 (wrap64 (-z))]) (t := 50) (fr := (0, 0)) HNW.out) (by simp [Value.oneCell']) (by omega) (by unfold maxLen; omega) (by omega) (by simp; omega) (wr.heap.size + 1 + 1) (by simp) ?_; intro gg cap' w4 hown4 hgrow hat hlt4; have FAR : Hid (∀ g, g < V.heap.size + 1 → w4.heap[g]? = wr.heap[g]?) := (by exact fun g hg => (hgrow.block g (by simp; omega) (fun e => by have := (ownBlock_lt hown g e.symm).1; omega)).trans ((Below.heap_alloc _ _ _ (by simp; omega)).trans (Below.heap_alloc _ _ _ (by omega)))); have B4 : Hid (Below V.heap.size V w4) := (by exact (balloc (balloc HB.out _) _).grown hgrow (by simp; have := HB.out.size; omega) (fun k hk => by have := (ownBlock_lt hown k hk).1; omega)); have HZ4 : Hid (V.heap.size + 1 ≤ w4.heap.size) := (by have := hgrow.size; simp at this; unfold Hid; omega); have V1 : Hid _ := Y1.out.frame (FAR.out _ (by omega)); clear hgrow hat s0 s1; obtain ⟨s0, s1⟩ := V1.out.cell; obtain ⟨f0, f1⟩ := V1.out.frozen)
      go_roundw
      case rel =>
        exact ⟨k + 1, .slice (some ⟨gg, 0, none⟩) (2 * k + 2) cap', by go_num, by omega, V1.out.put1 _, (next2 HT.out HDL.out.symm hown4).other (by omega), by have := HZ4.out; simp [World.setCell]; omega, Below.setCell B4.out (by simp) _⟩
      case measure => simp [intOf]; omega
    · obtain rfl : k = es.length := by omega
      rw [List.take_length] at O
      obtain ⟨p0, p1⟩ := P0.out.below HB.out
      have HDL : Hid ((dbl neg es).length = 2 * es.length) := dbl_length _ _
      go_wp2_with fail
      clear p0 p1
      refine (neck_net n a b _ es wr (HV.out.below HB.out) (by omega) HC.out).mono ?_
      rintro e w2 ⟨rfl, b2⟩
      rw [HK.out]
      have Y2 : Hid _ := Y1.out.below b2
      have S2 : Hid _ := O.out.sl.below b2
      have B2 : Hid (Below V.heap.size V w2) := bthen HB.out b2
      clear b2
      obtain ⟨q0, q1⟩ := Y2.out.cell
      go_wp2_with fail
      clear q0 q1
      refine (wide_any n _ (dbl neg es) w2 S2.out (by have := HDL.out; omega)).mono ?_
      rintro e w3 ⟨am, mm, cm, kf, rfl, b3⟩
      have B3 : Hid (Below V.heap.size V w3) := bthen B2.out b3
      clear b3
      go_wp2_with fail
      refine (begun_any w3).mono ?_
      rintro e w4 ⟨rfl, b4⟩
      have B4 : Hid (Below V.heap.size V w4) := bthen B3.out b4
      clear b4
      by_cases hkf : kf = 0
      · subst hkf
        go_wp2_with fail
        refine (begun_any w4).mono ?_
        rintro e w5 ⟨rfl, b5⟩
        go_wp2_with fail
        go_ret
        exact ⟨rfl, bthen B0.out (bthen B4.out b5)⟩
      · have hz : (kf != 0) = true := by simp [hkf]
        clear hkf
        go_wp2_with fail
        refine (begun_any w4).mono ?_
        rintro e w5 ⟨rfl, b5⟩
        go_wp2_with fail
        go_ret
        exact ⟨rfl, bthen B0.out (bthen B4.out b5)⟩
set_option maxRecDepth 100000 in
set_option maxHeartbeats 16000000 in
theorem walk_arg (n a b : Int) (v : Value) (es : List E) (w : World) (hv : SlE w v es) (hlen : es.length ≤ 1048576) (hg : Gn n es) (hbad : ¬ (plc n a = true ∧ plc n b = true ∧ a ≠ b)) :
    Calls Try.prog 11 #[.agg #[.int .i64 n, v], .int .i64 a, .int .i64 b] w fun e w' => e = .returned (.bool true) ∧ Below w.heap.size w w' := by
  obtain ⟨a0, c0, rfl⟩ := hv.val
  have HV0 : Hid _ := hv
  have HG : Hid _ := hg
  have HX : Hid _ := hbad
  clear hg hbad
  clear hv
  go_enter Try.func11, Try.ntmps11
  have P0 : Hid _ := (box2_new w n (.slice a0 es.length c0) 35)
  have N0 : Hid _ := bn_new (w.alloc (.cells #[.int .i64 n, .slice a0 es.length c0] 35)) (.int .i64 n) (.slice none 0 0)
  have B0 : Hid (Below w.heap.size w (w.alloc (.cells #[.int .i64 n, .slice a0 es.length c0] 35))) := balloc (Below.refl _ _) _
  have HV : Hid _ := HV0.out.below B0.out
  have hz0 : (w.alloc (.cells #[.int .i64 n, .slice a0 es.length c0] 35)).heap.size = w.heap.size + 1 := by simp
  obtain ⟨p0, p1⟩ := P0.out
  obtain ⟨r0, r1⟩ := P0.out.below (balloc (Below.refl _ _) (.cells #[.int .i64 n, .slice none 0 0] 35))
  go_wp2_with fail
  clear p0 p1 r0 r1
  rw [← hz0]
  generalize w.alloc (.cells #[.int .i64 n, .slice a0 es.length c0] 35) = V at *
  have HZV : Hid _ := hz0
  clear hz0
  go_loopw [20] (fun z wr => ∃ (k : Nat) (out : Value), z = .int .i64 k ∧ k ≤ es.length ∧ Bn wr V.heap.size (.int .i64 n) out ∧ Es wr (V.heap.size + 1) out (dbl neg (es.take k)) ∧ V.heap.size + 1 ≤ wr.heap.size ∧ Below V.heap.size V wr) (fun z _ => es.length - (intOf z).toNat)
  case atStart => exact ⟨0, _, rfl, Nat.zero_le _, N0.out, Es.nil _ _, by rw [World.size_alloc]; exact Nat.le_refl _, balloc (Below.refl _ _) _⟩
  case round =>
    obtain ⟨k, out, rfl, hk, y1, o, hz, hb⟩ := hrel
    have hdl : (dbl neg (es.take k)).length = 2 * k := by rw [dbl_length, List.length_take]; omega
    obtain ⟨ao, co, rfl⟩ := es_val o hdl
    clear N0
    have Y1 : Hid _ := y1
    have O : Hid _ := o
    have HZ : Hid _ := hz
    have HB : Hid (Below V.heap.size V wr) := hb
    clear y1 o hz hb
    by_cases hlt : k < es.length
    · have hki : (k : Int) < (es.length : Int) := by omega
      obtain ⟨bb, off, cap, hveq, hcl⟩ := (HV.out.below HB.out).some' (by omega)
      simp only [Value.slice.injEq] at hveq
      obtain ⟨rfl, -, rfl⟩ := hveq
      obtain ⟨d0, d1, d2⟩ := hcl k hlt
      clear hcl
      have HT : Hid _ := dbl_take (f := neg) hlt
      obtain ⟨p, hp⟩ : ∃ p, at3 es k = p := ⟨_, rfl⟩
      rw [hp] at d0 d1 d2 HT
      clear hp
      obtain ⟨x, y, z⟩ := p
      simp only at d0 d1 d2 HT
      have HNW : Hid (((wr.alloc (.cells #[.int .i64 x, .int .i64 y, .int .i64 z] 50)).alloc (.cells #[.int .i64 x, .int .i64 y, .int .i64 (wrap64 (-z)), .int .i64 y, .int .i64 x, .int .i64 (wrap64 (-z))] 50)).heap[wr.heap.size + 1]? = some (.cells #[.int .i64 x, .int .i64 y, .int .i64 (wrap64 (-z)), .int .i64 y, .int .i64 x, .int .i64 (wrap64 (-z))] 50)) := new_at _ _ (by simp)
      have hown : wr.ownsRow (V.heap.size + 1) 50 3 (.slice ao (2 * k) co) (2 * k) (flat3 (dbl neg (es.take k))) := by have := O.out.own; rw [hdl] at this; exact this
      have HDL : Hid _ := hdl
      have hzz := HZ.out
      clear hdl
      generalize dbl neg (es.take k) = l at *
      obtain ⟨i0, hi0, hz0, hz1, hz2⟩ := info47_parts
      have Z1 : Hid _ := Y1.out.below (balloc (Below.refl _ _) (.cells #[.int .i64 x, .int .i64 y, .int .i64 z] 50))
      obtain ⟨s0, s1⟩ := Z1.out.cell
      go_wp2_with (at_builtin; refine wpList_append_lies _ rfl _ _ _ rfl (V.heap.size + 1) 50 i0 _ 3 24 Try.underlying33 hi0 hz0 hz1 hz2 rfl (by omega) (.slice ao (2 * k) co) (2 * k) (flat3 l) rfl ((hown.alloc _).alloc _) ⟨wr.heap.size + 1, 0, none⟩ 2 2 [.int .i64 x, .int .i64 y, .int .i64 (wrap64 (-z)), .int .i64 y, .int .i64 x, .int .i64 (wrap64 (-z))] rfl rfl (World.news_of_block (cs := #[.int .i64 x, .int .i64 y, .int .i64 (wrap64 (-z)), .int .i64 y, .int .i64 x, .int .i64 (wrap64 (-z))]) (t := 50) (fr := (0, 0)) HNW.out) (by simp [Value.oneCell']) (by omega) (by unfold maxLen; omega) (by omega) (by simp; omega) (wr.heap.size + 1 + 1) (by simp) ?_; intro gg cap' w4 hown4 hgrow hat hlt4; have FAR : Hid (∀ g, g < V.heap.size + 1 → w4.heap[g]? = wr.heap[g]?) := (by exact fun g hg => (hgrow.block g (by simp; omega) (fun e => by have := (ownBlock_lt hown g e.symm).1; omega)).trans ((Below.heap_alloc _ _ _ (by simp; omega)).trans (Below.heap_alloc _ _ _ (by omega)))); have B4 : Hid (Below V.heap.size V w4) := (by exact (balloc (balloc HB.out _) _).grown hgrow (by simp; have := HB.out.size; omega) (fun k hk => by have := (ownBlock_lt hown k hk).1; omega)); have HZ4 : Hid (V.heap.size + 1 ≤ w4.heap.size) := (by have := hgrow.size; simp at this; unfold Hid; omega); have V1 : Hid _ := Y1.out.frame (FAR.out _ (by omega)); clear hgrow hat s0 s1; obtain ⟨s0, s1⟩ := V1.out.cell; obtain ⟨f0, f1⟩ := V1.out.frozen)
      go_roundw
      case rel =>
        exact ⟨k + 1, .slice (some ⟨gg, 0, none⟩) (2 * k + 2) cap', by go_num, by omega, V1.out.put1 _, (next2 HT.out HDL.out.symm hown4).other (by omega), by have := HZ4.out; simp [World.setCell]; omega, Below.setCell B4.out (by simp) _⟩
      case measure => simp [intOf]; omega
    · obtain rfl : k = es.length := by omega
      rw [List.take_length] at O
      obtain ⟨p0, p1⟩ := P0.out.below HB.out
      have HDL : Hid ((dbl neg es).length = 2 * es.length) := dbl_length _ _
      go_wp2_with fail
      clear p0 p1
      refine (neck_arg n a b _ es wr (HV.out.below HB.out) HG.out HX.out).mono ?_
      rintro e w2 ⟨rfl, b2⟩
      have Y2 : Hid _ := Y1.out.below b2
      have S2 : Hid _ := O.out.sl.below b2
      have B2 : Hid (Below V.heap.size V w2) := bthen HB.out b2
      clear b2
      obtain ⟨q0, q1⟩ := Y2.out.cell
      go_wp2_with fail
      clear q0 q1
      refine (wide_any n _ (dbl neg es) w2 S2.out (by have := HDL.out; omega)).mono ?_
      rintro e w3 ⟨am, mm, cm, kf, rfl, b3⟩
      have B3 : Hid (Below V.heap.size V w3) := bthen B2.out b3
      clear b3
      go_wp2_with fail
      refine (begun_any w3).mono ?_
      rintro e w4 ⟨rfl, b4⟩
      have B4 : Hid (Below V.heap.size V w4) := bthen B3.out b4
      clear b4
      by_cases hkf : kf = 0
      · subst hkf
        go_wp2_with fail
        refine (begun_any w4).mono ?_
        rintro e w5 ⟨rfl, b5⟩
        go_wp2_with fail
        go_ret
        exact ⟨rfl, bthen B0.out (bthen B4.out b5)⟩
      · have hz : (kf != 0) = true := by simp [hkf]
        clear hkf
        go_wp2_with fail
        refine (begun_any w4).mono ?_
        rintro e w5 ⟨rfl, b5⟩
        go_wp2_with fail
        go_ret
        exact ⟨rfl, bthen B0.out (bthen B4.out b5)⟩
set_option maxRecDepth 100000 in
set_option maxHeartbeats 16000000 in
theorem walk_big (n a b : Nat) (v : Value) (es : List E) (w : World) (hv : SlE w v es) (hlen : es.length ≤ 1048576) (hg : Gn n es) (ha : a < n) (hb : b < n) (hab : a ≠ b) (h300 : 300 < es.length) :
    Calls Try.prog 11 #[.agg #[.int .i64 n, v], .int .i64 a, .int .i64 b] w fun e w' => e = .returned (.bool true) ∧ Below w.heap.size w w' := by
  obtain ⟨a0, c0, rfl⟩ := hv.val
  have HV0 : Hid _ := hv
  have HG : Hid _ := hg
  have hn64 := hg.n64
  have hn1 := hg.n1
  have HDB : Hid (dbl neg es = dbl (fun z => -z) es) := dbl_congr (fun e he => by have := hg.ok e he; unfold neg wrap64; omega)
  have HNB : Hid (nck (n : Int) (dbl neg es) = 2) := nck_l (by omega) (by rw [dbl_length]; omega)
  clear hg
  clear hv
  go_enter Try.func11, Try.ntmps11
  have P0 : Hid _ := (box2_new w n (.slice a0 es.length c0) 35)
  have N0 : Hid _ := bn_new (w.alloc (.cells #[.int .i64 n, .slice a0 es.length c0] 35)) (.int .i64 n) (.slice none 0 0)
  have B0 : Hid (Below w.heap.size w (w.alloc (.cells #[.int .i64 n, .slice a0 es.length c0] 35))) := balloc (Below.refl _ _) _
  have HV : Hid _ := HV0.out.below B0.out
  have hz0 : (w.alloc (.cells #[.int .i64 n, .slice a0 es.length c0] 35)).heap.size = w.heap.size + 1 := by simp
  obtain ⟨p0, p1⟩ := P0.out
  obtain ⟨r0, r1⟩ := P0.out.below (balloc (Below.refl _ _) (.cells #[.int .i64 n, .slice none 0 0] 35))
  go_wp2_with fail
  clear p0 p1 r0 r1
  rw [← hz0]
  generalize w.alloc (.cells #[.int .i64 n, .slice a0 es.length c0] 35) = V at *
  have HZV : Hid _ := hz0
  clear hz0
  go_loopw [20] (fun z wr => ∃ (k : Nat) (out : Value), z = .int .i64 k ∧ k ≤ es.length ∧ Bn wr V.heap.size (.int .i64 n) out ∧ Es wr (V.heap.size + 1) out (dbl neg (es.take k)) ∧ V.heap.size + 1 ≤ wr.heap.size ∧ Below V.heap.size V wr) (fun z _ => es.length - (intOf z).toNat)
  case atStart => exact ⟨0, _, rfl, Nat.zero_le _, N0.out, Es.nil _ _, by rw [World.size_alloc]; exact Nat.le_refl _, balloc (Below.refl _ _) _⟩
  case round =>
    obtain ⟨k, out, rfl, hk, y1, o, hz, hb⟩ := hrel
    have hdl : (dbl neg (es.take k)).length = 2 * k := by rw [dbl_length, List.length_take]; omega
    obtain ⟨ao, co, rfl⟩ := es_val o hdl
    clear N0
    have Y1 : Hid _ := y1
    have O : Hid _ := o
    have HZ : Hid _ := hz
    have HB : Hid (Below V.heap.size V wr) := hb
    clear y1 o hz hb
    by_cases hlt : k < es.length
    · have hki : (k : Int) < (es.length : Int) := by omega
      obtain ⟨bb, off, cap, hveq, hcl⟩ := (HV.out.below HB.out).some' (by omega)
      simp only [Value.slice.injEq] at hveq
      obtain ⟨rfl, -, rfl⟩ := hveq
      obtain ⟨d0, d1, d2⟩ := hcl k hlt
      clear hcl
      have HT : Hid _ := dbl_take (f := neg) hlt
      obtain ⟨p, hp⟩ : ∃ p, at3 es k = p := ⟨_, rfl⟩
      rw [hp] at d0 d1 d2 HT
      clear hp
      obtain ⟨x, y, z⟩ := p
      simp only at d0 d1 d2 HT
      have HNW : Hid (((wr.alloc (.cells #[.int .i64 x, .int .i64 y, .int .i64 z] 50)).alloc (.cells #[.int .i64 x, .int .i64 y, .int .i64 (wrap64 (-z)), .int .i64 y, .int .i64 x, .int .i64 (wrap64 (-z))] 50)).heap[wr.heap.size + 1]? = some (.cells #[.int .i64 x, .int .i64 y, .int .i64 (wrap64 (-z)), .int .i64 y, .int .i64 x, .int .i64 (wrap64 (-z))] 50)) := new_at _ _ (by simp)
      have hown : wr.ownsRow (V.heap.size + 1) 50 3 (.slice ao (2 * k) co) (2 * k) (flat3 (dbl neg (es.take k))) := by have := O.out.own; rw [hdl] at this; exact this
      have HDL : Hid _ := hdl
      have hzz := HZ.out
      clear hdl
      generalize dbl neg (es.take k) = l at *
      obtain ⟨i0, hi0, hz0, hz1, hz2⟩ := info47_parts
      have Z1 : Hid _ := Y1.out.below (balloc (Below.refl _ _) (.cells #[.int .i64 x, .int .i64 y, .int .i64 z] 50))
      obtain ⟨s0, s1⟩ := Z1.out.cell
      go_wp2_with (at_builtin; refine wpList_append_lies _ rfl _ _ _ rfl (V.heap.size + 1) 50 i0 _ 3 24 Try.underlying33 hi0 hz0 hz1 hz2 rfl (by omega) (.slice ao (2 * k) co) (2 * k) (flat3 l) rfl ((hown.alloc _).alloc _) ⟨wr.heap.size + 1, 0, none⟩ 2 2 [.int .i64 x, .int .i64 y, .int .i64 (wrap64 (-z)), .int .i64 y, .int .i64 x, .int .i64 (wrap64 (-z))] rfl rfl (World.news_of_block (cs := #[.int .i64 x, .int .i64 y, .int .i64 (wrap64 (-z)), .int .i64 y, .int .i64 x, .int .i64 (wrap64 (-z))]) (t := 50) (fr := (0, 0)) HNW.out) (by simp [Value.oneCell']) (by omega) (by unfold maxLen; omega) (by omega) (by simp; omega) (wr.heap.size + 1 + 1) (by simp) ?_; intro gg cap' w4 hown4 hgrow hat hlt4; have FAR : Hid (∀ g, g < V.heap.size + 1 → w4.heap[g]? = wr.heap[g]?) := (by exact fun g hg => (hgrow.block g (by simp; omega) (fun e => by have := (ownBlock_lt hown g e.symm).1; omega)).trans ((Below.heap_alloc _ _ _ (by simp; omega)).trans (Below.heap_alloc _ _ _ (by omega)))); have B4 : Hid (Below V.heap.size V w4) := (by exact (balloc (balloc HB.out _) _).grown hgrow (by simp; have := HB.out.size; omega) (fun k hk => by have := (ownBlock_lt hown k hk).1; omega)); have HZ4 : Hid (V.heap.size + 1 ≤ w4.heap.size) := (by have := hgrow.size; simp at this; unfold Hid; omega); have V1 : Hid _ := Y1.out.frame (FAR.out _ (by omega)); clear hgrow hat s0 s1; obtain ⟨s0, s1⟩ := V1.out.cell; obtain ⟨f0, f1⟩ := V1.out.frozen)
      go_roundw
      case rel =>
        exact ⟨k + 1, .slice (some ⟨gg, 0, none⟩) (2 * k + 2) cap', by go_num, by omega, V1.out.put1 _, (next2 HT.out HDL.out.symm hown4).other (by omega), by have := HZ4.out; simp [World.setCell]; omega, Below.setCell B4.out (by simp) _⟩
      case measure => simp [intOf]; omega
    · obtain rfl : k = es.length := by omega
      rw [List.take_length] at O
      obtain ⟨p0, p1⟩ := P0.out.below HB.out
      have HDL : Hid ((dbl neg es).length = 2 * es.length) := dbl_length _ _
      go_wp2_with fail
      clear p0 p1
      refine (neck_yes n a b _ es wr (HV.out.below HB.out) HG.out ha hb hab).mono ?_
      rintro e w2 ⟨rfl, b2⟩
      obtain ⟨kn, hkn⟩ : ∃ k, (nk es a b).1 = k := ⟨_, rfl⟩
      obtain ⟨ke, hke⟩ : ∃ k, (nk es a b).2 = k := ⟨_, rfl⟩
      rw [hkn, hke]
      clear hkn hke
      have Y2 : Hid _ := Y1.out.below b2
      have S2 : Hid _ := O.out.sl.below b2
      have B2 : Hid (Below V.heap.size V w2) := bthen HB.out b2
      clear b2
      obtain ⟨q0, q1⟩ := Y2.out.cell
      go_wp2_with fail
      clear q0 q1
      refine (fwide_net n _ (dbl neg es) w2 S2.out (by have := HDL.out; omega) (by rw [HNB.out]; decide)).mono ?_
      rintro e w3 ⟨rfl, b3⟩
      rw [HNB.out]
      have B3 : Hid (Below V.heap.size V w3) := bthen B2.out b3
      clear b3
      go_wp2_with fail
      refine (begun_any w3).mono ?_
      rintro e w4 ⟨rfl, b4⟩
      have B4 : Hid (Below V.heap.size V w4) := bthen B3.out b4
      clear b4
      go_wp2_with fail
      refine (begun_any w4).mono ?_
      rintro e w5 ⟨rfl, b5⟩
      go_wp2_with fail
      go_ret
      exact ⟨rfl, bthen B0.out (bthen B4.out b5)⟩
set_option maxRecDepth 100000 in
set_option maxHeartbeats 16000000 in
theorem walk_none (n a b : Nat) (v : Value) (es : List E) (w : World) (hv : SlE w v es) (hlen : es.length ≤ 1048576) (hg : Gn n es) (ha : a < n) (hb : b < n) (hab : a ≠ b) (h300 : es.length ≤ 300) (hnk : nk es a b = (0, 5)) (hwd : fww (dbl (fun z => -z) es) n a b = -far) :
    Calls Try.prog 11 #[.agg #[.int .i64 n, v], .int .i64 a, .int .i64 b] w fun e w' => e = .returned (.bool true) ∧ Below w.heap.size w w' := by
  obtain ⟨a0, c0, rfl⟩ := hv.val
  have HV0 : Hid _ := hv
  have HG : Hid _ := hg
  have hn64 := hg.n64
  have hn1 := hg.n1
  have HDB : Hid (dbl neg es = dbl (fun z => -z) es) := dbl_congr (fun e he => by have := hg.ok e he; unfold neg wrap64; omega)
  have HRN : Hid (Rnt n (dbl neg es)) := by rw [HDB.out]; exact rnt_dbl hg h300
  have HNK : Hid _ := hnk
  have HWD : Hid (fww (dbl neg es) n a b = -far) := by rw [HDB.out]; exact hwd
  have hai : (a : Int) < (n : Int) := by omega
  have hbi : (b : Int) < (n : Int) := by omega
  clear hnk hwd
  have HFR : Hid (-far = -1099511627776) := rfl
  clear hg
  clear hv
  go_enter Try.func11, Try.ntmps11
  have P0 : Hid _ := (box2_new w n (.slice a0 es.length c0) 35)
  have N0 : Hid _ := bn_new (w.alloc (.cells #[.int .i64 n, .slice a0 es.length c0] 35)) (.int .i64 n) (.slice none 0 0)
  have B0 : Hid (Below w.heap.size w (w.alloc (.cells #[.int .i64 n, .slice a0 es.length c0] 35))) := balloc (Below.refl _ _) _
  have HV : Hid _ := HV0.out.below B0.out
  have hz0 : (w.alloc (.cells #[.int .i64 n, .slice a0 es.length c0] 35)).heap.size = w.heap.size + 1 := by simp
  obtain ⟨p0, p1⟩ := P0.out
  obtain ⟨r0, r1⟩ := P0.out.below (balloc (Below.refl _ _) (.cells #[.int .i64 n, .slice none 0 0] 35))
  go_wp2_with fail
  clear p0 p1 r0 r1
  rw [← hz0]
  generalize w.alloc (.cells #[.int .i64 n, .slice a0 es.length c0] 35) = V at *
  have HZV : Hid _ := hz0
  clear hz0
  go_loopw [20] (fun z wr => ∃ (k : Nat) (out : Value), z = .int .i64 k ∧ k ≤ es.length ∧ Bn wr V.heap.size (.int .i64 n) out ∧ Es wr (V.heap.size + 1) out (dbl neg (es.take k)) ∧ V.heap.size + 1 ≤ wr.heap.size ∧ Below V.heap.size V wr) (fun z _ => es.length - (intOf z).toNat)
  case atStart => exact ⟨0, _, rfl, Nat.zero_le _, N0.out, Es.nil _ _, by rw [World.size_alloc]; exact Nat.le_refl _, balloc (Below.refl _ _) _⟩
  case round =>
    obtain ⟨k, out, rfl, hk, y1, o, hz, hb⟩ := hrel
    have hdl : (dbl neg (es.take k)).length = 2 * k := by rw [dbl_length, List.length_take]; omega
    obtain ⟨ao, co, rfl⟩ := es_val o hdl
    clear N0
    have Y1 : Hid _ := y1
    have O : Hid _ := o
    have HZ : Hid _ := hz
    have HB : Hid (Below V.heap.size V wr) := hb
    clear y1 o hz hb
    by_cases hlt : k < es.length
    · have hki : (k : Int) < (es.length : Int) := by omega
      obtain ⟨bb, off, cap, hveq, hcl⟩ := (HV.out.below HB.out).some' (by omega)
      simp only [Value.slice.injEq] at hveq
      obtain ⟨rfl, -, rfl⟩ := hveq
      obtain ⟨d0, d1, d2⟩ := hcl k hlt
      clear hcl
      have HT : Hid _ := dbl_take (f := neg) hlt
      obtain ⟨p, hp⟩ : ∃ p, at3 es k = p := ⟨_, rfl⟩
      rw [hp] at d0 d1 d2 HT
      clear hp
      obtain ⟨x, y, z⟩ := p
      simp only at d0 d1 d2 HT
      have HNW : Hid (((wr.alloc (.cells #[.int .i64 x, .int .i64 y, .int .i64 z] 50)).alloc (.cells #[.int .i64 x, .int .i64 y, .int .i64 (wrap64 (-z)), .int .i64 y, .int .i64 x, .int .i64 (wrap64 (-z))] 50)).heap[wr.heap.size + 1]? = some (.cells #[.int .i64 x, .int .i64 y, .int .i64 (wrap64 (-z)), .int .i64 y, .int .i64 x, .int .i64 (wrap64 (-z))] 50)) := new_at _ _ (by simp)
      have hown : wr.ownsRow (V.heap.size + 1) 50 3 (.slice ao (2 * k) co) (2 * k) (flat3 (dbl neg (es.take k))) := by have := O.out.own; rw [hdl] at this; exact this
      have HDL : Hid _ := hdl
      have hzz := HZ.out
      clear hdl
      generalize dbl neg (es.take k) = l at *
      obtain ⟨i0, hi0, hz0, hz1, hz2⟩ := info47_parts
      have Z1 : Hid _ := Y1.out.below (balloc (Below.refl _ _) (.cells #[.int .i64 x, .int .i64 y, .int .i64 z] 50))
      obtain ⟨s0, s1⟩ := Z1.out.cell
      go_wp2_with (at_builtin; refine wpList_append_lies _ rfl _ _ _ rfl (V.heap.size + 1) 50 i0 _ 3 24 Try.underlying33 hi0 hz0 hz1 hz2 rfl (by omega) (.slice ao (2 * k) co) (2 * k) (flat3 l) rfl ((hown.alloc _).alloc _) ⟨wr.heap.size + 1, 0, none⟩ 2 2 [.int .i64 x, .int .i64 y, .int .i64 (wrap64 (-z)), .int .i64 y, .int .i64 x, .int .i64 (wrap64 (-z))] rfl rfl (World.news_of_block (cs := #[.int .i64 x, .int .i64 y, .int .i64 (wrap64 (-z)), .int .i64 y, .int .i64 x, .int .i64 (wrap64 (-z))]) (t := 50) (fr := (0, 0)) HNW.out) (by simp [Value.oneCell']) (by omega) (by unfold maxLen; omega) (by omega) (by simp; omega) (wr.heap.size + 1 + 1) (by simp) ?_; intro gg cap' w4 hown4 hgrow hat hlt4; have FAR : Hid (∀ g, g < V.heap.size + 1 → w4.heap[g]? = wr.heap[g]?) := (by exact fun g hg => (hgrow.block g (by simp; omega) (fun e => by have := (ownBlock_lt hown g e.symm).1; omega)).trans ((Below.heap_alloc _ _ _ (by simp; omega)).trans (Below.heap_alloc _ _ _ (by omega)))); have B4 : Hid (Below V.heap.size V w4) := (by exact (balloc (balloc HB.out _) _).grown hgrow (by simp; have := HB.out.size; omega) (fun k hk => by have := (ownBlock_lt hown k hk).1; omega)); have HZ4 : Hid (V.heap.size + 1 ≤ w4.heap.size) := (by have := hgrow.size; simp at this; unfold Hid; omega); have V1 : Hid _ := Y1.out.frame (FAR.out _ (by omega)); clear hgrow hat s0 s1; obtain ⟨s0, s1⟩ := V1.out.cell; obtain ⟨f0, f1⟩ := V1.out.frozen)
      go_roundw
      case rel =>
        exact ⟨k + 1, .slice (some ⟨gg, 0, none⟩) (2 * k + 2) cap', by go_num, by omega, V1.out.put1 _, (next2 HT.out HDL.out.symm hown4).other (by omega), by have := HZ4.out; simp [World.setCell]; omega, Below.setCell B4.out (by simp) _⟩
      case measure => simp [intOf]; omega
    · obtain rfl : k = es.length := by omega
      rw [List.take_length] at O
      obtain ⟨p0, p1⟩ := P0.out.below HB.out
      have HDL : Hid ((dbl neg es).length = 2 * es.length) := dbl_length _ _
      go_wp2_with fail
      clear p0 p1
      refine (neck_yes n a b _ es wr (HV.out.below HB.out) HG.out ha hb hab).mono ?_
      rintro e w2 ⟨rfl, b2⟩
      rw [HNK.out]
      have Y2 : Hid _ := Y1.out.below b2
      have S2 : Hid _ := O.out.sl.below b2
      have B2 : Hid (Below V.heap.size V w2) := bthen HB.out b2
      clear b2
      obtain ⟨q0, q1⟩ := Y2.out.cell
      go_wp2_with fail
      clear q0 q1
      refine (fwide_yes n _ (dbl neg es) w2 S2.out HRN.out).mono ?_
      rintro e w3 ⟨R, Gs, rfl, t3, b3⟩
      have T3 : Hid _ := t3
      have B3 : Hid (Below V.heap.size V w3) := bthen B2.out b3
      clear b3 t3
      go_wp2_with fail
      refine (begun_any w3).mono ?_
      rintro e w4 ⟨rfl, b4⟩
      have T4 : Hid _ := T3.out.below b4
      have B4 : Hid (Below V.heap.size V w4) := bthen B3.out b4
      clear b4
      have h1 := T4.out.head a ha
      obtain ⟨h2, -⟩ := (T4.out.row a ha).cell b hb
      rw [HWD.out] at h2
      have h3 : w4.cell? ⟨Gs a, b, none⟩ = some (.int .i64 (-1099511627776)) := h2
      clear h2
      go_wp2_with fail
      go_ret
      exact ⟨rfl, bthen B0.out B4.out⟩
set_option maxRecDepth 100000 in
set_option maxHeartbeats 16000000 in
theorem walk_some (n a b : Nat) (v : Value) (es : List E) (w : World) (hv : SlE w v es) (hlen : es.length ≤ 1048576) (hg : Gn n es) (ha : a < n) (hb : b < n) (hab : a ≠ b) (h300 : es.length ≤ 300) (c : Int) (hc1 : -10000 ≤ c) (hc2 : c ≤ 10000) (hnk : nk es a b = (c, 0)) (hwd : fww (dbl (fun z => -z) es) n a b = -c) :
    Calls Try.prog 11 #[.agg #[.int .i64 n, v], .int .i64 a, .int .i64 b] w fun e w' => e = .returned (.bool true) ∧ Below w.heap.size w w' := by
  obtain ⟨a0, c0, rfl⟩ := hv.val
  have HV0 : Hid _ := hv
  have HG : Hid _ := hg
  have hn64 := hg.n64
  have hn1 := hg.n1
  have HDB : Hid (dbl neg es = dbl (fun z => -z) es) := dbl_congr (fun e he => by have := hg.ok e he; unfold neg wrap64; omega)
  have HRN : Hid (Rnt n (dbl neg es)) := by rw [HDB.out]; exact rnt_dbl hg h300
  have HNK : Hid _ := hnk
  have HWD : Hid (fww (dbl neg es) n a b = -c) := by rw [HDB.out]; exact hwd
  have hai : (a : Int) < (n : Int) := by omega
  have hbi : (b : Int) < (n : Int) := by omega
  clear hnk hwd
  clear hg
  clear hv
  go_enter Try.func11, Try.ntmps11
  have P0 : Hid _ := (box2_new w n (.slice a0 es.length c0) 35)
  have N0 : Hid _ := bn_new (w.alloc (.cells #[.int .i64 n, .slice a0 es.length c0] 35)) (.int .i64 n) (.slice none 0 0)
  have B0 : Hid (Below w.heap.size w (w.alloc (.cells #[.int .i64 n, .slice a0 es.length c0] 35))) := balloc (Below.refl _ _) _
  have HV : Hid _ := HV0.out.below B0.out
  have hz0 : (w.alloc (.cells #[.int .i64 n, .slice a0 es.length c0] 35)).heap.size = w.heap.size + 1 := by simp
  obtain ⟨p0, p1⟩ := P0.out
  obtain ⟨r0, r1⟩ := P0.out.below (balloc (Below.refl _ _) (.cells #[.int .i64 n, .slice none 0 0] 35))
  go_wp2_with fail
  clear p0 p1 r0 r1
  rw [← hz0]
  generalize w.alloc (.cells #[.int .i64 n, .slice a0 es.length c0] 35) = V at *
  have HZV : Hid _ := hz0
  clear hz0
  go_loopw [20] (fun z wr => ∃ (k : Nat) (out : Value), z = .int .i64 k ∧ k ≤ es.length ∧ Bn wr V.heap.size (.int .i64 n) out ∧ Es wr (V.heap.size + 1) out (dbl neg (es.take k)) ∧ V.heap.size + 1 ≤ wr.heap.size ∧ Below V.heap.size V wr) (fun z _ => es.length - (intOf z).toNat)
  case atStart => exact ⟨0, _, rfl, Nat.zero_le _, N0.out, Es.nil _ _, by rw [World.size_alloc]; exact Nat.le_refl _, balloc (Below.refl _ _) _⟩
  case round =>
    obtain ⟨k, out, rfl, hk, y1, o, hz, hb⟩ := hrel
    have hdl : (dbl neg (es.take k)).length = 2 * k := by rw [dbl_length, List.length_take]; omega
    obtain ⟨ao, co, rfl⟩ := es_val o hdl
    clear N0
    have Y1 : Hid _ := y1
    have O : Hid _ := o
    have HZ : Hid _ := hz
    have HB : Hid (Below V.heap.size V wr) := hb
    clear y1 o hz hb
    by_cases hlt : k < es.length
    · have hki : (k : Int) < (es.length : Int) := by omega
      obtain ⟨bb, off, cap, hveq, hcl⟩ := (HV.out.below HB.out).some' (by omega)
      simp only [Value.slice.injEq] at hveq
      obtain ⟨rfl, -, rfl⟩ := hveq
      obtain ⟨d0, d1, d2⟩ := hcl k hlt
      clear hcl
      have HT : Hid _ := dbl_take (f := neg) hlt
      obtain ⟨p, hp⟩ : ∃ p, at3 es k = p := ⟨_, rfl⟩
      rw [hp] at d0 d1 d2 HT
      clear hp
      obtain ⟨x, y, z⟩ := p
      simp only at d0 d1 d2 HT
      have HNW : Hid (((wr.alloc (.cells #[.int .i64 x, .int .i64 y, .int .i64 z] 50)).alloc (.cells #[.int .i64 x, .int .i64 y, .int .i64 (wrap64 (-z)), .int .i64 y, .int .i64 x, .int .i64 (wrap64 (-z))] 50)).heap[wr.heap.size + 1]? = some (.cells #[.int .i64 x, .int .i64 y, .int .i64 (wrap64 (-z)), .int .i64 y, .int .i64 x, .int .i64 (wrap64 (-z))] 50)) := new_at _ _ (by simp)
      have hown : wr.ownsRow (V.heap.size + 1) 50 3 (.slice ao (2 * k) co) (2 * k) (flat3 (dbl neg (es.take k))) := by have := O.out.own; rw [hdl] at this; exact this
      have HDL : Hid _ := hdl
      have hzz := HZ.out
      clear hdl
      generalize dbl neg (es.take k) = l at *
      obtain ⟨i0, hi0, hz0, hz1, hz2⟩ := info47_parts
      have Z1 : Hid _ := Y1.out.below (balloc (Below.refl _ _) (.cells #[.int .i64 x, .int .i64 y, .int .i64 z] 50))
      obtain ⟨s0, s1⟩ := Z1.out.cell
      go_wp2_with (at_builtin; refine wpList_append_lies _ rfl _ _ _ rfl (V.heap.size + 1) 50 i0 _ 3 24 Try.underlying33 hi0 hz0 hz1 hz2 rfl (by omega) (.slice ao (2 * k) co) (2 * k) (flat3 l) rfl ((hown.alloc _).alloc _) ⟨wr.heap.size + 1, 0, none⟩ 2 2 [.int .i64 x, .int .i64 y, .int .i64 (wrap64 (-z)), .int .i64 y, .int .i64 x, .int .i64 (wrap64 (-z))] rfl rfl (World.news_of_block (cs := #[.int .i64 x, .int .i64 y, .int .i64 (wrap64 (-z)), .int .i64 y, .int .i64 x, .int .i64 (wrap64 (-z))]) (t := 50) (fr := (0, 0)) HNW.out) (by simp [Value.oneCell']) (by omega) (by unfold maxLen; omega) (by omega) (by simp; omega) (wr.heap.size + 1 + 1) (by simp) ?_; intro gg cap' w4 hown4 hgrow hat hlt4; have FAR : Hid (∀ g, g < V.heap.size + 1 → w4.heap[g]? = wr.heap[g]?) := (by exact fun g hg => (hgrow.block g (by simp; omega) (fun e => by have := (ownBlock_lt hown g e.symm).1; omega)).trans ((Below.heap_alloc _ _ _ (by simp; omega)).trans (Below.heap_alloc _ _ _ (by omega)))); have B4 : Hid (Below V.heap.size V w4) := (by exact (balloc (balloc HB.out _) _).grown hgrow (by simp; have := HB.out.size; omega) (fun k hk => by have := (ownBlock_lt hown k hk).1; omega)); have HZ4 : Hid (V.heap.size + 1 ≤ w4.heap.size) := (by have := hgrow.size; simp at this; unfold Hid; omega); have V1 : Hid _ := Y1.out.frame (FAR.out _ (by omega)); clear hgrow hat s0 s1; obtain ⟨s0, s1⟩ := V1.out.cell; obtain ⟨f0, f1⟩ := V1.out.frozen)
      go_roundw
      case rel =>
        exact ⟨k + 1, .slice (some ⟨gg, 0, none⟩) (2 * k + 2) cap', by go_num, by omega, V1.out.put1 _, (next2 HT.out HDL.out.symm hown4).other (by omega), by have := HZ4.out; simp [World.setCell]; omega, Below.setCell B4.out (by simp) _⟩
      case measure => simp [intOf]; omega
    · obtain rfl : k = es.length := by omega
      rw [List.take_length] at O
      obtain ⟨p0, p1⟩ := P0.out.below HB.out
      have HDL : Hid ((dbl neg es).length = 2 * es.length) := dbl_length _ _
      go_wp2_with fail
      clear p0 p1
      refine (neck_yes n a b _ es wr (HV.out.below HB.out) HG.out ha hb hab).mono ?_
      rintro e w2 ⟨rfl, b2⟩
      rw [HNK.out]
      have Y2 : Hid _ := Y1.out.below b2
      have S2 : Hid _ := O.out.sl.below b2
      have B2 : Hid (Below V.heap.size V w2) := bthen HB.out b2
      clear b2
      obtain ⟨q0, q1⟩ := Y2.out.cell
      go_wp2_with fail
      clear q0 q1
      refine (fwide_yes n _ (dbl neg es) w2 S2.out HRN.out).mono ?_
      rintro e w3 ⟨R, Gs, rfl, t3, b3⟩
      have T3 : Hid _ := t3
      have B3 : Hid (Below V.heap.size V w3) := bthen B2.out b3
      clear b3 t3
      go_wp2_with fail
      refine (begun_any w3).mono ?_
      rintro e w4 ⟨rfl, b4⟩
      have T4 : Hid _ := T3.out.below b4
      have B4 : Hid (Below V.heap.size V w4) := bthen B3.out b4
      clear b4
      have h1 := T4.out.head a ha
      obtain ⟨h2, -⟩ := (T4.out.row a ha).cell b hb
      rw [HWD.out] at h2
      have h3 : w4.cell? ⟨Gs a, b, none⟩ = some (.int .i64 (-c)) := h2
      clear h2
      go_wp2_with fail
      go_ret
      exact ⟨rfl, bthen B0.out B4.out⟩
theorem walk (n a b : Int) (v : Value) (es : List E) (w : World) (hv : SlE w v es) (hlen : es.length ≤ 1048576) :
    Calls Try.prog 11 #[.agg #[.int .i64 n, v], .int .i64 a, .int .i64 b] w fun e w' => e = .returned (.bool true) ∧ Below w.heap.size w w' := by
  by_cases hc : nck n es = 0
  · have hg : Gn n es := nck_zero.1 hc
    by_cases hp : plc n a = true ∧ plc n b = true ∧ a ≠ b
    · obtain ⟨h1, h2, h3⟩ := hp
      have k1 := of_decide_eq_true h1
      have k2 := of_decide_eq_true h2
      obtain ⟨N, rfl⟩ := Int.eq_ofNat_of_zero_le (show 0 ≤ n by omega)
      obtain ⟨A, rfl⟩ := Int.eq_ofNat_of_zero_le k1.1
      obtain ⟨B, rfl⟩ := Int.eq_ofNat_of_zero_le k2.1
      have hab : A ≠ B := fun e => h3 (by rw [e])
      by_cases h300 : es.length ≤ 300
      · rcases wide_neck hg h300 hab with ⟨e1, e2⟩ | ⟨c, e1, e2, e3, e4⟩
        · exact walk_none N A B v es w hv hlen hg (by omega) (by omega) hab h300 e1 e2
        · exact walk_some N A B v es w hv hlen hg (by omega) (by omega) hab h300 c e3 e4 e1 e2
      · exact walk_big N A B v es w hv hlen hg (by omega) (by omega) hab (by omega)
    · exact walk_arg n a b v es w hv hlen hg hp
  · exact walk_bad n a b v es w hv hlen hc
end Go.Proofs.Ytdgihpegdcoilaa.TNeck
