/-
  The law fellkeep.DagForward, walked.
-/
import Derived.Test.YtkklgnfimkojlaaKM
import Derived.Test.YtkklgnfimkojlaaKX
import Derived.Test.YtkklgnfimkojlaaKY
import Derived.Test.YtkklgnfimkojlaaIE
import Derived.Test.YtkklgnfimkojlaaRV
namespace Go.Proofs.Ytkklgnfimkojlaa.GForward
open Go.RowKit
open Nm Wm Dm Bm Fm Fl Km
attribute [local go_sem ↓] Go.wp_at_zero Go.wp_at_succ

theorem rnt2 : Rnt 2 [(1, 0, 0)] := ⟨by omega, by omega, by simp, by simp⟩
theorem ord2 : ints (ordk 2 [(1, 0, 0)]) = [1, 0] := by kernel_rfl
theorem okd2 : okd 2 [(1, 0, 0)] := by
  refine ⟨?_, by simp⟩
  have := congrArg List.length ord2
  rw [ints_length] at this
  rw [this]; decide
/-- Where each stands, one more; 0 where it has not come yet. -/
def pos (C : List Nat) (i t : Nat) : Int := if ix C t < i then ((ix C t : Nat) : Int) + 1 else 0
theorem pos_zero (C : List Nat) (t : Nat) : pos C 0 t = 0 := if_neg (Nat.not_lt_zero _)
theorem pos_next {C : List Nat} (hn : C.Nodup) {i : Nat} (h : i < C.length) : upd (pos C i) C[i] ((i : Int) + 1) = pos C (i + 1) := by
  funext t
  by_cases e : t = C[i]
  · rw [e, upd_same]; unfold pos; rw [ix_at hn h, if_pos (by omega)]
  · rw [upd_other _ _ e]
    unfold pos
    have : ix C t ≠ i := by
      intro q
      have hm : t ∈ C := by rw [← List.idxOf_lt_length_iff]; unfold ix at q; omega
      have := ix_get hm
      rw [q, List.getElem?_eq_getElem h] at this
      exact e (Option.some.inj this).symm
    by_cases q : ix C t < i
    · rw [if_pos q, if_pos (by omega)]
    · rw [if_neg q, if_neg (by omega)]
theorem pos_end {N : Nat} {es : List E} {C : List Nat} (hf : Fwd N es C) (hl : C.length = N) {t : Nat} (ht : t < N) : pos C N t = ((ix C t : Nat) : Int) + 1 := by
  have := ix_lt (hf.all t ht)
  unfold pos; rw [if_pos (by omega)]
theorem lst_pos {N : Nat} {es : List E} {C : List Nat} (hf : Fwd N es C) (hl : C.length = N) : lst N (pos C N) = ints ((List.range N).map (fun t => ix C t + 1)) := by
  unfold lst ints
  rw [List.map_map]
  apply List.map_congr_left
  intro t ht
  rw [pos_end hf hl (List.mem_range.1 ht)]
  simp
theorem no_back {N : Nat} {es : List E} {C : List Nat} (hf : Fwd N es C) (hl : C.length = N) (hi : Inn N es) : es.any (fun e => decide (pos C N e.2.1.toNat ≤ pos C N e.1.toNat)) = false := by
  rw [List.any_eq_false]
  intro e he
  have h1 := hi e he
  have h2 := hf.on e he
  rw [pos_end hf hl h1.1, pos_end hf hl h1.2]
  simp; omega
theorem no_zero (N : Nat) (C : List Nat) : decide (0 ∈ (List.range N).map (fun t => ix C t + 1)) = false := by
  refine decide_eq_false (fun h => ?_)
  rw [List.mem_map] at h
  obtain ⟨t, _, ht⟩ := h
  omega
set_option maxRecDepth 100000 in
set_option maxHeartbeats 8000000 in
theorem walk_no (n z : Int) (v : Value) (es : List E) (w : World) (hz : z ≠ 0) (hd : ∀ W, SlE W v es → Calls Try.prog 17 #[.agg #[.int .i64 n, v]] W fun e w' => e = .returned (.tuple #[.slice none 0 0, .int .i64 z]) ∧ Below W.heap.size W w') (hv : SlE w v es) :
    Calls Try.prog 7 #[.agg #[.int .i64 n, v]] w fun e w' => e = .returned (.bool true) ∧ Below w.heap.size w w' := by
  obtain ⟨a0, c0, rfl⟩ := hv.val
  have HV : Hid _ := hv
  have HD : Hid _ := hd
  have hz : (z != 0) = true := by simp [hz]
  clear hv hd
  go_enter Try.func7, Try.ntmps7
  go_wp2_with fail
  have P0 : Hid _ := box2_new w (n : Int) (.slice a0 es.length c0) 24
  have B0 : Hid (Below w.heap.size w (w.alloc (.cells #[.int .i64 n, .slice a0 es.length c0] 24))) := balloc (Below.refl _ _) _
  have hz0 : (w.alloc (.cells #[.int .i64 n, .slice a0 es.length c0] 24)).heap.size = w.heap.size + 1 := by simp
  generalize w.alloc (.cells #[.int .i64 n, .slice a0 es.length c0] 24) = W0 at *
  have E1 : Hid _ := lit_edges W0 [(1, 0, 0)] #[.int .i64 1, .int .i64 0, .int .i64 0] 1 rfl rfl
  rw [hz0] at E1
  have b1 : Below W0.heap.size W0 (W0.alloc (.cells #[.int .i64 1, .int .i64 0, .int .i64 0] 34)) := balloc (Below.refl _ _) _
  have P1 : Hid _ := P0.out.below b1
  have B1 : Hid (Below w.heap.size w (W0.alloc (.cells #[.int .i64 1, .int .i64 0, .int .i64 0] 34))) := bthen B0.out b1
  clear b1 hz0
  refine (dord 2 _ _ _ E1.out rnt2).mono ?_
  rintro e w2 ⟨hor, b2⟩
  have HOR : Hid _ := hor.resolve_right (fun h => h.1 okd2)
  obtain ⟨ov2, hov, i2⟩ := HOR.out.2
  subst hov
  rw [ord2] at i2
  have U2 : Hid _ := i2.sl
  have P2 : Hid _ := P1.out.below b2
  have B2 : Hid (Below w.heap.size w w2) := bthen B1.out b2
  obtain ⟨a2, c2, rfl⟩ := U2.out.val
  clear i2 b2 hor HOR P1 B1 E1 P0 B0
  go_wp2_with fail
  have L3 : Hid _ := lit_nums w2 [1, 0] #[.int .i64 1, .int .i64 0] 2 rfl rfl
  have b3 : Below w2.heap.size w2 (w2.alloc (.cells #[.int .i64 1, .int .i64 0] 3)) := balloc (Below.refl _ _) _
  have U3 : Hid _ := U2.out.below b3
  have P3 : Hid _ := P2.out.below b3
  have B3 : Hid (Below w.heap.size w (w2.alloc (.cells #[.int .i64 1, .int .i64 0] 3))) := bthen B2.out b3
  clear b3 P2 B2 U2
  generalize w2.alloc (.cells #[.int .i64 1, .int .i64 0] 3) = W3 at *
  generalize w2.heap.size = X3 at *
  refine (iequal_yes _ _ _ W3 U3.out L3.out (by decide)).mono ?_
  rintro e w4 ⟨rfl, b4⟩
  have P4 : Hid _ := P3.out.below b4
  have B4 : Hid (Below w.heap.size w w4) := bthen B3.out b4
  obtain ⟨p0, p1⟩ := P4.out
  clear b4 P3 B3 U3 L3
  go_wp2_with fail
  clear p0 p1
  refine (HD.out w4 (HV.out.below B4.out)).mono ?_
  rintro e w5 ⟨rfl, b5⟩
  have B5 : Hid (Below w.heap.size w w5) := bthen B4.out b5
  clear b5
  go_wp2_with fail
  go_ret
  exact ⟨rfl, B5.out⟩
set_option maxRecDepth 100000 in
set_option maxHeartbeats 8000000 in
theorem walk_yes (N : Nat) (v : Value) (es : List E) (w : World) (hv : SlE w v es) (hb : Rnt N es) (ho : okd N es) :
    Calls Try.prog 7 #[.agg #[.int .i64 N, v]] w fun e w' => e = .returned (.bool true) ∧ Below w.heap.size w w' := by
  obtain ⟨a0, c0, rfl⟩ := hv.val
  have HV : Hid _ := hv
  have HB : Hid _ := hb
  have hn64 := hb.n64
  have hlen := hb.len
  have HF : Hid (Fwd N es (ordk N es)) := (lds_fwb hb.inn).fwd hb.inn (okd_acy ho)
  have HCL : Hid ((ordk N es).length = N) := by
    have := ((lds_fwb hb.inn).full hb.inn (okd_acy ho)).length_eq
    rw [List.length_range] at this; exact this
  have HDO : Hid (∀ W, SlE W (.slice a0 es.length c0) es → Calls Try.prog 17 #[.agg #[.int .i64 N, .slice a0 es.length c0]] W fun e w' => ∃ ov, e = .returned (.tuple #[ov, .int .i64 0]) ∧ Is w' W.heap.size ov (ints (ordk N es)) ∧ Below W.heap.size W w') := fun W hW => (dord N _ es W hW hb).mono (by
    rintro e w' ⟨⟨_, ov, h1, h2⟩ | ⟨h1, _⟩, h3⟩
    · exact ⟨ov, h1, h2, h3⟩
    · exact absurd ho h1)
  obtain ⟨C, hC⟩ : ∃ C, ordk N es = C := ⟨_, rfl⟩
  rw [hC] at HF HDO HCL
  clear hv hb hC ho
  go_enter Try.func7, Try.ntmps7
  go_wp2_with fail
  have P0 : Hid _ := box2_new w (N : Int) (.slice a0 es.length c0) 24
  have B0 : Hid (Below w.heap.size w (w.alloc (.cells #[.int .i64 N, .slice a0 es.length c0] 24))) := balloc (Below.refl _ _) _
  have hz0 : (w.alloc (.cells #[.int .i64 N, .slice a0 es.length c0] 24)).heap.size = w.heap.size + 1 := by simp
  generalize w.alloc (.cells #[.int .i64 N, .slice a0 es.length c0] 24) = W0 at *
  have E1 : Hid _ := lit_edges W0 [(1, 0, 0)] #[.int .i64 1, .int .i64 0, .int .i64 0] 1 rfl rfl
  rw [hz0] at E1
  have b1 : Below W0.heap.size W0 (W0.alloc (.cells #[.int .i64 1, .int .i64 0, .int .i64 0] 34)) := balloc (Below.refl _ _) _
  have P1 : Hid _ := P0.out.below b1
  have B1 : Hid (Below w.heap.size w (W0.alloc (.cells #[.int .i64 1, .int .i64 0, .int .i64 0] 34))) := bthen B0.out b1
  clear b1 hz0
  refine (dord 2 _ _ _ E1.out rnt2).mono ?_
  rintro e w2 ⟨hor, b2⟩
  have HOR : Hid _ := hor.resolve_right (fun h => h.1 okd2)
  obtain ⟨ov2, hov, i2⟩ := HOR.out.2
  subst hov
  rw [ord2] at i2
  have U2 : Hid _ := i2.sl
  have P2 : Hid _ := P1.out.below b2
  have B2 : Hid (Below w.heap.size w w2) := bthen B1.out b2
  obtain ⟨a2, c2, rfl⟩ := U2.out.val
  clear i2 b2 hor HOR P1 B1 E1 P0 B0
  go_wp2_with fail
  have L3 : Hid _ := lit_nums w2 [1, 0] #[.int .i64 1, .int .i64 0] 2 rfl rfl
  have b3 : Below w2.heap.size w2 (w2.alloc (.cells #[.int .i64 1, .int .i64 0] 3)) := balloc (Below.refl _ _) _
  have U3 : Hid _ := U2.out.below b3
  have P3 : Hid _ := P2.out.below b3
  have B3 : Hid (Below w.heap.size w (w2.alloc (.cells #[.int .i64 1, .int .i64 0] 3))) := bthen B2.out b3
  clear b3 P2 B2 U2
  generalize w2.alloc (.cells #[.int .i64 1, .int .i64 0] 3) = W3 at *
  generalize w2.heap.size = X3 at *
  refine (iequal_yes _ _ _ W3 U3.out L3.out (by decide)).mono ?_
  rintro e w4 ⟨rfl, b4⟩
  have P4 : Hid _ := P3.out.below b4
  have B4 : Hid (Below w.heap.size w w4) := bthen B3.out b4
  obtain ⟨p0, p1⟩ := P4.out
  clear b4 P3 B3 U3 L3
  go_wp2_with fail
  clear p0 p1
  refine (HDO.out w4 (HV.out.below B4.out)).mono ?_
  rintro e w5 ⟨ov, rfl, i5, b5⟩
  have I5 : Hid _ := i5.sl
  have P5 : Hid _ := P4.out.below b5
  have B5 : Hid (Below w.heap.size w w5) := bthen B4.out b5
  clear i5 b5 P4 B4
  obtain ⟨ao, co, rfl⟩ := I5.out.val
  rw [ints_length, HCL.out] at I5 ⊢
  obtain ⟨p0, p1⟩ := P5.out
  have hmk := made_ur N hn64 w5
  go_wp2_with fail
  clear p0 p1 hmk
  have hz6 : (w5.alloc (.cells (Array.ofFn (n := N) fun _ => .int .i64 0) 3)).heap.size = w5.heap.size + 1 := by simp
  have U6 : Ur (w5.alloc (.cells (Array.ofFn (n := N) fun _ => .int .i64 0) 3)) w5.heap.size N (pos C 0) := (Ur.mk (d := fun _ => 0) (heap_alloc_new w5 _)).congr (fun x _ => (pos_zero C x).symm)
  have b6 : Below w5.heap.size w5 (w5.alloc (.cells (Array.ofFn (n := N) fun _ => .int .i64 0) 3)) := balloc (Below.refl _ _) _
  have a7 : Below (w5.heap.size + 1) (w5.alloc (.cells (Array.ofFn (n := N) fun _ => .int .i64 0) 3)) ((w5.alloc (.cells (Array.ofFn (n := N) fun _ => .int .i64 0) 3)).alloc (.cells #[.slice (some ⟨w5.heap.size, 0, none⟩) N N] 25)) := by rw [← hz6]; exact balloc (Below.refl _ _) _
  have b7 : Below w5.heap.size w5 ((w5.alloc (.cells (Array.ofFn (n := N) fun _ => .int .i64 0) 3)).alloc (.cells #[.slice (some ⟨w5.heap.size, 0, none⟩) N N] 25)) := balloc b6 _
  have U7 : Hid (Ur ((w5.alloc (.cells (Array.ofFn (n := N) fun _ => .int .i64 0) 3)).alloc (.cells #[.slice (some ⟨w5.heap.size, 0, none⟩) N N] 25)) w5.heap.size N (pos C 0)) := U6.below (by rw [hz6]; exact a7)
  have L7 : Hid (((w5.alloc (.cells (Array.ofFn (n := N) fun _ => .int .i64 0) 3)).alloc (.cells #[.slice (some ⟨w5.heap.size, 0, none⟩) N N] 25)).cell? ⟨w5.heap.size + 1, 0, none⟩ = some (.slice (some ⟨w5.heap.size, 0, none⟩) N N)) := by
    have := cell_new (w5.alloc (.cells (Array.ofFn (n := N) fun _ => .int .i64 0) 3)) #[.slice (some ⟨w5.heap.size, 0, none⟩) N N] 25 0 _ rfl
    rw [hz6] at this; exact this
  have I7 : Hid _ := I5.out.below b7
  have P7 : Hid _ := P5.out.below b7
  have B7 : Hid (Below w.heap.size w ((w5.alloc (.cells (Array.ofFn (n := N) fun _ => .int .i64 0) 3)).alloc (.cells #[.slice (some ⟨w5.heap.size, 0, none⟩) N N] 25))) := bthen B5.out b7
  have HZ1 : Hid (w.heap.size < w5.heap.size) := World.block_lt_of_cell? w5 ⟨w.heap.size, 0, none⟩ P5.out.g0
  have OG : Hid (∀ b off c, 0 < N → Value.slice ao N co = .slice (some ⟨b, off, none⟩) N c → b ≠ w5.heap.size) := fun b off c h0 e => by
    obtain ⟨b', off', c', h1, h2, _⟩ := I5.out.some2 (by rw [ints_length, HCL.out]; exact h0)
    rw [e, ints_length, HCL.out] at h1
    simp only [Value.slice.injEq, Option.some.injEq, Addr.mk.injEq] at h1
    obtain ⟨⟨rfl, rfl, _⟩, _⟩ := h1
    have := World.block_lt_of_cell? w5 ⟨b, off + 0, none⟩ (h2 0 (by rw [ints_length, HCL.out]; exact h0))
    simp only at this
    omega
  clear b6 a7 b7 U6 P5 B5 I5 hz6
  have VG : Hid (∀ W, ((w5.alloc (.cells (Array.ofFn (n := N) fun _ => .int .i64 0) 3)).alloc (.cells #[.slice (some ⟨w5.heap.size, 0, none⟩) N N] 25)).grownBy W (some w5.heap.size) → SlE W (.slice a0 es.length c0) es) := fun W hg => (HV.out.below B7.out).grown hg (fun hl a c o e => by
    obtain ⟨b', off', c', h1, h2⟩ := HV.out.some' hl
    rw [e] at h1
    simp only [Value.slice.injEq, Option.some.injEq, Addr.mk.injEq] at h1
    obtain ⟨⟨rfl, _, _⟩, _⟩ := h1
    have := World.block_lt_of_cell? w ⟨a, off' + 0 * 3, none⟩ (h2 0 hl).1
    simp only at this
    have := HZ1.out; omega)
  have hge : w5.heap.size + 1 ≠ w5.heap.size := by omega
  have GNB : Hid (w5.heap.size + 1 ≠ w5.heap.size) := hge
  have GNE : Hid (w.heap.size ≠ w5.heap.size) := by have := HZ1.out; unfold Hid; omega
  clear hge
  generalize ((w5.alloc (.cells (Array.ofFn (n := N) fun _ => .int .i64 0) 3)).alloc (.cells #[.slice (some ⟨w5.heap.size, 0, none⟩) N N] 25)) = W7 at *
  obtain ⟨LB, hLB⟩ : ∃ LB, w5.heap.size + 1 = LB := ⟨_, rfl⟩
  rw [hLB] at L7 GNB ⊢
  clear hLB
  generalize w5.heap.size = A at *
  go_loopw [40] (fun z wr => ∃ i : Nat, z = .int .i64 i ∧ i ≤ N ∧ Ur wr A N (pos C i) ∧ W7.grownBy wr (some A)) (fun z _ => N - (intOf z).toNat)
  case atStart => exact ⟨0, rfl, Nat.zero_le _, U7.out, grown_refl _ _⟩
  case round =>
    obtain ⟨i, rfl, hi, hu, hg⟩ := hrel
    clear U7
    have UR : Hid _ := hu
    have GR : Hid _ := hg
    clear hu hg
    by_cases hlt : i < N
    · have hii : (i : Int) < (N : Int) := by omega
      have hlc : i < C.length := by rw [HCL.out]; exact hlt
      obtain ⟨bo, off, cap, hveq, hcl, _⟩ := I7.out.some2 (by rw [ints_length]; omega)
      rw [ints_length, HCL.out] at hveq hcl
      have hbo := OG.out bo off cap (by omega) hveq
      simp only [Value.slice.injEq] at hveq
      obtain ⟨rfl, -, rfl⟩ := hveq
      have e0 := grown_cell GR.out hbo (hcl i hlt)
      rw [ints_at hlc] at e0
      have hvN : C[i] < N := HF.out.in_ _ (List.getElem_mem hlc)
      have HNX : Hid _ := pos_next HF.out.nd hlc
      obtain ⟨x0, hx0⟩ : ∃ x0, C[i] = x0 := ⟨_, rfl⟩
      rw [hx0] at e0 hvN HNX
      have p0 := grown_cell GR.out GNE.out P7.out.g0
      have l0 := grown_cell GR.out GNB.out L7.out
      have hvi : (x0 : Int) < (N : Int) := by omega
      have hw : IntKind.i64.wrap ((i : Int) + 1) = (i : Int) + 1 := by rw [IntKind.wrap_i64]; omega
      obtain ⟨q1, q2⟩ := UR.out.cell x0 hvN
      clear hcl hx0 hbo
      have U9 : Hid _ := UR.out.put x0 ((i : Int) + 1)
      rw [HNX.out] at U9
      go_wp2_with fail
      go_roundw
      case rel => exact ⟨i + 1, by go_num, by omega, U9.out, grown_setCell GR.out⟩
      case measure => simp [intOf]; omega
    · obtain rfl : i = N := by omega
      have HLP : Hid _ := lst_pos HF.out HCL.out
      have HNB : Hid _ := no_back HF.out HCL.out HB.out.inn
      have p0 := grown_cell GR.out GNE.out P7.out.g0
      have p1 := grown_cell GR.out GNE.out P7.out.g1
      have l0 := grown_cell GR.out GNB.out L7.out
      have VR : Hid _ := VG.out wr GR.out
      have BR : Hid (Below w.heap.size w wr) := B7.out.trans ⟨GR.out.os, GR.out.tape, GR.out.output, GR.out.size, fun x hx => GR.out.block x (by have := B7.out.size; omega) (fun e => by have := Option.some.inj e; have := HZ1.out; omega)⟩
      go_wp2_with fail
      refine (contains_any _ ((List.range i).map (fun t => ix C t + 1)) 0 wr (by rw [← HLP.out]; exact UR.out.sl) (by simp; omega)).mono ?_
      rintro e w1 ⟨rfl, hw1⟩
      have HW1 : Hid (w1 = wr) := hw1
      rw [no_zero]
      subst hw1
      go_wp2_with fail
      have Q8 : Hid (Q28.Asks w1 LB i (fun e => decide (pos C i e.2.1.toNat ≤ pos C i e.1.toNat))) := ⟨fun w' hb x y c hx hy => Q28.ask i x y LB c _ (pos C i) w' hx hy (kept hb l0) (UR.out.sl.below hb)⟩
      refine (Q28.con LB i _ es _ w1 VR.out HB.out Q8.out).mono ?_
      rintro e w9 ⟨rfl, b9⟩
      rw [HNB.out]
      have B9 : Hid (Below w.heap.size w w9) := bthen BR.out b9
      clear b9
      go_wp2_with fail
      go_ret
      exact ⟨rfl, B9.out⟩
theorem walk (n : Int) (v : Value) (es : List E) (w : World) (hv : SlE w v es) (hlen : es.length ≤ 9223372036854775807) :
    Calls Try.prog 7 #[.agg #[.int .i64 n, v]] w fun e w' => e = .returned (.bool true) ∧ Below w.heap.size w w' := by
  by_cases hc : nck n es = 0
  · obtain ⟨hb, hn⟩ := bn_of hc
    rw [← hn]
    by_cases ho : okd n.toNat es
    · exact walk_yes n.toNat v es w hv hb ho
    · exact walk_no n.toNat 6 v es w (by decide) (fun W hW => (dord n.toNat _ es W hW hb).mono (by
        rintro e w' ⟨⟨h1, _⟩ | ⟨_, h1⟩, h3⟩
        · exact absurd h1 ho
        · exact ⟨h1, h3⟩)) hv
  · exact walk_no n (nck n es) v es w hc (fun W hW => dord_net n v es W hW hlen hc) hv
end Go.Proofs.Ytkklgnfimkojlaa.GForward
