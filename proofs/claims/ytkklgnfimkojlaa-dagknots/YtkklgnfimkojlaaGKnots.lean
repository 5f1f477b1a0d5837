/-
  The law fellkeep.DagKnots, walked.
-/
import Derived.Test.YtkklgnfimkojlaaKM
import Derived.Test.YtkklgnfimkojlaaKY
import Derived.Test.YtkklgnfimkojlaaIE
import Derived.Test.YtkklgnfimkojlaaRV
namespace Go.Proofs.Ytkklgnfimkojlaa.GKnots
open Go.RowKit
open Nm Wm Dm Bm Fm Fl Km
attribute [local go_sem ↓] Go.wp_at_zero Go.wp_at_succ

theorem rnt1 : Rnt 1 [(0, 0, 0)] := ⟨by omega, by omega, by simp, by simp⟩
theorem okd1 : ¬ okd 1 [(0, 0, 0)] := fun h => h.2 (0, 0, 0) (by simp) rfl
set_option maxRecDepth 100000 in
set_option maxHeartbeats 8000000 in
theorem walk_net (n : Int) (v : Value) (es : List E) (w : World) (hv : SlE w v es) (hlen : es.length ≤ 9223372036854775807) (hc : nck n es ≠ 0) :
    Calls Try.prog 8 #[.agg #[.int .i64 n, v]] w fun e w' => e = .returned (.bool true) ∧ Below w.heap.size w w' := by
  obtain ⟨a0, c0, rfl⟩ := hv.val
  have HV : Hid _ := hv
  have HC : Hid _ := hc
  obtain ⟨k1, hk1⟩ : ∃ k, nck n es = k := ⟨_, rfl⟩
  have HK : Hid _ := hk1
  have z3 : (k1 == k1) = true := by simp
  have z4 : (k1 != 0) = true := by rw [← hk1]; simp [hc]
  clear hv hc hk1
  go_enter Try.func8, Try.ntmps8
  go_wp2_with fail
  have P0 : Hid _ := box2_new w (n : Int) (.slice a0 es.length c0) 24
  have B0 : Hid (Below w.heap.size w (w.alloc (.cells #[.int .i64 n, .slice a0 es.length c0] 24))) := balloc (Below.refl _ _) _
  have hz0 : (w.alloc (.cells #[.int .i64 n, .slice a0 es.length c0] 24)).heap.size = w.heap.size + 1 := by simp
  generalize w.alloc (.cells #[.int .i64 n, .slice a0 es.length c0] 24) = W0 at *
  have E1 : Hid _ := lit_edges W0 [(0, 0, 0)] #[.int .i64 0, .int .i64 0, .int .i64 0] 1 rfl rfl
  rw [hz0] at E1
  have b1 : Below W0.heap.size W0 (W0.alloc (.cells #[.int .i64 0, .int .i64 0, .int .i64 0] 34)) := balloc (Below.refl _ _) _
  have P1 : Hid _ := P0.out.below b1
  have B1 : Hid (Below w.heap.size w (W0.alloc (.cells #[.int .i64 0, .int .i64 0, .int .i64 0] 34))) := bthen B0.out b1
  clear b1 hz0
  refine (dord 1 _ _ _ E1.out rnt1).mono ?_
  rintro e w4 ⟨hor, b4⟩
  have HOR : Hid _ := hor.resolve_left (fun h => okd1 h.1)
  have P4 : Hid _ := P1.out.below b4
  have B4 : Hid (Below w.heap.size w w4) := bthen B1.out b4
  obtain rfl := HOR.out.2
  obtain ⟨p0, p1⟩ := P4.out
  clear b4 hor P0 B0 E1 P1 B1 HOR
  go_wp2_with fail
  clear p0 p1
  refine (dord_net n _ es w4 (HV.out.below B4.out) hlen HC.out).mono ?_
  rintro e w5 ⟨rfl, b5⟩
  rw [HK.out]
  have P5 : Hid _ := P4.out.below b5
  have B5 : Hid (Below w.heap.size w w5) := bthen B4.out b5
  obtain ⟨p0, p1⟩ := P5.out
  clear b5 P4 B4
  go_wp2_with fail
  clear p0 p1
  refine (cof_net n _ es w5 (HV.out.below B5.out) hlen HC.out).mono ?_
  rintro e w6 ⟨rfl, b6⟩
  rw [HK.out]
  have P6 : Hid _ := P5.out.below b6
  have B6 : Hid (Below w.heap.size w w6) := bthen B5.out b6
  have A7 : Hid (Below w6.heap.size w6 (w6.alloc (.cells #[.slice none 0 0] 25))) := balloc (Below.refl _ _) _
  have P7 : Hid _ := P6.out.below A7.out
  have B7 : Hid (Below w.heap.size w (w6.alloc (.cells #[.slice none 0 0] 25))) := balloc B6.out _
  have V7 : Hid _ := (HV.out.below B6.out).below A7.out
  obtain ⟨p0, p1⟩ := P7.out
  clear b6 P5 B5 P6 B6 A7
  go_wp2_with fail
  clear p0 p1
  refine (cord_net n _ es _ V7.out hlen HC.out).mono ?_
  rintro e w8 ⟨rfl, b8⟩
  rw [HK.out]
  have B8 : Hid (Below w.heap.size w w8) := bthen B7.out b8
  clear b8
  go_wp2_with fail
  go_ret
  exact ⟨rfl, B8.out⟩
set_option maxRecDepth 100000 in
set_option maxHeartbeats 8000000 in
theorem walk_yes (N : Nat) (v : Value) (es : List E) (w : World) (hv : SlE w v es) (hb : Rnt N es) :
    Calls Try.prog 8 #[.agg #[.int .i64 N, v]] w fun e w' => e = .returned (.bool true) ∧ Below w.heap.size w w' := by
  obtain ⟨a0, c0, rfl⟩ := hv.val
  have HV : Hid _ := hv
  have HB : Hid _ := hb
  have hn64 := hb.n64
  have hlen := hb.len
  have HSG : Hid (okd N es ↔ ∀ e ∈ es, kn (fwb (fun _ => true) es N) e.1.toNat ≠ kn (fwb (fun _ => true) es N) e.2.1.toNat) := by
    have hl := lds_fwb hb.inn
    constructor
    · intro h e he hq
      have ha := okd_acy h
      rw [ha.id _ (hb.inn e he).1, ha.id _ (hb.inn e he).2] at hq
      exact ha.ns e he hq
    · intro h
      have ha := hl.acy_of_single hb.inn h
      refine ⟨?_, ha.ns⟩
      have := (hl.full hb.inn ha).length_eq
      rw [List.length_range] at this
      unfold ordk; omega
  have HLC : Hid ((ints (ordk N es)).length ≤ 9223372036854775807) := by
    unfold Hid; rw [ints_length]; have h1 := kl_len (kn (fwb (fun _ => true) es N)) N; have h2 := ord_len (lk (kn (fwb (fun _ => true) es N)) es) (kl (kn (fwb (fun _ => true) es N)) N); unfold ordk; omega
  have HCR : Hid (∀ W, SlE W (.slice a0 es.length c0) es → Calls Try.prog 12 #[.agg #[.int .i64 N, .slice a0 es.length c0]] W fun e w' => ∃ ov, e = .returned (.tuple #[ov, .int .i64 0]) ∧ Is w' W.heap.size ov (ints (ordk N es)) ∧ Below W.heap.size W w') := fun W hW => cord_yes N _ es W hW hb
  obtain ⟨K, hK⟩ : ∃ K, kn (fwb (fun _ => true) es N) = K := ⟨_, rfl⟩
  have HKE : Hid _ := hK
  rw [hK] at HSG
  obtain ⟨C, hC⟩ : ∃ C, ordk N es = C := ⟨_, rfl⟩
  have HCE : Hid _ := hC
  rw [hC] at HLC HCR
  clear hv hb hK hC
  go_enter Try.func8, Try.ntmps8
  go_wp2_with fail
  have P0 : Hid _ := box2_new w (N : Int) (.slice a0 es.length c0) 24
  have B0 : Hid (Below w.heap.size w (w.alloc (.cells #[.int .i64 N, .slice a0 es.length c0] 24))) := balloc (Below.refl _ _) _
  have hz0 : (w.alloc (.cells #[.int .i64 N, .slice a0 es.length c0] 24)).heap.size = w.heap.size + 1 := by simp
  generalize w.alloc (.cells #[.int .i64 N, .slice a0 es.length c0] 24) = W0 at *
  have E1 : Hid _ := lit_edges W0 [(0, 0, 0)] #[.int .i64 0, .int .i64 0, .int .i64 0] 1 rfl rfl
  rw [hz0] at E1
  have b1 : Below W0.heap.size W0 (W0.alloc (.cells #[.int .i64 0, .int .i64 0, .int .i64 0] 34)) := balloc (Below.refl _ _) _
  have P1 : Hid _ := P0.out.below b1
  have B1 : Hid (Below w.heap.size w (W0.alloc (.cells #[.int .i64 0, .int .i64 0, .int .i64 0] 34))) := bthen B0.out b1
  clear b1 hz0
  refine (dord 1 _ _ _ E1.out rnt1).mono ?_
  rintro e w4 ⟨hor, b4⟩
  have HOR : Hid _ := hor.resolve_left (fun h => okd1 h.1)
  have P4 : Hid _ := P1.out.below b4
  have B4 : Hid (Below w.heap.size w w4) := bthen B1.out b4
  obtain rfl := HOR.out.2
  obtain ⟨p0, p1⟩ := P4.out
  clear b4 hor P0 B0 E1 P1 B1 HOR
  go_wp2_with fail
  clear p0 p1
  refine (dord N _ es w4 (HV.out.below B4.out) HB.out).mono ?_
  rintro e w5 ⟨hor, b5⟩
  have P5 : Hid _ := P4.out.below b5
  have B5 : Hid (Below w.heap.size w w5) := bthen B4.out b5
  obtain ⟨p0, p1⟩ := P5.out
  clear b5 P4 B4
  rcases hor with ⟨ho, lv, rfl, il⟩ | ⟨ho, rfl⟩
  · have HO : Hid _ := ho
    rw [HCE.out] at il
    have I5 : Hid _ := il.sl
    obtain ⟨al, cl, rfl⟩ := I5.out.val
    clear ho il
    go_wp2_with fail
    clear p0 p1
    refine (cof_yes N _ es w5 (HV.out.below B5.out) HB.out).mono ?_
    rintro e w6 ⟨G, rfl, u6, -, b6⟩
    rw [HKE.out] at u6
    have U6 : Hid _ := u6
    have I6 : Hid _ := I5.out.below b6
    have P6 : Hid _ := P5.out.below b6
    have B6 : Hid (Below w.heap.size w w6) := bthen B5.out b6
    clear u6 b6 P5 B5 I5
    have A7 : Hid (Below w6.heap.size w6 (w6.alloc (.cells #[.slice (some ⟨G, 0, none⟩) N N] 25))) := balloc (Below.refl _ _) _
    have L7 : Hid _ := cell_new w6 #[.slice (some ⟨G, 0, none⟩) N N] 25 0 _ rfl
    have P7 : Hid _ := P6.out.below A7.out
    have I7 : Hid _ := I6.out.below A7.out
    have U7 : Hid _ := U6.out.below A7.out
    have B7 : Hid (Below w.heap.size w (w6.alloc (.cells #[.slice (some ⟨G, 0, none⟩) N N] 25))) := balloc B6.out _
    have HAN : Hid (es.any (fun e => ((K e.1.toNat : Nat) : Int) == ((K e.2.1.toNat : Nat) : Int)) = false) := by
      unfold Hid
      rw [List.any_eq_false]
      intro e he
      have := HSG.out.1 HO.out e he
      simp; omega
    obtain ⟨p0, p1⟩ := P7.out
    clear P6 B6 I6 U6 A7
    go_wp2_with fail
    clear p0 p1
    obtain ⟨LB, hLB⟩ : ∃ LB, w6.heap.size = LB := ⟨_, rfl⟩
    rw [hLB] at L7 ⊢
    clear hLB
    generalize w6.alloc (.cells #[.slice (some ⟨G, 0, none⟩) N N] 25) = w7 at *
    refine (HCR.out w7 (HV.out.below B7.out)).mono ?_
    rintro e w8 ⟨mv, rfl, i8, b8⟩
    have M8 : Hid _ := i8.sl
    obtain ⟨am, cm, rfl⟩ := M8.out.val
    have I8 : Hid _ := I7.out.below b8
    have L8 : Hid _ := kept b8 L7.out
    have U8 : Hid _ := U7.out.below b8
    have P8 : Hid _ := P7.out.below b8
    have B8 : Hid (Below w.heap.size w w8) := bthen B7.out b8
    have Q8 : Hid (Q29.Asks w8 LB N (fun e => ((K e.1.toNat : Nat) : Int) == ((K e.2.1.toNat : Nat) : Int))) := ⟨fun w' hb x y c hx hy => Q29.ask N x y LB c _ (fun x => ((K x : Nat) : Int)) w' hx hy (kept hb L8.out) (U8.out.sl.below hb)⟩
    obtain ⟨p0, p1⟩ := P8.out
    clear i8 b8 P7 B7 U7
    go_wp2_with fail
    clear p0 p1
    refine (Q29.con LB N _ es _ w8 (HV.out.below B8.out) HB.out Q8.out).mono ?_
    rintro e w9 ⟨rfl, b9⟩
    rw [HAN.out]
    have M9 : Hid _ := M8.out.below b9
    have I9 : Hid _ := I8.out.below b9
    have B9 : Hid (Below w.heap.size w w9) := bthen B8.out b9
    clear b9 B8 P8 U8 L8 Q8
    go_wp2_with fail
    refine (iequal_yes _ _ _ w9 I9.out M9.out HLC.out).mono ?_
    rintro e w10 ⟨rfl, b10⟩
    have B10 : Hid (Below w.heap.size w w10) := bthen B9.out b10
    clear b10
    go_wp2_with fail
    go_ret
    exact ⟨rfl, B10.out⟩
  · have HO : Hid _ := ho
    clear ho
    have HAN : Hid (es.any (fun e => ((K e.1.toNat : Nat) : Int) == ((K e.2.1.toNat : Nat) : Int)) = true) := by
      refine Classical.byContradiction (fun hn => HO.out (HSG.out.2 (fun e he hq => hn ?_)))
      rw [List.any_eq_true]
      exact ⟨e, he, by simp [hq]⟩
    go_wp2_with fail
    clear p0 p1
    refine (cof_yes N _ es w5 (HV.out.below B5.out) HB.out).mono ?_
    rintro e w6 ⟨G, rfl, u6, -, b6⟩
    rw [HKE.out] at u6
    have U6 : Hid _ := u6
    have P6 : Hid _ := P5.out.below b6
    have B6 : Hid (Below w.heap.size w w6) := bthen B5.out b6
    clear u6 b6 P5 B5
    have A7 : Hid (Below w6.heap.size w6 (w6.alloc (.cells #[.slice (some ⟨G, 0, none⟩) N N] 25))) := balloc (Below.refl _ _) _
    have L7 : Hid _ := cell_new w6 #[.slice (some ⟨G, 0, none⟩) N N] 25 0 _ rfl
    have P7 : Hid _ := P6.out.below A7.out
    have U7 : Hid _ := U6.out.below A7.out
    have B7 : Hid (Below w.heap.size w (w6.alloc (.cells #[.slice (some ⟨G, 0, none⟩) N N] 25))) := balloc B6.out _
    obtain ⟨p0, p1⟩ := P7.out
    clear P6 B6 U6 A7
    go_wp2_with fail
    clear p0 p1
    obtain ⟨LB, hLB⟩ : ∃ LB, w6.heap.size = LB := ⟨_, rfl⟩
    rw [hLB] at L7 ⊢
    clear hLB
    generalize w6.alloc (.cells #[.slice (some ⟨G, 0, none⟩) N N] 25) = w7 at *
    refine (HCR.out w7 (HV.out.below B7.out)).mono ?_
    rintro e w8 ⟨mv, rfl, i8, b8⟩
    have M8 : Hid _ := i8.sl
    obtain ⟨am, cm, rfl⟩ := M8.out.val
    have L8 : Hid _ := kept b8 L7.out
    have U8 : Hid _ := U7.out.below b8
    have P8 : Hid _ := P7.out.below b8
    have B8 : Hid (Below w.heap.size w w8) := bthen B7.out b8
    have Q8 : Hid (Q29.Asks w8 LB N (fun e => ((K e.1.toNat : Nat) : Int) == ((K e.2.1.toNat : Nat) : Int))) := ⟨fun w' hb x y c hx hy => Q29.ask N x y LB c _ (fun x => ((K x : Nat) : Int)) w' hx hy (kept hb L8.out) (U8.out.sl.below hb)⟩
    obtain ⟨p0, p1⟩ := P8.out
    clear i8 b8 P7 B7 U7
    go_wp2_with fail
    clear p0 p1
    refine (Q29.con LB N _ es _ w8 (HV.out.below B8.out) HB.out Q8.out).mono ?_
    rintro e w9 ⟨rfl, b9⟩
    rw [HAN.out]
    have M9 : Hid _ := M8.out.below b9
    have B9 : Hid (Below w.heap.size w w9) := bthen B8.out b9
    clear b9 B8 P8 U8 L8 Q8
    go_wp2_with fail
    go_ret
    exact ⟨rfl, B9.out⟩
theorem walk (n : Int) (v : Value) (es : List E) (w : World) (hv : SlE w v es) (hlen : es.length ≤ 9223372036854775807) :
    Calls Try.prog 8 #[.agg #[.int .i64 n, v]] w fun e w' => e = .returned (.bool true) ∧ Below w.heap.size w w' := by
  by_cases hc : nck n es = 0
  · obtain ⟨hb, hn⟩ := bn_of hc
    rw [← hn]
    exact walk_yes n.toNat v es w hv hb
  · exact walk_net n v es w hv hlen hc
end Go.Proofs.Ytkklgnfimkojlaa.GKnots
