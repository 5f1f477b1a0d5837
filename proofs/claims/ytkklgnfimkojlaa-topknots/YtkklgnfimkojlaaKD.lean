/-
  Contract: the knots in their order.
-/
import Derived.Test.YtkklgnfimkojlaaKC
import Derived.Deep.LoopGhost
namespace Go.Proofs.Ytkklgnfimkojlaa
open Go.RowKit
open Nm Wm Dm Bm Fm Fl Km
attribute [local go_sem ↓] Go.wp_at_zero Go.wp_at_succ

set_option maxRecDepth 100000 in
set_option maxHeartbeats 8000000 in
theorem cord_net (n : Int) (v : Value) (es : List E) (w : World) (hv : SlE w v es) (hlen : es.length ≤ 9223372036854775807) (hc : nck n es ≠ 0) :
    Calls Try.prog 12 #[.agg #[.int .i64 n, v]] w fun e w' => e = .returned (.tuple #[.slice none 0 0, .int .i64 (nck n es)]) ∧ Below w.heap.size w w' := by
  obtain ⟨a0, c0, rfl⟩ := hv.val
  have HV : Hid _ := hv
  have HC : Hid _ := hc
  have hz : (nck n es != 0) = true := by simp [hc]
  clear hv hc
  go_enter Try.func12, Try.ntmps12
  go_wp2_with fail
  have B0 : Hid (Below w.heap.size w (w.alloc (.cells #[.int .i64 n, .slice a0 es.length c0] 24))) := balloc (Below.refl _ _) _
  generalize w.alloc (.cells #[.int .i64 n, .slice a0 es.length c0] 24) = W0 at *
  refine (cof_net n _ es W0 (HV.out.below B0.out) hlen HC.out).mono ?_
  rintro e w1 ⟨rfl, b1⟩
  have B1 : Hid (Below w.heap.size w w1) := bthen B0.out b1
  clear b1 B0
  go_wp2_with fail
  go_ret2
  exact ⟨rfl, B1.out⟩
/-- What is free ahead of it all, of the first k places. -/
def fre (K : Nat → Nat) (es : List E) (k : Nat) : List Nat := (kl K k).filter (fun v => decide (hd K es es.length v = 0))
theorem fre_no {K : Nat → Nat} {es : List E} {k : Nat} (h : ¬ (k = K k ∧ hd K es es.length k = 0)) : fre K es (k + 1) = fre K es k := by
  unfold fre
  rw [kl_next, List.filter_append]
  by_cases h1 : k = K k
  · have h2 : ¬ hd K es es.length k = 0 := fun e => h ⟨h1, e⟩
    rw [if_pos h1]; simp [h2]
  · rw [if_neg h1]; simp
theorem fre_yes {K : Nat → Nat} {es : List E} {k : Nat} (h1 : k = K k) (h2 : hd K es es.length k = 0) : fre K es (k + 1) = fre K es k ++ [k] := by
  unfold fre
  rw [kl_next, List.filter_append, if_pos h1]; simp [h2]
theorem fre_len (K : Nat → Nat) (es : List E) (k : Nat) : (fre K es k).length ≤ k := Nat.le_trans (List.length_filter_le _ _) (kl_len K k)
theorem kah_rng {K : Nat → Nat} {N : Nat} {es : List E} {l ps : List Nat} {W : Nat → Int} {out : List Nat} (h : Kah K N es l ps W out) (hl : es.length ≤ 600) : ∀ t, 0 ≤ W t ∧ W t ≤ 600 := fun t => by
  have := h.w t
  have : wt K es l t ≤ es.length := List.countP_le_length
  omega
theorem kah_lens {K : Nat → Nat} {N : Nat} {es : List E} {l ps : List Nat} {W : Nat → Int} {out : List Nat} (h : Kah K N es l ps W out) : ps.length ≤ l.length ∧ l.length ≤ N ∧ out.length ≤ N := by
  have h1 : ps.length ≤ l.length := sub_len _ _ h.nd (fun t ht => ((h.fr t).1 ht).1)
  have h2 : l.length ≤ (kl K N).length := sub_len _ _ (lt_nodup h.srt) (fun t ht => h.sub t ht)
  have h3 := kl_len K N
  have h4 := ordf_len (ld := lk K es) (kl K N).length (kl K N)
  have h5 := congrArg List.length h.tot
  rw [List.length_append] at h5
  have h6 : (ord (lk K es) (kl K N)).length ≤ (kl K N).length := h4
  omega
set_option maxRecDepth 100000 in
set_option maxHeartbeats 16000000 in
theorem cord_yes (N : Nat) (v : Value) (es : List E) (w : World) (hv : SlE w v es) (hb : Rnt N es) :
    Calls Try.prog 12 #[.agg #[.int .i64 N, v]] w fun e w' => ∃ ov, e = .returned (.tuple #[ov, .int .i64 0]) ∧ Is w' w.heap.size ov (ints (ord (lk (kn (fwb (fun _ => true) es N)) es) (kl (kn (fwb (fun _ => true) es N)) N))) ∧ Below w.heap.size w w' := by
  obtain ⟨a0, c0, rfl⟩ := hv.val
  have HV : Hid _ := hv
  have HB : Hid _ := hb
  have HK : Hid _ := (lds_fwb hb.inn).kok hb.inn
  obtain ⟨K, hK⟩ : ∃ K, kn (fwb (fun _ => true) es N) = K := ⟨_, rfl⟩
  rw [hK] at HK ⊢
  have HKE : Hid _ := hK
  have hn64 := hb.n64
  have hlen := hb.len
  clear hv hb hK
  go_enter Try.func12, Try.ntmps12
  go_wp2_with fail
  have N0 : Hid ((w.alloc (.cells #[.int .i64 N, .slice a0 es.length c0] 24)).heap[w.heap.size]? = some (.cells #[.int .i64 N, .slice a0 es.length c0] 24 (0, 0))) := heap_alloc_new w _
  have P0 : Hid _ := box2_new w (N : Int) (.slice a0 es.length c0) 24
  have hz0 : (w.alloc (.cells #[.int .i64 N, .slice a0 es.length c0] 24)).heap.size = w.heap.size + 1 := by simp
  have B0 : Hid (Below w.heap.size w (w.alloc (.cells #[.int .i64 N, .slice a0 es.length c0] 24))) := balloc (Below.refl _ _) _
  generalize w.alloc (.cells #[.int .i64 N, .slice a0 es.length c0] 24) = W0 at *
  refine (cof_yes N _ es W0 (HV.out.below B0.out) HB.out).mono ?_
  rintro e w1 ⟨G, rfl, u1, g1, b1⟩
  rw [HKE.out] at u1
  have U1 : Hid _ := u1
  have N1 : Hid _ := (b1.block _ (by omega)).trans N0.out
  have P1 : Hid _ := P0.out.below b1
  have G1 : Hid (w.heap.size < G) := by unfold Hid; omega
  have B1 : Hid (Below w.heap.size w w1) := bthen B0.out b1
  clear u1 g1 b1 N0 P0 hz0 B0
  obtain ⟨p0, p1⟩ := P1.out
  go_wp2_with fail
  clear p0 p1
  refine (held_any N G K _ es w1 (HV.out.below B1.out) HB.out HK.out U1.out).mono ?_
  rintro e w2 ⟨Q, rfl, u2, q2, b2⟩
  have U2 : Hid _ := u2
  have K2 : Hid _ := U1.out.below b2
  have N2 : Hid _ := (b2.block _ (heap_below N1.out)).trans N1.out
  have Q2 : Hid (G < Q) := by have := U1.out.lt; unfold Hid; omega
  have B2 : Hid (Below w.heap.size w w2) := bthen B1.out b2
  clear u2 q2 b2 N1 P1 U1 B1
  go_wp2_with fail
  refine (Gi.new_any w2).mono ?_
  rintro e w3 ⟨rfl, hw3⟩
  have S3 : Hid (Sk w w.heap.size G Q w2.heap.size N (.slice a0 es.length c0) K (hd K es es.length) [] (.slice none 0 0) (.slice none 0 0) [] w3) := by
    have hb : Below w2.heap.size w2 w3 := by rw [hw3]; exact balloc (Below.refl _ _) _
    have hql := U2.out.lt
    exact ⟨Nat.le_refl _, G1.out, Q2.out, hql, (hb.block _ (heap_below N2.out)).trans N2.out, K2.out.below hb, U2.out.below hb, by rw [hw3]; exact hs_new w2, Is.nil _ _, fun k hk => by simp [Value.ownBlock] at hk, bthen B2.out hb⟩
  obtain ⟨H, hH⟩ : ∃ H, w2.heap.size = H := ⟨_, rfl⟩
  rw [hH] at S3 ⊢
  clear hw3 hH U2 K2 N2 B2
  go_wp2_with fail
  go_loopw [29] (fun z wr => ∃ (k : Nat) (qs : List Nat) (v : Value), z = .int .i64 k ∧ k ≤ N ∧ Sk w w.heap.size G Q H N (.slice a0 es.length c0) K (hd K es es.length) qs v (.slice none 0 0) [] wr ∧ qs.Perm (fre K es k)) (fun z _ => N - (intOf z).toNat)
  case atStart => exact ⟨0, [], _, rfl, Nat.zero_le _, S3.out, List.Perm.refl _⟩
  case round =>
    obtain ⟨k, qs, vv, rfl, hk, hs, hp⟩ := hrel
    clear S3
    have SR : Hid _ := hs
    have PR : Hid _ := hp
    have hql : qs.length ≤ 64 := by have := fre_len K es k; rw [hp.length_eq]; omega
    clear hs hp
    by_cases hlt : k < N
    · have hki : (k : Int) < (N : Int) := by omega
      obtain ⟨g1, -⟩ := SR.out.kn.cell k hlt
      obtain ⟨q1, -⟩ := SR.out.wa.cell k hlt
      by_cases h1 : k = K k
      · have t1 : ((k : Int) == ((K k : Nat) : Int)) = true := by rw [← h1]; simp
        by_cases h2 : hd K es es.length k = 0
        · have HF : Hid _ := fre_yes h1 h2
          rw [h2] at q1
          have H1 : Hid _ := h1
          have H2 : Hid _ := h2
          clear h1 h2
          go_wp2_with fail
          clear g1 q1
          refine (SR.out.push k (by omega)).mono ?_
          rintro e w5 ⟨rfl, v5, rs, s5, p5, _, _, _⟩
          have S5 : Hid _ := s5
          have P5 : Hid (rs.Perm (fre K es (k + 1))) := by rw [HF.out]; exact p5.trans (PR.out.append_right _)
          clear s5 p5
          go_wp2_with fail
          go_roundw
          case rel => exact ⟨k + 1, rs, v5, by go_num, by omega, S5.out, P5.out⟩
          case measure => simp [intOf]; omega
        · have HF : Hid _ := fre_no (es := es) (fun h => h2 h.2)
          obtain ⟨m, hm⟩ : ∃ m, hd K es es.length k = m := ⟨_, rfl⟩
          rw [hm] at q1 h2
          have t2 : (m == 0) = false := by simpa using h2
          have H1 : Hid _ := h1
          have H2 : Hid _ := h2
          clear h1 h2 hm
          go_wp2_with fail
          go_roundw
          case rel => exact ⟨k + 1, qs, vv, by go_num, by omega, SR.out, by rw [HF.out]; exact PR.out⟩
          case measure => simp [intOf]; omega
      · have HF : Hid _ := fre_no (es := es) (fun h => h1 h.1)
        have t1 : ((k : Int) == ((K k : Nat) : Int)) = false := by simp; omega
        have H1 : Hid _ := h1
        clear h1
        go_wp2_with fail
        go_roundw
        case rel => exact ⟨k + 1, qs, vv, by go_num, by omega, SR.out, by rw [HF.out]; exact PR.out⟩
        case measure => simp [intOf]; omega
    · obtain rfl : k = N := by omega
      have KA : Hid (Kah K k es (kl K k) qs (hd K es es.length) []) := kah_start HK.out PR.out
      clear PR
      go_wp2_with fail
      go_loopg [10] (kl K k).length (fun gk z wr => ∃ (l qs out : List Nat) (W : Nat → Int) (v : Value) (ao : Option Addr) (co : Nat), z = .slice ao (ints out).length co ∧ l.length ≤ gk ∧ Sk w w.heap.size G Q H k (.slice a0 es.length c0) K W qs v (.slice ao (ints out).length co) out wr ∧ Kah K k es l qs W out)
      case atStart => exact ⟨kl K k, qs, [], _, vv, none, 0, rfl, Nat.le_refl _, SR.out, KA.out⟩
      case round =>
        clear SR KA hql hlt hk
        obtain ⟨l, qs, out, W, vv, ao, co, rfl, hgk, hs, hka⟩ := hrel
        have SR : Hid _ := hs
        have KR : Hid _ := hka
        obtain ⟨l1, l2, l3⟩ := kah_lens hka
        have L3 : Hid _ := l3
        have hlo : (ints out).length ≤ 64 := by rw [ints_length]; omega
        clear hs hka
        by_cases h0 : qs.length = 0
        · obtain rfl : qs = [] := List.length_eq_zero_iff.1 h0
          go_wp2_with fail
          refine (hpop_no SR.out.hs).mono ?_
          rintro e w6 ⟨rfl, b6⟩
          have S6 : Hid _ := SR.out.kept b6
          clear b6
          have HE : Hid _ := KR.out.done
          go_wp2_with fail
          go_ret2
          exact ⟨_, rfl, by rw [← HE.out]; exact S6.out.od.mono (by have := S6.out.o1; have := S6.out.o2; have := S6.out.o3; have := S6.out.o4; omega), S6.out.below⟩
        · go_wp2_with fail
          refine (SR.out.pop (by omega) (by omega)).mono ?_
          rintro e w6 ⟨b, rs, v6, rfl, s6, pm, mn⟩
          have PM : Hid _ := pm
          have MN : Hid _ := mn
          have S6 : Hid _ := s6
          clear pm mn s6
          have hown := S6.out.od.own
          obtain ⟨i0, hi0, hy0, hy1, hy2⟩ := info3_parts
          have HNW : Hid _ := heap_alloc_new w6 (.cells #[.int .i64 ((b : Nat) : Int)] 3)
          have hH6 : H < w6.heap.size := S6.out.hs.lt
          go_upto_region 16 with fail
          obtain ⟨lo, hl⟩ : ∃ lo, lo = ints out := ⟨_, rfl⟩
          have HLO : Hid _ := hl
          rw [← hl] at hown hlo ⊢
          clear hl
          go_wp2_with (at_builtin; refine wpList_append_lies _ rfl _ _ _ rfl (H + 1) 3 i0 _ 1 8 Try.underlying25 hi0 hy0 hy1 hy2 rfl (by omega) (.slice ao lo.length co) lo.length _ rfl (hown.alloc _) ⟨w6.heap.size, 0, none⟩ 1 1 [.int .i64 ((b : Nat) : Int)] rfl rfl (World.news_of_block (cs := #[.int .i64 ((b : Nat) : Int)]) (t := 3) (fr := (0, 0)) HNW.out) (by simp [Value.oneCell']) (by omega) (by unfold maxLen; omega) (by omega) (by simp; omega) (w6.heap.size + 1) (by simp) ?_; intro gg cap' w7 hown7 hgrow hat hlt7; have S7 : Hid _ := Sk.app (n := lo.length) (b := b) S6.out (by rw [HLO.out]) (balloc (Below.refl _ _) _) (by rw [← HLO.out]; exact hown7) (by rw [← HLO.out]; exact hgrow) (by rw [← HLO.out]; exact hat.imp_right (fun h => by omega)); obtain ⟨p0, p1⟩ := S7.out.cells; clear hown7 hgrow hat hlt7)
          clear p0 p1 HNW hown
          rw [HLO.out]
          have HR : Hid _ := kah_rng KR.out hlen
          refine (S7.out.rel HV.out HB.out HK.out HR.out).mono ?_
          rintro e w8 ⟨f, rfl, s8, i8⟩
          have S8 : Hid _ := s8
          have FL : Hid ((rlf K es b W es.length).length ≤ 600) := by have := rlf_len K es b W es.length; unfold Hid; omega
          have FX : Hid (∀ x, f.ownBlock = some x → w7.heap.size ≤ x ∧ x < w8.heap.size) := ownBlock_lt i8.own
          have V8 : Hid (∀ x, f.ownBlock = some x → v6.ownBlock ≠ some x) := fun x hx e => by have := (FX.out x hx).1; have := (ownBlock_lt S7.out.hs.own x e).2; omega
          have F8 : Hid _ := i8
          have HFX : Hid (∀ x, f.ownBlock = some x → x ≠ H) := fun x hx e => by have := (FX.out x hx).1; have := S7.out.hs.lt; omega
          clear s8 i8 FX S7 S6
          obtain ⟨af, cf, rfl⟩ := owns_own F8.out.own
          have KS : Hid (∀ qs, qs.Perm (rs ++ rlf K es b W es.length) → Kah K k es (l.erase b) qs (rlw K es b W es.length) (out ++ [b])) := fun qs hq => KR.out.step HK.out PM.out MN.out hq
          have LE : Hid ((l.erase b).length + 1 = l.length) := erase_len (nxt_mem (KR.out.next (PM.out.mem_iff.2 List.mem_cons_self) MN.out))
          have RL : Hid (rs.length ≤ 64) := by have := PM.out.length_eq; simp at this; unfold Hid; omega
          obtain ⟨fr, hfr⟩ : ∃ fr, rlf K es b W es.length = fr := ⟨_, rfl⟩
          rw [hfr] at FL KS
          have HFR : Hid _ := hfr
          rw [ints_length] at V8 HFX F8 ⊢
          rw [hfr] at V8 HFX F8 ⊢
          clear hfr
          rw [HLO.out] at S8
          have hfl := FL.out
          go_wp2_with fail
          go_loopw [66] (fun z wr => ∃ (i : Nat) (qs : List Nat) (v : Value), z = .int .i64 i ∧ i ≤ fr.length ∧ Sk w w.heap.size G Q H k (.slice a0 es.length c0) K (rlw K es b W es.length) qs v (.slice (some ⟨gg, 0, none⟩) ((ints out).length + 1) cap') (out ++ [b]) wr ∧ qs.Perm (rs ++ fr.take i) ∧ Is wr w7.heap.size (.slice af fr.length cf) (ints fr) ∧ (∀ x, (Value.slice af fr.length cf).ownBlock = some x → v.ownBlock ≠ some x)) (fun z _ => fr.length - (intOf z).toNat)
          case atStart => exact ⟨0, rs, v6, rfl, Nat.zero_le _, S8.out, by rw [List.take_zero, List.append_nil], F8.out, V8.out⟩
          case round =>
            obtain ⟨i, qs, v, rfl, hi, hs, hp, hf, hv⟩ := hrel
            clear S8 F8 V8
            have SI : Hid _ := hs
            have PI : Hid _ := hp
            have FI : Hid _ := hf
            have VI : Hid _ := hv
            have hql : qs.length ≤ 700 := by rw [hp.length_eq, List.length_append, List.length_take]; have := RL.out; omega
            clear hs hp hf hv
            by_cases hlt : i < fr.length
            · have hii : (i : Int) < (fr.length : Int) := by omega
              obtain ⟨x, hx⟩ : ∃ x, fr[i] = x := ⟨_, rfl⟩
              obtain ⟨bf, off, cap2, hveq, hc, hle⟩ := FI.out.sl.some2 (by rw [ints_length]; omega)
              rw [ints_length] at hveq hc
              simp only [Value.slice.injEq] at hveq
              obtain ⟨rfl, -, rfl⟩ := hveq
              have e0 := hc i hlt
              rw [ints_at hlt, hx] at e0
              have HX : Hid (fr.take (i + 1) = fr.take i ++ [x]) := by unfold Hid; rw [List.take_add_one, List.getElem?_eq_getElem hlt, hx]; rfl
              clear hc hle hx
              go_wp2_with fail
              refine (SI.out.push x (by omega)).mono ?_
              rintro e w9 ⟨rfl, v9, rs9, s9, p9, q9, q10, q11⟩
              have S9 : Hid _ := s9
              have P9 : Hid (rs9.Perm (rs ++ fr.take (i + 1))) := by rw [HX.out, ← List.append_assoc]; exact p9.trans (PI.out.append_right _)
              have hfo := ownBlock_lt FI.out.own
              have F9 : Hid (Is w9 w7.heap.size (.slice (some ⟨bf, off, none⟩) fr.length cf) (ints fr)) := ⟨owns_frame FI.out.own (fun y hy => q9 y (hfo y hy).2 (HFX.out y hy) (VI.out y hy))⟩
              have V9 : Hid (∀ y, (Value.slice (some ⟨bf, off, none⟩) fr.length cf).ownBlock = some y → v9.ownBlock ≠ some y) := fun y hy e => by
                rcases q10 y e with h1 | h1
                · exact VI.out y hy h1
                · have := (hfo y hy).2; omega
              clear s9 p9 q9 q10 hfo
              go_wp2_with fail
              go_roundw
              case rel => exact ⟨i + 1, rs9, v9, by go_num, by omega, S9.out, P9.out, F9.out, V9.out⟩
              case measure => simp [intOf]; omega
            · obtain rfl : i = fr.length := by omega
              rw [List.take_length] at PI
              have KA : Hid _ := KS.out qs PI.out
              have hml := LE.out
              go_wp2_with fail
              go_roundg (l.erase b).length
              case measure => omega
              case rel => exact ⟨l.erase b, qs, out ++ [b], _, v, some ⟨gg, 0, none⟩, cap', by simp [ints_length], Nat.le_refl _, by rw [ints_append, List.length_append]; exact SI.out, KA.out⟩
end Go.Proofs.Ytkklgnfimkojlaa
