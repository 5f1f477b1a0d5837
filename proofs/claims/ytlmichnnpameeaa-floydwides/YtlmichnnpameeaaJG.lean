/-
  Contract: the document's All.
-/
import Derived.Test.YtlmichnnpameeaaBD
import Derived.Test.YtlmichnnpameeaaBE
import Derived.Test.YtlmichnnpameeaaNB
import Derived.Test.YtlmichnnpameeaaTB
namespace Go.Proofs.Ytlmichnnpameeaa
open Go.RowKit
open Nm Wm Dm Bm

theorem own_val {w : World} {base k : Nat} {v : Value} {us : List Value} (h : w.ownsRow base 41 1 v k us) : ∃ a c, v = .slice a k c := by
  rcases h.2 with ⟨rfl, rfl⟩ | ⟨g, cap, cur, rfl, _⟩
  · exact ⟨_, _, rfl⟩
  · exact ⟨_, _, rfl⟩
theorem ts_ne {w : World} {base k b cap : Nat} {v : Value} {us : List Value} {l : List Int} (h : w.ownsRow base 41 1 v k us) (hr : Rw w b cap l) : v.ownBlock ≠ some b := by
  intro e
  rcases h.2 with ⟨rfl, rfl⟩ | ⟨g, cp, cur, rfl, _, h1, _⟩
  · cases e
  · simp only [Value.ownBlock, Option.some.injEq] at e
    subst e
    obtain ⟨c2, h2, _⟩ := hr.at_
    rw [h2] at h1
    simp at h1

set_option maxRecDepth 100000 in
set_option maxHeartbeats 8000000 in
theorem rall_net (n : Int) (v : Value) (es : List E) (w : World) (hv : SlE w v es) (hlen : es.length ≤ 9223372036854775807) (hc : nck n es ≠ 0) :
    Calls Try.prog 11 #[.agg #[.int .i64 n, v]] w fun e w' => e = .returned (.tuple #[.slice none 0 0, .int .i64 (nck n es)]) ∧ Below w.heap.size w w' := by
  obtain ⟨a0, c0, rfl⟩ := hv.val
  have HV : Hid _ := hv
  have hz : (nck n es != 0) = true := by simp [hc]
  clear hv hc
  go_enter Try.func11, Try.ntmps11
  go_wp2_with fail
  have P0 : Hid _ := box2_new w (n : Int) (.slice a0 es.length c0) 24
  have B0 : Hid (Below w.heap.size w (w.alloc (.cells #[.int .i64 n, .slice a0 es.length c0] 24))) := balloc (Below.refl _ _) _
  generalize w.alloc (.cells #[.int .i64 n, .slice a0 es.length c0] 24) = W0 at *
  refine (rnet_any n _ es W0 (HV.out.below B0.out) hlen).mono ?_
  rintro e w1 ⟨rfl, b1⟩
  have P1 : Hid _ := P0.out.below b1
  have B1 : Hid (Below w.heap.size w w1) := bthen B0.out b1
  clear b1 P0 B0
  clear P1
  go_wp2_with fail
  go_ret2
  exact ⟨rfl, B1.out⟩
set_option maxRecDepth 100000 in
set_option maxHeartbeats 8000000 in
theorem rall_no (N : Nat) (v : Value) (es : List E) (w : World) (hv : SlE w v es) (hb : Rnt N es) (hs : (rns es (fun _ => 0) N).s ≠ -1) :
    Calls Try.prog 11 #[.agg #[.int .i64 N, v]] w fun e w' => e = .returned (.tuple #[.slice none 0 0, .int .i64 6]) ∧ Below w.heap.size w w' := by
  obtain ⟨a0, c0, rfl⟩ := hv.val
  have HV : Hid _ := hv
  have HB : Hid _ := hb
  have HC : Hid _ := hb.nck
  have hlen : es.length ≤ 9223372036854775807 := by have := hb.len; omega
  have HF : Hid (¬ Fx N es (fun _ => 0)) := fun h => hs ((fx_iff hb (fun v hv => (zero_zero N v hv).2)).1 h)
  clear hv hb hs
  go_enter Try.func11, Try.ntmps11
  go_wp2_with fail
  have P0 : Hid _ := box2_new w (N : Int) (.slice a0 es.length c0) 24
  have B0 : Hid (Below w.heap.size w (w.alloc (.cells #[.int .i64 N, .slice a0 es.length c0] 24))) := balloc (Below.refl _ _) _
  generalize w.alloc (.cells #[.int .i64 N, .slice a0 es.length c0] 24) = W0 at *
  refine (rnet_any N _ es W0 (HV.out.below B0.out) hlen).mono ?_
  rintro e w1 ⟨rfl, b1⟩
  have P1 : Hid _ := P0.out.below b1
  have B1 : Hid (Below w.heap.size w w1) := bthen B0.out b1
  clear b1 P0 B0
  rw [HC.out]
  obtain ⟨p0, p1⟩ := P1.out
  go_wp2_with fail
  clear p0 p1
  refine (ranybad_yes N _ es w1 (HV.out.below B1.out) HB.out HF.out).mono ?_
  rintro e w2 ⟨rfl, b2⟩
  have B2 : Hid (Below w.heap.size w w2) := bthen B1.out b2
  clear b2
  go_wp2_with fail
  go_ret2
  exact ⟨rfl, B2.out⟩
set_option maxRecDepth 100000 in
set_option maxHeartbeats 8000000 in
theorem rall_yes (N : Nat) (v : Value) (es : List E) (w : World) (hv : SlE w v es) (hb : Rnt N es) (hs : (rns es (fun _ => 0) N).s = -1) :
    Calls Try.prog 11 #[.agg #[.int .i64 N, v]] w fun e w' => ∃ a c, e = .returned (.tuple #[.slice a N c, .int .i64 0]) ∧ SlT w' (.slice a N c) (tbl N (fun s => spr es (Dm.start s) (N - 1))) ∧ Below w.heap.size w w' := by
  obtain ⟨a0, c0, rfl⟩ := hv.val
  have HV : Hid _ := hv
  have HB : Hid _ := hb
  have HC : Hid _ := hb.nck
  have hn64 := hb.n64
  have hlen : es.length ≤ 9223372036854775807 := by have := hb.len; omega
  have HF : Hid (Fx N es (fun _ => 0)) := (fx_iff hb (fun v hv => (zero_zero N v hv).2)).2 hs
  clear hv hb hs
  go_enter Try.func11, Try.ntmps11
  go_wp2_with fail
  have P0 : Hid _ := box2_new w (N : Int) (.slice a0 es.length c0) 24
  have B0 : Hid (Below w.heap.size w (w.alloc (.cells #[.int .i64 N, .slice a0 es.length c0] 24))) := balloc (Below.refl _ _) _
  generalize w.alloc (.cells #[.int .i64 N, .slice a0 es.length c0] 24) = W0 at *
  refine (rnet_any N _ es W0 (HV.out.below B0.out) hlen).mono ?_
  rintro e w1 ⟨rfl, b1⟩
  have P1 : Hid _ := P0.out.below b1
  have B1 : Hid (Below w.heap.size w w1) := bthen B0.out b1
  clear b1 P0 B0
  rw [HC.out]
  obtain ⟨p0, p1⟩ := P1.out
  go_wp2_with fail
  clear p0 p1
  refine (ranybad_no N _ es w1 (HV.out.below B1.out) HB.out HF.out).mono ?_
  rintro e w2 ⟨rfl, b2⟩
  have P2 : Hid _ := P1.out.below b2
  have B2 : Hid (Below w.heap.size w w2) := bthen B1.out b2
  obtain ⟨p0, p1⟩ := P2.out
  clear b2 P1 B1
  go_wp2_with fail
  clear p0 p1
  go_loopw [16, 5] (fun z o wr => ∃ (k : Nat) (us : List Value), z = .int .i64 k ∧ k ≤ N ∧ Ts wr w2.heap.size o N k (fun s => spr es (Dm.start s) (N - 1)) us ∧ Below w2.heap.size w2 wr) (fun z _ _ => N - (intOf z).toNat)
  case atStart => exact ⟨0, [], rfl, Nat.zero_le _, ⟨World.ownsRow_nil _ _ _ _, fun i hi => absurd hi (by omega)⟩, Below.refl _ _⟩
  case round =>
    obtain ⟨k, us, rfl, hk, hts, hbr⟩ := hrel
    have TS : Hid _ := hts
    have BR : Hid (Below w2.heap.size w2 wr) := hbr
    clear hts hbr
    by_cases hlt : k < N
    · have hki : (k : Int) < (N : Int) := by omega
      obtain ⟨p0, p1⟩ := P2.out.below BR.out
      obtain ⟨ao, co, rfl⟩ := own_val TS.out.own
      go_wp2_with fail
      refine (rdist_any N k _ es wr ((HV.out.below B2.out).below BR.out) HB.out hlt).mono ?_
      rintro e w4 ⟨b, cap, rfl, r4, b4⟩
      have R4 : Hid (Rw w4 b cap (lst N (spr es (Dm.start k) (N - 1)))) := r4
      have T4 : Hid _ := TS.out.below b4
      have B4 : Hid (Below w2.heap.size w2 w4) := bthen BR.out b4
      have NE : Hid _ := ts_ne T4.out.own r4
      clear b4 r4 p0 p1
      obtain ⟨i0, hi0, hz0, hz1, hz2⟩ := info25_parts
      have hown := T4.out.own
      have hsz := B4.out.size
      go_wp2_with (at_builtin; refine wpList_append_lies _ rfl _ _ _ rfl w2.heap.size 41 i0 _ 1 24 Try.underlying25 hi0 hz0 hz1 hz2 rfl (by omega) (.slice ao k co) k us rfl (hown.alloc _) ⟨w4.heap.size, 0, none⟩ 1 1 [.slice (some ⟨b, 0, none⟩) N cap] rfl rfl (World.news_of_block (cs := #[.slice (some ⟨b, 0, none⟩) N cap]) (t := 41) (fr := (0, 0)) (heap_alloc_new _ _)) (by simp [Value.oneCell']) (by omega) (by unfold maxLen; omega) (by omega) (by simp; omega) (w4.heap.size + 1) (by simp) ?_; intro gg cap' w5 hown5 hgrow hat hlt5; have T5 : Hid _ := (Ts.next T4.out (balloc (Below.refl _ _) _) R4.out NE.out hown5 hgrow (by simp) hat); have B5 : Hid (Below w2.heap.size w2 w5) := (by exact (balloc B4.out _).grown hgrow (by simp; omega) (fun x hx => (ownBlock_lt hown x hx).1)); clear hown5 hgrow hat hlt5)
      go_roundw
      case rel => exact ⟨k + 1, _, by go_num, by omega, T5.out, B5.out⟩
      case measure => simp [intOf]; omega
    · have hke : k = N := by omega
      subst hke
      obtain ⟨ao, co, rfl⟩ := own_val TS.out.own
      go_wp2_with fail
      go_ret2
      exact ⟨ao, co, rfl, TS.out.slt, bthen B2.out BR.out⟩
end Go.Proofs.Ytlmichnnpameeaa
