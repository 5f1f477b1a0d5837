/-
  Contracts: the document's Bad, AnyBad, Lift.
-/
import Derived.Test.YtlmichnnpameeaaDN
import Derived.Test.YtlmichnnpameeaaIF
import Derived.Test.YtlmichnnpameeaaZm
import Derived.Deep.DeepCutAuto
namespace Go.Proofs.Ytlmichnnpameeaa
open Go.RowKit
open Nm Wm Dm Bm
attribute [local go_sem ↓] Go.wp_at_zero Go.wp_at_succ

theorem lst_eq {N : Nat} {a b : Nat → Int} (h : lst N a = lst N b) : ∀ v, v < N → a v = b v := by
  intro v hv
  rw [← lst_at (d := a) hv, h, lst_at hv]
/-- One round more turns nothing. -/
def Fx (N : Nat) (es : List E) (d0 : Nat → Int) : Prop := ∀ v, v < N → spr es d0 N v = spr es d0 (N - 1) v
theorem fx_iff {N : Nat} {es : List E} {d0 : Nat → Int} (hb : Rnt N es) (h0 : ∀ v, v < N → d0 v ≤ far) : Fx N es d0 ↔ (rns es d0 N).s = -1 := by
  constructor
  · intro h
    obtain ⟨d, hd⟩ := (ls_iff hb.inn hb.n1 h0).2 h
    exact rns_no hb h0 hd
  · intro h
    exact (ls_iff hb.inn hb.n1 h0).1 ⟨_, rns_yes hb h0 h⟩
theorem spr_rng {N : Nat} {es : List E} (hb : Rnt N es) {d0 : Nat → Int} (h0 : ∀ v, v < N → 0 ≤ d0 v ∧ d0 v ≤ far) {m : Nat} (hm : m ≤ 64) : ∀ v, v < N → -1000000 ≤ spr es d0 m v ∧ spr es d0 m v ≤ far := by
  intro v hv
  have := spr_low hb (d := d0) (B := 0) (fun v hv => by have := h0 v hv; omega) m v hv
  omega
theorem rw_sl {w : World} {b cap N : Nat} {d : Nat → Int} (h : Rw w b cap (lst N d)) : SlI w (.slice (some ⟨b, 0, none⟩) N cap) (lst N d) := by
  have := (h.is (base := 0) (by omega)).sl
  rw [lst_length] at this
  exact this
set_option maxRecDepth 100000 in
set_option maxHeartbeats 16000000 in
theorem ranybad_no (N : Nat) (v : Value) (es : List E) (w : World) (hv : SlE w v es) (hp : Rnt N es) (hf : Fx N es (fun _ => 0)) :
    Calls Try.prog 33 #[.agg #[.int .i64 N, v]] w fun e w' => e = .returned (.bool false) ∧ Below w.heap.size w w' := by
  obtain ⟨a0, c0, rfl⟩ := hv.val
  have HV : Hid _ := hv
  have HP : Hid _ := hp
  have hn1 := hp.n1
  have hn64 := hp.n64
  have hmk := made_ur N hn64
  obtain ⟨m, hm⟩ : ∃ m : Nat, m = N - 1 := ⟨_, rfl⟩
  have hmi : (N : Int) - 1 = (m : Int) := by omega
  have hmw : IntKind.i64.wrap (m : Int) = (m : Int) := by rw [IntKind.wrap_i64]; omega
  have hm64 : m ≤ 64 := by omega
  have HM : Hid _ := hm
  clear hm
  have HF : Hid _ := hf
  have HRG : Hid _ := spr_rng hp (d0 := fun _ => 0) (fun v _ => by decide) (show N - 1 ≤ 64 by omega)
  clear hv hp hf
  go_enter Try.func33, Try.ntmps33
  go_wp2_with fail
  have P0 : Hid _ := box2_new w (N : Int) (.slice a0 es.length c0) 24
  have B0 : Hid (Below w.heap.size w (w.alloc (.cells #[.int .i64 N, .slice a0 es.length c0] 24))) := balloc (Below.refl _ _) _
  generalize w.alloc (.cells #[.int .i64 N, .slice a0 es.length c0] 24) = W0 at *
  obtain ⟨p0, p1⟩ := P0.out
  have U1 : Hid (Ur (W0.alloc (.cells (Array.ofFn (n := N) fun _ => .int .i64 0) 3)).drew W0.heap.size N (fun _ => 0)) := ⟨heap_alloc_new _ _⟩
  have B1 : Hid (Below W0.heap.size W0 (W0.alloc (.cells (Array.ofFn (n := N) fun _ => .int .i64 0) 3)).drew) := Below.drew (balloc (Below.refl _ _) _)
  have k0 := kept_alloc (x := .cells (Array.ofFn (n := N) fun _ => .int .i64 0) 3) p0
  have k1 := kept_alloc (x := .cells (Array.ofFn (n := N) fun _ => .int .i64 0) 3) p1
  go_cut [3] (fun z wc => ∃ g2 cp2, z = .slice (some ⟨g2, 0, none⟩) N cp2 ∧ Rw wc g2 cp2 (lst N (spr es (fun _ => 0) (N - 1))) ∧ Below W0.heap.size W0 wc)
  case first =>
    go_region_law (first
      | (go_simp; go_at_call 52; refine (spread_any N m _ N _ es (fun _ => 0) _ ((HV.out.below B0.out).below B1.out) HP.out hm64 (U1.out.rw hn64) (fun _ _ => by decide)).mono ?_; rintro e w2 ⟨g2, cp2, rfl, r2, b2⟩; have R2 : Hid _ := r2; have B2 : Hid (Below W0.heap.size W0 w2) := (by exact bthen B1.out b2); clear r2 b2; (try dsimp only))
      | fail)
    all_goals
      go_wp2_with fail
      go_meet
      exact ⟨g2, cp2, rfl, by rw [← HM.out]; exact R2.out, B2.out⟩
  case rest =>
    obtain ⟨g2, cp2, rfl, r2, b2⟩ := hcut
    clear p0 p1 k0 k1 U1 B1 hmk
    have R2 : Hid _ := r2
    have B2 : Hid (Below w.heap.size w wc) := bthen B0.out b2
    have P2 : Hid _ := P0.out.below b2
    obtain ⟨p0, p1⟩ := P2.out
    clear r2 b2 P0 B0
    go_wp2_with fail
    clear p0 p1
    refine (spread_any N 1 g2 cp2 _ es (spr es (fun _ => 0) (N - 1)) wc (HV.out.below B2.out) HP.out (by omega) R2.out HRG.out).mono ?_
    rintro e w3 ⟨g3, cp3, rfl, r3, b3⟩
    have B3 : Hid (Below w.heap.size w w3) := bthen B2.out b3
    have S2 : Hid _ := rw_sl (R2.out.below b3)
    have S3 : Hid (SlI w3 (.slice (some ⟨g3, 0, none⟩) N cp3) (lst N (spr es (fun _ => 0) N))) := by
      have := rw_sl r3
      have e : spr es (spr es (fun _ => 0) (N - 1)) 1 = spr es (fun _ => 0) (N - 1 + 1) := rfl
      rw [e, show N - 1 + 1 = N by omega] at this
      exact this
    clear r3 b3
    go_wp2_with fail
    refine (iequal_yes _ _ (lst N (spr es (fun _ => 0) (N - 1))) w3 S2.out (by have := S3.out; rw [lst_congr HF.out] at this; exact this) (by rw [lst_length]; omega)).mono ?_
    rintro e w4 ⟨rfl, b4⟩
    go_wp2_with fail
    go_ret
    exact ⟨rfl, bthen B3.out b4⟩
set_option maxRecDepth 100000 in
set_option maxHeartbeats 16000000 in
theorem ranybad_yes (N : Nat) (v : Value) (es : List E) (w : World) (hv : SlE w v es) (hp : Rnt N es) (hf : ¬ Fx N es (fun _ => 0)) :
    Calls Try.prog 33 #[.agg #[.int .i64 N, v]] w fun e w' => e = .returned (.bool true) ∧ Below w.heap.size w w' := by
  obtain ⟨a0, c0, rfl⟩ := hv.val
  have HV : Hid _ := hv
  have HP : Hid _ := hp
  have hn1 := hp.n1
  have hn64 := hp.n64
  have hmk := made_ur N hn64
  obtain ⟨m, hm⟩ : ∃ m : Nat, m = N - 1 := ⟨_, rfl⟩
  have hmi : (N : Int) - 1 = (m : Int) := by omega
  have hmw : IntKind.i64.wrap (m : Int) = (m : Int) := by rw [IntKind.wrap_i64]; omega
  have hm64 : m ≤ 64 := by omega
  have HM : Hid _ := hm
  clear hm
  have HF : Hid _ := hf
  have HRG : Hid _ := spr_rng hp (d0 := fun _ => 0) (fun v _ => by decide) (show N - 1 ≤ 64 by omega)
  clear hv hp hf
  go_enter Try.func33, Try.ntmps33
  go_wp2_with fail
  have P0 : Hid _ := box2_new w (N : Int) (.slice a0 es.length c0) 24
  have B0 : Hid (Below w.heap.size w (w.alloc (.cells #[.int .i64 N, .slice a0 es.length c0] 24))) := balloc (Below.refl _ _) _
  generalize w.alloc (.cells #[.int .i64 N, .slice a0 es.length c0] 24) = W0 at *
  obtain ⟨p0, p1⟩ := P0.out
  have U1 : Hid (Ur (W0.alloc (.cells (Array.ofFn (n := N) fun _ => .int .i64 0) 3)).drew W0.heap.size N (fun _ => 0)) := ⟨heap_alloc_new _ _⟩
  have B1 : Hid (Below W0.heap.size W0 (W0.alloc (.cells (Array.ofFn (n := N) fun _ => .int .i64 0) 3)).drew) := Below.drew (balloc (Below.refl _ _) _)
  have k0 := kept_alloc (x := .cells (Array.ofFn (n := N) fun _ => .int .i64 0) 3) p0
  have k1 := kept_alloc (x := .cells (Array.ofFn (n := N) fun _ => .int .i64 0) 3) p1
  go_cut [3] (fun z wc => ∃ g2 cp2, z = .slice (some ⟨g2, 0, none⟩) N cp2 ∧ Rw wc g2 cp2 (lst N (spr es (fun _ => 0) (N - 1))) ∧ Below W0.heap.size W0 wc)
  case first =>
    go_region_law (first
      | (go_simp; go_at_call 52; refine (spread_any N m _ N _ es (fun _ => 0) _ ((HV.out.below B0.out).below B1.out) HP.out hm64 (U1.out.rw hn64) (fun _ _ => by decide)).mono ?_; rintro e w2 ⟨g2, cp2, rfl, r2, b2⟩; have R2 : Hid _ := r2; have B2 : Hid (Below W0.heap.size W0 w2) := (by exact bthen B1.out b2); clear r2 b2; (try dsimp only))
      | fail)
    all_goals
      go_wp2_with fail
      go_meet
      exact ⟨g2, cp2, rfl, by rw [← HM.out]; exact R2.out, B2.out⟩
  case rest =>
    obtain ⟨g2, cp2, rfl, r2, b2⟩ := hcut
    clear p0 p1 k0 k1 U1 B1 hmk
    have R2 : Hid _ := r2
    have B2 : Hid (Below w.heap.size w wc) := bthen B0.out b2
    have P2 : Hid _ := P0.out.below b2
    obtain ⟨p0, p1⟩ := P2.out
    clear r2 b2 P0 B0
    go_wp2_with fail
    clear p0 p1
    refine (spread_any N 1 g2 cp2 _ es (spr es (fun _ => 0) (N - 1)) wc (HV.out.below B2.out) HP.out (by omega) R2.out HRG.out).mono ?_
    rintro e w3 ⟨g3, cp3, rfl, r3, b3⟩
    have B3 : Hid (Below w.heap.size w w3) := bthen B2.out b3
    have S2 : Hid _ := rw_sl (R2.out.below b3)
    have S3 : Hid (SlI w3 (.slice (some ⟨g3, 0, none⟩) N cp3) (lst N (spr es (fun _ => 0) N))) := by
      have := rw_sl r3
      have e : spr es (spr es (fun _ => 0) (N - 1)) 1 = spr es (fun _ => 0) (N - 1 + 1) := rfl
      rw [e, show N - 1 + 1 = N by omega] at this
      exact this
    clear r3 b3
    go_wp2_with fail
    refine (iequal_no _ _ (lst N (spr es (fun _ => 0) (N - 1))) (lst N (spr es (fun _ => 0) N)) N w3 S2.out S3.out (lst_length _ _) (lst_length _ _) (by omega) (fun e => HF.out (fun v hv => (lst_eq e v hv).symm))).mono ?_
    rintro e w4 ⟨rfl, b4⟩
    go_wp2_with fail
    go_ret
    exact ⟨rfl, bthen B3.out b4⟩
end Go.Proofs.Ytlmichnnpameeaa
