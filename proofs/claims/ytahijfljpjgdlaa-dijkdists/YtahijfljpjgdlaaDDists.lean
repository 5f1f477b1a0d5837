/-
  The law felllaw.DijkDists, walked.
-/
import Derived.Test.YtahijfljpjgdlaaDL
import Derived.Test.YtahijfljpjgdlaaYG
import Derived.Test.YtahijfljpjgdlaaIE
import Derived.Deep.DeepCutAuto
import Derived.Deep.RegionWith
namespace Go.Proofs.Ytahijfljpjgdlaa
open Go.RowKit
open Nm Wm Dm

theorem two_sl {w : World} {X : Nat} {a b : Int} (c0 : w.cell? ⟨X, 0, none⟩ = some (.int .i64 a)) (c1 : w.cell? ⟨X, 1, none⟩ = some (.int .i64 b)) : SlI w (.slice (some ⟨X, 0, none⟩) 2 2) [a, b] := by
  refine .row X 0 2 rfl (fun i hi => ?_) (Nat.le_refl _)
  rw [Nat.zero_add]
  rcases (show i = 0 ∨ i = 1 by simp at hi; omega) with rfl | rfl
  · exact c0
  · exact c1
theorem look2 (n a b : Int) (X : Nat) (v : Value) (es : List E) (w : World) (k : Int) (hk : lk n es [a, b] = k) (hlen : es.length ≤ 9223372036854775807) (hv : SlE w v es) (c : w.cell? ⟨X, 0, none⟩ = some (.int .i64 a) ∧ w.cell? ⟨X, 1, none⟩ = some (.int .i64 b)) :
    Calls Try.prog 10 #[.agg #[.int .i64 n, v], .slice (some ⟨X, 0, none⟩) 2 2] w fun e w' => e = .returned (.int .i64 k) ∧ Below w.heap.size w w' := by
  have := look_any n v _ es [a, b] w hv (two_sl c.1 c.2) hlen (by simp); rw [hk] at this; exact this
theorem rlook2 (n a b : Int) (X : Nat) (v : Value) (es : List E) (w : World) (k : Int) (hk : lk n es [a, b] = k) (hlen : es.length ≤ 9223372036854775807) (hv : SlE w v es) (c : w.cell? ⟨X, 0, none⟩ = some (.int .i64 a) ∧ w.cell? ⟨X, 1, none⟩ = some (.int .i64 b)) :
    Calls Try.prog 11 #[.agg #[.int .i64 n, v], .slice (some ⟨X, 0, none⟩) 2 2] w fun e w' => e = .returned (.int .i64 k) ∧ Below w.heap.size w w' := by
  have := rlook_any n v _ es [a, b] w hv (two_sl c.1 c.2) hlen (by simp); rw [hk] at this; exact this
theorem look0 (n : Int) (v : Value) (es : List E) (w : World) (k : Int) (hk : lk n es [] = k) (hlen : es.length ≤ 9223372036854775807) (hv : SlE w v es) :
    Calls Try.prog 10 #[.agg #[.int .i64 n, v], .slice none 0 0] w fun e w' => e = .returned (.int .i64 k) ∧ Below w.heap.size w w' := by
  have := look_any n v _ es [] w hv (.no none 0 rfl rfl) hlen (by simp); rw [hk] at this; exact this
theorem rlook0 (n : Int) (v : Value) (es : List E) (w : World) (k : Int) (hk : lk n es [] = k) (hlen : es.length ≤ 9223372036854775807) (hv : SlE w v es) :
    Calls Try.prog 11 #[.agg #[.int .i64 n, v], .slice none 0 0] w fun e w' => e = .returned (.int .i64 k) ∧ Below w.heap.size w w' := by
  have := rlook_any n v _ es [] w hv (.no none 0 rfl rfl) hlen (by simp); rw [hk] at this; exact this
theorem rlook1 (n a k : Int) (v : Value) (es : List E) (X : Nat) (w : World) (hk : lk n es [a] = k) (hlen : es.length ≤ 9223372036854775807) (hv : SlE w v es) (hu : SlI w (.slice (some ⟨X, 0, none⟩) 1 1) [a]) :
    Calls Try.prog 11 #[.agg #[.int .i64 n, v], .slice (some ⟨X, 0, none⟩) 1 1] w fun e w' => e = .returned (.int .i64 k) ∧ Below w.heap.size w w' := by
  have := rlook_any n v _ es [a] w hv hu hlen (by simp); rw [hk] at this; exact this
namespace DDists
attribute [local go_sem ↓] Go.wp_at_zero Go.wp_at_succ

set_option maxRecDepth 100000 in
set_option maxHeartbeats 32000000 in
theorem walk_bad (n s o : Int) (v : Value) (es : List E) (w : World) (hv : SlE w v es) (hlen : es.length ≤ 9223372036854775807) (hc : lk n es [s] ≠ 0) :
    Calls Try.prog 3 #[.agg #[.int .i64 n, v], .int .i64 s, .int .i64 o] w fun e w' => e = .returned (.bool true) ∧ Below w.heap.size w w' := by
  obtain ⟨a0, c0, rfl⟩ := hv.val
  have HV : Hid _ := hv
  obtain ⟨k2, hk2⟩ : ∃ k, lk n es [s, o] = k := ⟨_, rfl⟩
  obtain ⟨k0, hk0⟩ : ∃ k, lk n es [] = k := ⟨_, rfl⟩
  have K2 : Hid _ := hk2
  have K0 : Hid _ := hk0
  have HC : Hid _ := hc
  have hz : (lk n es [s] != 0) = true := by simp [hc]
  have e2 : (k2 != k2) = false := by simp
  have e0 : (k0 != k0) = false := by simp
  clear hv hk2 hk0 hc
  go_enter Try.func3, Try.ntmps3
  go_wp2_with fail
  have P0 : Hid _ := box2_new w n (.slice a0 es.length c0) 24
  have B0 : Hid (Below w.heap.size w (w.alloc (.cells #[.int .i64 n, .slice a0 es.length c0] 24))) := balloc (Below.refl _ _) _
  generalize w.alloc (.cells #[.int .i64 n, .slice a0 es.length c0] 24) = W at *
  have VW : Hid _ := HV.out.below B0.out
  have A0 : Hid ((W.alloc (.cells #[.int .i64 s, .int .i64 o] 3)).drew.cell? ⟨W.heap.size, 0, none⟩ = some (.int .i64 s) ∧ (W.alloc (.cells #[.int .i64 s, .int .i64 o] 3)).drew.cell? ⟨W.heap.size, 1, none⟩ = some (.int .i64 o)) := ⟨cell_new W #[.int .i64 s, .int .i64 o] 3 0 _ rfl, cell_new W #[.int .i64 s, .int .i64 o] 3 1 _ rfl⟩
  have A1 : Hid (((W.alloc (.cells #[.int .i64 s, .int .i64 o] 3)).alloc (.cells #[.int .i64 s, .int .i64 o] 3)).drew.cell? ⟨W.heap.size, 0, none⟩ = some (.int .i64 s) ∧ ((W.alloc (.cells #[.int .i64 s, .int .i64 o] 3)).alloc (.cells #[.int .i64 s, .int .i64 o] 3)).drew.cell? ⟨W.heap.size, 1, none⟩ = some (.int .i64 o)) := ⟨kept_alloc (cell_new W #[.int .i64 s, .int .i64 o] 3 0 _ rfl), kept_alloc (cell_new W #[.int .i64 s, .int .i64 o] 3 1 _ rfl)⟩
  have A2 : Hid (((W.alloc (.cells #[.int .i64 s, .int .i64 o] 3)).alloc (.cells #[.int .i64 s, .int .i64 o] 3)).drew.cell? ⟨W.heap.size + 1, 0, none⟩ = some (.int .i64 s) ∧ ((W.alloc (.cells #[.int .i64 s, .int .i64 o] 3)).alloc (.cells #[.int .i64 s, .int .i64 o] 3)).drew.cell? ⟨W.heap.size + 1, 1, none⟩ = some (.int .i64 o)) := by
    have h1 := cell_new (W.alloc (.cells #[.int .i64 s, .int .i64 o] 3)) #[.int .i64 s, .int .i64 o] 3 0 _ rfl
    have h2 := cell_new (W.alloc (.cells #[.int .i64 s, .int .i64 o] 3)) #[.int .i64 s, .int .i64 o] 3 1 _ rfl
    have e : (W.alloc (.cells #[.int .i64 s, .int .i64 o] 3)).heap.size = W.heap.size + 1 := by simp
    rw [e] at h1 h2
    exact ⟨h1, h2⟩
  have F1 : Hid (Below W.heap.size W (W.alloc (.cells #[.int .i64 s, .int .i64 o] 3)).drew) := Below.drew (balloc (Below.refl _ _) _)
  have F2 : Hid (Below W.heap.size W ((W.alloc (.cells #[.int .i64 s, .int .i64 o] 3)).alloc (.cells #[.int .i64 s, .int .i64 o] 3)).drew) := Below.drew (balloc (balloc (Below.refl _ _) _) _)
  go_upto_region 1 with fail
  go_cut [27] (fun b wc => b = .bool false ∧ Below W.heap.size W wc)
  case first =>
    obtain ⟨p0, p1⟩ := P0.out
    go_region_held3 (fun w' => w'.cell? ⟨w.heap.size, 0, none⟩ = some (.int .i64 n) ∧ w'.cell? ⟨w.heap.size, 1, none⟩ = some (.slice a0 es.length c0)) (first | go_keep | exact ⟨kept BB.out P0.out.g0, kept BB.out P0.out.g1⟩)
      (first
       | (go_at_call_of 10 (Value.slice none 0 0); refine (look0 n _ es _ k0 K0.out hlen (VW.out.below BB.out)).mono ?_; rintro e wq ⟨rfl, bq⟩; have BB : Hid (Below W.heap.size W wq) := (by exact bthen BB.out bq); clear bq)
       | (go_at_call_of 11 (Value.slice none 0 0); refine (rlook0 n _ es _ k0 K0.out hlen (VW.out.below BB.out)).mono ?_; rintro e wq ⟨rfl, bq⟩; have BB : Hid (Below W.heap.size W wq) := (by exact bthen BB.out bq); clear bq)
       | (go_at_call 10; refine (look2 n s o _ _ es _ k2 K2.out hlen (VW.out.below (by with_reducible first | exact F1.out | exact F2.out | exact balloc BB.out _ | exact BB.out)) (by with_reducible first | exact A0.out | exact A1.out | exact A2.out | exact ⟨cell_new wq #[.int .i64 s, .int .i64 o] 3 0 _ rfl, cell_new wq #[.int .i64 s, .int .i64 o] 3 1 _ rfl⟩ | exact ⟨kept hq.out A1.out.1, kept hq.out A1.out.2⟩ | exact ⟨kept hq.out A2.out.1, kept hq.out A2.out.2⟩)).mono ?_; rintro e wq ⟨rfl, bq⟩; have bb0 : Below W.heap.size W wq := (by with_reducible first | exact bthen F1.out bq | exact bthen F2.out bq | exact bthen (balloc BB.out _) bq | exact bthen BB.out bq); have BB : Hid (Below W.heap.size W wq) := bb0; clear bb0; have hq : Hid _ := bq; clear bq)
       | (go_at_call 11; refine (rlook2 n s o _ _ es _ k2 K2.out hlen (VW.out.below (by with_reducible first | exact F1.out | exact F2.out | exact balloc BB.out _ | exact BB.out)) (by with_reducible first | exact A0.out | exact A1.out | exact A2.out | exact ⟨cell_new wq #[.int .i64 s, .int .i64 o] 3 0 _ rfl, cell_new wq #[.int .i64 s, .int .i64 o] 3 1 _ rfl⟩ | exact ⟨kept hq.out A1.out.1, kept hq.out A1.out.2⟩ | exact ⟨kept hq.out A2.out.1, kept hq.out A2.out.2⟩)).mono ?_; rintro e wq ⟨rfl, bq⟩; have bb0 : Below W.heap.size W wq := (by with_reducible first | exact bthen F1.out bq | exact bthen F2.out bq | exact bthen (balloc BB.out _) bq | exact bthen BB.out bq); have BB : Hid (Below W.heap.size W wq) := bb0; clear bb0; have hq : Hid _ := bq; clear bq)
       | fail)
    all_goals
      go_wp2_with fail
      go_meet
      exact ⟨rfl, BB.out⟩
  case rest =>
    obtain ⟨rfl, hb⟩ := hcut
    have B1 : Hid (Below W.heap.size W wc) := hb
    have P1 : Hid _ := P0.out.below hb
    have V1 : Hid _ := VW.out.below hb
    have BW : Hid (Below w.heap.size w wc) := bthen B0.out hb
    clear hb A0 A1 A2
    obtain ⟨p0, p1⟩ := P1.out
    go_wp2_with fail
    clear p0 p1
    refine (dist_bad n s _ es wc V1.out hlen HC.out).mono ?_
    rintro e w2 ⟨rfl, b2⟩
    have P2 : Hid _ := P1.out.below b2
    have V2 : Hid _ := V1.out.below b2
    have B2 : Hid (Below w.heap.size w w2) := bthen BW.out b2
    obtain ⟨p0, p1⟩ := P2.out
    clear b2 P1 V1 BW
    go_wp2_with fail
    clear p0 p1
    have L3 : Hid _ := lit_nums w2 [s] #[.int .i64 s] 1 rfl rfl
    have V3 : Hid _ := V2.out.below (balloc (Below.refl _ _) (.cells #[.int .i64 s] 3))
    have B3 : Hid (Below w.heap.size w (w2.alloc (.cells #[.int .i64 s] 3))) := balloc B2.out _
    generalize w2.alloc (.cells #[.int .i64 s] 3) = W3 at *
    refine (rlook1 n s _ _ es _ W3 rfl hlen V3.out L3.out).mono ?_
    rintro e w4 ⟨rfl, b4⟩
    have B4 : Hid (Below w.heap.size w w4) := bthen B3.out b4
    clear b4
    generalize lk n es [s] = k1 at *
    go_wp2_with fail
    go_ret
    exact ⟨rfl, B4.out⟩

set_option maxRecDepth 100000 in
set_option maxHeartbeats 32000000 in
theorem walk_yes (N a : Nat) (o : Int) (v : Value) (es : List E) (w : World) (hv : SlE w v es) (hps : nps N es = 0) (hp : Pn N es) (ha : a < N) :
    Calls Try.prog 3 #[.agg #[.int .i64 N, v], .int .i64 a, .int .i64 o] w fun e w' => e = .returned (.bool true) ∧ Below w.heap.size w w' := by
  obtain ⟨a0, c0, rfl⟩ := hv.val
  have HV : Hid _ := hv
  obtain ⟨k2, hk2⟩ : ∃ k, lk N es [(a : Int), o] = k := ⟨_, rfl⟩
  obtain ⟨k0, hk0⟩ : ∃ k, lk N es [] = k := ⟨_, rfl⟩
  have K2 : Hid _ := hk2
  have K0 : Hid _ := hk0
  have HPS : Hid _ := hps
  have HP : Hid _ := hp
  have hlen : es.length ≤ 9223372036854775807 := by have := hp.len; omega
  have hn64 := hp.n64
  have HL1 : Hid (lk N es [(a : Int)] = 0) := lk_ok hps (fun k hk => by
    obtain rfl : k = 0 := by simpa using hk
    exact plc_yes (by simp) (by simpa using ha))
  have e2 : (k2 != k2) = false := by simp
  have e0 : (k0 != k0) = false := by simp
  clear hv hk2 hk0 hps hp
  go_enter Try.func3, Try.ntmps3
  go_wp2_with fail
  have P0 : Hid _ := box2_new w (N : Int) (.slice a0 es.length c0) 24
  have B0 : Hid (Below w.heap.size w (w.alloc (.cells #[.int .i64 N, .slice a0 es.length c0] 24))) := balloc (Below.refl _ _) _
  generalize w.alloc (.cells #[.int .i64 N, .slice a0 es.length c0] 24) = W at *
  have VW : Hid _ := HV.out.below B0.out
  have A0 : Hid ((W.alloc (.cells #[.int .i64 a, .int .i64 o] 3)).drew.cell? ⟨W.heap.size, 0, none⟩ = some (.int .i64 a) ∧ (W.alloc (.cells #[.int .i64 a, .int .i64 o] 3)).drew.cell? ⟨W.heap.size, 1, none⟩ = some (.int .i64 o)) := ⟨cell_new W #[.int .i64 a, .int .i64 o] 3 0 _ rfl, cell_new W #[.int .i64 a, .int .i64 o] 3 1 _ rfl⟩
  have A1 : Hid (((W.alloc (.cells #[.int .i64 a, .int .i64 o] 3)).alloc (.cells #[.int .i64 a, .int .i64 o] 3)).drew.cell? ⟨W.heap.size, 0, none⟩ = some (.int .i64 a) ∧ ((W.alloc (.cells #[.int .i64 a, .int .i64 o] 3)).alloc (.cells #[.int .i64 a, .int .i64 o] 3)).drew.cell? ⟨W.heap.size, 1, none⟩ = some (.int .i64 o)) := ⟨kept_alloc (cell_new W #[.int .i64 a, .int .i64 o] 3 0 _ rfl), kept_alloc (cell_new W #[.int .i64 a, .int .i64 o] 3 1 _ rfl)⟩
  have A2 : Hid (((W.alloc (.cells #[.int .i64 a, .int .i64 o] 3)).alloc (.cells #[.int .i64 a, .int .i64 o] 3)).drew.cell? ⟨W.heap.size + 1, 0, none⟩ = some (.int .i64 a) ∧ ((W.alloc (.cells #[.int .i64 a, .int .i64 o] 3)).alloc (.cells #[.int .i64 a, .int .i64 o] 3)).drew.cell? ⟨W.heap.size + 1, 1, none⟩ = some (.int .i64 o)) := by
    have h1 := cell_new (W.alloc (.cells #[.int .i64 a, .int .i64 o] 3)) #[.int .i64 a, .int .i64 o] 3 0 _ rfl
    have h2 := cell_new (W.alloc (.cells #[.int .i64 a, .int .i64 o] 3)) #[.int .i64 a, .int .i64 o] 3 1 _ rfl
    have e : (W.alloc (.cells #[.int .i64 a, .int .i64 o] 3)).heap.size = W.heap.size + 1 := by simp
    rw [e] at h1 h2
    exact ⟨h1, h2⟩
  have F1 : Hid (Below W.heap.size W (W.alloc (.cells #[.int .i64 a, .int .i64 o] 3)).drew) := Below.drew (balloc (Below.refl _ _) _)
  have F2 : Hid (Below W.heap.size W ((W.alloc (.cells #[.int .i64 a, .int .i64 o] 3)).alloc (.cells #[.int .i64 a, .int .i64 o] 3)).drew) := Below.drew (balloc (balloc (Below.refl _ _) _) _)
  go_upto_region 1 with fail
  go_cut [27] (fun b wc => b = .bool false ∧ Below W.heap.size W wc)
  case first =>
    obtain ⟨p0, p1⟩ := P0.out
    go_region_held3 (fun w' => w'.cell? ⟨w.heap.size, 0, none⟩ = some (.int .i64 N) ∧ w'.cell? ⟨w.heap.size, 1, none⟩ = some (.slice a0 es.length c0)) (first | go_keep | exact ⟨kept BB.out P0.out.g0, kept BB.out P0.out.g1⟩)
      (first
       | (go_at_call_of 10 (Value.slice none 0 0); refine (look0 N _ es _ k0 K0.out hlen (VW.out.below BB.out)).mono ?_; rintro e wq ⟨rfl, bq⟩; have BB : Hid (Below W.heap.size W wq) := (by exact bthen BB.out bq); clear bq)
       | (go_at_call_of 11 (Value.slice none 0 0); refine (rlook0 N _ es _ k0 K0.out hlen (VW.out.below BB.out)).mono ?_; rintro e wq ⟨rfl, bq⟩; have BB : Hid (Below W.heap.size W wq) := (by exact bthen BB.out bq); clear bq)
       | (go_at_call 10; refine (look2 N a o _ _ es _ k2 K2.out hlen (VW.out.below (by with_reducible first | exact F1.out | exact F2.out | exact balloc BB.out _ | exact BB.out)) (by with_reducible first | exact A0.out | exact A1.out | exact A2.out | exact ⟨cell_new wq #[.int .i64 a, .int .i64 o] 3 0 _ rfl, cell_new wq #[.int .i64 a, .int .i64 o] 3 1 _ rfl⟩ | exact ⟨kept hq.out A1.out.1, kept hq.out A1.out.2⟩ | exact ⟨kept hq.out A2.out.1, kept hq.out A2.out.2⟩)).mono ?_; rintro e wq ⟨rfl, bq⟩; have bb0 : Below W.heap.size W wq := (by with_reducible first | exact bthen F1.out bq | exact bthen F2.out bq | exact bthen (balloc BB.out _) bq | exact bthen BB.out bq); have BB : Hid (Below W.heap.size W wq) := bb0; clear bb0; have hq : Hid _ := bq; clear bq)
       | (go_at_call 11; refine (rlook2 N a o _ _ es _ k2 K2.out hlen (VW.out.below (by with_reducible first | exact F1.out | exact F2.out | exact balloc BB.out _ | exact BB.out)) (by with_reducible first | exact A0.out | exact A1.out | exact A2.out | exact ⟨cell_new wq #[.int .i64 a, .int .i64 o] 3 0 _ rfl, cell_new wq #[.int .i64 a, .int .i64 o] 3 1 _ rfl⟩ | exact ⟨kept hq.out A1.out.1, kept hq.out A1.out.2⟩ | exact ⟨kept hq.out A2.out.1, kept hq.out A2.out.2⟩)).mono ?_; rintro e wq ⟨rfl, bq⟩; have bb0 : Below W.heap.size W wq := (by with_reducible first | exact bthen F1.out bq | exact bthen F2.out bq | exact bthen (balloc BB.out _) bq | exact bthen BB.out bq); have BB : Hid (Below W.heap.size W wq) := bb0; clear bb0; have hq : Hid _ := bq; clear bq)
       | fail)
    all_goals
      go_wp2_with fail
      go_meet
      exact ⟨rfl, BB.out⟩
  case rest =>
    obtain ⟨rfl, hb⟩ := hcut
    have B1 : Hid (Below W.heap.size W wc) := hb
    have P1 : Hid _ := P0.out.below hb
    have V1 : Hid _ := VW.out.below hb
    have BW : Hid (Below w.heap.size w wc) := bthen B0.out hb
    clear hb A0 A1 A2
    obtain ⟨p0, p1⟩ := P1.out
    go_wp2_with fail
    clear p0 p1
    refine (dist_yes N a _ es wc V1.out HPS.out HP.out ha).mono ?_
    rintro e w2 ⟨G2, d2, rfl, _, u2, i2, b2⟩
    have U2 : Hid _ := u2
    have I2 : Hid _ := i2
    have P2 : Hid _ := P1.out.below b2
    have V2 : Hid _ := V1.out.below b2
    have B2 : Hid (Below w.heap.size w w2) := bthen BW.out b2
    obtain ⟨p0, p1⟩ := P2.out
    clear b2 P1 V1 BW u2 i2
    go_wp2_with fail
    clear p0 p1
    have L3 : Hid _ := lit_nums w2 [(a : Int)] #[.int .i64 a] 1 rfl rfl
    have b3 : Below w2.heap.size w2 (w2.alloc (.cells #[.int .i64 a] 3)) := balloc (Below.refl _ _) _
    generalize w2.alloc (.cells #[.int .i64 a] 3) = W3 at *
    have V3 : Hid _ := V2.out.below b3
    have P3 : Hid _ := P2.out.below b3
    have U3 : Hid _ := U2.out.below b3
    have B3 : Hid (Below w.heap.size w W3) := bthen B2.out b3
    clear b3 V2 P2 U2 B2
    refine (rlook1 N a 0 _ es _ W3 HL1.out hlen V3.out L3.out).mono ?_
    rintro e w4 ⟨rfl, b4⟩
    have V4 : Hid _ := V3.out.below b4
    have P4 : Hid _ := P3.out.below b4
    have U4 : Hid _ := U3.out.below b4
    have B4 : Hid (Below w.heap.size w w4) := bthen B3.out b4
    clear b4 V3 P3 U3 B3
    obtain ⟨p0, p1⟩ := P4.out
    have HIE : Hid (∀ w' b cap, Below w4.heap.size w4 w' → Rw w' b cap (lst N d2) → Calls Try.prog 13 #[.slice (some ⟨G2, 0, none⟩) N N, .slice (some ⟨b, 0, none⟩) N cap] w' fun e w'' => e = .returned (.bool true) ∧ Below w'.heap.size w' w'') := fun w' b cap hb hr => by
      have h1 := (U4.out.below hb).sl
      have h2 := (hr.is (base := 0) (by omega)).sl
      rw [lst_length] at h2
      exact iequal_yes _ _ (lst N d2) w' h1 h2 (by rw [lst_length]; omega)
    go_wp2_with fail
    clear p0 p1
    refine (rdist_is N a d2 _ es w4 V4.out HP.out I2.out ha).mono ?_
    rintro e w5 ⟨b5, cap5, rfl, r5, bb5⟩
    have R5 : Hid _ := r5
    have BB5 : Hid _ := bb5
    have B5 : Hid (Below w.heap.size w w5) := bthen B4.out bb5
    clear r5 bb5
    go_wp2_with fail
    refine (HIE.out w5 b5 cap5 BB5.out R5.out).mono ?_
    rintro e w6 ⟨rfl, b6⟩
    have B6 : Hid (Below w.heap.size w w6) := bthen B5.out b6
    clear b6
    go_wp2_with fail
    go_ret
    exact ⟨rfl, B6.out⟩

theorem walk (n s o : Int) (v : Value) (es : List E) (w : World) (hv : SlE w v es) (hlen : es.length ≤ 9223372036854775807) :
    Calls Try.prog 3 #[.agg #[.int .i64 n, v], .int .i64 s, .int .i64 o] w fun e w' => e = .returned (.bool true) ∧ Below w.heap.size w w' := by
  by_cases hc : lk n es [s] = 0
  · obtain ⟨h1, h2⟩ := lk_zero hc
    have h2 : plc n s = true := by simpa using h2
    obtain ⟨hg, hp, hn⟩ := pn_of h1
    obtain ⟨a, rfl, ha⟩ := plc_nat h2
    rw [← hn] at h1 ha ⊢
    exact walk_yes n.toNat a o v es w hv h1 hp (by omega)
  · exact walk_bad n s o v es w hv hlen hc
end DDists
end Go.Proofs.Ytahijfljpjgdlaa
