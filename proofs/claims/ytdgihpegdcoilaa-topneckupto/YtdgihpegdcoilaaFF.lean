/-
  Contracts: what ways can be made of: sum, lesser, greater, same, always, both, either. Rows and tables of whatever kind, written in place. Contract: straight of numbers. Contract: between of widths. Contracts: floyd's All, Wide, Reach.
-/
import Derived.Test.YtdgihpegdcoilaaRP
import Derived.Test.YtdgihpegdcoilaaFl
import Derived.Test.YtdgihpegdcoilaaTB
import Derived.Deep.DeepCutAuto
import Derived.Test.YtdgihpegdcoilaaQL
import Derived.BigQuiet
import Derived.Test.YtdgihpegdcoilaaNB
namespace Go.Proofs.Ytdgihpegdcoilaa
open Go.RowKit
open Nm Wm Dm Bm Fm Fl
attribute [local go_sem ↓] Go.wp_at_zero Go.wp_at_succ

set_option maxRecDepth 100000 in
set_option maxHeartbeats 4000000 in
theorem fsame (a : Int) (w : World) : Calls Try.prog 47 #[.int .i64 a] w fun e w' => e = .returned (.int .i64 a) ∧ w' = w := by
  go_enter Try.func47, Try.ntmps47
  go_wp2_with fail
  go_ret
  exact ⟨rfl, rfl⟩
set_option maxRecDepth 100000 in
set_option maxHeartbeats 4000000 in
theorem flesser (a b : Int) (w : World) : Calls Try.prog 48 #[.int .i64 a, .int .i64 b] w fun e w' => e = .returned (.int .i64 (min a b)) ∧ w' = w := by
  rcases Int.lt_or_le b a with h | h
  · have e : min a b = b := by omega
    rw [e]
    clear e
    go_enter Try.func48, Try.ntmps48
    go_wp2_with fail
    go_ret
    exact ⟨rfl, rfl⟩
  · have e : min a b = a := by omega
    rw [e]
    clear e
    go_enter Try.func48, Try.ntmps48
    go_wp2_with fail
    go_ret
    exact ⟨rfl, rfl⟩
set_option maxRecDepth 100000 in
set_option maxHeartbeats 4000000 in
theorem fgreater (a b : Int) (w : World) : Calls Try.prog 49 #[.int .i64 a, .int .i64 b] w fun e w' => e = .returned (.int .i64 (max a b)) ∧ w' = w := by
  rcases Int.lt_or_le a b with h | h
  · have e : max a b = b := by omega
    rw [e]
    clear e
    go_enter Try.func49, Try.ntmps49
    go_wp2_with fail
    go_ret
    exact ⟨rfl, rfl⟩
  · have e : max a b = a := by omega
    rw [e]
    clear e
    go_enter Try.func49, Try.ntmps49
    go_wp2_with fail
    go_ret
    exact ⟨rfl, rfl⟩
end Go.Proofs.Ytdgihpegdcoilaa
namespace Go.Proofs.Ytdgihpegdcoilaa
open Go.RowKit
open Nm Wm Dm Bm Fm Fl

section
variable {α : Type}
/-- Block g holds the n values d. -/
structure Uv (t : TypeId) (enc : α → Value) (w : World) (g n : Nat) (d : Nat → α) : Prop where
  block : w.heap[g]? = some (.cells (Array.ofFn (n := n) fun i => enc (d i)) t (0, 0))
theorem Uv.cell {t : TypeId} {enc : α → Value} {w : World} {g n : Nat} {d : Nat → α} (h : Uv t enc w g n d) (i : Nat) (hi : i < n) : w.cell? ⟨g, i, none⟩ = some (enc (d i)) ∧ w.frozen? ⟨g, i, none⟩ = false := by
  simp [World.cell?, World.frozen?, h.block, hi]
theorem Uv.lt {t : TypeId} {enc : α → Value} {w : World} {g n : Nat} {d : Nat → α} (h : Uv t enc w g n d) : g < w.heap.size := by
  rcases Nat.lt_or_ge g w.heap.size with hlt | hge
  · exact hlt
  · have := h.block; rw [Array.getElem?_eq_none hge] at this; cases this
theorem Uv.frame {t : TypeId} {enc : α → Value} {w w' : World} {g n : Nat} {d : Nat → α} (h : Uv t enc w g n d) (hb : w'.heap[g]? = w.heap[g]?) : Uv t enc w' g n d := ⟨hb.trans h.block⟩
theorem Uv.below {t : TypeId} {enc : α → Value} {w w' : World} {g n : Nat} {d : Nat → α} (h : Uv t enc w g n d) (hb : Below w.heap.size w w') : Uv t enc w' g n d := h.frame (hb.block _ h.lt)
theorem Uv.congr {t : TypeId} {enc : α → Value} {w : World} {g n : Nat} {d d' : Nat → α} (h : Uv t enc w g n d) (e : ∀ x, x < n → d x = d' x) : Uv t enc w g n d' := by
  refine ⟨h.block.trans ?_⟩
  congr 2
  apply Array.ext
  · simp
  · intro i h1 h2
    simp at h1 ⊢
    rw [e i h1]
theorem Uv.put {t : TypeId} {enc : α → Value} {w : World} {g n : Nat} {d d' : Nat → α} (h : Uv t enc w g n d) (i : Nat) (x : α) (h1 : d' i = x) (h2 : ∀ j, j < n → j ≠ i → d' j = d j) : Uv t enc (w.setCell ⟨g, i, none⟩ (enc x)) g n d' := by
  refine ⟨(heap_setCell_same _ _ _ _ _ _ _ h.block).trans ?_⟩
  congr 2
  apply Array.ext_getElem?
  intro j
  rw [Array.getElem?_setIfInBounds]
  by_cases hj : j < n
  · by_cases e : i = j
    · subst e; simp [hj, h1]
    · simp [hj, e, h2 j hj (fun e' => e e'.symm)]
  · by_cases e : i = j
    · subst e; simp [hj]
    · simp [hj, e]

/-- A table in block R whose first k rows lie in the blocks Gs. -/
structure Tv (tr te : TypeId) (enc : α → Value) (w : World) (R N k : Nat) (Gs : Nat → Nat) (T : Nat → Nat → α) : Prop where
  at_ : ∃ cur : Array Value, w.heap[R]? = some (.cells cur tr (0, 0)) ∧ cur.size = N ∧ ∀ i, i < k → cur[i]? = some (.slice (some ⟨Gs i, 0, none⟩) N N)
  off : ∀ i, i < k → Gs i ≠ R
  row : ∀ i, i < k → Uv te enc w (Gs i) N (T i)
  inj : ∀ i j, i < k → j < k → i ≠ j → Gs i ≠ Gs j
theorem Tv.lt {tr te : TypeId} {enc : α → Value} {w : World} {R N k : Nat} {Gs : Nat → Nat} {T : Nat → Nat → α} (h : Tv tr te enc w R N k Gs T) : R < w.heap.size := by
  obtain ⟨cur, h1, _⟩ := h.at_
  rcases Nat.lt_or_ge R w.heap.size with hlt | hge
  · exact hlt
  · rw [Array.getElem?_eq_none hge] at h1; cases h1
theorem Tv.below {tr te : TypeId} {enc : α → Value} {w w' : World} {R N k : Nat} {Gs : Nat → Nat} {T : Nat → Nat → α} (h : Tv tr te enc w R N k Gs T) (hb : Below w.heap.size w w') : Tv tr te enc w' R N k Gs T := by
  have hlt := h.lt
  obtain ⟨cur, h1, h2, h3⟩ := h.at_
  exact ⟨⟨cur, (hb.block _ hlt).trans h1, h2, h3⟩, h.off, fun i hi => (h.row i hi).below hb, h.inj⟩
theorem Tv.head {tr te : TypeId} {enc : α → Value} {w : World} {R N k : Nat} {Gs : Nat → Nat} {T : Nat → Nat → α} (h : Tv tr te enc w R N k Gs T) (i : Nat) (hi : i < k) : w.cell? ⟨R, i, none⟩ = some (.slice (some ⟨Gs i, 0, none⟩) N N) := by
  obtain ⟨cur, h1, h2, h3⟩ := h.at_
  simp [World.cell?, h1, h3 i hi]
theorem Tv.slot {tr te : TypeId} {enc : α → Value} {w : World} {R N k : Nat} {Gs : Nat → Nat} {T : Nat → Nat → α} (h : Tv tr te enc w R N k Gs T) (i : Nat) (hi : i < N) : (∃ u, w.cell? ⟨R, i, none⟩ = some u) ∧ w.frozen? ⟨R, i, none⟩ = false := by
  obtain ⟨cur, h1, h2, h3⟩ := h.at_
  subst h2
  refine ⟨⟨cur[i], ?_⟩, ?_⟩
  · simp [World.cell?, h1, hi]
  · simp [World.frozen?, h1]
theorem Tv.put {tr te : TypeId} {enc : α → Value} {w : World} {R N k : Nat} {Gs : Nat → Nat} {T : Nat → Nat → α} (h : Tv tr te enc w R N k Gs T) (i j : Nat) (hi : i < k) (x : α) : Tv tr te enc (w.setCell ⟨Gs i, j, none⟩ (enc x)) R N k Gs (upt T i j x) := by
  obtain ⟨cur, h1, h2, h3⟩ := h.at_
  refine ⟨⟨cur, ?_, h2, h3⟩, h.off, fun a ha => ?_, h.inj⟩
  · rw [Below.heap_setCell _ _ _ _ (fun e => h.off i hi e.symm)]; exact h1
  · by_cases e : a = i
    · subst e
      exact (h.row a ha).put j x (upt_same T a j x) (fun b _ hb => upt_other T x (fun hh => hb hh.2))
    · have := (h.row a ha).frame (w' := w.setCell ⟨Gs i, j, none⟩ (enc x)) (Below.heap_setCell _ _ _ _ (h.inj a i ha hi e))
      exact this.congr (fun b _ => (upt_other T x (fun hh => e hh.1)).symm)
theorem Tv.add {tr te : TypeId} {enc : α → Value} {w : World} {R N k G : Nat} {Gs : Nat → Nat} {T : Nat → Nat → α} (h : Tv tr te enc w R N k Gs T) (hk : k < N) (hu : Uv te enc w G N (T k)) (hne : G ≠ R) (hd : ∀ i, i < k → Gs i ≠ G) :
    Tv tr te enc (w.setCell ⟨R, k, none⟩ (.slice (some ⟨G, 0, none⟩) N N)) R N (k + 1) (fun i => if i = k then G else Gs i) T := by
  obtain ⟨cur, h1, h2, h3⟩ := h.at_
  refine ⟨⟨_, heap_setCell_same _ _ _ _ _ _ _ h1, by simpa using h2, fun i hi => ?_⟩, fun i hi => ?_, fun i hi => ?_, fun i j hi hj hij => ?_⟩
  · by_cases e : i = k
    · subst e; rw [if_pos rfl, Array.getElem?_setIfInBounds_self_of_lt (by omega)]
    · rw [if_neg e, Array.getElem?_setIfInBounds_ne (by omega)]; exact h3 i (by omega)
  · by_cases e : i = k
    · rw [if_pos e]; exact hne
    · rw [if_neg e]; exact h.off i (by omega)
  · by_cases e : i = k
    · rw [if_pos e, e]; exact hu.frame (Below.heap_setCell _ _ _ _ hne)
    · rw [if_neg e]; exact (h.row i (by omega)).frame (Below.heap_setCell _ _ _ _ (h.off i (by omega)))
  · by_cases e : i = k
    · rw [if_pos e, if_neg (by omega)]; exact (hd j (by omega)).symm
    · rw [if_neg e]
      by_cases e2 : j = k
      · rw [if_pos e2]; exact hd i (by omega)
      · rw [if_neg e2]; exact h.inj i j (by omega) (by omega) hij
theorem Tv.congr {tr te : TypeId} {enc : α → Value} {w : World} {R N k : Nat} {Gs : Nat → Nat} {T T' : Nat → Nat → α} (h : Tv tr te enc w R N k Gs T) (e : ∀ i j, i < k → j < N → T i j = T' i j) : Tv tr te enc w R N k Gs T' :=
  ⟨h.at_, h.off, fun i hi => (h.row i hi).congr (fun j hj => e i j hi hj), h.inj⟩
theorem tv_made {tr te : TypeId} (enc : α → Value) (w : World) (n : Nat) (z : Value) (T : Nat → Nat → α) : Tv tr te enc (w.alloc (.cells (Array.ofFn (n := n) fun _ => z) tr)) w.heap.size n 0 (fun _ => 0) T :=
  ⟨⟨_, heap_alloc_new w _, by simp, fun i hi => absurd hi (by omega)⟩, fun i hi => absurd hi (by omega), fun i hi => absurd hi (by omega), fun i j hi => absurd hi (by omega)⟩
end

abbrev enci (z : Int) : Value := .int .i64 z
abbrev encb (b : Bool) : Value := .bool b
abbrev Ti := @Tv Int 23 3 enci
theorem Tv.slt {w : World} {R N : Nat} {Gs : Nat → Nat} {T : Nat → Nat → Int} (h : Ti w R N N Gs T) : SlT w (.slice (some ⟨R, 0, none⟩) N N) (tbl N T) := by
  refine ⟨.inr ⟨R, 0, N, by rw [tbl_length], fun i hi => ?_⟩⟩
  rw [tbl_length] at hi
  have hu : Ur w (Gs i) N (T i) := ⟨(h.row i hi).block⟩
  refine ⟨_, _, _, by rw [Nat.zero_add]; exact h.head i hi, by rw [tbl_at hi]; exact hu.sl⟩

/-- What ways are made of, in its box. -/
structure Bm5 (w : World) (B : Nat) (a b c d e : Value) : Prop where
  at_ : w.heap[B]? = some (.cells #[a, b, c, d, e] 77 (0, 0)) ∨ w.heap[B]? = some (.cells #[a, b, c, d, e] 77 (0, 0))
theorem Bm5.cell {w : World} {B : Nat} {a b c d e : Value} (h : Bm5 w B a b c d e) : w.cell? ⟨B, 0, none⟩ = some a ∧ w.cell? ⟨B, 1, none⟩ = some b ∧ w.cell? ⟨B, 2, none⟩ = some c ∧ w.cell? ⟨B, 3, none⟩ = some d ∧ w.cell? ⟨B, 4, none⟩ = some e := by
  rcases h.at_ with h | h <;> simp [World.cell?, h]
theorem Bm5.lt {w : World} {B : Nat} {a b c d e : Value} (h : Bm5 w B a b c d e) : B < w.heap.size := by
  rcases Nat.lt_or_ge B w.heap.size with hlt | hge
  · exact hlt
  · rcases h.at_ with h1 | h1 <;> (rw [Array.getElem?_eq_none hge] at h1; cases h1)
theorem Bm5.below {w w' : World} {B : Nat} {a b c d e : Value} (h : Bm5 w B a b c d e) (hb : Below w.heap.size w w') : Bm5 w' B a b c d e := by
  have hlt := h.lt
  refine ⟨h.at_.imp (fun h1 => ?_) (fun h1 => ?_)⟩ <;> rw [hb.block _ hlt] <;> exact h1
theorem Bm5.frame {w w' : World} {B : Nat} {a b c d e : Value} (h : Bm5 w B a b c d e) (hb : w'.heap[B]? = w.heap[B]?) : Bm5 w' B a b c d e := ⟨h.at_.imp (fun h1 => hb.trans h1) (fun h1 => hb.trans h1)⟩
theorem bm5_i (w : World) (a b c d e : Value) : Bm5 (w.alloc (.cells #[a, b, c, d, e] 77)) w.heap.size a b c d e := ⟨.inl (heap_alloc_new w _)⟩
theorem bm5_b (w : World) (a b c d e : Value) : Bm5 (w.alloc (.cells #[a, b, c, d, e] 77)) w.heap.size a b c d e := ⟨.inr (heap_alloc_new w _)⟩
end Go.Proofs.Ytdgihpegdcoilaa
namespace Go.Proofs.Ytdgihpegdcoilaa
open Go.RowKit
open Nm Wm Dm Bm Fm Fl
attribute [local go_sem ↓] Go.wp_at_zero Go.wp_at_succ

set_option maxRecDepth 100000 in
set_option maxHeartbeats 8000000 in
theorem straight_min (N J : Nat) (no stay : Int) (v : Value) (es : List E) (w : World) (hv : SlE w v es) (hb : Rnt N es) :
    Calls Try.prog 55 #[.agg #[.int .i64 N, v], .agg #[.int .i64 no, .int .i64 stay, .func (.func 47) #[] #[], .func (.func J) #[] #[], .func (.func 48) #[] #[]]] w fun e w' => ∃ R Gs, e = .returned (.slice (some ⟨R, 0, none⟩) N N) ∧ Ti w' R N N Gs (sed min (fun c => c) es (st no stay) es.length) ∧ (∀ i, i < N → w.heap.size ≤ Gs i) ∧ Below w.heap.size w w' := by
  obtain ⟨a0, c0, rfl⟩ := hv.val
  have HV : Hid _ := hv
  have HB : Hid _ := hb
  have hn64 := hb.n64
  have hlen := hb.len
  have hmk := made_tbl N hn64
  clear hv hb
  go_enter Try.func55, Try.ntmps55
  go_wp2_with fail
  have P0 : Hid _ := box2_new w (N : Int) (.slice a0 es.length c0) 35
  have B0 : Hid (Below w.heap.size w (w.alloc (.cells #[.int .i64 N, .slice a0 es.length c0] 35))) := balloc (Below.refl _ _) _
  have hz0 : (w.alloc (.cells #[.int .i64 N, .slice a0 es.length c0] 35)).heap.size = w.heap.size + 1 := by simp
  generalize w.alloc (.cells #[.int .i64 N, .slice a0 es.length c0] 35) = W0 at *
  have M1 : Hid _ := bm5_i W0 (.int .i64 no) (.int .i64 stay) (.func (.func 47) #[] #[]) (.func (.func J) #[] #[]) (.func (.func 48) #[] #[])
  have P1 : Hid _ := P0.out.below (balloc (Below.refl _ _) (.cells #[.int .i64 no, .int .i64 stay, .func (.func 47) #[] #[], .func (.func J) #[] #[], .func (.func 48) #[] #[]] 77))
  have B1 : Hid (Below w.heap.size w (W0.alloc (.cells #[.int .i64 no, .int .i64 stay, .func (.func 47) #[] #[], .func (.func J) #[] #[], .func (.func 48) #[] #[]] 77))) := balloc B0.out _
  have hz1 : (W0.alloc (.cells #[.int .i64 no, .int .i64 stay, .func (.func 47) #[] #[], .func (.func J) #[] #[], .func (.func 48) #[] #[]] 77)).heap.size = w.heap.size + 1 + 1 := by simp [hz0]
  rw [hz0] at M1
  clear hz0 P0 B0
  generalize W0.alloc (.cells #[.int .i64 no, .int .i64 stay, .func (.func 47) #[] #[], .func (.func J) #[] #[], .func (.func 48) #[] #[]] 77) = W1 at *
  have T2 : Hid (Ti (W1.alloc (.cells (Array.ofFn (n := N) fun _ => .slice none 0 0) 23)) W1.heap.size N 0 (fun _ => 0) (st no stay)) := tv_made enci W1 N (.slice none 0 0) (st no stay)
  have B2 : Hid (Below W1.heap.size W1 (W1.alloc (.cells (Array.ofFn (n := N) fun _ => .slice none 0 0) 23))) := balloc (Below.refl _ _) _
  rw [hz1] at T2
  have HZ : Hid _ := hz1
  clear hz1 hmk
  generalize W1.alloc (.cells (Array.ofFn (n := N) fun _ => .slice none 0 0) 23) = W2 at *
  go_loopw [14] (fun z wr => ∃ (k : Nat) (Gs : Nat → Nat), z = .int .i64 k ∧ k ≤ N ∧ Ti wr (w.heap.size + 1 + 1) N k Gs (st no stay) ∧ (∀ i, i < k → w.heap.size + 1 + 1 < Gs i) ∧ Below W1.heap.size W1 wr) (fun z _ => N - (intOf z).toNat)
  case atStart => exact ⟨0, _, rfl, Nat.zero_le _, T2.out, fun i hi => absurd hi (by omega), B2.out⟩
  case round =>
    obtain ⟨k, Gs, rfl, hk, ht, hgs, hbr⟩ := hrel
    have TR : Hid _ := ht
    have GS : Hid _ := hgs
    have BR : Hid (Below W1.heap.size W1 wr) := hbr
    clear ht hgs hbr T2 B2
    have PR : Hid _ := P1.out.below BR.out
    have MR : Hid _ := M1.out.below BR.out
    by_cases hlt : k < N
    · have hki : (k : Int) < (N : Int) := by omega
      obtain ⟨p0, p1⟩ := PR.out
      obtain ⟨m0, m1, m2, m3, m4⟩ := MR.out.cell
      have k0 := kept_alloc (x := .cells #[.int .i64 no] 3) p0
      have LC : Hid ((wr.alloc (.cells #[.int .i64 no] 3)).cell? ⟨wr.heap.size, 0, none⟩ = some (.int .i64 no)) := cell_new wr _ _ 0 _ rfl
      have B3 : Hid (Below W1.heap.size W1 (wr.alloc (.cells #[.int .i64 no] 3))) := balloc BR.out _
      have T3 : Hid _ := TR.out.below (balloc (Below.refl _ _) (.cells #[.int .i64 no] 3))
      go_wp2_with fail
      clear p0 p1 m0 m1 m2 m3 m4 k0
      have W3S : Hid (wr.heap.size ≤ (wr.alloc (.cells #[.int .i64 no] 3)).heap.size) := by unfold Hid; simp
      generalize wr.alloc (.cells #[.int .i64 no] 3) = W3 at *
      refine (repeat_any _ N no W3 (by have := HB.out.n1; omega) hn64 LC.out).mono ?_
      rintro e w4 ⟨rfl, u4, b4⟩
      have U4 : Hid (Ur w4 W3.heap.size N (fun _ => no)) := u4
      have B4 : Hid (Below W1.heap.size W1 w4) := bthen B3.out b4
      have T4 : Hid _ := T3.out.below b4
      have M4 : Hid _ := M1.out.below B4.out
      obtain ⟨G, hG⟩ : ∃ G, W3.heap.size = G := ⟨_, rfl⟩
      rw [hG] at U4 ⊢
      have HG : Hid _ := hG
      clear u4 b4 hG
      obtain ⟨⟨u0, s0⟩, s1⟩ := T4.out.slot k hlt
      have HW1 : Hid (W1.heap.size = w.heap.size + 1 + 1) := HZ.out
      have SW : Hid (W1.heap.size ≤ wr.heap.size) := BR.out.size
      have W3L : Hid (wr.heap.size ≤ G) := by have := HG.out; unfold Hid; rw [← this]; exact W3S.out
      have GR : Hid (G ≠ w.heap.size + 1 + 1) := by have := W3L.out; have := TR.out.lt; unfold Hid; omega
      have T5 : Hid (Ti (w4.setCell ⟨w.heap.size + 1 + 1, k, none⟩ (.slice (some ⟨G, 0, none⟩) N N)) (w.heap.size + 1 + 1) N (k + 1) (fun i => if i = k then G else Gs i) (fun i j => if i = k then no else st no stay i j)) := by
        refine Tv.add (T4.out.congr (fun i j hi _ => by rw [if_neg (by omega)])) hlt ?_ GR.out (fun i hi => ?_)
        · refine ⟨U4.out.block.trans ?_⟩
          simp
        · have := (TR.out.row i hi).lt; have := W3L.out; omega
      have B5 : Hid (Below W1.heap.size W1 (w4.setCell ⟨w.heap.size + 1 + 1, k, none⟩ (.slice (some ⟨G, 0, none⟩) N N))) := Below.setCell B4.out (by have := HW1.out; simp; omega) _
      go_wp2_with fail
      clear s0 s1
      generalize w4.setCell ⟨w.heap.size + 1 + 1, k, none⟩ (.slice (some ⟨G, 0, none⟩) N N) = W5 at *
      have hd := T5.out.head k (by omega)
      rw [if_pos rfl] at hd
      have hc := T5.out.row k (by omega)
      rw [if_pos rfl] at hc
      obtain ⟨e0, e1⟩ := hc.cell k hlt
      clear hc
      obtain ⟨m0, m1, m2, m3, m4⟩ := (M1.out.below B5.out).cell
      have GM : Hid (G ≠ w.heap.size + 1) := by have := W3L.out; have := TR.out.lt; unfold Hid; omega
      have KEEP : Hid ((W5.setCell ⟨G, k, none⟩ (.int .i64 stay)).drew |> fun w' => w'.cell? ⟨w.heap.size + 1 + 1, k, none⟩ = some (.slice (some ⟨G, 0, none⟩) N N) ∧ w'.cell? ⟨w.heap.size + 1, 1, none⟩ = some (.int .i64 stay)) := by
        have put : ∀ (b o : Nat) (u : Value), b ≠ G → W5.cell? ⟨b, o, none⟩ = some u → ((W5.setCell ⟨G, k, none⟩ (.int .i64 stay)).drew).cell? ⟨b, o, none⟩ = some u := fun b o u hne h => by
          have : (W5.setCell ⟨G, k, none⟩ (.int .i64 stay)).cell? ⟨b, o, none⟩ = some u := by
            unfold World.cell? at *; rw [Below.heap_setCell _ _ _ _ hne]; exact h
          exact this
        exact ⟨put _ _ _ GR.out.symm hd, put _ _ _ GM.out.symm m1⟩
      go_region_held3 (fun w' => w'.cell? ⟨w.heap.size + 1 + 1, k, none⟩ = some (.slice (some ⟨G, 0, none⟩) N N) ∧ w'.cell? ⟨w.heap.size + 1, 1, none⟩ = some (.int .i64 stay)) (first | exact KEEP.out | go_keep)
        (fail)
      all_goals
        go_wp2_with fail
        go_roundw
        case rel =>
          refine ⟨k + 1, fun i => if i = k then G else Gs i, by go_num, by omega, ?_, ?_, ?_⟩
          · have h1 := (T5.out.put k k (by omega) stay).below (Below.drew (Below.refl _ _))
            rw [if_pos rfl] at h1
            refine h1.congr (fun i j hi hj => ?_)
            unfold upt st
            dsimp only
            by_cases e : i = k
            · subst e
              by_cases e2 : j = i
              · subst e2; rw [if_pos ⟨rfl, rfl⟩, if_pos rfl]
              · rw [if_neg (fun h => e2 h.2), if_pos rfl, if_neg (fun h => e2 h.symm)]
            · rw [if_neg (fun h => e h.1), if_neg e]
          · intro i hi
            dsimp only
            by_cases e : i = k
            · rw [if_pos e]; have := W3L.out; have := TR.out.lt; omega
            · rw [if_neg e]; exact GS.out i (by omega)
          · exact Below.drew (Below.setCell B5.out (by have := HW1.out; have := W3L.out; have := TR.out.lt; simp; omega) _)
        case measure => simp [intOf]; omega
    · obtain rfl : N = k := by omega
      obtain ⟨p0, p1⟩ := PR.out
      go_wp2_with fail
      clear p0 p1 PR MR
      have GL : Hid (∀ i, i < N → W1.heap.size ≤ Gs i) := fun i hi => by have := GS.out i hi; have := HZ.out; omega
      have TM : Hid _ := TR.out
      have BM : Hid (Below W1.heap.size W1 wr) := BR.out
      clear TR BR
      go_loopw [38] (fun z wr => ∃ (k : Nat), z = .int .i64 k ∧ k ≤ es.length ∧ Ti wr (w.heap.size + 1 + 1) N N Gs (sed min (fun c => c) es (st no stay) k) ∧ Below W1.heap.size W1 wr) (fun z _ => es.length - (intOf z).toNat)
      case atStart => exact ⟨0, rfl, Nat.zero_le _, TM.out, BM.out⟩
      case round =>
        obtain ⟨k, rfl, hk, ht, hbr⟩ := hrel
        have TR : Hid _ := ht
        have BR : Hid (Below W1.heap.size W1 wr) := hbr
        clear ht hbr TM BM
        by_cases hlt : k < es.length
        · have hki : (k : Int) < (es.length : Int) := by omega
          obtain ⟨b, off, cap, hveq, hc⟩ := ((HV.out.below B1.out).below BR.out).some' (by omega)
          simp only [Value.slice.injEq] at hveq
          obtain ⟨rfl, -, rfl⟩ := hveq
          obtain ⟨e0, e1, e2⟩ := hc k hlt
          clear hc
          have hok := HB.out.ok _ (mem_at hlt)
          obtain ⟨p, hpe⟩ : ∃ p, at3 es k = p := ⟨_, rfl⟩
          have HPE : Hid _ := hpe
          rw [hpe] at e0 e1 e2 hok
          clear hpe
          obtain ⟨x, y, c⟩ := p
          simp only at e0 e1 e2 hok
          obtain ⟨ok1, ok2, ok3, ok4, ok5, ok6⟩ := hok
          obtain ⟨x, rfl⟩ := Int.eq_ofNat_of_zero_le ok1
          obtain ⟨y, rfl⟩ := Int.eq_ofNat_of_zero_le ok3
          have hxN : x < N := by omega
          have hyN : y < N := by omega
          have HS : Hid (sed min (fun c => c) es (st no stay) (k + 1) = upt (sed min (fun c => c) es (st no stay) k) x y (min (sed min (fun c => c) es (st no stay) k x y) c)) := by
            unfold Hid; rw [sed_next, HPE.out]; simp
          obtain ⟨TK, hTK⟩ : ∃ TK, sed min (fun c => c) es (st no stay) k = TK := ⟨_, rfl⟩
          rw [hTK] at HS TR
          clear hTK HPE
          have B7 : Hid (Below W1.heap.size W1 (wr.alloc (.cells #[.int .i64 x, .int .i64 y, .int .i64 c] 50))) := balloc BR.out _
          have T7 : Hid _ := TR.out.below (balloc (Below.refl _ _) (.cells #[.int .i64 x, .int .i64 y, .int .i64 c] 50))
          obtain ⟨y0, y1, y2⟩ := box3_new wr x y (.int .i64 c) 50
          have GY : Hid (Gs x < wr.heap.size) := (TR.out.row x hxN).lt
          go_wp2_with fail
          clear e0 e1 e2
          generalize wr.alloc (.cells #[.int .i64 x, .int .i64 y, .int .i64 c] 50) = W7 at *
          obtain ⟨Y, hY⟩ : ∃ Y, wr.heap.size = Y := ⟨_, rfl⟩
          rw [hY] at y0 y1 y2 GY ⊢
          clear hY
          obtain ⟨m0, m1, m2, m3, m4⟩ := (M1.out.below B7.out).cell
          have hd := T7.out.head x hxN
          obtain ⟨t0, t1⟩ := (T7.out.row x hxN).cell y hyN
          obtain ⟨z, hz⟩ : ∃ z, TK x y = z := ⟨_, rfl⟩
          rw [hz] at t0
          rw [hz] at HS
          clear hz
          refine wp_region_last_lit 25 rfl (by kernel_rfl) (by kernel_rfl) ?_
          simp only [List.take_succ_cons, List.take_zero]
          repeat (quiet_step (first
            | (go_at_call 47; exact Calls.quiet_of_same (fsame c _))
            | (go_at_call 48; exact Calls.quiet_of_same (flesser z c _))))
          refine wpQuiet_nil ?_
          intro w9 hw9
          obtain ⟨nq, rfl⟩ := hw9
          have T9 : Hid _ := T7.out.below (bdrewN (Below.refl _ _) nq)
          have B9 : Hid (Below W1.heap.size W1 (W7.drewN nq)) := bdrewN B7.out nq
          obtain ⟨q0, q1⟩ := (T9.out.row x hxN).cell y hyN
          refine wpOp_step rfl (fun K hK => ?_)
          go_simp
          refine hK _ _ ?_
          clear hK K
          go_wp2_with fail
          go_roundw
          case rel =>
            refine ⟨k + 1, by go_num, by omega, ?_, ?_⟩
            · rw [HS.out]; exact T9.out.put x y hxN (min z c)
            · exact Below.setCell B9.out (GL.out x hxN) _
          case measure => simp [intOf]; omega
        · obtain rfl : k = es.length := by omega
          go_wp2_with fail
          go_ret
          exact ⟨_, _, rfl, TR.out, fun i hi => by have := GL.out i hi; have := B1.out.size; omega, bthen B1.out BR.out⟩
set_option maxRecDepth 100000 in
set_option maxHeartbeats 8000000 in
theorem straight_max (N J : Nat) (no stay : Int) (v : Value) (es : List E) (w : World) (hv : SlE w v es) (hb : Rnt N es) :
    Calls Try.prog 55 #[.agg #[.int .i64 N, v], .agg #[.int .i64 no, .int .i64 stay, .func (.func 47) #[] #[], .func (.func J) #[] #[], .func (.func 49) #[] #[]]] w fun e w' => ∃ R Gs, e = .returned (.slice (some ⟨R, 0, none⟩) N N) ∧ Ti w' R N N Gs (sed max (fun c => c) es (st no stay) es.length) ∧ (∀ i, i < N → w.heap.size ≤ Gs i) ∧ Below w.heap.size w w' := by
  obtain ⟨a0, c0, rfl⟩ := hv.val
  have HV : Hid _ := hv
  have HB : Hid _ := hb
  have hn64 := hb.n64
  have hlen := hb.len
  have hmk := made_tbl N hn64
  clear hv hb
  go_enter Try.func55, Try.ntmps55
  go_wp2_with fail
  have P0 : Hid _ := box2_new w (N : Int) (.slice a0 es.length c0) 35
  have B0 : Hid (Below w.heap.size w (w.alloc (.cells #[.int .i64 N, .slice a0 es.length c0] 35))) := balloc (Below.refl _ _) _
  have hz0 : (w.alloc (.cells #[.int .i64 N, .slice a0 es.length c0] 35)).heap.size = w.heap.size + 1 := by simp
  generalize w.alloc (.cells #[.int .i64 N, .slice a0 es.length c0] 35) = W0 at *
  have M1 : Hid _ := bm5_i W0 (.int .i64 no) (.int .i64 stay) (.func (.func 47) #[] #[]) (.func (.func J) #[] #[]) (.func (.func 49) #[] #[])
  have P1 : Hid _ := P0.out.below (balloc (Below.refl _ _) (.cells #[.int .i64 no, .int .i64 stay, .func (.func 47) #[] #[], .func (.func J) #[] #[], .func (.func 49) #[] #[]] 77))
  have B1 : Hid (Below w.heap.size w (W0.alloc (.cells #[.int .i64 no, .int .i64 stay, .func (.func 47) #[] #[], .func (.func J) #[] #[], .func (.func 49) #[] #[]] 77))) := balloc B0.out _
  have hz1 : (W0.alloc (.cells #[.int .i64 no, .int .i64 stay, .func (.func 47) #[] #[], .func (.func J) #[] #[], .func (.func 49) #[] #[]] 77)).heap.size = w.heap.size + 1 + 1 := by simp [hz0]
  rw [hz0] at M1
  clear hz0 P0 B0
  generalize W0.alloc (.cells #[.int .i64 no, .int .i64 stay, .func (.func 47) #[] #[], .func (.func J) #[] #[], .func (.func 49) #[] #[]] 77) = W1 at *
  have T2 : Hid (Ti (W1.alloc (.cells (Array.ofFn (n := N) fun _ => .slice none 0 0) 23)) W1.heap.size N 0 (fun _ => 0) (st no stay)) := tv_made enci W1 N (.slice none 0 0) (st no stay)
  have B2 : Hid (Below W1.heap.size W1 (W1.alloc (.cells (Array.ofFn (n := N) fun _ => .slice none 0 0) 23))) := balloc (Below.refl _ _) _
  rw [hz1] at T2
  have HZ : Hid _ := hz1
  clear hz1 hmk
  generalize W1.alloc (.cells (Array.ofFn (n := N) fun _ => .slice none 0 0) 23) = W2 at *
  go_loopw [14] (fun z wr => ∃ (k : Nat) (Gs : Nat → Nat), z = .int .i64 k ∧ k ≤ N ∧ Ti wr (w.heap.size + 1 + 1) N k Gs (st no stay) ∧ (∀ i, i < k → w.heap.size + 1 + 1 < Gs i) ∧ Below W1.heap.size W1 wr) (fun z _ => N - (intOf z).toNat)
  case atStart => exact ⟨0, _, rfl, Nat.zero_le _, T2.out, fun i hi => absurd hi (by omega), B2.out⟩
  case round =>
    obtain ⟨k, Gs, rfl, hk, ht, hgs, hbr⟩ := hrel
    have TR : Hid _ := ht
    have GS : Hid _ := hgs
    have BR : Hid (Below W1.heap.size W1 wr) := hbr
    clear ht hgs hbr T2 B2
    have PR : Hid _ := P1.out.below BR.out
    have MR : Hid _ := M1.out.below BR.out
    by_cases hlt : k < N
    · have hki : (k : Int) < (N : Int) := by omega
      obtain ⟨p0, p1⟩ := PR.out
      obtain ⟨m0, m1, m2, m3, m4⟩ := MR.out.cell
      have k0 := kept_alloc (x := .cells #[.int .i64 no] 3) p0
      have LC : Hid ((wr.alloc (.cells #[.int .i64 no] 3)).cell? ⟨wr.heap.size, 0, none⟩ = some (.int .i64 no)) := cell_new wr _ _ 0 _ rfl
      have B3 : Hid (Below W1.heap.size W1 (wr.alloc (.cells #[.int .i64 no] 3))) := balloc BR.out _
      have T3 : Hid _ := TR.out.below (balloc (Below.refl _ _) (.cells #[.int .i64 no] 3))
      go_wp2_with fail
      clear p0 p1 m0 m1 m2 m3 m4 k0
      have W3S : Hid (wr.heap.size ≤ (wr.alloc (.cells #[.int .i64 no] 3)).heap.size) := by unfold Hid; simp
      generalize wr.alloc (.cells #[.int .i64 no] 3) = W3 at *
      refine (repeat_any _ N no W3 (by have := HB.out.n1; omega) hn64 LC.out).mono ?_
      rintro e w4 ⟨rfl, u4, b4⟩
      have U4 : Hid (Ur w4 W3.heap.size N (fun _ => no)) := u4
      have B4 : Hid (Below W1.heap.size W1 w4) := bthen B3.out b4
      have T4 : Hid _ := T3.out.below b4
      have M4 : Hid _ := M1.out.below B4.out
      obtain ⟨G, hG⟩ : ∃ G, W3.heap.size = G := ⟨_, rfl⟩
      rw [hG] at U4 ⊢
      have HG : Hid _ := hG
      clear u4 b4 hG
      obtain ⟨⟨u0, s0⟩, s1⟩ := T4.out.slot k hlt
      have HW1 : Hid (W1.heap.size = w.heap.size + 1 + 1) := HZ.out
      have SW : Hid (W1.heap.size ≤ wr.heap.size) := BR.out.size
      have W3L : Hid (wr.heap.size ≤ G) := by have := HG.out; unfold Hid; rw [← this]; exact W3S.out
      have GR : Hid (G ≠ w.heap.size + 1 + 1) := by have := W3L.out; have := TR.out.lt; unfold Hid; omega
      have T5 : Hid (Ti (w4.setCell ⟨w.heap.size + 1 + 1, k, none⟩ (.slice (some ⟨G, 0, none⟩) N N)) (w.heap.size + 1 + 1) N (k + 1) (fun i => if i = k then G else Gs i) (fun i j => if i = k then no else st no stay i j)) := by
        refine Tv.add (T4.out.congr (fun i j hi _ => by rw [if_neg (by omega)])) hlt ?_ GR.out (fun i hi => ?_)
        · refine ⟨U4.out.block.trans ?_⟩
          simp
        · have := (TR.out.row i hi).lt; have := W3L.out; omega
      have B5 : Hid (Below W1.heap.size W1 (w4.setCell ⟨w.heap.size + 1 + 1, k, none⟩ (.slice (some ⟨G, 0, none⟩) N N))) := Below.setCell B4.out (by have := HW1.out; simp; omega) _
      go_wp2_with fail
      clear s0 s1
      generalize w4.setCell ⟨w.heap.size + 1 + 1, k, none⟩ (.slice (some ⟨G, 0, none⟩) N N) = W5 at *
      have hd := T5.out.head k (by omega)
      rw [if_pos rfl] at hd
      have hc := T5.out.row k (by omega)
      rw [if_pos rfl] at hc
      obtain ⟨e0, e1⟩ := hc.cell k hlt
      clear hc
      obtain ⟨m0, m1, m2, m3, m4⟩ := (M1.out.below B5.out).cell
      have GM : Hid (G ≠ w.heap.size + 1) := by have := W3L.out; have := TR.out.lt; unfold Hid; omega
      have KEEP : Hid ((W5.setCell ⟨G, k, none⟩ (.int .i64 stay)).drew |> fun w' => w'.cell? ⟨w.heap.size + 1 + 1, k, none⟩ = some (.slice (some ⟨G, 0, none⟩) N N) ∧ w'.cell? ⟨w.heap.size + 1, 1, none⟩ = some (.int .i64 stay)) := by
        have put : ∀ (b o : Nat) (u : Value), b ≠ G → W5.cell? ⟨b, o, none⟩ = some u → ((W5.setCell ⟨G, k, none⟩ (.int .i64 stay)).drew).cell? ⟨b, o, none⟩ = some u := fun b o u hne h => by
          have : (W5.setCell ⟨G, k, none⟩ (.int .i64 stay)).cell? ⟨b, o, none⟩ = some u := by
            unfold World.cell? at *; rw [Below.heap_setCell _ _ _ _ hne]; exact h
          exact this
        exact ⟨put _ _ _ GR.out.symm hd, put _ _ _ GM.out.symm m1⟩
      go_region_held3 (fun w' => w'.cell? ⟨w.heap.size + 1 + 1, k, none⟩ = some (.slice (some ⟨G, 0, none⟩) N N) ∧ w'.cell? ⟨w.heap.size + 1, 1, none⟩ = some (.int .i64 stay)) (first | exact KEEP.out | go_keep)
        (fail)
      all_goals
        go_wp2_with fail
        go_roundw
        case rel =>
          refine ⟨k + 1, fun i => if i = k then G else Gs i, by go_num, by omega, ?_, ?_, ?_⟩
          · have h1 := (T5.out.put k k (by omega) stay).below (Below.drew (Below.refl _ _))
            rw [if_pos rfl] at h1
            refine h1.congr (fun i j hi hj => ?_)
            unfold upt st
            dsimp only
            by_cases e : i = k
            · subst e
              by_cases e2 : j = i
              · subst e2; rw [if_pos ⟨rfl, rfl⟩, if_pos rfl]
              · rw [if_neg (fun h => e2 h.2), if_pos rfl, if_neg (fun h => e2 h.symm)]
            · rw [if_neg (fun h => e h.1), if_neg e]
          · intro i hi
            dsimp only
            by_cases e : i = k
            · rw [if_pos e]; have := W3L.out; have := TR.out.lt; omega
            · rw [if_neg e]; exact GS.out i (by omega)
          · exact Below.drew (Below.setCell B5.out (by have := HW1.out; have := W3L.out; have := TR.out.lt; simp; omega) _)
        case measure => simp [intOf]; omega
    · obtain rfl : N = k := by omega
      obtain ⟨p0, p1⟩ := PR.out
      go_wp2_with fail
      clear p0 p1 PR MR
      have GL : Hid (∀ i, i < N → W1.heap.size ≤ Gs i) := fun i hi => by have := GS.out i hi; have := HZ.out; omega
      have TM : Hid _ := TR.out
      have BM : Hid (Below W1.heap.size W1 wr) := BR.out
      clear TR BR
      go_loopw [38] (fun z wr => ∃ (k : Nat), z = .int .i64 k ∧ k ≤ es.length ∧ Ti wr (w.heap.size + 1 + 1) N N Gs (sed max (fun c => c) es (st no stay) k) ∧ Below W1.heap.size W1 wr) (fun z _ => es.length - (intOf z).toNat)
      case atStart => exact ⟨0, rfl, Nat.zero_le _, TM.out, BM.out⟩
      case round =>
        obtain ⟨k, rfl, hk, ht, hbr⟩ := hrel
        have TR : Hid _ := ht
        have BR : Hid (Below W1.heap.size W1 wr) := hbr
        clear ht hbr TM BM
        by_cases hlt : k < es.length
        · have hki : (k : Int) < (es.length : Int) := by omega
          obtain ⟨b, off, cap, hveq, hc⟩ := ((HV.out.below B1.out).below BR.out).some' (by omega)
          simp only [Value.slice.injEq] at hveq
          obtain ⟨rfl, -, rfl⟩ := hveq
          obtain ⟨e0, e1, e2⟩ := hc k hlt
          clear hc
          have hok := HB.out.ok _ (mem_at hlt)
          obtain ⟨p, hpe⟩ : ∃ p, at3 es k = p := ⟨_, rfl⟩
          have HPE : Hid _ := hpe
          rw [hpe] at e0 e1 e2 hok
          clear hpe
          obtain ⟨x, y, c⟩ := p
          simp only at e0 e1 e2 hok
          obtain ⟨ok1, ok2, ok3, ok4, ok5, ok6⟩ := hok
          obtain ⟨x, rfl⟩ := Int.eq_ofNat_of_zero_le ok1
          obtain ⟨y, rfl⟩ := Int.eq_ofNat_of_zero_le ok3
          have hxN : x < N := by omega
          have hyN : y < N := by omega
          have HS : Hid (sed max (fun c => c) es (st no stay) (k + 1) = upt (sed max (fun c => c) es (st no stay) k) x y (max (sed max (fun c => c) es (st no stay) k x y) c)) := by
            unfold Hid; rw [sed_next, HPE.out]; simp
          obtain ⟨TK, hTK⟩ : ∃ TK, sed max (fun c => c) es (st no stay) k = TK := ⟨_, rfl⟩
          rw [hTK] at HS TR
          clear hTK HPE
          have B7 : Hid (Below W1.heap.size W1 (wr.alloc (.cells #[.int .i64 x, .int .i64 y, .int .i64 c] 50))) := balloc BR.out _
          have T7 : Hid _ := TR.out.below (balloc (Below.refl _ _) (.cells #[.int .i64 x, .int .i64 y, .int .i64 c] 50))
          obtain ⟨y0, y1, y2⟩ := box3_new wr x y (.int .i64 c) 50
          have GY : Hid (Gs x < wr.heap.size) := (TR.out.row x hxN).lt
          go_wp2_with fail
          clear e0 e1 e2
          generalize wr.alloc (.cells #[.int .i64 x, .int .i64 y, .int .i64 c] 50) = W7 at *
          obtain ⟨Y, hY⟩ : ∃ Y, wr.heap.size = Y := ⟨_, rfl⟩
          rw [hY] at y0 y1 y2 GY ⊢
          clear hY
          obtain ⟨m0, m1, m2, m3, m4⟩ := (M1.out.below B7.out).cell
          have hd := T7.out.head x hxN
          obtain ⟨t0, t1⟩ := (T7.out.row x hxN).cell y hyN
          obtain ⟨z, hz⟩ : ∃ z, TK x y = z := ⟨_, rfl⟩
          rw [hz] at t0
          rw [hz] at HS
          clear hz
          refine wp_region_last_lit 25 rfl (by kernel_rfl) (by kernel_rfl) ?_
          simp only [List.take_succ_cons, List.take_zero]
          repeat (quiet_step (first
            | (go_at_call 47; exact Calls.quiet_of_same (fsame c _))
            | (go_at_call 49; exact Calls.quiet_of_same (fgreater z c _))))
          refine wpQuiet_nil ?_
          intro w9 hw9
          obtain ⟨nq, rfl⟩ := hw9
          have T9 : Hid _ := T7.out.below (bdrewN (Below.refl _ _) nq)
          have B9 : Hid (Below W1.heap.size W1 (W7.drewN nq)) := bdrewN B7.out nq
          obtain ⟨q0, q1⟩ := (T9.out.row x hxN).cell y hyN
          refine wpOp_step rfl (fun K hK => ?_)
          go_simp
          refine hK _ _ ?_
          clear hK K
          go_wp2_with fail
          go_roundw
          case rel =>
            refine ⟨k + 1, by go_num, by omega, ?_, ?_⟩
            · rw [HS.out]; exact T9.out.put x y hxN (max z c)
            · exact Below.setCell B9.out (GL.out x hxN) _
          case measure => simp [intOf]; omega
        · obtain rfl : k = es.length := by omega
          go_wp2_with fail
          go_ret
          exact ⟨_, _, rfl, TR.out, fun i hi => by have := GL.out i hi; have := B1.out.size; omega, bthen B1.out BR.out⟩
end Go.Proofs.Ytdgihpegdcoilaa
namespace Go.Proofs.Ytdgihpegdcoilaa
open Go.RowKit
open Nm Wm Dm Bm Fm Fl
attribute [local go_sem ↓] Go.wp_at_zero Go.wp_at_succ

theorem rg_wide0 {N : Nat} {es : List E} (hb : Rnt N es) : ∀ u v, Rg (wide0 es u v) := by
  refine sed_all rg_max (fun e he => ?_) (fun a b => ?_) es.length (Nat.le_refl _)
  · have := hb.nat he
    have hF : far = 1099511627776 := rfl
    unfold Rg; omega
  · unfold st Rg
    split <;> decide
theorem rg_allw {N : Nat} {es : List E} (hb : Rnt N es) (k : Nat) : ∀ u v, Rg (allf max min N (wide0 es) k u v) := allf_all rg_mm N (rg_wide0 hb) k

set_option maxRecDepth 100000 in
set_option maxHeartbeats 8000000 in
theorem between_net_max (n : Int) (v : Value) (es : List E) (w : World) (hv : SlE w v es) (HL : es.length ≤ 9223372036854775807) (hc : nck n es ≠ 0) :
    Calls Try.prog 46 #[.agg #[.int .i64 n, v], .agg #[.int .i64 (-1099511627776), .int .i64 1099511627776, .func (.func 47) #[] #[], .func (.func 48) #[] #[], .func (.func 49) #[] #[]]] w fun e w' => e = .returned (.tuple #[.slice none 0 0, .int .i64 (nck n es)]) ∧ Below w.heap.size w w' := by
  obtain ⟨a0, c0, rfl⟩ := hv.val
  have HV : Hid _ := hv
  have hz : (nck n es != 0) = true := by simp [hc]
  clear hv hc
  go_enter Try.func46, Try.ntmps46
  go_wp2_with fail
  have P0 : Hid _ := box2_new w n (.slice a0 es.length c0) 35
  have B0 : Hid (Below w.heap.size w (w.alloc (.cells #[.int .i64 n, .slice a0 es.length c0] 35))) := balloc (Below.refl _ _) _
  have hz0 : (w.alloc (.cells #[.int .i64 n, .slice a0 es.length c0] 35)).heap.size = w.heap.size + 1 := by simp
  generalize w.alloc (.cells #[.int .i64 n, .slice a0 es.length c0] 35) = W0 at *
  have M1 : Hid _ := bm5_i W0 (.int .i64 (-1099511627776)) (.int .i64 1099511627776) (.func (.func 47) #[] #[]) (.func (.func 48) #[] #[]) (.func (.func 49) #[] #[])
  have P1 : Hid _ := P0.out.below (balloc (Below.refl _ _) (.cells #[.int .i64 (-1099511627776), .int .i64 1099511627776, .func (.func 47) #[] #[], .func (.func 48) #[] #[], .func (.func 49) #[] #[]] 77))
  have B1 : Hid (Below w.heap.size w (W0.alloc (.cells #[.int .i64 (-1099511627776), .int .i64 1099511627776, .func (.func 47) #[] #[], .func (.func 48) #[] #[], .func (.func 49) #[] #[]] 77))) := balloc B0.out _
  rw [hz0] at M1
  clear hz0 P0 B0
  generalize W0.alloc (.cells #[.int .i64 (-1099511627776), .int .i64 1099511627776, .func (.func 47) #[] #[], .func (.func 48) #[] #[], .func (.func 49) #[] #[]] 77) = W1 at *
  refine (ncheck_any n _ es W1 (HV.out.below B1.out) HL).mono ?_
  rintro e w2 ⟨rfl, b2⟩
  have B2 : Hid (Below w.heap.size w w2) := bthen B1.out b2
  clear b2
  go_wp2_with fail
  go_ret2
  exact ⟨rfl, B2.out⟩
set_option maxRecDepth 100000 in
set_option maxHeartbeats 8000000 in
theorem between_max (N : Nat) (v : Value) (es : List E) (w : World) (hv : SlE w v es) (hb : Rnt N es) :
    Calls Try.prog 46 #[.agg #[.int .i64 N, v], .agg #[.int .i64 (-1099511627776), .int .i64 1099511627776, .func (.func 47) #[] #[], .func (.func 48) #[] #[], .func (.func 49) #[] #[]]] w fun e w' => ∃ R Gs, e = .returned (.tuple #[.slice (some ⟨R, 0, none⟩) N N, .int .i64 0]) ∧ Ti w' R N N Gs (allf max min N (wide0 es) N) ∧ Below w.heap.size w w' := by
  obtain ⟨a0, c0, rfl⟩ := hv.val
  have HV : Hid _ := hv
  have HB : Hid _ := hb
  have HC : Hid _ := hb.nck
  have hn64 := hb.n64
  have hlen := hb.len
  clear hv hb
  go_enter Try.func46, Try.ntmps46
  go_wp2_with fail
  have P0 : Hid _ := box2_new w (N : Int) (.slice a0 es.length c0) 35
  have B0 : Hid (Below w.heap.size w (w.alloc (.cells #[.int .i64 N, .slice a0 es.length c0] 35))) := balloc (Below.refl _ _) _
  have hz0 : (w.alloc (.cells #[.int .i64 N, .slice a0 es.length c0] 35)).heap.size = w.heap.size + 1 := by simp
  generalize w.alloc (.cells #[.int .i64 N, .slice a0 es.length c0] 35) = W0 at *
  have M1 : Hid _ := bm5_i W0 (.int .i64 (-1099511627776)) (.int .i64 1099511627776) (.func (.func 47) #[] #[]) (.func (.func 48) #[] #[]) (.func (.func 49) #[] #[])
  have P1 : Hid _ := P0.out.below (balloc (Below.refl _ _) (.cells #[.int .i64 (-1099511627776), .int .i64 1099511627776, .func (.func 47) #[] #[], .func (.func 48) #[] #[], .func (.func 49) #[] #[]] 77))
  have B1 : Hid (Below w.heap.size w (W0.alloc (.cells #[.int .i64 (-1099511627776), .int .i64 1099511627776, .func (.func 47) #[] #[], .func (.func 48) #[] #[], .func (.func 49) #[] #[]] 77))) := balloc B0.out _
  rw [hz0] at M1
  clear hz0 P0 B0
  generalize W0.alloc (.cells #[.int .i64 (-1099511627776), .int .i64 1099511627776, .func (.func 47) #[] #[], .func (.func 48) #[] #[], .func (.func 49) #[] #[]] 77) = W1 at *
  refine (ncheck_any N _ es W1 (HV.out.below B1.out) (by omega)).mono ?_
  rintro e w2 ⟨rfl, b2⟩
  rw [HC.out]
  have P2 : Hid _ := P1.out.below b2
  have M2 : Hid _ := M1.out.below b2
  have B2 : Hid (Below w.heap.size w w2) := bthen B1.out b2
  clear b2 P1 M1 B1
  obtain ⟨p0, p1⟩ := P2.out
  obtain ⟨m0, m1, m2, m3, m4⟩ := M2.out.cell
  go_wp2_with fail
  clear p0 p1 m0 m1 m2 m3 m4
  refine (straight_max N 48 _ _ _ es w2 (HV.out.below B2.out) HB.out).mono ?_
  rintro e w3 ⟨R, Gs, rfl, t3, hgl, b3⟩
  have T3 : Hid _ := t3
  have M3 : Hid _ := M2.out.below b3
  have GL : Hid (∀ i, i < N → w.heap.size ≤ Gs i) := fun i hi => Nat.le_trans B2.out.size (hgl i hi)
  have B3 : Hid (Below w.heap.size w w3) := bthen B2.out b3
  have MX : Hid (∀ i, i < N → w.heap.size + 1 < Gs i) := fun i hi => Nat.lt_of_lt_of_le M2.out.lt (hgl i hi)
  clear t3 b3 hgl M2 P2 B2
  go_wp2_with fail
  have M3L : Hid (w.heap.size + 1 < w3.heap.size) := M3.out.lt
  go_loopw [22] (fun z wr => ∃ k : Nat, z = .int .i64 k ∧ k ≤ N ∧ Ti wr R N N Gs (allf max min N (wide0 es) k) ∧ Bm5 wr (w.heap.size + 1) (.int .i64 (-1099511627776)) (.int .i64 1099511627776) (.func (.func 47) #[] #[]) (.func (.func 48) #[] #[]) (.func (.func 49) #[] #[]) ∧ Below w.heap.size w wr) (fun z _ => N - (intOf z).toNat)
  case atStart => exact ⟨0, rfl, Nat.zero_le _, T3.out, M3.out, B3.out⟩
  case round =>
    obtain ⟨k, rfl, hk, ht, hm, hbr⟩ := hrel
    have TR : Hid _ := ht
    have MR : Hid _ := hm
    have BR : Hid (Below w.heap.size w wr) := hbr
    clear ht hm hbr T3 M3 B3
    by_cases hlt : k < N
    · have hki : (k : Int) < (N : Int) := by omega
      have HN1 : Hid (allf max min N (wide0 es) (k + 1) = midf max min N k (allf max min N (wide0 es) k) N) := rfl
      obtain ⟨TK, hTK⟩ : ∃ TK, allf max min N (wide0 es) k = TK := ⟨_, rfl⟩
      have RK : Hid (∀ u v, Rg (TK u v)) := by rw [← hTK]; exact rg_allw HB.out k
      rw [hTK] at HN1 TR
      clear hTK
      go_wp2_with fail
      go_loopw [27] (fun z wr => ∃ i : Nat, z = .int .i64 i ∧ i ≤ N ∧ Ti wr R N N Gs (midf max min N k TK i) ∧ Bm5 wr (w.heap.size + 1) (.int .i64 (-1099511627776)) (.int .i64 1099511627776) (.func (.func 47) #[] #[]) (.func (.func 48) #[] #[]) (.func (.func 49) #[] #[]) ∧ Below w.heap.size w wr) (fun z _ => N - (intOf z).toNat)
      case atStart => exact ⟨0, rfl, Nat.zero_le _, TR.out, MR.out, BR.out⟩
      case round =>
        obtain ⟨i, rfl, hi, ht, hm, hbr⟩ := hrel
        clear TR MR BR
        have TR : Hid _ := ht
        have MR : Hid _ := hm
        have BR : Hid (Below w.heap.size w wr) := hbr
        clear ht hm hbr
        by_cases hil : i < N
        · have hii : (i : Int) < (N : Int) := by omega
          have HN2 : Hid (midf max min N k TK (i + 1) = rowf max min k i (midf max min N k TK i) N) := rfl
          obtain ⟨TI, hTI⟩ : ∃ TI, midf max min N k TK i = TI := ⟨_, rfl⟩
          have RI : Hid (∀ u v, Rg (TI u v)) := by rw [← hTI]; exact midf_all rg_mm N k RK.out i
          rw [hTI] at HN2 TR
          clear hTI
          go_wp2_with fail
          go_loopw [32] (fun z wr => ∃ j : Nat, z = .int .i64 j ∧ j ≤ N ∧ Ti wr R N N Gs (rowf max min k i TI j) ∧ Bm5 wr (w.heap.size + 1) (.int .i64 (-1099511627776)) (.int .i64 1099511627776) (.func (.func 47) #[] #[]) (.func (.func 48) #[] #[]) (.func (.func 49) #[] #[]) ∧ Below w.heap.size w wr) (fun z _ => N - (intOf z).toNat)
          case atStart => exact ⟨0, rfl, Nat.zero_le _, TR.out, MR.out, BR.out⟩
          case round =>
            obtain ⟨j, rfl, hj, ht, hm, hbr⟩ := hrel
            clear TR MR BR
            have TR : Hid _ := ht
            have MR : Hid _ := hm
            have BR : Hid (Below w.heap.size w wr) := hbr
            clear ht hm hbr
            by_cases hjl : j < N
            · have hji : (j : Int) < (N : Int) := by omega
              have HN3 : Hid (rowf max min k i TI (j + 1) = upt (rowf max min k i TI j) i j (max (rowf max min k i TI j i j) (min (rowf max min k i TI j i k) (rowf max min k i TI j k j)))) := rfl
              obtain ⟨TJ, hTJ⟩ : ∃ TJ, rowf max min k i TI j = TJ := ⟨_, rfl⟩
              have RJ : Hid (∀ u v, Rg (TJ u v)) := by rw [← hTJ]; exact rowf_all rg_mm k i RI.out j
              rw [hTJ] at HN3 TR
              clear hTJ
              obtain ⟨m0, m1, m2, m3, m4⟩ := MR.out.cell
              have h1 := TR.out.head i hil
              have h2 := TR.out.head k hlt
              obtain ⟨c1, -⟩ := (TR.out.row i hil).cell k hlt
              obtain ⟨c2, -⟩ := (TR.out.row k hlt).cell j hjl
              obtain ⟨c3, -⟩ := (TR.out.row i hil).cell j hjl
              have RX : Hid (Rg (TJ i k)) := RJ.out i k
              have RY : Hid (Rg (TJ k j)) := RJ.out k j
              generalize TJ i k = x at *
              generalize TJ k j = y at *
              obtain ⟨z, hz⟩ : ∃ z, TJ i j = z := ⟨_, rfl⟩
              have HZ : Hid _ := hz
              rw [hz] at HN3
              clear hz c3
              go_wp2_with fail
              go_quiet (first
                | (go_at_call 48; exact Calls.quiet_of_same (flesser x y _)))
              go_wp2_with fail
              have T8 : Hid _ := TR.out.below (bdrewN (Below.refl _ _) nq)
              have M8 : Hid _ := MR.out.below (bdrewN (Below.refl _ _) nq)
              have B8 : Hid (Below w.heap.size w (wr.drewN nq)) := bdrewN BR.out nq
              clear m0 m1 m2 m3 m4 h1 h2 c1 c2
              generalize wr.drewN nq = W8 at *
              obtain ⟨m0, m1, m2, m3, m4⟩ := M8.out.cell
              have h1 := T8.out.head i hil
              obtain ⟨c3, -⟩ := (T8.out.row i hil).cell j hjl
              rw [HZ.out] at c3
              refine wp_region_last_lit 17 rfl (by kernel_rfl) (by kernel_rfl) ?_
              simp only [List.take_succ_cons, List.take_zero]
              repeat (quiet_step (first
                | (go_at_call 49; exact Calls.quiet_of_same (fgreater z (min x y) _))))
              refine wpQuiet_nil ?_
              intro w9 hw9
              obtain ⟨np, rfl⟩ := hw9
              have T9 : Hid _ := T8.out.below (bdrewN (Below.refl _ _) np)
              have M9 : Hid _ := M8.out.below (bdrewN (Below.refl _ _) np)
              have B9 : Hid (Below w.heap.size w (W8.drewN np)) := bdrewN B8.out np
              obtain ⟨q0, q1⟩ := (T9.out.row i hil).cell j hjl
              have GM : Hid (w.heap.size + 1 ≠ Gs i) := fun e => by have := MX.out i hil; omega
              refine wpOp_step rfl (fun K hK => ?_)
              go_simp
              refine hK _ _ ?_
              clear hK K
              go_wp2_with fail
              go_roundw
              case rel =>
                refine ⟨j + 1, by go_num, by omega, ?_, ?_, ?_⟩
                · rw [HN3.out]; exact T9.out.put i j hil (max z (min x y))
                · exact M9.out.frame (Below.heap_setCell _ _ _ _ GM.out)
                · exact Below.setCell B9.out (GL.out i hil) _
              case measure => simp [intOf]; omega
            · obtain rfl : j = N := by omega
              go_wp2_with fail
              go_roundw
              case rel => exact ⟨i + 1, by go_num, by omega, by rw [HN2.out]; exact TR.out, MR.out, BR.out⟩
              case measure => simp [intOf]; omega
        · obtain rfl : i = N := by omega
          go_wp2_with fail
          go_roundw
          case rel => exact ⟨k + 1, by go_num, by omega, by rw [HN1.out]; exact TR.out, MR.out, BR.out⟩
          case measure => simp [intOf]; omega
    · obtain rfl : k = N := by omega
      go_wp2_with fail
      go_ret2
      exact ⟨_, _, rfl, TR.out, BR.out⟩
end Go.Proofs.Ytdgihpegdcoilaa
namespace Go.Proofs.Ytdgihpegdcoilaa
open Go.RowKit
open Nm Wm Dm Bm Fm Fl
attribute [local go_sem ↓] Go.wp_at_zero Go.wp_at_succ

set_option maxRecDepth 100000 in
set_option maxHeartbeats 8000000 in
theorem fwide_net (n : Int) (v : Value) (es : List E) (w : World) (hv : SlE w v es) (hlen : es.length ≤ 9223372036854775807) (hc : nck n es ≠ 0) :
    Calls Try.prog 31 #[.agg #[.int .i64 n, v]] w fun e w' => e = .returned (.tuple #[.slice none 0 0, .int .i64 (nck n es)]) ∧ Below w.heap.size w w' := by
  obtain ⟨a0, c0, rfl⟩ := hv.val
  have HV : Hid _ := hv
  have HC : Hid _ := hc
  clear hv hc
  go_enter Try.func31, Try.ntmps31
  go_wp2_with fail
  have B0 : Hid (Below w.heap.size w (w.alloc (.cells #[.int .i64 n, .slice a0 es.length c0] 35))) := balloc (Below.refl _ _) _
  generalize w.alloc (.cells #[.int .i64 n, .slice a0 es.length c0] 35) = W0 at *
  refine (between_net_max n _ es W0 (HV.out.below B0.out) hlen HC.out).mono ?_
  rintro e w1 ⟨rfl, b1⟩
  have B1 : Hid (Below w.heap.size w w1) := bthen B0.out b1
  clear b1 B0
  go_wp2_with fail
  go_ret2
  exact ⟨rfl, B1.out⟩
set_option maxRecDepth 100000 in
set_option maxHeartbeats 8000000 in
theorem fwide_yes (N : Nat) (v : Value) (es : List E) (w : World) (hv : SlE w v es) (hb : Rnt N es) :
    Calls Try.prog 31 #[.agg #[.int .i64 N, v]] w fun e w' => ∃ R Gs, e = .returned (.tuple #[.slice (some ⟨R, 0, none⟩) N N, .int .i64 0]) ∧ Ti w' R N N Gs (fww es N) ∧ Below w.heap.size w w' := by
  obtain ⟨a0, c0, rfl⟩ := hv.val
  have HV : Hid _ := hv
  have HB : Hid _ := hb
  clear hv hb
  go_enter Try.func31, Try.ntmps31
  go_wp2_with fail
  have B0 : Hid (Below w.heap.size w (w.alloc (.cells #[.int .i64 N, .slice a0 es.length c0] 35))) := balloc (Below.refl _ _) _
  generalize w.alloc (.cells #[.int .i64 N, .slice a0 es.length c0] 35) = W0 at *
  refine (between_max N _ es W0 (HV.out.below B0.out) HB.out).mono ?_
  rintro e w1 ⟨R, Gs, rfl, t1, b1⟩
  have T1 : Hid _ := t1
  have B1 : Hid (Below w.heap.size w w1) := bthen B0.out b1
  clear b1 B0 t1
  go_wp2_with fail
  go_ret2
  exact ⟨_, _, rfl, T1.out.congr (fun i j hi hj => allf_max hi hj), B1.out⟩
end Go.Proofs.Ytdgihpegdcoilaa
