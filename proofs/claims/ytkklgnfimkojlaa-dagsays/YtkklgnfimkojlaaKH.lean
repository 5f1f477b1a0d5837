/-
  Contracts: what comes next, what comes in all, by the document's looking again (question 45).
-/
import Derived.Test.YtkklgnfimkojlaaKE
import Derived.Test.YtkklgnfimkojlaaKF
import Derived.Deep.LoopGhost
namespace Go.Proofs.Ytkklgnfimkojlaa.O45
open Go.RowKit
open Nm Wm Dm Bm Fm Km
attribute [local go_sem ↓] Go.wp_at_zero Go.wp_at_succ

structure Asks (w : World) (B N : Nat) (ld : Nat → Nat → Bool) : Prop where
  ask : ∀ w', Below w.heap.size w w' → ∀ a b : Nat, a < N → b < N → Calls Try.prog 45 #[.int .i64 ((a : Nat) : Int), .int .i64 ((b : Nat) : Int), .pointer (some ⟨B, 0, none⟩)] w' fun e w2 => e = .returned (.bool (ld a b)) ∧ Below w'.heap.size w' w2
theorem Asks.below {w w' : World} {B N : Nat} {ld : Nat → Nat → Bool} (h : Asks w B N ld) (hb : Below w.heap.size w w') : Asks w' B N ld :=
  ⟨fun w2 h2 => h.ask w2 (bthen hb h2)⟩
set_option maxRecDepth 100000 in
set_option maxHeartbeats 8000000 in
theorem ask61 (B N a b LB X : Nat) (ld : Nat → Nat → Bool) (w : World) (h : Asks w B N ld) (ha : a < N) (hb : b < N) (h1 : w.cell? ⟨LB, 0, none⟩ = some (.func (.func 45) #[] #[.pointer (some ⟨B, 0, none⟩)])) (h2 : w.cell? ⟨X, 0, none⟩ = some (.int .i64 ((b : Nat) : Int))) :
    Calls Try.prog 61 #[.int .i64 ((a : Nat) : Int), .pointer (some ⟨LB, 0, none⟩), .pointer (some ⟨X, 0, none⟩)] w fun e w' => e = .returned (.bool (ld a b)) ∧ Below w.heap.size w w' := by
  have HA : Hid _ := h
  clear h
  go_enter Try.func61, Try.ntmps61
  go_wp2_with fail
  refine (HA.out.ask w (Below.refl _ _) a b ha hb).mono ?_
  rintro e w1 ⟨rfl, b1⟩
  have B1 : Hid _ := b1
  clear b1
  go_wp2_with fail
  go_ret
  exact ⟨rfl, B1.out⟩
theorem anyn_next {p : Nat → Bool} {l : List Nat} {k : Nat} (h : k < l.length) : (l.take (k + 1)).any p = ((l.take k).any p || p l[k]) := by
  rw [List.take_add_one, List.getElem?_eq_getElem h, List.any_append]; simp
set_option maxRecDepth 100000 in
set_option maxHeartbeats 8000000 in
theorem idx61 (B N b LB X : Nat) (v : Value) (l : List Nat) (ld : Nat → Nat → Bool) (w : World) (hv : SlI w v (ints l)) (hlN : ∀ x ∈ l, x < N) (hlen : l.length ≤ 64) (h : Asks w B N ld) (hb : b < N) (h1 : w.cell? ⟨LB, 0, none⟩ = some (.func (.func 45) #[] #[.pointer (some ⟨B, 0, none⟩)])) (h2 : w.cell? ⟨X, 0, none⟩ = some (.int .i64 ((b : Nat) : Int))) :
    Calls Try.prog 58 #[v, .func (.func 61) #[] #[.pointer (some ⟨LB, 0, none⟩), .pointer (some ⟨X, 0, none⟩)]] w fun e w' => (∃ z : Int, e = .returned (.int .i64 z) ∧ -1 ≤ z ∧ z ≤ 64 ∧ decide (0 ≤ z) = l.any (fun a => ld a b)) ∧ Below w.heap.size w w' := by
  obtain ⟨a0, c0, rfl⟩ := hv.val
  rw [ints_length] at hv ⊢
  have HV : Hid _ := hv
  have HA : Hid _ := h
  have HL : Hid _ := hlN
  have HLB : Hid _ := h1
  have HX : Hid _ := h2
  clear hv h hlN h1 h2
  go_enter Try.func58, Try.ntmps58
  go_wp2_with fail
  go_loopw [8] (fun z wr => ∃ k : Nat, z = .int .i64 k ∧ k ≤ l.length ∧ (l.take k).any (fun a => ld a b) = false ∧ Below w.heap.size w wr) (fun z _ => l.length - (intOf z).toNat)
  case atStart => exact ⟨0, rfl, Nat.zero_le _, rfl, Below.refl _ _⟩
  case round =>
    obtain ⟨k, rfl, hk, he, hb'⟩ := hrel
    have HE : Hid _ := he
    have BW : Hid (Below w.heap.size w wr) := hb'
    clear he hb'
    by_cases hlt : k < l.length
    · have hki : (k : Int) < (l.length : Int) := by omega
      obtain ⟨b0, off, cap, hveq, hcl⟩ := (HV.out.below BW.out).some' (by rw [ints_length]; omega)
      rw [ints_length] at hveq hcl
      simp only [Value.slice.injEq] at hveq
      obtain ⟨rfl, -, rfl⟩ := hveq
      have d0 := hcl k hlt
      rw [ints_at hlt] at d0
      have HN : Hid _ := anyn_next (p := fun a => ld a b) hlt
      have hxN := HL.out _ (List.getElem_mem hlt)
      have hmem : l[k] ∈ l := List.getElem_mem hlt
      obtain ⟨a, ha⟩ : ∃ a, l[k] = a := ⟨_, rfl⟩
      rw [ha] at d0 HN hxN hmem
      have HM : Hid _ := hmem
      clear ha hmem hcl
      go_wp2_with fail
      refine (ask61 B N a b LB X ld wr (HA.out.below BW.out) hxN hb (kept BW.out HLB.out) (kept BW.out HX.out)).mono ?_
      rintro e w2 ⟨rfl, b2⟩
      have BX : Hid (Below w.heap.size w w2) := bthen BW.out b2
      clear b2
      cases hq : ld a b with
      | true =>
        have HQ : Hid (l.any (fun a => ld a b) = true) := by unfold Hid; rw [List.any_eq_true]; exact ⟨_, HM.out, hq⟩
        clear hq
        go_wp2_with fail
        go_ret
        exact ⟨⟨k, rfl, by omega, by omega, by rw [HQ.out]; exact decide_eq_true (by omega)⟩, BX.out⟩
      | false =>
        rw [HE.out, hq] at HN
        clear hq
        go_wp2_with fail
        go_roundw
        case rel => exact ⟨k + 1, by go_num, by omega, by simpa using HN.out, BX.out⟩
        case measure => simp [intOf]; omega
    · obtain rfl : k = l.length := by omega
      rw [List.take_length] at HE
      go_wp2_with fail
      go_ret
      exact ⟨⟨-1, rfl, by omega, by omega, by rw [HE.out]; rfl⟩, BW.out⟩
set_option maxRecDepth 100000 in
set_option maxHeartbeats 8000000 in
theorem con61 (B N b LB X : Nat) (v : Value) (l : List Nat) (ld : Nat → Nat → Bool) (w : World) (hv : SlI w v (ints l)) (hlN : ∀ x ∈ l, x < N) (hlen : l.length ≤ 64) (h : Asks w B N ld) (hb : b < N) (h1 : w.cell? ⟨LB, 0, none⟩ = some (.func (.func 45) #[] #[.pointer (some ⟨B, 0, none⟩)])) (h2 : w.cell? ⟨X, 0, none⟩ = some (.int .i64 ((b : Nat) : Int))) :
    Calls Try.prog 60 #[v, .func (.func 61) #[] #[.pointer (some ⟨LB, 0, none⟩), .pointer (some ⟨X, 0, none⟩)]] w fun e w' => e = .returned (.bool (l.any (fun a => ld a b))) ∧ Below w.heap.size w w' := by
  obtain ⟨a0, c0, rfl⟩ := hv.val
  have HI : Hid _ := fun (_ : Unit) => idx61 B N b LB X _ l ld w hv hlN hlen h hb h1 h2
  clear hv h hlN h1 h2
  go_enter Try.func60, Try.ntmps60
  go_wp2_with fail
  refine (HI.out ()).mono ?_
  rintro e w1 ⟨⟨z, rfl, hz1, hz2, hz⟩, b1⟩
  have HB : Hid _ := b1
  have HZ : Hid _ := hz
  clear b1 hz
  go_wp2_with fail
  go_ret
  exact ⟨ret_bool HZ.out, HB.out⟩
theorem not_any (l : List Nat) (p : Nat → Bool) : l.all (fun a => !p a) = !l.any p := by
  induction l with
  | nil => rfl
  | cons x l ih => simp [ih]
set_option maxRecDepth 100000 in
set_option maxHeartbeats 8000000 in
theorem ask59 (B N b LB CL : Nat) (v : Value) (l : List Nat) (ld : Nat → Nat → Bool) (w : World) (hv : SlI w v (ints l)) (hlN : ∀ x ∈ l, x < N) (hlen : l.length ≤ 64) (h : Asks w B N ld) (hb : b < N) (h0 : w.cell? ⟨CL, 0, none⟩ = some v) (h1 : w.cell? ⟨LB, 0, none⟩ = some (.func (.func 45) #[] #[.pointer (some ⟨B, 0, none⟩)])) :
    Calls Try.prog 59 #[.int .i64 ((b : Nat) : Int), .pointer (some ⟨CL, 0, none⟩), .pointer (some ⟨LB, 0, none⟩)] w fun e w' => e = .returned (.bool (l.all (fun a => !ld a b))) ∧ Below w.heap.size w w' := by
  have HV : Hid _ := hv
  have HA : Hid _ := h
  have HL : Hid _ := hlN
  have HLB : Hid _ := h1
  have B0 : Hid (Below w.heap.size w (w.alloc (.cells #[.int .i64 ((b : Nat) : Int)] 3))) := balloc (Below.refl _ _) _
  have c0 := kept B0.out h0
  have X0 : Hid ((w.alloc (.cells #[.int .i64 ((b : Nat) : Int)] 3)).cell? ⟨w.heap.size, 0, none⟩ = some (.int .i64 ((b : Nat) : Int))) := cell_new w _ _ 0 _ rfl
  clear hv h hlN h1 h0
  rw [not_any]
  obtain ⟨q, hq⟩ : ∃ q, l.any (fun a => ld a b) = q := ⟨_, rfl⟩
  rw [hq]
  have HQ : Hid _ := hq
  clear hq
  go_enter Try.func59, Try.ntmps59
  go_wp2_with fail
  refine (con61 B N b LB w.heap.size v l ld _ (HV.out.below B0.out) HL.out hlen (HA.out.below B0.out) hb (kept B0.out HLB.out) X0.out).mono ?_
  rintro e w1 ⟨rfl, b1⟩
  rw [HQ.out]
  have B1 : Hid _ := bthen B0.out b1
  clear b1
  go_wp2_with fail
  go_ret
  exact ⟨rfl, B1.out⟩
/-- The first that is so. -/
theorem nxt_at {ld : Nat → Nat → Bool} {l : List Nat} {k : Nat} (hk : k < l.length) (hno : ∀ j (h : j < l.length), j < k → l.all (fun a => !ld a l[j]) = false) (hy : l.all (fun a => !ld a l[k]) = true) : nxt ld l = some l[k] ∧ l.take k ++ l.drop (k + 1) = l.erase l[k] := by
  constructor
  · unfold nxt
    rw [List.find?_eq_some_iff_getElem]
    exact ⟨hy, k, hk, rfl, fun j hj => by have := hno j (by omega) hj; simpa using this⟩
  · have key : ∀ (m : List Nat) (i : Nat) (hi : i < m.length), (∀ j (h : j < m.length), j < i → m[j] ≠ m[i]) → m.take i ++ m.drop (i + 1) = m.erase m[i] := by
      intro m
      induction m with
      | nil => intro i hi; simp at hi
      | cons x m ih =>
        intro i hi hne
        cases i with
        | zero => simp
        | succ i =>
          have h0 := hne 0 (by simp) (by omega)
          simp only [List.getElem_cons_zero, List.getElem_cons_succ] at h0
          simp only [List.getElem_cons_succ, List.take_succ_cons, List.drop_succ_cons, List.cons_append]
          rw [List.erase_cons_tail (by simpa using h0), ih i (by simpa using hi) (fun j h hj => by
            have := hne (j + 1) (by simpa using h) (by omega)
            simpa using this)]
    refine key l k hk (fun j h hj e => ?_)
    have h1 := hno j h hj
    rw [e, hy] at h1; cases h1
theorem nxt_none {ld : Nat → Nat → Bool} {l : List Nat} (hno : ∀ j (h : j < l.length), l.all (fun a => !ld a l[j]) = false) : nxt ld l = none := by
  unfold nxt
  rw [List.find?_eq_none]
  intro x hx
  obtain ⟨j, hj, rfl⟩ := List.mem_iff_getElem.1 hx
  rw [hno j hj]; simp
set_option maxRecDepth 100000 in
set_option maxHeartbeats 8000000 in
theorem idx59 (B N LB CL : Nat) (v : Value) (l : List Nat) (ld : Nat → Nat → Bool) (w : World) (hv : SlI w v (ints l)) (hlN : ∀ x ∈ l, x < N) (hlen : l.length ≤ 64) (h : Asks w B N ld) (h0 : w.cell? ⟨CL, 0, none⟩ = some v) (h1 : w.cell? ⟨LB, 0, none⟩ = some (.func (.func 45) #[] #[.pointer (some ⟨B, 0, none⟩)])) :
    Calls Try.prog 58 #[v, .func (.func 59) #[] #[.pointer (some ⟨CL, 0, none⟩), .pointer (some ⟨LB, 0, none⟩)]] w fun e w' => ((e = .returned (.int .i64 (-1)) ∧ nxt ld l = none) ∨ ∃ (k : Nat) (hk : k < l.length), e = .returned (.int .i64 k) ∧ nxt ld l = some l[k] ∧ l.take k ++ l.drop (k + 1) = l.erase l[k]) ∧ Below w.heap.size w w' := by
  obtain ⟨a0, c0, rfl⟩ := hv.val
  rw [ints_length] at hv h0 ⊢
  have HV : Hid _ := hv
  have HA : Hid _ := h
  have HL : Hid _ := hlN
  have HLB : Hid _ := h1
  have HC : Hid _ := h0
  clear hv h hlN h1 h0
  go_enter Try.func58, Try.ntmps58
  go_wp2_with fail
  go_loopw [8] (fun z wr => ∃ k : Nat, z = .int .i64 k ∧ k ≤ l.length ∧ (∀ j (h : j < l.length), j < k → l.all (fun a => !ld a l[j]) = false) ∧ Below w.heap.size w wr) (fun z _ => l.length - (intOf z).toNat)
  case atStart => exact ⟨0, rfl, Nat.zero_le _, fun j h hj => absurd hj (by omega), Below.refl _ _⟩
  case round =>
    obtain ⟨k, rfl, hk, he, hb'⟩ := hrel
    have HE : Hid _ := he
    have BW : Hid (Below w.heap.size w wr) := hb'
    clear he hb'
    by_cases hlt : k < l.length
    · have hki : (k : Int) < (l.length : Int) := by omega
      have HVW : Hid _ := HV.out.below BW.out
      have HCW : Hid _ := kept BW.out HC.out
      obtain ⟨b0, off, cap, hveq, hcl⟩ := HVW.out.some' (by rw [ints_length]; omega)
      rw [ints_length] at hveq hcl
      simp only [Value.slice.injEq] at hveq
      obtain ⟨rfl, -, rfl⟩ := hveq
      have d0 := hcl k hlt
      rw [ints_at hlt] at d0
      have hxN := HL.out _ (List.getElem_mem hlt)
      obtain ⟨b, hb⟩ : ∃ b, l[k] = b := ⟨_, rfl⟩
      rw [hb] at d0 hxN
      have HBE : Hid _ := hb
      clear hb hcl
      go_wp2_with fail
      refine (ask59 B N b LB CL _ l ld wr HVW.out HL.out hlen (HA.out.below BW.out) hxN HCW.out (kept BW.out HLB.out)).mono ?_
      rintro e w2 ⟨rfl, b2⟩
      have BX : Hid (Below w.heap.size w w2) := bthen BW.out b2
      clear b2
      cases hq : l.all (fun a => !ld a b) with
      | true =>
        have HQ : Hid _ := nxt_at (ld := ld) hlt HE.out (by rw [HBE.out]; exact hq)
        clear hq
        go_wp2_with fail
        go_ret
        exact ⟨.inr ⟨k, hlt, rfl, HQ.out⟩, BX.out⟩
      | false =>
        have HQ : Hid _ := hq
        clear hq
        go_wp2_with fail
        go_roundw
        case rel =>
          refine ⟨k + 1, by go_num, by omega, fun j h hj => ?_, BX.out⟩
          rcases (show j < k ∨ j = k by omega) with h2 | rfl
          · exact HE.out j h h2
          · rw [HBE.out]; exact HQ.out
        case measure => simp [intOf]; omega
    · have HQ : Hid _ := nxt_none (ld := ld) (fun j h => HE.out j h (by omega))
      go_wp2_with fail
      go_ret
      exact ⟨.inl ⟨rfl, HQ.out⟩, BW.out⟩
/-- What can be read, in another block than CL and than what has come. -/
structure Rdl (CL : Nat) (ov : Value) (wr : World) (v : Value) (cs : List Int) : Prop where
  sl : SlI wr v cs
  ne : 0 < cs.length → ∀ b off c, v = .slice (some ⟨b, off, none⟩) cs.length c → b ≠ CL ∧ ov.ownBlock ≠ some b
theorem Rdl.go {CL : Nat} {ov ov' : Value} {wr w' : World} {v : Value} {cs : List Int} (h : Rdl CL ov wr v cs) (hb : ∀ k, k < wr.heap.size → k ≠ CL → ov.ownBlock ≠ some k → w'.heap[k]? = wr.heap[k]?) (ho : ∀ k, k < wr.heap.size → ov.ownBlock ≠ some k → ov'.ownBlock ≠ some k) : Rdl CL ov' w' v cs := by
  rcases h.sl.is with ⟨a, c, h1, h2⟩ | ⟨b, off, cap, h1, h2, h3⟩
  · exact ⟨.no a c h1 h2, fun hl => by rw [h2] at hl; simp at hl⟩
  · by_cases hl : 0 < cs.length
    · obtain ⟨n1, n2⟩ := h.ne hl b off cap h1
      have lb : b < wr.heap.size := World.block_lt_of_cell? wr ⟨b, off + 0, none⟩ (h2 0 hl)
      refine ⟨.row b off cap h1 (fun i hi => ?_) h3, fun _ b' off' c' e => ?_⟩
      · have e := hb b lb n1 n2
        have := h2 i hi
        unfold World.cell? at *
        dsimp only at *
        rw [e]; exact this
      · rw [h1] at e
        simp only [Value.slice.injEq, Option.some.injEq, Addr.mk.injEq] at e
        obtain ⟨⟨rfl, _⟩, _⟩ := e
        exact ⟨n1, ho b lb n2⟩
    · have : cs = [] := List.length_eq_zero_iff.1 (by omega)
      subst this
      exact ⟨.no _ _ h1 rfl, fun hl => by simp at hl⟩
theorem Rdl.below {CL : Nat} {ov : Value} {wr w' : World} {v : Value} {cs : List Int} (h : Rdl CL ov wr v cs) (hb : Below wr.heap.size wr w') : Rdl CL ov w' v cs := h.go (fun k hk _ _ => hb.block k hk) (fun _ _ h => h)
theorem rdl_old {CL : Nat} {w wr : World} {v : Value} {cs : List Int} (h : SlI w v cs) (hC : w.heap.size ≤ CL) (hb : Below w.heap.size w wr) : Rdl CL (.slice none 0 0) wr v cs := by
  refine ⟨h.below hb, fun hl b off c e => ⟨?_, by simp [Value.ownBlock]⟩⟩
  obtain ⟨b', off', c', e', hc⟩ := h.some' hl
  rw [e] at e'
  simp only [Value.slice.injEq, Option.some.injEq, Addr.mk.injEq] at e'
  obtain ⟨⟨rfl, rfl, _⟩, _⟩ := e'
  have := World.block_lt_of_cell? w ⟨b, off + 0, none⟩ (hc 0 hl)
  simp only at this
  omega
theorem rdl_is {CL base : Nat} {wr : World} {ov v : Value} {cs : List Int} (h : Is wr base v cs) (hC : CL < base) (ho : ∀ k, ov.ownBlock = some k → k < base) : Rdl CL ov wr v cs := by
  refine ⟨h.sl, fun hl b off c e => ?_⟩
  rcases h.own.2 with ⟨rfl, h0⟩ | ⟨g, cap, cur, rfl, h1, _⟩
  · omega
  · simp only [Value.slice.injEq, Option.some.injEq, Addr.mk.injEq] at e
    obtain ⟨⟨rfl, _⟩, _⟩ := e
    exact ⟨by omega, fun e => by have := ho _ e; omega⟩
/-- One taken out: what is ahead of it and what is behind, put together. -/
theorem conc_erase (X b0 off o2 k c1 c2 r : Nat) (l : List Nat) (W : World) (hk : k < l.length) (hlen : l.length ≤ 64) (hr : r = l.length - (k + 1)) (ho : 0 < r → o2 = off + (k + 1)) (hc : ∀ i, i < l.length → W.cell? ⟨b0, off + i, none⟩ = some (.int .i64 ((ints l).getD i 0)))
    (x0 : W.cell? ⟨X, 0, none⟩ = some (.slice (some ⟨b0, off, none⟩) k c1)) (x1 : W.cell? ⟨X, 1, none⟩ = some (.slice (some ⟨b0, o2, none⟩) r c2)) :
    Calls Try.prog 62 #[.slice (some ⟨X, 0, none⟩) 2 2] W fun e w' => ∃ a c, e = .returned (.slice a (l.length - 1) c) ∧ Is w' W.heap.size (.slice a (l.length - 1) c) (ints (l.take k ++ l.drop (k + 1))) ∧ Below W.heap.size W w' := by
  have h1 : (ints (l.take k)).length = k := by rw [ints_length, List.length_take]; omega
  have h2 : (ints (l.drop (k + 1))).length = r := by rw [ints_length, List.length_drop]; omega
  by_cases h0 : 0 < k + r
  · have K := concat_any X b0 off c1 b0 o2 c2 (ints (l.take k)) (ints (l.drop (k + 1))) W (by omega) (by omega) (by rw [h1, h2]; exact h0)
      (fun i hi => by
        rw [h1] at hi
        rw [hc i (by omega), ints_at (show i < l.length by omega), ints_at (show i < (l.take k).length by rw [List.length_take]; omega), List.getElem_take])
      (fun i hi => by
        rw [h2] at hi
        have e := hc (k + 1 + i) (by omega)
        rw [ho (by omega), show off + (k + 1) + i = off + (k + 1 + i) by omega, e, ints_at (show k + 1 + i < l.length by omega), ints_at (show i < (l.drop (k + 1)).length by rw [List.length_drop]; omega), List.getElem_drop])
      (by rw [h1]; exact x0) (by rw [h2]; exact x1)
    refine K.mono ?_
    rintro e w' ⟨out, rfl, hi, hb⟩
    have hl : (ints (l.take k) ++ ints (l.drop (k + 1))).length = l.length - 1 := by rw [List.length_append, h1, h2]; omega
    obtain ⟨a, c, rfl⟩ := owns_own hi.own
    rw [hl] at hi ⊢
    exact ⟨a, c, rfl, by rw [ints_append]; exact hi, hb⟩
  · have hk0 : k = 0 := by omega
    have hr0 : r = 0 := by omega
    subst hk0 hr0
    refine (concat_none X b0 off c1 b0 o2 c2 W x0 x1).mono ?_
    rintro e w' ⟨rfl, hb⟩
    have hl1 : l.length - 1 = 0 := by omega
    have hd : l.take 0 ++ l.drop (0 + 1) = [] := by
      apply List.length_eq_zero_iff.1
      rw [List.length_append, List.length_take, List.length_drop]; omega
    rw [hl1, hd]
    exact ⟨none, 0, rfl, Is.nil _ _, hb⟩
set_option maxRecDepth 100000 in
set_option maxHeartbeats 16000000 in
theorem ordered (B N : Nat) (v : Value) (l : List Nat) (ld : Nat → Nat → Bool) (w : World) (hv : SlI w v (ints l)) (hlN : ∀ x ∈ l, x < N) (hlen : l.length ≤ 64) (h : Asks w B N ld) :
    Calls Try.prog 41 #[v, .func (.func 45) #[] #[.pointer (some ⟨B, 0, none⟩)]] w fun e w' => ∃ ov, e = .returned ov ∧ Is w' w.heap.size ov (ints (ord ld l)) ∧ Below w.heap.size w w' := by
  have HV : Hid _ := hv
  have HA : Hid _ := h
  have HL : Hid _ := hlN
  clear hv h hlN
  obtain ⟨va, vc, rfl⟩ := HV.out.val
  rw [ints_length] at HV ⊢
  have B0 : Hid (Below w.heap.size w ((w.alloc (.cells #[.slice va l.length vc] 25)).alloc (.cells #[.func (.func 45) #[] #[.pointer (some ⟨B, 0, none⟩)]] 53))) := balloc (balloc (Below.refl _ _) _) _
  have C0 : Hid (((w.alloc (.cells #[.slice va l.length vc] 25)).alloc (.cells #[.func (.func 45) #[] #[.pointer (some ⟨B, 0, none⟩)]] 53)).heap[w.heap.size]? = some (.cells #[.slice va l.length vc] 25 (0, 0))) := by
    unfold Hid; rw [Below.heap_alloc _ _ _ (by simp)]; exact heap_alloc_new w _
  have L0 : Hid (((w.alloc (.cells #[.slice va l.length vc] 25)).alloc (.cells #[.func (.func 45) #[] #[.pointer (some ⟨B, 0, none⟩)]] 53)).cell? ⟨w.heap.size + 1, 0, none⟩ = some (.func (.func 45) #[] #[.pointer (some ⟨B, 0, none⟩)])) := by
    have e : (w.alloc (.cells #[.slice va l.length vc] 25)).heap.size = w.heap.size + 1 := by simp
    have := cell_new (w.alloc (.cells #[.slice va l.length vc] 25)) #[.func (.func 45) #[] #[.pointer (some ⟨B, 0, none⟩)]] 53 0 _ rfl
    rw [e] at this; exact this
  have Z0 : Hid (w.heap.size + 2 ≤ ((w.alloc (.cells #[.slice va l.length vc] 25)).alloc (.cells #[.func (.func 45) #[] #[.pointer (some ⟨B, 0, none⟩)]] 53)).heap.size) := by unfold Hid; simp
  obtain ⟨TT, hT⟩ : ∃ TT, ord ld l = TT := ⟨_, rfl⟩
  rw [hT]
  have HT : Hid _ := hT
  clear hT
  go_enter Try.func41, Try.ntmps41
  go_wp2_with fail
  generalize (w.alloc (.cells #[.slice va l.length vc] 25)).alloc (.cells #[.func (.func 45) #[] #[.pointer (some ⟨B, 0, none⟩)]] 53) = W0 at *
  have R0 : Hid (Rdl w.heap.size (.slice none 0 0) W0 (.slice va l.length vc) (ints l)) := rdl_old HV.out (Nat.le_refl _) B0.out
  go_loopg [5] l.length (fun gk z wr => ∃ (l' out : List Nat) (ao xa : Option Addr) (co xc : Nat), z = .slice ao (ints out).length co ∧ l'.length ≤ gk ∧ out ++ ord ld l' = TT ∧ (∀ x ∈ l', x < N) ∧ l'.length ≤ 64 ∧ out.length + l'.length ≤ 64 ∧ Is wr (w.heap.size + 2) (.slice ao (ints out).length co) (ints out) ∧ wr.heap[w.heap.size]? = some (.cells #[.slice xa l'.length xc] 25 (0, 0)) ∧ Rdl w.heap.size (.slice ao (ints out).length co) wr (.slice xa l'.length xc) (ints l') ∧ wr.cell? ⟨w.heap.size + 1, 0, none⟩ = some (.func (.func 45) #[] #[.pointer (some ⟨B, 0, none⟩)]) ∧ w.heap.size + 2 ≤ wr.heap.size ∧ Below w.heap.size w wr)
  case atStart => exact ⟨l, [], none, va, 0, vc, rfl, Nat.le_refl _, HT.out, HL.out, hlen, by simpa using hlen, Is.nil _ _, C0.out, R0.out, L0.out, Z0.out, B0.out⟩
  case round =>
    clear C0 L0 Z0 R0 HV HT HL B0 hlen
    obtain ⟨l', out, ao, xa, co, xc, rfl, hgk, htt, hlN, hlen, hol, hi, hcl, hrd, hlb, hz, hbl⟩ := hrel
    have HT : Hid _ := htt
    have HL : Hid _ := hlN
    have IR : Hid _ := hi
    have CR : Hid _ := hcl
    have RR : Hid _ := hrd
    have LR : Hid _ := hlb
    have BR : Hid (Below w.heap.size w wr) := hbl
    have hlo : (ints out).length ≤ 64 := by rw [ints_length]; omega
    clear htt hlN hi hrd hlb hbl hcl
    have x0 : wr.cell? ⟨w.heap.size, 0, none⟩ = some (.slice xa l'.length xc) := by have := CR.out; simp [World.cell?, this]
    by_cases h0 : 0 < l'.length
    · have h0i : (0 : Int) < (l'.length : Int) := by omega
      go_wp2_with fail
      have AW : Hid (Asks wr B N ld) := HA.out.below BR.out
      refine (idx59 B N (w.heap.size + 1) w.heap.size _ l' ld wr RR.out.sl HL.out hlen AW.out x0 LR.out).mono ?_
      rintro e w3 ⟨hor, b3⟩
      have I3 : Hid _ := IR.out.below b3
      have C3 : Hid _ := (b3.block _ (heap_below CR.out)).trans CR.out
      have R3 : Hid _ := RR.out.below b3
      have L3 : Hid _ := kept b3 LR.out
      have Z3 : Hid (w.heap.size + 2 ≤ w3.heap.size) := Nat.le_trans hz b3.size
      have B3 : Hid (Below w.heap.size w w3) := BR.out.trans (b3.mono (by omega))
      clear b3 x0 hz IR CR RR LR BR
      rcases hor with ⟨rfl, hn⟩ | ⟨k, hk, rfl, hn, he⟩
      · have HN : Hid (out = TT) := by have := HT.out; rw [ord_none hn, List.append_nil] at this; exact this
        clear hn
        go_wp2_with fail
        go_ret
        exact ⟨_, rfl, by rw [← HN.out]; exact I3.out.mono (by omega), B3.out⟩
      · have HN : Hid (out ++ [l'[k]] ++ ord ld (l'.erase l'[k]) = TT) := by have := HT.out; rw [ord_some hn] at this; rw [List.append_assoc]; exact this
        have HE : Hid _ := he
        have HEL : Hid ((l'.erase l'[k]).length + 1 = l'.length) := erase_len (nxt_mem hn)
        clear hn he
        have hki : (k : Int) < (l'.length : Int) := by omega
        have hk0 : ¬ ((k : Int) < 0) := by omega
        obtain ⟨b0, off, cap, hveq, hcl, hlc⟩ := R3.out.sl.some2 (by rw [ints_length]; omega)
        rw [ints_length] at hveq hcl hlc
        simp only [Value.slice.injEq] at hveq
        obtain ⟨rfl, -, rfl⟩ := hveq
        have d0 := hcl k hk
        rw [ints_at hk] at d0
        obtain ⟨b, hb⟩ : ∃ b, l'[k] = b := ⟨_, rfl⟩
        rw [hb] at d0 HN HE HEL
        have HBE : Hid _ := hb
        clear hb hcl
        have x0 : w3.cell? ⟨w.heap.size, 0, none⟩ = some (.slice (some ⟨b0, off, none⟩) l'.length xc) := by have := C3.out; simp [World.cell?, this]
        obtain ⟨lo, hl⟩ : ∃ lo, lo = ints out := ⟨_, rfl⟩
        have HLO : Hid _ := hl
        rw [← hl] at hlo I3 ⊢
        clear hl
        have hown := I3.out.own
        obtain ⟨i0, hi0, hy0, hy1, hy2⟩ := info3_parts
        have HNW : Hid _ := heap_alloc_new w3 (.cells #[.int .i64 ((b : Nat) : Int)] 3)
        have hz3 := Z3.out
        go_wp2_with (at_builtin; refine wpList_append_lies _ rfl _ _ _ rfl (w.heap.size + 2) 3 i0 _ 1 8 Try.underlying25 hi0 hy0 hy1 hy2 rfl (by omega) (.slice ao lo.length co) lo.length _ rfl (hown.alloc _) ⟨w3.heap.size, 0, none⟩ 1 1 [.int .i64 ((b : Nat) : Int)] rfl rfl (World.news_of_block (cs := #[.int .i64 ((b : Nat) : Int)]) (t := 3) (fr := (0, 0)) HNW.out) (by simp [Value.oneCell']) (by omega) (by unfold maxLen; omega) (by omega) (by simp; omega) (w3.heap.size + 1) (by simp) ?_; intro gg cap' w7 hown7 hgrow hat hlt7; have FAR : Hid (∀ g, g < w3.heap.size → (Value.slice ao lo.length co).ownBlock ≠ some g → w7.heap[g]? = w3.heap[g]?) := (by exact fun g hg hne => (hgrow.block g (by simp; omega) (fun e => hne e.symm)).trans (Below.heap_alloc _ _ _ hg)); have SZ : Hid (w3.heap.size ≤ w7.heap.size) := (by have := hgrow.size; simp at this; unfold Hid; omega); have OW : Hid (∀ g, (Value.slice ao lo.length co).ownBlock = some g → w.heap.size + 2 ≤ g) := (by exact fun g hg => (ownBlock_lt hown g hg).1); have AT : Hid ((Value.slice ao lo.length co).ownBlock = some gg ∨ w3.heap.size ≤ gg) := (by exact hat.imp_right (fun h => by omega)); have JO : Hid (w7.os = w3.os ∧ w7.tape = w3.tape ∧ w7.output = w3.output) := (by exact ⟨hgrow.os, hgrow.tape, hgrow.output⟩); clear hgrow hat hlt7)
        have I7 : Hid (Is w7 (w.heap.size + 2) (.slice (some ⟨gg, 0, none⟩) (lo.length + 1) cap') (ints (out ++ [b]))) := Is.next (by rw [ints_append, HLO.out]; rfl) rfl hown7
        have R7 : Hid (Rdl w.heap.size (.slice (some ⟨gg, 0, none⟩) (lo.length + 1) cap') w7 (.slice (some ⟨b0, off, none⟩) l'.length xc) (ints l')) := by
          refine R3.out.go (fun x hx h1 h2 => FAR.out x hx (by rw [HLO.out]; exact h2)) (fun x hx h1 e => ?_)
          simp [Value.ownBlock] at e
          subst e
          rcases AT.out with h | h
          · exact h1 (by rw [← HLO.out]; exact h)
          · omega
        have C7 : Hid (w7.heap[w.heap.size]? = some (.cells #[.slice (some ⟨b0, off, none⟩) l'.length xc] 25 (0, 0))) := (FAR.out _ (by omega) (fun e => by have := OW.out _ e; omega)).trans C3.out
        have L7 : Hid (w7.cell? ⟨w.heap.size + 1, 0, none⟩ = some (.func (.func 45) #[] #[.pointer (some ⟨B, 0, none⟩)])) := by
          have h1 := FAR.out (w.heap.size + 1) (by omega) (fun e => by have := OW.out _ e; omega)
          have h2 := L3.out
          unfold Hid World.cell? at *
          dsimp only at *
          rw [h1]; exact h2
        have B7 : Hid (Below w.heap.size w w7) := ⟨JO.out.1.trans B3.out.os, JO.out.2.1.trans B3.out.tape, JO.out.2.2.trans B3.out.output, Nat.le_trans B3.out.size SZ.out, fun x hx => (FAR.out x (by omega) (fun e => by have := OW.out _ e; omega)).trans (B3.out.block x hx)⟩
        have Z7 : Hid (w.heap.size + 2 ≤ w7.heap.size) := Nat.le_trans Z3.out SZ.out
        clear x0 d0 hown hown7 HNW FAR OW AT JO
        have x0 : w7.cell? ⟨w.heap.size, 0, none⟩ = some (.slice (some ⟨b0, off, none⟩) l'.length xc) := by have := C7.out; simp [World.cell?, this]
        have x1 : w7.frozen? ⟨w.heap.size, 0, none⟩ = false := by have := C7.out; simp [World.frozen?, this]
        obtain ⟨m, hm⟩ : ∃ m, m = k + 1 := ⟨_, rfl⟩
        have hmi : (k : Int) + 1 = (m : Int) := by omega
        have hml : (m : Int) ≤ (l'.length : Int) := by omega
        have hlx : (l'.length : Int) ≤ (xc : Int) := by omega
        have hkl : (k : Int) ≤ (l'.length : Int) := by omega
        have hwm : IntKind.i64.wrap (m : Int) = (m : Int) := by rw [IntKind.wrap_i64]; omega
        have hkx : k ≤ xc := by omega
        have hml' : m ≤ l'.length := by omega
        have hkm : k < m := by omega
        have HM : Hid _ := hm
        clear hm
        obtain ⟨r, hr⟩ : ∃ r, r = l'.length - m := ⟨_, rfl⟩
        have HR : Hid _ := hr
        have HKC : Hid (∀ i, i < l'.length → w7.cell? ⟨b0, off + i, none⟩ = some (.int .i64 ((ints l').getD i 0))) := by
          obtain ⟨b0', off', cap2, hveq, hcl, hlc⟩ := R7.out.sl.some2 (by rw [ints_length]; omega)
          rw [ints_length] at hveq hcl
          simp only [Value.slice.injEq, Option.some.injEq, Addr.mk.injEq] at hveq
          obtain ⟨⟨rfl, rfl, _⟩, _⟩ := hveq
          exact hcl
        by_cases hcp : xc = m
        · have hr0 : r = 0 := by omega
          have KW : Hid (Below w7.heap.size w7 (w7.alloc (.cells #[.slice (some ⟨b0, off, none⟩) k xc, .slice (some ⟨b0, off, none⟩) 0 0] 25)).drew) := Below.drew (balloc (Below.refl _ _) _)
          have HCT : Hid _ := fun (_ : Unit) => conc_erase w7.heap.size b0 off off k xc 0 0 l' (w7.alloc (.cells #[.slice (some ⟨b0, off, none⟩) k xc, .slice (some ⟨b0, off, none⟩) 0 0] 25)).drew hk hlen (by have := HM.out; omega) (fun h => by omega) (fun i hi => kept KW.out (HKC.out i hi)) (cell_new w7 _ 25 0 _ rfl) (cell_new w7 _ 25 1 _ rfl)
          subst hcp
          clear hr hr0
          go_region_law (first | (go_simp; go_at_call 62; refine (HCT.out ()).mono ?_; rintro e w8 ⟨a8, c8, rfl, i8, b8⟩; have I8 : Hid _ := i8; have B8 : Hid (Below w7.heap.size w7 w8) := (by exact KW.out.trans (b8.mono (by simp))); have y0 := kept B8.out x0; have y1 : w8.frozen? ⟨w.heap.size, 0, none⟩ = false := (by exact (B8.out.frozen (p := ⟨w.heap.size, 0, none⟩) (by have := Z7.out; show w.heap.size < w7.heap.size; omega)).trans x1); clear i8 b8 x0 x1) | fail)
          all_goals
            have Q8 : Hid (gg < w7.heap.size) := (ownBlock_lt I7.out.own gg rfl).2
            have E8 : Hid ((l'.erase b).length = l'.length - 1) := by have := HEL.out; unfold Hid; omega
            have J8 : Hid (Is w8 w7.heap.size (.slice a8 (l'.length - 1) c8) (ints (l'.erase b))) := by rw [← HE.out]; exact I8.out.mono (by simp)
            have D8 : Hid (Rdl w.heap.size (.slice (some ⟨gg, 0, none⟩) (lo.length + 1) cap') w8 (.slice a8 (l'.length - 1) c8) (ints (l'.erase b))) := rdl_is J8.out (by have := Z7.out; omega) (fun x hx => by simp [Value.ownBlock] at hx; subst hx; exact Q8.out)
            have HEL' := HEL.out
            go_wp2_with fail
            go_roundg (l'.erase b).length
            case measure => omega
            case rel =>
              have hlo2 : (ints (out ++ [b])).length = lo.length + 1 := by rw [ints_append, List.length_append, ← HLO.out]; rfl
              have hol2 : (out ++ [b]).length + (l'.erase b).length ≤ 64 := by rw [List.length_append, List.length_singleton]; omega
              refine ⟨l'.erase b, out ++ [b], some ⟨gg, 0, none⟩, a8, cap', c8, by rw [hlo2], Nat.le_refl _, HN.out, fun x hx => HL.out x (List.mem_of_mem_erase hx), by omega, hol2, ?_, ?_, ?_, ?_, ?_, ?_⟩
              · rw [hlo2]; exact (I7.out.below B8.out).other (by omega)
              · rw [E8.out]; exact heap_setCell_same _ _ _ _ _ _ _ ((B8.out.block _ (heap_below C7.out)).trans C7.out)
              · rw [hlo2, E8.out]
                refine D8.out.go (fun x _ h1 _ => Below.heap_setCell _ _ _ _ h1) (fun _ _ h => h)
              · have h1 := kept B8.out L7.out
                unfold World.cell? at *
                dsimp only at *
                rw [Below.heap_setCell _ _ _ _ (show w.heap.size + 1 ≠ w.heap.size by omega)]; exact h1
              · have := Z7.out; have := B8.out.size; simp [World.setCell]; omega
              · exact Below.setCell (B7.out.trans (B8.out.mono (by have := Z7.out; omega))) (Nat.le_refl _) _
        · have KW : Hid (Below w7.heap.size w7 (w7.alloc (.cells #[.slice (some ⟨b0, off, none⟩) k xc, .slice (some ⟨b0, off + m, none⟩) (l'.length - m) (xc - m)] 25)).drew) := Below.drew (balloc (Below.refl _ _) _)
          have HCT : Hid _ := fun (_ : Unit) => conc_erase w7.heap.size b0 off (off + m) k xc (xc - m) (l'.length - m) l' (w7.alloc (.cells #[.slice (some ⟨b0, off, none⟩) k xc, .slice (some ⟨b0, off + m, none⟩) (l'.length - m) (xc - m)] 25)).drew hk hlen (by have := HM.out; omega) (fun _ => by have := HM.out; omega) (fun i hi => kept KW.out (HKC.out i hi)) (cell_new w7 _ 25 0 _ rfl) (cell_new w7 _ 25 1 _ rfl)
          clear hr
          go_region_law (first | (go_simp; go_at_call 62; refine (HCT.out ()).mono ?_; rintro e w8 ⟨a8, c8, rfl, i8, b8⟩; have I8 : Hid _ := i8; have B8 : Hid (Below w7.heap.size w7 w8) := (by exact KW.out.trans (b8.mono (by simp))); have y0 := kept B8.out x0; have y1 : w8.frozen? ⟨w.heap.size, 0, none⟩ = false := (by exact (B8.out.frozen (p := ⟨w.heap.size, 0, none⟩) (by have := Z7.out; show w.heap.size < w7.heap.size; omega)).trans x1); clear i8 b8 x0 x1) | fail)
          all_goals
            have Q8 : Hid (gg < w7.heap.size) := (ownBlock_lt I7.out.own gg rfl).2
            have E8 : Hid ((l'.erase b).length = l'.length - 1) := by have := HEL.out; unfold Hid; omega
            have J8 : Hid (Is w8 w7.heap.size (.slice a8 (l'.length - 1) c8) (ints (l'.erase b))) := by rw [← HE.out]; exact I8.out.mono (by simp)
            have D8 : Hid (Rdl w.heap.size (.slice (some ⟨gg, 0, none⟩) (lo.length + 1) cap') w8 (.slice a8 (l'.length - 1) c8) (ints (l'.erase b))) := rdl_is J8.out (by have := Z7.out; omega) (fun x hx => by simp [Value.ownBlock] at hx; subst hx; exact Q8.out)
            have HEL' := HEL.out
            go_wp2_with fail
            go_roundg (l'.erase b).length
            case measure => omega
            case rel =>
              have hlo2 : (ints (out ++ [b])).length = lo.length + 1 := by rw [ints_append, List.length_append, ← HLO.out]; rfl
              have hol2 : (out ++ [b]).length + (l'.erase b).length ≤ 64 := by rw [List.length_append, List.length_singleton]; omega
              refine ⟨l'.erase b, out ++ [b], some ⟨gg, 0, none⟩, a8, cap', c8, by rw [hlo2], Nat.le_refl _, HN.out, fun x hx => HL.out x (List.mem_of_mem_erase hx), by omega, hol2, ?_, ?_, ?_, ?_, ?_, ?_⟩
              · rw [hlo2]; exact (I7.out.below B8.out).other (by omega)
              · rw [E8.out]; exact heap_setCell_same _ _ _ _ _ _ _ ((B8.out.block _ (heap_below C7.out)).trans C7.out)
              · rw [hlo2, E8.out]
                refine D8.out.go (fun x _ h1 _ => Below.heap_setCell _ _ _ _ h1) (fun _ _ h => h)
              · have h1 := kept B8.out L7.out
                unfold World.cell? at *
                dsimp only at *
                rw [Below.heap_setCell _ _ _ _ (show w.heap.size + 1 ≠ w.heap.size by omega)]; exact h1
              · have := Z7.out; have := B8.out.size; simp [World.setCell]; omega
              · exact Below.setCell (B7.out.trans (B8.out.mono (by have := Z7.out; omega))) (Nat.le_refl _) _
    · have HN : Hid (out = TT) := by
        have h1 := HT.out
        have h2 : l' = [] := List.length_eq_zero_iff.1 (by omega)
        subst h2
        rw [show ord ld [] = [] from rfl, List.append_nil] at h1; exact h1
      have h0n : l'.length = 0 := by omega
      go_wp2_with fail
      go_ret
      exact ⟨_, rfl, by rw [← HN.out]; exact IR.out.mono (by omega), BR.out⟩
end Go.Proofs.Ytkklgnfimkojlaa.O45
