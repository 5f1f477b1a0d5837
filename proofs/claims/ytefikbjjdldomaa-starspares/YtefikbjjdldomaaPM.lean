/-
  Contracts of the laws' helpers: walks, once, times.
-/
import Derived.Test.YtefikbjjdldomaaFC
import Derived.Test.YtefikbjjdldomaaWB
import Derived.Test.YtefikbjjdldomaaSl
import Derived.Test.YtefikbjjdldomaaPA
namespace Go.Proofs.Ytefikbjjdldomaa
open Go.RowKit
open _root_.Go.Proofs.Ytefikbjjdldomaa.Nm Wm Dm Sk
attribute [local go_sem ↓] Go.wp_at_zero Go.wp_at_succ

theorem SlI.take {w : World} {a : Option Addr} {n c : Nat} {l : List Nat} (h : SlI w (.slice a n c) (ints l)) (i : Nat) (hi : i ≤ l.length) : SlI w (.slice a i c) (ints (l.take i)) := by
  have hl : (ints (l.take i)).length = i := by rw [ints_length, List.length_take]; omega
  rcases h.is with ⟨a', c', e, e0⟩ | ⟨b, off, cap, e, hc, hle⟩
  · have : l.length = 0 := by rw [← ints_length l, e0]; rfl
    obtain rfl : i = 0 := by omega
    simp only [Value.slice.injEq] at e
    obtain ⟨rfl, rfl, rfl⟩ := e
    exact .no _ _ rfl rfl
  · simp only [Value.slice.injEq] at e
    obtain ⟨rfl, rfl, rfl⟩ := e
    refine .row b off c (by rw [hl]) (fun j hj => ?_) (by rw [hl]; rw [ints_length] at hle; omega)
    rw [hl] at hj
    rw [hc j (by rw [ints_length]; omega), ints_at (show j < (l.take i).length by rw [List.length_take]; omega), ints_at (show j < l.length by omega)]
    simp
set_option maxRecDepth 100000 in
set_option maxHeartbeats 8000000 in
theorem once_any (v : Value) (l : List Nat) (w : World) (hv : SlI w v (ints l)) (hlen : l.length ≤ 64) (hn : l.Nodup) :
    Calls Try.prog 24 #[v] w fun e w' => e = .returned (.bool true) ∧ w' = w := by
  obtain ⟨a0, c0, rfl⟩ := hv.val
  have HN : Hid _ := hn
  obtain ⟨n, hnl⟩ : ∃ n, (ints l).length = n := ⟨_, rfl⟩
  have HL : Hid (l.length = n) := by unfold Hid; rw [← hnl, ints_length]
  rw [hnl] at hv ⊢
  have HV : Hid _ := hv
  clear hv hn hnl
  have hn64 : n ≤ 64 := by have := HL.out; omega
  go_enter Try.func24, Try.ntmps24
  go_wp2_with fail
  go_loopw [7] (fun z wr => ∃ i : Nat, z = .int .i64 i ∧ i ≤ n ∧ wr = w) (fun z _ => n - (intOf z).toNat)
  case atStart => exact ⟨0, rfl, Nat.zero_le _, rfl⟩
  case round =>
    obtain ⟨i, rfl, hi, rfl⟩ := hrel
    by_cases hlt : i < n
    · have hii : (i : Int) < (n : Int) := by omega
      have hV : SlI wr (.slice a0 n c0) (ints l) := HV.out
      obtain ⟨b, off, cap, hve, hcl⟩ := hV.some2 (by rw [ints_length, HL.out]; omega)
      simp only [Value.slice.injEq] at hve
      obtain ⟨rfl, -, rfl⟩ := hve
      have hnc : n ≤ c0 := by have := hcl.2; rw [ints_length, HL.out] at this; exact this
      have hcap : (i : Int) ≤ (c0 : Int) := by omega
      have hcap0 : ¬ c0 = 0 := by omega
      have d0 := hcl.1 i (by rw [ints_length, HL.out]; omega)
      rw [ints_at (show i < l.length by rw [HL.out]; omega)] at d0
      have TK : Hid _ := hV.take i (by rw [HL.out]; omega)
      have hno : decide (l[i]'(by rw [HL.out]; omega) ∈ l.take i) = false := decide_eq_false (fun hm => by
        obtain ⟨j, hj, e⟩ := List.mem_iff_getElem.1 hm
        rw [List.length_take] at hj
        rw [List.getElem_take] at e
        exact List.pairwise_iff_getElem.1 HN.out j i (by rw [HL.out]; omega) (by rw [HL.out]; omega) (by omega) e)
      obtain ⟨x, hx⟩ : ∃ x, l[i]'(by rw [HL.out]; omega) = x := ⟨_, rfl⟩
      rw [hx] at d0 hno
      have CT : Hid _ := fun (_ : Unit) => contains_any _ (l.take i) x wr TK.out (by rw [List.length_take]; omega)
      rw [hno] at CT
      clear hV hcl hx hno
      go_wp2_with fail
      refine (CT.out ()).mono ?_
      rintro e w2 ⟨rfl, rfl⟩
      go_wp2_with fail
      go_roundw
      case rel => exact ⟨i + 1, by go_num, by omega, trivial⟩
      case measure => simp [intOf]; omega
    · go_wp2_with fail
      go_ret
      exact ⟨rfl, rfl⟩
set_option maxRecDepth 100000 in
set_option maxHeartbeats 8000000 in
theorem walks_any (N s t : Nat) (c : Int) (v u : Value) (es : List E) (p : List Nat) (w : World) (hv : SlE w v es) (hu : SlI w u (ints p)) (hlen : es.length ≤ 9223372036854775807) (hw : wcode N es (ints p) = (c, 0)) (h0 : 0 < p.length) (hp64 : p.length ≤ 64) (hs : p.getD 0 0 = s) (ht : p.getD (p.length - 1) 0 = t) :
    Calls Try.prog 23 #[.agg #[.int .i64 N, v], .agg #[u, .int .i64 c], .int .i64 s, .int .i64 t] w fun e w' => e = .returned (.bool true) ∧ Below w.heap.size w w' := by
  obtain ⟨a0, c0, rfl⟩ := hv.val
  obtain ⟨b, off, cap, rfl, hcl⟩ := hu.some' (by rw [ints_length]; omega)
  have d0 := hcl 0 (by rw [ints_length]; omega)
  have d1 := hcl (p.length - 1) (by rw [ints_length]; omega)
  rw [ints_at h0] at d0
  rw [ints_at (show p.length - 1 < p.length by omega)] at d1
  have e0 : p[0] = s := by rw [← hs]; simp [List.getD_eq_getElem?_getD, h0]
  have e1 : p[p.length - 1] = t := by rw [← ht]; simp [List.getD_eq_getElem?_getD, show p.length - 1 < p.length by omega]
  rw [e0, Nat.add_zero] at d0
  rw [e1] at d1
  have HV : Hid _ := hv
  have HU : Hid _ := hu
  obtain ⟨n, hn⟩ : ∃ n, (ints p).length = n := ⟨_, rfl⟩
  have HN : Hid (p.length = n) := by unfold Hid; rw [← hn, ints_length]
  rw [hn]
  rw [HN.out] at d1
  have CO : Hid (∀ W, Below w.heap.size w W → Calls Try.prog 48 #[.agg #[.int .i64 N, .slice a0 es.length c0], .slice (some ⟨b, off, none⟩) n cap] W fun e w' => e = .returned (.tuple #[.int .i64 c, .int .i64 0]) ∧ Below W.heap.size W w') := fun W hb => by
    have h1 := cost_any N _ _ es (ints p) W (HV.out.below hb) (HU.out.below hb) hlen (by rw [ints_length]; omega)
    rw [hw, hn] at h1
    exact h1
  have hn0 : (0 : Int) < (n : Int) := by have := HN.out; omega
  have hn1 : (n : Int) - 1 < (n : Int) := by omega
  have hn2 : 0 ≤ (n : Int) - 1 := by omega
  have hnw : ((n : Int) - 1) = ((n - 1 : Nat) : Int) := by omega
  have hn64 : n ≤ 64 := by have := HN.out; omega
  have hnlt : ((n - 1 : Nat) : Int) < (n : Int) := by omega
  clear hv hu hn hw hcl e0 e1 hs ht h0 hp64
  go_enter Try.func23, Try.ntmps23
  go_wp2_with fail
  have B1 : Hid (Below w.heap.size w ((w.alloc (.cells #[.int .i64 N, .slice a0 es.length c0] 24)).alloc (.cells #[.slice (some ⟨b, off, none⟩) n cap, .int .i64 c] 27))) := balloc (balloc (Below.refl _ _) _) _
  have W1 : Hid (((w.alloc (.cells #[.int .i64 N, .slice a0 es.length c0] 24)).alloc (.cells #[.slice (some ⟨b, off, none⟩) n cap, .int .i64 c] 27)).heap[w.heap.size + 1]? = some (.cells #[.slice (some ⟨b, off, none⟩) n cap, .int .i64 c] 27 (0, 0))) := new_at _ _ (by simp)
  generalize (w.alloc (.cells #[.int .i64 N, .slice a0 es.length c0] 24)).alloc (.cells #[.slice (some ⟨b, off, none⟩) n cap, .int .i64 c] 27) = V1 at *
  refine (CO.out V1 B1.out).mono ?_
  rintro e w2 ⟨rfl, b2⟩
  have B2 : Hid (Below w.heap.size w w2) := bthen B1.out b2
  have r2 := (b2.block _ (heap_lt' W1.out)).trans W1.out
  obtain ⟨k0, k1⟩ : w2.cell? ⟨w.heap.size + 1, 0, none⟩ = some (.slice (some ⟨b, off, none⟩) n cap) ∧ w2.cell? ⟨w.heap.size + 1, 1, none⟩ = some (.int .i64 c) := by simp [World.cell?, r2]
  have f0 := kept B2.out d0
  have f1 := kept B2.out d1
  clear b2 r2 d0 d1
  go_wp2_with fail
  go_ret
  exact ⟨rfl, B2.out⟩
theorem times_any (c num den l : Int) (w : World) (hc : 0 ≤ c) (hc1 : c ≤ 1099511627776) (hn : 0 ≤ num) (hn1 : num ≤ 1000000) (hd : 0 ≤ den) (hd1 : den ≤ 1000000) (hl : 0 ≤ l) (hl1 : l ≤ 1099511627776) (h : c * den ≤ num * l) :
    Calls Try.prog 29 #[.int .i64 c, .agg #[.int .i64 num, .int .i64 den], .int .i64 l] w fun e w' => e = .returned (.bool true) ∧ Below w.heap.size w w' := by
  have m0 : 0 ≤ c * den := Int.mul_nonneg hc hd
  have m1 : c * den ≤ 1099511627776 * 1000000 := Int.mul_le_mul hc1 hd1 hd (by omega)
  have m2 : 0 ≤ num * l := Int.mul_nonneg hn hl
  have m3 : num * l ≤ 1000000 * 1099511627776 := Int.mul_le_mul hn1 hl1 hl (by omega)
  have hd' : decide (c * den ≤ num * l) = true := decide_eq_true h
  go_enter Try.func29, Try.ntmps29
  go_wp2_with fail
  go_ret
  exact ⟨rfl, balloc (Below.refl _ _) _⟩
end Go.Proofs.Ytefikbjjdldomaa
