/-
  The walk of the law fellkeep.HeapOrders: it returns true, and writes nothing that was there.
-/
import Derived.Test.YtihicidfpfkknabHeapH
import Derived.ProofKit
import Derived.OpenShut
import Derived.Lib.SmallJoins
namespace Go.Proofs.Ytihicidfpfkknab.HOrders
open Go.ChangeShapes Go.WideShapes Go.ChangeAt Go.RowKit Go.Joins
open Hp
attribute [local go_sem ↓] Go.wp_at_zero Go.wp_at_succ

/-- A literal list of pops in a block of its own. -/
theorem lit_row (w : World) (ps : List (Int × Int)) (h : ps.length ≤ maxLen) : Row (w.alloc (.cells (flat ps).toArray 32)) w.heap.size ps.length ps :=
  ⟨(flat ps).toArray, heap_alloc_new _ _, Nat.le_refl _, h, by simp [flat_length], by simp [← flat_length]⟩

theorem lit_slr (w : World) (ps : List (Int × Int)) (cs : Array Value) (n : Nat) (hn : ps.length = n) (hc : cs = (flat ps).toArray) (h : ps.length ≤ maxLen) : SlR (w.alloc (.cells cs 32)) (.slice (some ⟨w.heap.size, 0, none⟩) n n) ps := by
  subst hn hc
  exact (lit_row w ps h).slr

theorem news_flat {w : World} {b off : Nat} {ls : List (Int × Int)} (h : ∀ i, i < ls.length → w.cell? ⟨b, off + i * 2, none⟩ = some (.int .i64 (at' ls i).1) ∧ w.cell? ⟨b, off + i * 2 + 1, none⟩ = some (.int .i64 (at' ls i).2)) :
    ∀ (j : Nat) (u : Value), (flat ls)[j]? = some u → w.cell? ((⟨b, off, none⟩ : Addr).add j) = some u := by
  intro j u hu
  have hadd : (⟨b, off, none⟩ : Addr).add j = ⟨b, off + j, none⟩ := by unfold Addr.add; split <;> simp_all
  have hj : j < (flat ls).length := by
    rcases Nat.lt_or_ge j (flat ls).length with h | h
    · exact h
    · rw [List.getElem?_eq_none h] at hu; cases hu
  rw [flat_length] at hj
  have hi : j / 2 < ls.length := by omega
  obtain ⟨h1, h2⟩ := h (j / 2) hi
  obtain ⟨f1, f2⟩ := flat_get ls (j / 2) hi
  rw [hadd]
  rcases (show j = j / 2 * 2 ∨ j = j / 2 * 2 + 1 by omega) with e | e
  · rw [← e] at f1 h1
    rw [f1] at hu
    rw [h1, hu]
  · rw [← e] at f2
    rw [f2] at hu
    rw [show off + j = off + j / 2 * 2 + 1 by omega, h2, hu]
theorem flat_one (l : List (Int × Int)) : ∀ u ∈ flat l, u.oneCell' = true := by
  induction l with
  | nil => simp [flat]
  | cons p r ih => simp [flat, Value.oneCell']; exact ih
theorem count_sorted (v : Value) (ls : List (Int × Int)) (p1 p2 : Int) (w : World) (hv : SlR w v (srt ls)) (hlen : ls.length ≤ 17592186044416) :
    Calls Try.prog 11 #[v, .agg #[.int .i64 p1, .int .i64 p2]] w fun e w' => e = .returned (.int .i64 (ls.count (p1, p2))) ∧ Below w.heap.size w w' := by
  have := count_any v (srt ls) p1 p2 w hv (by rw [srt_length]; exact hlen)
  rw [(srt_perm ls).count_eq] at this
  exact this

theorem sorted_at {l : List (Int × Int)} (h : l.Pairwise Le) (i : Nat) (h0 : 0 < i) (hi : i < l.length) : Le (at' l (i - 1)) (at' l i) := by
  unfold at'
  rw [List.getD_eq_getElem?_getD, List.getD_eq_getElem?_getD, List.getElem?_eq_getElem (show i - 1 < l.length by omega), List.getElem?_eq_getElem hi]
  exact List.pairwise_iff_getElem.1 h (i - 1) i (by omega) hi (by omega)

set_option maxRecDepth 100000 in
set_option maxHeartbeats 8000000 in
theorem walk (v : Value) (ls : List (Int × Int)) (p1 p2 : Int) (w : World) (hv : SlR w v ls) (hlen : ls.length ≤ 8796093022000) :
    Calls Try.prog 4 #[v, .agg #[.int .i64 p1, .int .i64 p2]] w fun e w' => e = .returned (.bool true) ∧ Below w.heap.size w w' := by
  obtain ⟨a, c, rfl⟩ := hv.val
  have HV : Hid (SlR w (.slice a ls.length c) ls) := hv
  clear hv
  have B0 : Below w.heap.size w (w.alloc (.cells #[.int .i64 p1, .int .i64 p2] 32)) := balloc (Below.refl _ _) _
  have X0 : Box (w.alloc (.cells #[.int .i64 p1, .int .i64 p2] 32)) w.heap.size (p1, p2) := heap_alloc_new _ _
  have hz0 : (w.alloc (.cells #[.int .i64 p1, .int .i64 p2] 32)).heap.size = w.heap.size + 1 := by simp
  have HB0 : Hid _ := B0
  have HX0 : Hid (Box (w.alloc (.cells #[.int .i64 p1, .int .i64 p2] 32)) w.heap.size (p1, p2)) := X0
  clear B0 X0
  go_enter Try.func4, Try.ntmps4
  go_wp2_with fail
  generalize hW0 : (w.alloc (.cells #[.int .i64 p1, .int .i64 p2] 32)) = W0 at *
  rw [← hz0]
  have HZ0 : Hid _ := hz0
  clear hz0 hW0
  refine (sort_any _ [(2, 0), (1, 5), (1, 4)] _ (lit_slr W0 [(2, 0), (1, 5), (1, 4)] _ 3 rfl rfl (by decide)) (by decide)).mono ?_
  rintro e w1 ⟨o1, cp1, rfl, t1, r1, b1⟩
  rw [show srt [(2, 0), (1, 5), (1, 4)] = [(1, 4), (1, 5), (2, 0)] from by decide] at r1
  have B1 : Below w.heap.size w w1 := bthen HB0.out (bthen (balloc (Below.refl _ _) _) b1)
  have X1 := HX0.out.frame ((bthen (balloc (Below.refl W0.heap.size W0) _) b1).block _ HX0.out.lt)
  have HB1 : Hid _ := B1
  have HX1 : Hid (Box w1 w.heap.size (p1, p2)) := X1
  have HR1 : Hid (Row w1 o1 cp1 [(1, 4), (1, 5), (2, 0)]) := r1
  clear HB0 HX0 HZ0 b1 t1 r1 B1 X1
  go_wp2_with fail
  refine (equal_any _ _ [(1, 4), (1, 5), (2, 0)] [(1, 4), (1, 5), (2, 0)] _ (HR1.out.slr.below (balloc (Below.refl _ _) _)) (lit_slr w1 [(1, 4), (1, 5), (2, 0)] _ 3 rfl rfl (by decide)) (by decide)).mono ?_
  rintro e w2 ⟨rfl, q2, rfl⟩
  have B2 : Below w.heap.size w ((w1.alloc (.cells (flat [(1, 4), (1, 5), (2, 0)]).toArray 32)).drewN q2) := below_drewN (balloc HB1.out _) q2
  have X2 : Box ((w1.alloc (.cells (flat [(1, 4), (1, 5), (2, 0)]).toArray 32)).drewN q2) w.heap.size (p1, p2) := HX1.out.frame (Below.heap_alloc _ _ _ HX1.out.lt)
  have HB2 : Hid _ := B2
  have HX2 : Hid (Box _ w.heap.size (p1, p2)) := X2
  clear HB1 HX1 HR1 B2 X2
  generalize ((w1.alloc (.cells (flat [(1, 4), (1, 5), (2, 0)]).toArray 32)).drewN q2) = W2 at *
  go_wp2_with fail
  refine (sort_any _ ls _ (HV.out.below HB2.out) (by omega)).mono ?_
  rintro e w3 ⟨o3, cp3, rfl, t3, r3, b3⟩
  have B3 := bthen HB2.out b3
  have X3 := HX2.out.frame (b3.block _ HX2.out.lt)
  have HB3 : Hid (Below w.heap.size w w3) := B3
  have HX3 : Hid (Box w3 w.heap.size (p1, p2)) := X3
  have HR3 : Hid (Row w3 o3 cp3 (srt ls)) := r3
  clear HB2 HX2 B3 X3 r3 b3 t3
  go_wp2_with fail
  go_loopw [7] (fun x wr => ∃ k : Nat, x = .int .i64 k ∧ 1 ≤ k ∧ k ≤ ls.length + 1 ∧ ∃ q, wr = w3.drewN q) (fun x _ => ls.length + 1 - (intOf x).toNat)
  case atStart => exact ⟨1, rfl, Nat.le_refl _, by omega, 0, rfl⟩
  case round =>
    obtain ⟨k, rfl, hk1, hk2, q, rfl⟩ := hrel
    by_cases hlt : k < ls.length
    · have hki : (k : Int) < (ls.length : Int) := by omega
      obtain ⟨c0, c1, _, _⟩ := HR3.out.cell k (by rw [srt_length]; exact hlt)
      obtain ⟨d0, d1, _, _⟩ := HR3.out.cell (k - 1) (by rw [srt_length]; omega)
      have hs := sorted_at (srt_sorted ls) k (by omega) (by rw [srt_length]; exact hlt)
      obtain ⟨m, hm⟩ : ∃ m, m = k - 1 := ⟨_, rfl⟩
      rw [← hm] at d0 d1 hs
      have hmk : (k : Int) - 1 = (m : Int) := by omega
      have hmw : IntKind.i64.wrap (m : Int) = (m : Int) := by rw [IntKind.wrap_i64]; omega
      have hml : (m : Int) < (ls.length : Int) := by omega
      clear hm
      generalize at' (srt ls) k = pk at *
      generalize at' (srt ls) m = pm at *
      obtain ⟨x, y⟩ := pk
      obtain ⟨z, u⟩ := pm
      unfold Le at hs
      simp only at c0 c1 d0 d1 hs
      rcases hs with hs | ⟨rfl, hs⟩
      · have f1 : decide (x < z) = false := decide_eq_false (by omega)
        have f2 : (x == z) = false := beq_eq_false_iff_ne.2 (by omega)
        go_wp2_with fail
        go_quiet (fail)
        go_wp2
        go_roundw
        case rel => exact ⟨k + 1, by go_num, by omega, by omega, q + nq, rfl⟩
        case measure => simp [intOf]; omega
      · have f1 : decide (z < z) = false := decide_eq_false (by omega)
        have f3 : decide (y < u) = false := decide_eq_false (by omega)
        go_wp2_with fail
        go_quiet (fail)
        go_wp2
        go_roundw
        case rel => exact ⟨k + 1, by go_num, by omega, by omega, q + nq, rfl⟩
        case measure => simp [intOf]; omega
    · obtain ⟨x0, x1, _, _⟩ := HX3.out.cell
      simp only at x0 x1
      rcases HV.out with ⟨a', c', hv0, rfl⟩ | ⟨b, off, cap, hv0, hcl⟩
      · cases hv0
        simp only [List.length_nil]
        cases a with
        | none =>
          go_wp2_with fail
          have b4 : Below w3.heap.size w3 ((w3.drewN q).alloc (.cells #[.int .i64 p1, .int .i64 p2] 32)) := balloc (below_drewN (Below.refl _ _) q) _
          have HR4 : Hid (Row ((w3.drewN q).alloc (.cells #[.int .i64 p1, .int .i64 p2] 32)) w3.heap.size 1 [(p1, p2)]) := lit_row (w3.drewN q) [(p1, p2)] (by simp [maxLen])
          have HB4 : Hid (Below w.heap.size w ((w3.drewN q).alloc (.cells #[.int .i64 p1, .int .i64 p2] 32))) := bthen HB3.out b4
          have HL4 : Hid (SlR ((w3.drewN q).alloc (.cells #[.int .i64 p1, .int .i64 p2] 32)) (.slice none 0 c) []) := HV.out.below HB4.out
          have HM4 : Hid (SlR ((w3.drewN q).alloc (.cells #[.int .i64 p1, .int .i64 p2] 32)) (.slice (some ⟨o3, 0, none⟩) 0 cp3) (srt [])) := HR3.out.slr.below b4
          clear b4 x0 x1 hlt
          generalize ((w3.drewN q).alloc (.cells #[.int .i64 p1, .int .i64 p2] 32)) = W4 at *
          go_loopw [76] (fun x wr => ∃ k : Nat, x = .int .i64 k ∧ k ≤ 1 ∧ Below W4.heap.size W4 wr) (fun x _ => 1 - (intOf x).toNat)
          case atStart => exact ⟨0, rfl, Nat.zero_le _, Below.refl _ _⟩
          case round =>
            obtain ⟨k, rfl, hk, hbl4⟩ := hrel
            by_cases hlt4 : k < 1
            · have hki4 : (k : Int) < ((1 : Nat) : Int) := by omega
              obtain ⟨c0, c1, _, _⟩ := HR4.out.cell k (by simp; omega)
              have d0 := kept hbl4 c0
              have d1 := kept hbl4 c1
              generalize at' ((p1, p2) :: []) k = y at *
              obtain ⟨y1, y2⟩ := y
              simp only at d0 d1
              clear c0 c1
              go_wp2_with fail
              go_region_held3 (fun w' => w'.cell? ⟨wr.heap.size, 0, none⟩ = some (.int .i64 y1) ∧ w'.cell? ⟨wr.heap.size, 1, none⟩ = some (.int .i64 y2))
                (first | (go_split_ands; refine ⟨kept hb6 ?_, kept hb6 ?_⟩ <;> assumption) | (go_split_ands; refine ⟨kept hb5 ?_, kept hb5 ?_⟩ <;> assumption) | go_keep)
                (first
                 | (go_at_call_of 11 (Value.slice (some ⟨o3, 0, none⟩) 0 cp3); refine (count_sorted _ [] y1 y2 _ ?_ (by omega)).mono ?_; exact HM4.out.below (bthen (Below.drew (balloc hbl4 _)) hb5); rintro e w6 ⟨rfl, hb6⟩)
                 | (go_at_call 11; refine (count_any _ [] y1 y2 _ ?_ (by omega)).mono ?_; exact HL4.out.below (Below.drew (balloc hbl4 _)); rintro e w5 ⟨rfl, hb5⟩))
              go_wp2
              go_roundw
              case rel => exact ⟨k + 1, by go_num, by omega, bthen (bthen (Below.drew (balloc hbl4 _)) hb5) hb6⟩
              case measure => simp [intOf]; omega
            · go_wp2
              go_ret
              exact ⟨rfl, bthen HB4.out hbl4⟩
        | some ad =>
          obtain ⟨i0, hi0, hz0, hz1, hz2⟩ := info_parts info32
          have b4 : Below w3.heap.size w3 ((w3.drewN q).alloc (.cells #[.int .i64 p1, .int .i64 p2] 32)) := balloc (below_drewN (Below.refl _ _) q) _
          have HR0 : Hid (World.ownsRow ((w3.drewN q).alloc (.cells #[.int .i64 p1, .int .i64 p2] 32)) w3.heap.size 32 2 (.slice (some ⟨w3.heap.size, 0, none⟩) 1 1) 1 (flat [(p1, p2)])) := (lit_row (w3.drewN q) [(p1, p2)] (by simp [maxLen])).owns (base := w3.heap.size) (Nat.le_refl _)
          have HNEW : Hid (∀ (j : Nat) (u : Value), (flat [])[j]? = some u → ((w3.drewN q).alloc (.cells #[.int .i64 p1, .int .i64 p2] 32)).cell? (ad.add j) = some u) :=
            (fun j u hu => by simp [flat] at hu)
          have HB4 : Hid (Below w3.heap.size w3 ((w3.drewN q).alloc (.cells #[.int .i64 p1, .int .i64 p2] 32))) := b4
          clear b4
          go_wp2_with (at_builtin; refine wpList_append_own_at _ rfl _ _ _ rfl w3.heap.size 32 i0 _ 2 16 Try.underlying30 hi0 hz0 hz1 hz2 rfl (by omega) (.slice (some ⟨w3.heap.size, 0, none⟩) 1 1) 1 (flat [(p1, p2)]) rfl HR0.out ad 0 c (flat []) rfl (by rfl) HNEW.out (flat_one []) (by unfold maxLen; omega) (by omega) (by simp) ?_; intro v' W4 hown4 hgrow4 hiff4 hat4; obtain ⟨g, cp4, rfl, hg4, hlt4⟩ := hown4.form (by omega))
          have b5 : Below w3.heap.size w3 W4 := (HB4.out.grown hgrow4 (by simp) (fun k hk => by simp [Value.ownBlock] at hk; omega))
          have HR4 : Hid (Row W4 g cp4 ((p1, p2) :: [])) := (Row.of_owns (ps := (p1, p2) :: []) (by simp) hown4).1
          have HL4 : Hid (SlR W4 (.slice (some ad) 0 c) []) := HV.out.below (bthen HB3.out b5)
          have HM4 : Hid (SlR W4 (.slice (some ⟨o3, 0, none⟩) 0 cp3) (srt [])) := by
            have := HR3.out.slr.below b5
            rw [srt_length, List.length_nil] at this
            exact this
          have HB5 : Hid (Below w.heap.size w W4) := bthen HB3.out b5
          clear HB4 HR0 HNEW hown4 hgrow4 hiff4 hat4 hg4 hlt4 b5 x0 x1 hlt hi0 hz0 hz1 hz2
          go_loopw [76] (fun x wr => ∃ k : Nat, x = .int .i64 k ∧ k ≤ 1 + 0 ∧ Below W4.heap.size W4 wr) (fun x _ => 1 + 0 - (intOf x).toNat)
          case atStart => exact ⟨0, rfl, Nat.zero_le _, Below.refl _ _⟩
          case round =>
            obtain ⟨k, rfl, hk, hbl4⟩ := hrel
            by_cases hlt4 : k < 1 + 0
            · have hki4 : (k : Int) < ((1 + 0 : Nat) : Int) := by omega
              obtain ⟨c0, c1, _, _⟩ := HR4.out.cell k (by simp; omega)
              have d0 := kept hbl4 c0
              have d1 := kept hbl4 c1
              generalize at' ((p1, p2) :: []) k = y at *
              obtain ⟨y1, y2⟩ := y
              simp only at d0 d1
              clear c0 c1
              go_wp2_with fail
              go_region_held3 (fun w' => w'.cell? ⟨wr.heap.size, 0, none⟩ = some (.int .i64 y1) ∧ w'.cell? ⟨wr.heap.size, 1, none⟩ = some (.int .i64 y2))
                (first | (go_split_ands; refine ⟨kept hb6 ?_, kept hb6 ?_⟩ <;> assumption) | (go_split_ands; refine ⟨kept hb5 ?_, kept hb5 ?_⟩ <;> assumption) | go_keep)
                (first
                 | (go_at_call_of 11 (Value.slice (some ⟨o3, 0, none⟩) 0 cp3); refine (count_sorted _ [] y1 y2 _ ?_ (by omega)).mono ?_; exact HM4.out.below (bthen (Below.drew (balloc hbl4 _)) hb5); rintro e w6 ⟨rfl, hb6⟩)
                 | (go_at_call 11; refine (count_any _ [] y1 y2 _ ?_ (by omega)).mono ?_; exact HL4.out.below (Below.drew (balloc hbl4 _)); rintro e w5 ⟨rfl, hb5⟩))
              go_wp2
              go_roundw
              case rel => exact ⟨k + 1, by go_num, by omega, bthen (bthen (Below.drew (balloc hbl4 _)) hb5) hb6⟩
              case measure => simp [intOf]; omega
            · go_wp2
              go_ret
              exact ⟨rfl, bthen HB5.out hbl4⟩
      · cases hv0
        obtain ⟨i0, hi0, hz0, hz1, hz2⟩ := info_parts info32
        have b4 : Below w3.heap.size w3 ((w3.drewN q).alloc (.cells #[.int .i64 p1, .int .i64 p2] 32)) := balloc (below_drewN (Below.refl _ _) q) _
        have HR0 : Hid (World.ownsRow ((w3.drewN q).alloc (.cells #[.int .i64 p1, .int .i64 p2] 32)) w3.heap.size 32 2 (.slice (some ⟨w3.heap.size, 0, none⟩) 1 1) 1 (flat [(p1, p2)])) := (lit_row (w3.drewN q) [(p1, p2)] (by simp [maxLen])).owns (base := w3.heap.size) (Nat.le_refl _)
        have HNEW : Hid (∀ (j : Nat) (u : Value), (flat ls)[j]? = some u → ((w3.drewN q).alloc (.cells #[.int .i64 p1, .int .i64 p2] 32)).cell? ((⟨b, off, none⟩ : Addr).add j) = some u) :=
          news_flat (fun i hi => ⟨kept b4 (kept HB3.out (hcl i hi).1), kept b4 (kept HB3.out (hcl i hi).2)⟩)
        have HB4 : Hid (Below w3.heap.size w3 ((w3.drewN q).alloc (.cells #[.int .i64 p1, .int .i64 p2] 32))) := b4
        clear hcl b4
        go_wp2_with (at_builtin; refine wpList_append_own_at _ rfl _ _ _ rfl w3.heap.size 32 i0 _ 2 16 Try.underlying30 hi0 hz0 hz1 hz2 rfl (by omega) (.slice (some ⟨w3.heap.size, 0, none⟩) 1 1) 1 (flat [(p1, p2)]) rfl HR0.out ⟨b, off, none⟩ ls.length c (flat ls) rfl (flat_length ls) HNEW.out (flat_one ls) (by unfold maxLen; omega) (by omega) (by simp) ?_; intro v' W4 hown4 hgrow4 hiff4 hat4; obtain ⟨g, cp4, rfl, hg4, hlt4⟩ := hown4.form (by omega))
        have b5 : Below w3.heap.size w3 W4 := (HB4.out.grown hgrow4 (by simp) (fun k hk => by simp [Value.ownBlock] at hk; omega))
        have HR4 : Hid (Row W4 g cp4 ((p1, p2) :: ls)) := (Row.of_owns (ps := (p1, p2) :: ls) (by simp; omega) hown4).1
        have HL4 : Hid (SlR W4 (.slice (some ⟨b, off, none⟩) ls.length c) ls) := HV.out.below (bthen HB3.out b5)
        have HM4 : Hid (SlR W4 (.slice (some ⟨o3, 0, none⟩) ls.length cp3) (srt ls)) := by
          have := HR3.out.slr.below b5
          rw [srt_length] at this
          exact this
        have HB5 : Hid (Below w.heap.size w W4) := bthen HB3.out b5
        clear HB4 HR0 HNEW hown4 hgrow4 hiff4 hat4 hg4 hlt4 b5 x0 x1 hlt hi0 hz0 hz1 hz2
        go_loopw [76] (fun x wr => ∃ k : Nat, x = .int .i64 k ∧ k ≤ 1 + ls.length ∧ Below W4.heap.size W4 wr) (fun x _ => 1 + ls.length - (intOf x).toNat)
        case atStart => exact ⟨0, rfl, Nat.zero_le _, Below.refl _ _⟩
        case round =>
          obtain ⟨k, rfl, hk, hbl4⟩ := hrel
          by_cases hlt4 : k < 1 + ls.length
          · have hki4 : (k : Int) < ((1 + ls.length : Nat) : Int) := by omega
            obtain ⟨c0, c1, _, _⟩ := HR4.out.cell k (by simp; omega)
            have d0 := kept hbl4 c0
            have d1 := kept hbl4 c1
            generalize at' ((p1, p2) :: ls) k = y at *
            obtain ⟨y1, y2⟩ := y
            simp only at d0 d1
            clear c0 c1
            go_wp2_with fail
            go_region_held3 (fun w' => w'.cell? ⟨wr.heap.size, 0, none⟩ = some (.int .i64 y1) ∧ w'.cell? ⟨wr.heap.size, 1, none⟩ = some (.int .i64 y2))
              (first | (go_split_ands; refine ⟨kept hb6 ?_, kept hb6 ?_⟩ <;> assumption) | (go_split_ands; refine ⟨kept hb5 ?_, kept hb5 ?_⟩ <;> assumption) | go_keep)
              (first
               | (go_at_call_of 11 (Value.slice (some ⟨o3, 0, none⟩) ls.length cp3); refine (count_sorted _ ls y1 y2 _ ?_ (by omega)).mono ?_; exact HM4.out.below (bthen (Below.drew (balloc hbl4 _)) hb5); rintro e w6 ⟨rfl, hb6⟩)
               | (go_at_call 11; refine (count_any _ ls y1 y2 _ ?_ (by omega)).mono ?_; exact HL4.out.below (Below.drew (balloc hbl4 _)); rintro e w5 ⟨rfl, hb5⟩))
            go_wp2
            go_roundw
            case rel => exact ⟨k + 1, by go_num, by omega, bthen (bthen (Below.drew (balloc hbl4 _)) hb5) hb6⟩
            case measure => simp [intOf]; omega
          · go_wp2
            go_ret
            exact ⟨rfl, bthen HB5.out hbl4⟩

end Go.Proofs.Ytihicidfpfkknab.HOrders
