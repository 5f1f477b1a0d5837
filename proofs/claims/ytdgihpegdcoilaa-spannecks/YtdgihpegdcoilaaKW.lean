/-
  Contract: the document's neck.
-/
import Derived.Test.YtdgihpegdcoilaaKI
import Derived.Test.YtdgihpegdcoilaaKn
import Derived.Deep.DeepCutAuto
namespace Go.Proofs.Ytdgihpegdcoilaa
open Go.RowKit
open Nm Kk
attribute [local go_sem ↓] Go.wp_at_zero Go.wp_at_succ

theorem upt_next (es : List E) (c : Int) (k : Nat) : (List.range (k + 1)).filter (fun i => decide (cs es i ≤ c)) = (List.range k).filter (fun i => decide (cs es i ≤ c)) ++ (if cs es k ≤ c then [k] else []) := by
  rw [List.range_succ, List.filter_append]
  by_cases h : cs es k ≤ c
  · simp [h]
  · simp [h]

theorem joinw (n a b : Nat) (D : Bool) (v ev : Value) (es : List E) (L : List Nat) (w : World) (h : decide (Un.Uf.grp (pl es L) a = Un.Uf.grp (pl es L) b) = D) (hv : SlE w v es) (hL : SlI w ev (ints L)) (hlt : ∀ x, x ∈ L → x < es.length) (hll : L.length ≤ 600) (hg : Gn n es) (ha : a < n) (hb : b < n) :
    Calls Try.prog 41 #[.agg #[.int .i64 n, v], ev, .int .i64 a, .int .i64 b] w fun e w' => e = .returned (.bool D) ∧ Below w.heap.size w w' := by
  have := joined_any n a b v ev es L w hv hL hlt hll hg ha hb
  rw [h] at this; exact this
set_option maxRecDepth 100000 in
set_option maxHeartbeats 8000000 in
theorem rneck_any (n a b : Nat) (v : Value) (es : List E) (w : World) (hv : SlE w v es) (hg : Gn n es) (ha : a < n) (hb : b < n) :
    Calls Try.prog 21 #[.agg #[.int .i64 n, v], .int .i64 a, .int .i64 b] w fun e w' => e = .returned (.tuple #[.int .i64 (rn es a b es.length).1, .int .i64 (rn es a b es.length).2]) ∧ Below w.heap.size w w' := by
  obtain ⟨a0, c0, rfl⟩ := hv.val
  have HV : Hid _ := hv
  have hl := hg.len
  have HG : Hid _ := hg
  clear hv hg
  go_enter Try.func21, Try.ntmps21
  go_wp2_with fail
  have P0 : Hid _ := box2_new w (n : Int) (.slice a0 es.length c0) 35
  have B0 : Hid (Below w.heap.size w (w.alloc (.cells #[.int .i64 (n : Int), .slice a0 es.length c0] 35))) := balloc (Below.refl _ _) _
  generalize w.alloc (.cells #[.int .i64 (n : Int), .slice a0 es.length c0] 35) = W0 at *
  have hbx : w.heap.size < W0.heap.size := by have := World.block_lt_of_cell? W0 _ P0.out.g0; exact this
  go_loopw [18, 8, 9] (fun z be xe wr => ∃ m : Nat, z = .int .i64 m ∧ m ≤ es.length ∧ be = .int .i64 (rn es a b m).1 ∧ xe = .int .i64 (rn es a b m).2 ∧ Below W0.heap.size W0 wr) (fun z _ _ _ => es.length - (intOf z).toNat)
  case atStart => exact ⟨0, rfl, Nat.zero_le _, rfl, rfl, Below.refl _ _⟩
  case round =>
    obtain ⟨m, rfl, hm, rfl, rfl, hb1⟩ := hrel
    have HB : Hid (Below W0.heap.size W0 wr) := hb1
    clear hb1
    by_cases hlt : m < es.length
    · have hmi : (m : Int) < (es.length : Int) := by omega
      obtain ⟨b9, off, cap, hveq, hc⟩ := (HV.out.below (bthen B0.out HB.out)).some' (by omega)
      simp only [Value.slice.injEq] at hveq
      obtain ⟨rfl, -, rfl⟩ := hveq
      obtain ⟨d0, d1, d2⟩ := hc m hlt
      clear hc
      have HC9 : Hid (cs es m = (at3 es m).2.2) := rfl
      obtain ⟨p, hp⟩ : ∃ p, at3 es m = p := ⟨_, rfl⟩
      rw [hp] at d0 d1 d2 HC9
      clear hp
      obtain ⟨x, y, c⟩ := p
      simp only at d0 d1 d2 HC9
      obtain ⟨X, hX⟩ : ∃ X, wr.heap.size = X := ⟨_, rfl⟩
      obtain ⟨W1, hW1⟩ : ∃ W1, wr.alloc (.cells #[.int .i64 x, .int .i64 y, .int .i64 c] 50) = W1 := ⟨_, rfl⟩
      have B1 : Hid (Below W0.heap.size W0 W1) := by rw [← hW1]; exact balloc HB.out _
      have x2 : Hid (W1.cell? ⟨X, 2, none⟩ = some (.int .i64 c)) := by unfold Hid; rw [← hW1, ← hX]; exact cell_new wr _ _ 2 _ rfl
      have hXW : Hid (X < W1.heap.size) := by unfold Hid; rw [← hW1, ← hX]; simp
      have P1 : Hid _ := P0.out.below B1.out
      obtain ⟨p0, p1⟩ := P1.out
      go_wp2_with fail
      clear p0 p1 d0 d1 d2 hX hW1
      go_loopw [25, 12] (fun z le wq => ∃ k : Nat, z = .int .i64 k ∧ k ≤ es.length ∧ Is wq W1.heap.size le (ints ((List.range k).filter (fun i => decide (cs es i ≤ c)))) ∧ Below W1.heap.size W1 wq) (fun z _ _ => es.length - (intOf z).toNat)
      case atStart => exact ⟨0, rfl, Nat.zero_le _, Is.nil _ _, Below.refl _ _⟩
      case round =>
        obtain ⟨k, rfl, hk, ho, hq⟩ := hrel
        obtain ⟨ao, co, rfl⟩ := ho.sl.val
        have HO : Hid _ := ho
        have HQ : Hid (Below W1.heap.size W1 wr) := hq
        clear ho hq
        rw [ints_length] at HO ⊢
        have x3 := kept HQ.out x2.out
        by_cases hlk : k < es.length
        · have hki : (k : Int) < (es.length : Int) := by omega
          obtain ⟨b8, off8, cap8, hveq, hc⟩ := (HV.out.below (bthen (bthen B0.out B1.out) HQ.out)).some' (by omega)
          simp only [Value.slice.injEq, Option.some.injEq, Addr.mk.injEq] at hveq
          obtain ⟨⟨rfl, rfl, -⟩, -, rfl⟩ := hveq
          obtain ⟨d0, d1, d2⟩ := hc k hlk
          clear hc
          have HN : Hid _ := upt_next es c k
          have HC8 : Hid (cs es k = (at3 es k).2.2) := rfl
          obtain ⟨p, hp⟩ : ∃ p, at3 es k = p := ⟨_, rfl⟩
          rw [hp] at d0 d1 d2 HC8
          clear hp
          obtain ⟨x', y', c'⟩ := p
          simp only at d0 d1 d2 HC8
          rw [HC8.out] at HN
          have hL : ((List.range k).filter (fun i => decide (cs es i ≤ c))).length ≤ 600 := by
            have := List.length_filter_le (fun i => decide (cs es i ≤ c)) (List.range k)
            rw [List.length_range] at this; omega
          generalize (List.range k).filter (fun i => decide (cs es i ≤ c)) = L at *
          have x4 := kept_alloc (x := .cells #[.int .i64 x', .int .i64 y', .int .i64 c'] 50) x3
          by_cases hcc : c' ≤ c
          · rw [if_pos hcc] at HN
            obtain ⟨i0, hi0, hz0, hz1, hz2⟩ := info3_parts
            have hown := HO.out.own
            rw [ints_length] at hown
            have hwz := HQ.out.size
            have HNW : Hid (((wr.alloc (.cells #[.int .i64 x', .int .i64 y', .int .i64 c'] 50)).alloc (.cells #[.int .i64 (k : Int)] 3)).heap[wr.heap.size + 1]? = some (.cells #[.int .i64 (k : Int)] 3)) := new_at _ _ (by simp)
            go_wp2_with (at_builtin; refine wpList_append_lies _ rfl _ _ _ rfl W1.heap.size 3 i0 _ 1 8 Try.underlying23 hi0 hz0 hz1 hz2 rfl (by omega) (.slice ao L.length co) L.length _ rfl ((hown.alloc _).alloc _) ⟨wr.heap.size + 1, 0, none⟩ 1 1 [.int .i64 (k : Int)] rfl rfl (World.news_of_block (cs := #[.int .i64 (k : Int)]) (t := 3) (fr := (0, 0)) HNW.out) (by simp [Value.oneCell']) (by omega) (by unfold maxLen; omega) (by omega) (by simp; omega) (wr.heap.size + 1 + 1) (by simp) ?_; intro gg cap' w4 hown4 hgrow hat hlt4; have B4 : Hid (Below W1.heap.size W1 w4) := (by exact (balloc (balloc HQ.out _) _).grown hgrow (by simp; omega) (fun k hk => (ownBlock_lt hown k hk).1)))
            go_roundw
            case rel => exact ⟨k + 1, by go_num, by omega, by rw [HN.out, ints_snoc]; exact Is.next rfl (by rw [ints_length]) hown4, B4.out⟩
            case measure => simp [intOf]; omega
          · rw [if_neg hcc, List.append_nil] at HN
            have hcd : ¬ c' ≤ c := hcc
            go_wp2_with fail
            go_roundw
            case rel => exact ⟨k + 1, by go_num, by omega, by rw [HN.out]; exact HO.out.below (balloc (Below.refl _ _) _), balloc HQ.out _⟩
            case measure => simp [intOf]; omega
        · obtain rfl : k = es.length := by omega
          have PQ : Hid _ := P1.out.below HQ.out
          obtain ⟨p0, p1⟩ := PQ.out
          have hL : ((List.range es.length).filter (fun i => decide (cs es i ≤ c))).length ≤ 600 := by
            have := List.length_filter_le (fun i => decide (cs es i ≤ c)) (List.range es.length)
            rw [List.length_range] at this; omega
          have hLm : ∀ x, x ∈ (List.range es.length).filter (fun i => decide (cs es i ≤ c)) → x < es.length := fun x hx => by simpa using (List.mem_filter.1 hx).1
          have HR : Hid (rn es a b (m + 1) = if decide (Un.Uf.grp (pl es ((List.range es.length).filter (fun i => decide (cs es i ≤ c)))) a = Un.Uf.grp (pl es ((List.range es.length).filter (fun i => decide (cs es i ≤ c)))) b) = true ∧ ((rn es a b m).2 ≠ 0 ∨ c < (rn es a b m).1) then (c, 0) else rn es a b m) := by
            unfold Hid
            rw [← HC9.out]; rfl
          generalize (List.range es.length).filter (fun i => decide (cs es i ≤ c)) = L at *
          generalize rn es a b m = r at *
          obtain ⟨r1, r2⟩ := r
          simp only at HR
          have HLm : Hid _ := hLm
          clear hLm
          go_wp2_with fail
          clear p0 p1 x3
          cases hD : decide (Un.Uf.grp (pl es L) a = Un.Uf.grp (pl es L) b)
          · have HD : Hid _ := hD
            rw [hD] at HR
            clear hD
            refine (joinw n a b false _ _ es L wr HD.out (HV.out.below (bthen (bthen B0.out B1.out) HQ.out)) HO.out.sl HLm.out hL HG.out ha hb).mono ?_
            rintro e w5 ⟨rfl, b5⟩
            have B5 : Hid (Below W0.heap.size W0 w5) := bthen (bthen B1.out HQ.out) b5
            have HR2 : Hid (rn es a b (m + 1) = (r1, r2)) := by unfold Hid; rw [HR.out, if_neg (by simp)]
            clear HR b5
            go_wp2_with fail
            go_roundw
            case rel => exact ⟨m + 1, by go_num, by omega, by rw [HR2.out], by rw [HR2.out], B5.out⟩
            case measure => simp [intOf]; omega
          · have HD : Hid _ := hD
            rw [hD] at HR
            clear hD
            refine (joinw n a b true _ _ es L wr HD.out (HV.out.below (bthen (bthen B0.out B1.out) HQ.out)) HO.out.sl HLm.out hL HG.out ha hb).mono ?_
            rintro e w5 ⟨rfl, b5⟩
            have B5 : Hid (Below W0.heap.size W0 w5) := bthen (bthen B1.out HQ.out) b5
            have x5 := kept (bthen HQ.out b5) x2.out
            clear b5
            by_cases h2 : r2 = 0
            · subst h2
              by_cases h1 : c < r1
              · have HR2 : Hid (rn es a b (m + 1) = (c, 0)) := by unfold Hid; rw [HR.out, if_pos ⟨rfl, .inr h1⟩]
                clear HR
                go_wp2_with fail
                go_roundw
                case rel => exact ⟨m + 1, by go_num, by omega, by rw [HR2.out], by rw [HR2.out], B5.out⟩
                case measure => simp [intOf]; omega
              · have HR2 : Hid (rn es a b (m + 1) = (r1, 0)) := by unfold Hid; rw [HR.out, if_neg (by simpa using h1)]
                clear HR
                go_wp2_with fail
                go_roundw
                case rel => exact ⟨m + 1, by go_num, by omega, by rw [HR2.out], by rw [HR2.out], B5.out⟩
                case measure => simp [intOf]; omega
            · have HR2 : Hid (rn es a b (m + 1) = (c, 0)) := by unfold Hid; rw [HR.out, if_pos ⟨rfl, .inl h2⟩]
              have h3 : (r2 != 0) = true := by simp [h2]
              clear HR h2
              go_wp2_with fail
              go_roundw
              case rel => exact ⟨m + 1, by go_num, by omega, by rw [HR2.out], by rw [HR2.out], B5.out⟩
              case measure => simp [intOf]; omega
    · obtain rfl : m = es.length := by omega
      go_wp2_with fail
      go_ret2
      exact ⟨rfl, bthen B0.out HB.out⟩
end Go.Proofs.Ytdgihpegdcoilaa
