/-
  Contracts: Of and Many.
-/
import Derived.Test.YtdgihpegdcoilaaUC
namespace Go.Proofs.Ytdgihpegdcoilaa.Un
open Go.RowKit
open Uf

theorem grp_take (ls : List (Int × Int)) (k : Nat) (h : k < ls.length) : grp (ls.take (k + 1)) = jn (grp (ls.take k)) (at' ls k).1.toNat (at' ls k).2.toNat := by
  rw [take_succ_at ls k h, grp_snoc]

set_option maxRecDepth 100000 in
set_option maxHeartbeats 4000000 in
theorem of_no (n : Int) (v : Value) (ls : List (Int × Int)) (w : World) (hv : SlR w v ls) (hlen : ls.length ≤ 8796093022208) (hc : chk n ls ≠ 0) :
    Calls Try.prog 12 #[.int .i64 n, v] w fun e w' => e = .returned (.tuple #[.slice none 0 0, .int .i64 (chk n ls)]) ∧ Below w.heap.size w w' := by
  obtain ⟨a0, c0, rfl⟩ := hv.val
  have HV : Hid _ := hv
  clear hv
  go_enter Try.func12, Try.ntmps12
  go_wp2_with fail
  refine (check_any n _ ls w HV.out hlen).mono ?_
  rintro e w1 ⟨rfl, b1⟩
  have hz : (chk n ls != 0) = true := by simp [hc]
  go_wp2_with fail
  go_ret2
  exact ⟨rfl, b1⟩

set_option maxRecDepth 100000 in
set_option maxHeartbeats 8000000 in
theorem of_yes (n : Nat) (v : Value) (ls : List (Int × Int)) (w : World) (hv : SlR w v ls) (hc : chk n ls = 0) :
    Calls Try.prog 12 #[.int .i64 n, v] w fun e w' => ∃ g, e = .returned (.tuple #[.slice (some ⟨g, 0, none⟩) n n, .int .i64 0]) ∧ w.heap.size ≤ g ∧ Ur w' g n (grp ls) ∧ Below w.heap.size w w' := by
  obtain ⟨a0, c0, rfl⟩ := hv.val
  have HV : Hid _ := hv
  obtain ⟨-, hn, hl, hok⟩ := chk_zero hc
  have hn' : n ≤ 64 := by omega
  rw [Int.toNat_natCast] at hok
  have HO : Hid (Ok n ls) := hok
  have HC : Hid _ := hc
  clear hv hok hc
  go_enter Try.func12, Try.ntmps12
  go_wp2_with fail
  refine (check_any n _ ls w HV.out (by omega)).mono ?_
  rintro e w1 ⟨rfl, b1⟩
  rw [HC.out]
  go_wp2_with fail
  refine (alone_any n w1 hn').mono ?_
  rintro e w2 ⟨H, rfl, hH, x2, r2, b2⟩
  have HR2 : Hid _ := r2
  have HX2 : Hid _ := x2
  have hg : w.heap.size ≤ w1.heap.size := b1.size
  have hne : Hid (H ≠ w1.heap.size) := fun e => by omega
  have hHw : Hid (w.heap.size ≤ H) := by unfold Hid; omega
  have B2 : Hid (Below w.heap.size w w2) := bthen b1 b2
  generalize w1.heap.size = g at *
  clear b1 b2 r2 x2 hH
  go_wp2_with fail
  go_loopw [22] (fun x wr => ∃ k : Nat, x = .int .i64 k ∧ k ≤ ls.length ∧ ∃ V, Ur wr g n V ∧ Inv n V (grp (ls.take k)) ∧ wr.cell? ⟨H, 0, none⟩ = some (.slice (some ⟨g, 0, none⟩) n n) ∧ Below w.heap.size w wr) (fun x _ => ls.length - (intOf x).toNat)
  case atStart => exact ⟨0, rfl, Nat.zero_le _, id, HR2.out, inv_id n, HX2.out, B2.out⟩
  case round =>
    obtain ⟨k, rfl, hk, V, hr, hi, hx, hb⟩ := hrel
    have HX : Hid _ := hx
    clear hx
    have hs := HV.out.below hb
    by_cases hlt : k < ls.length
    · have hki : (k : Int) < (ls.length : Int) := by omega
      obtain ⟨b, off, cap, hveq, hc⟩ := hs.some' (by omega)
      simp only [Value.slice.injEq] at hveq
      obtain ⟨rfl, -, rfl⟩ := hveq
      obtain ⟨d0, d1⟩ := hc k hlt
      clear hc
      have hin := HO.out _ (at_mem ls k hlt)
      have HG : Hid _ := grp_take ls k hlt
      obtain ⟨p, hp⟩ : ∃ x, at' ls k = x := ⟨_, rfl⟩
      rw [hp] at d0 d1 hin HG
      obtain ⟨x, y⟩ := p
      simp only at d0 d1 hin HG
      obtain ⟨x, rfl⟩ := Int.eq_ofNat_of_zero_le hin.1
      obtain ⟨y, rfl⟩ := Int.eq_ofNat_of_zero_le hin.2.2.1
      rw [Int.toNat_natCast, Int.toNat_natCast] at HG
      have HR : Hid _ := hr
      have HI : Hid _ := hi
      have HB : Hid (Below w.heap.size w wr) := hb
      have hxn : x < n := by omega
      have hyn : y < n := by omega
      clear hp hr hi hb hs hin
      go_wp2_with fail
      refine (join_any H g n x y V _ _ (kept_alloc HX.out) hne.out (HR.out.below (balloc (Below.refl _ _) _)) HI.out hxn hyn).mono ?_
      rintro e w' ⟨rfl, ⟨U', r', i'⟩, g'⟩
      have HR' : Hid _ := r'
      have HI' : Hid _ := i'
      have HX' : Hid _ := gcell g' hne.out (kept_alloc HX.out)
      have HB' : Hid (Below w.heap.size w w') := below_grown (balloc HB.out _) g' hg (balloc HB.out _).size
      clear r' i'
      go_wp2_with fail
      go_roundw
      case rel => exact ⟨k + 1, by go_num, by omega, U', HR'.out, by rw [HG.out]; exact HI'.out, HX'.out, HB'.out⟩
      case measure => simp [intOf]; omega
    · have hke : k = ls.length := by omega
      subst hke
      rw [List.take_length] at hi
      have HR : Hid _ := hr
      have HI : Hid _ := hi
      have HB : Hid (Below w.heap.size w wr) := hb
      clear hr hi hb hs
      have hmk := made_run n hn'
      go_wp2_with fail
      obtain ⟨L, hL⟩ : ∃ L, L = wr.heap.size := ⟨_, rfl⟩
      rw [← hL]
      have rL : Hid (Ur (wr.alloc (.cells (Array.ofFn (n := n) fun _ => .int .i64 0) 3)) L n (fun _ => 0)) := ⟨by rw [hL, heap_alloc_new]; rfl⟩
      have HR2 : Hid (Ur (wr.alloc (.cells (Array.ofFn (n := n) fun _ => .int .i64 0) 3)) g n V) := HR.out.below (balloc (Below.refl _ _) _)
      have HX2 : Hid _ := kept_alloc (x := .cells (Array.ofFn (n := n) fun _ => .int .i64 0) 3) HX.out
      have HB2 : Hid (Below w.heap.size w (wr.alloc (.cells (Array.ofFn (n := n) fun _ => .int .i64 0) 3))) := balloc HB.out _
      have hgL : Hid (L ≠ g) := fun e => by have := HR.out.lt; omega
      have hHL : Hid (H ≠ L) := fun e => by have := World.block_lt_of_cell? wr ⟨H, 0, none⟩ HX.out; simp at this; omega
      have hwL : w.heap.size ≤ L := by have := HB.out.size; omega
      generalize wr.alloc (.cells (Array.ofFn (n := n) fun _ => .int .i64 0) 3) = W1 at *
      clear hmk HR HX HB hL
      go_loopw [37] (fun x wr => ∃ k : Nat, x = .int .i64 k ∧ k ≤ n ∧ ∃ V D, Ur wr g n V ∧ Inv n V (grp ls) ∧ Ur wr L n D ∧ (∀ i, i < k → D i = grp ls i) ∧ wr.cell? ⟨H, 0, none⟩ = some (.slice (some ⟨g, 0, none⟩) n n) ∧ Below w.heap.size w wr) (fun x _ => n - (intOf x).toNat)
      case atStart => exact ⟨0, rfl, Nat.zero_le _, _, _, HR2.out, HI.out, rL.out, fun i hi => absurd hi (by omega), HX2.out, HB2.out⟩
      case round =>
        obtain ⟨k, rfl, hk, V, D, hr, hi, hd, he, hx, hb⟩ := hrel
        have HR : Hid _ := hr
        have HI : Hid _ := hi
        have HE : Hid _ := he
        have HD : Hid _ := hd
        have HX : Hid _ := hx
        have HB : Hid (Below w.heap.size w wr) := hb
        clear hr hi hb he hd hx
        by_cases hlt : k < n
        · have hki : (k : Int) < (n : Int) := by omega
          go_wp2_with fail
          refine (least_any H g n k V _ _ HX.out hne.out HR.out HI.out hlt).mono ?_
          rintro e w' ⟨rfl, ⟨U', r', i', k'⟩, g'⟩
          have HD' : Hid (Ur w' L n D) := HD.out.frame (g'.block L HD.out.lt (fun e => hgL.out (Option.some.inj e)))
          obtain ⟨c0, f0⟩ := HD'.out.cell k hlt
          have HR' : Hid _ := r'
          have HI' : Hid _ := i'
          have HX' : Hid _ := gcell g' hne.out HX.out
          have HB' : Hid (Below w.heap.size w w') := below_grown HB.out g' hg HB.out.size
          clear r' i' k' g'
          go_wp2_with fail
          go_roundw
          case rel =>
            refine ⟨k + 1, by go_num, by omega, U', _, HR'.out.frame (Below.heap_setCell _ _ _ _ (fun e => hgL.out e.symm)), HI'.out, HD'.out.put k _, fun i hi => ?_, ?_, Below.setCell HB'.out hwL _⟩
            · by_cases e : i = k
              · subst e; rw [upd_same]
              · rw [upd_other _ _ e]; exact HE.out i (by omega)
            · have := HX'.out
              unfold World.cell? at this ⊢
              rw [Below.heap_setCell _ _ _ _ hHL.out]; exact this
          case measure => simp [intOf]; omega
        · have hke : k = n := by omega
          subst hke
          go_wp2_with fail
          go_ret2
          exact ⟨L, rfl, hwL, HD.out.congr HE.out, HB.out⟩

set_option maxRecDepth 100000 in
set_option maxHeartbeats 4000000 in
theorem many_no (n : Int) (v : Value) (ls : List (Int × Int)) (w : World) (hv : SlR w v ls) (hlen : ls.length ≤ 8796093022208) (hc : chk n ls ≠ 0) :
    Calls Try.prog 13 #[.int .i64 n, v] w fun e w' => e = .returned (.tuple #[.int .i64 0, .int .i64 (chk n ls)]) ∧ Below w.heap.size w w' := by
  obtain ⟨a0, c0, rfl⟩ := hv.val
  have HV : Hid _ := hv
  clear hv
  have hz : (chk n ls != 0) = true := by simp [hc]
  go_enter Try.func13, Try.ntmps13
  go_wp2_with fail
  refine (of_no n _ ls w HV.out hlen hc).mono ?_
  rintro e w1 ⟨rfl, b1⟩
  clear hc
  go_wp2_with fail
  go_ret2
  exact ⟨rfl, b1⟩

theorem cnt_succ (P : Nat → Bool) (k : Nat) : cnt P (k + 1) = cnt P k + (if P k = true then 1 else 0) := rfl

set_option maxRecDepth 100000 in
set_option maxHeartbeats 8000000 in
theorem many_yes (n : Nat) (v : Value) (ls : List (Int × Int)) (w : World) (hv : SlR w v ls) (hc : chk n ls = 0) :
    Calls Try.prog 13 #[.int .i64 n, v] w fun e w' => e = .returned (.tuple #[.int .i64 (many n (grp ls)), .int .i64 0]) ∧ Below w.heap.size w w' := by
  obtain ⟨a0, c0, rfl⟩ := hv.val
  have HV : Hid _ := hv
  have HC : Hid _ := hc
  have hn : n ≤ 64 := by have := (chk_zero hc).2.1; omega
  clear hv hc
  go_enter Try.func13, Try.ntmps13
  go_wp2_with fail
  refine (of_yes n _ ls w HV.out HC.out).mono ?_
  rintro e w1 ⟨g, rfl, hg, r1, b1⟩
  have HR : Hid _ := r1
  have HB : Hid (Below w.heap.size w w1) := b1
  clear r1 b1
  go_wp2_with fail
  go_loopw [22, 8] (fun x y wr => ∃ k : Nat, x = .int .i64 k ∧ k ≤ n ∧ y = .int .i64 (cnt (fun x => x == grp ls x) k : Nat) ∧ wr = w1) (fun x _ _ => n - (intOf x).toNat)
  case atStart => exact ⟨0, rfl, Nat.zero_le _, rfl, rfl⟩
  case round =>
    obtain ⟨k, rfl, hk, rfl, rfl⟩ := hrel
    have hle := cnt_le (fun x => x == grp ls x) k
    by_cases hlt : k < n
    · have hki : (k : Int) < (n : Int) := by omega
      obtain ⟨c0, -⟩ := HR.out.cell k hlt
      have HS : Hid _ := cnt_succ (fun x => x == grp ls x) k
      generalize cnt (fun x => x == grp ls x) k = m at *
      obtain ⟨p, hp⟩ : ∃ p, grp ls k = p := ⟨_, rfl⟩
      rw [hp] at c0 HS
      clear hp
      by_cases e : k = p
      · subst e
        simp only [beq_self_eq_true, if_true] at HS
        go_wp2_with fail
        go_roundw
        case rel => exact ⟨k + 1, by go_num, by omega, by rw [HS.out]; go_num, trivial⟩
        case measure => simp [intOf]; omega
      · have e1 : ((k : Int) == (p : Int)) = false := by simp; omega
        have e2 : (k == p) = false := by simp [e]
        rw [e2] at HS
        go_wp2_with fail
        go_roundw
        case rel => exact ⟨k + 1, by go_num, by omega, by rw [HS.out]; rfl, trivial⟩
        case measure => simp [intOf]; omega
    · have hke : k = n := by omega
      subst hke
      clear hle
      go_wp2_with fail
      go_ret2
      exact ⟨rfl, HB.out⟩
end Go.Proofs.Ytdgihpegdcoilaa.Un
