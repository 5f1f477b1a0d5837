/-
  The walk of the law fellkeep.HeapLeast: it returns true, and writes nothing that was there.
-/
import Derived.Test.YtihicidfpfkknabHeapI
import Derived.Test.YtihicidfpfkknabHpL
namespace Go.Proofs.Ytihicidfpfkknab.HLeast
open Go.RowKit
open Hp

theorem lit_least (w : World) : Calls Try.prog 12 #[.slice (some ⟨w.heap.size, 0, none⟩) 2 2, .int .i64 1] (w.alloc (.cells #[.int .i64 2, .int .i64 0, .int .i64 1, .int .i64 0] 32)) fun e w' =>
    ∃ o cp, e = .returned (.tuple #[.slice (some ⟨o, 0, none⟩) 1 cp, .int .i64 0]) ∧ Row w' o cp [(1, 0)] ∧ Below w.heap.size w w' := by
  refine (least_yes _ 1 [(2, 0), (1, 0)] _ (lit_slr w [(2, 0), (1, 0)] _ 2 rfl rfl (by decide)) (by decide)).mono ?_
  rintro e w1 ⟨o1, cp1, rfl, t1, r1, b1⟩
  rw [show (srt [(2, 0), (1, 0)]).take 1 = [(1, 0)] from by decide] at r1
  exact ⟨o1, cp1, rfl, r1, bthen (balloc (Below.refl _ _) _) b1⟩

theorem two0 (w : World) (a b : Value) : (w.alloc (.cells #[a, b] 30)).cell? ⟨w.heap.size, 0, none⟩ = some a := by simp
theorem two1 (w : World) (a b : Value) : (w.alloc (.cells #[a, b] 30)).cell? ⟨w.heap.size, 1, none⟩ = some b := by simp
theorem nil_slr (w : World) : SlR w (.slice none 0 0) [] := .inl ⟨_, _, rfl, rfl⟩

set_option maxRecDepth 100000 in
set_option maxHeartbeats 8000000 in
theorem walk_no (v u : Value) (ls rs : List (Int × Int)) (n : Int) (w : World) (hv : SlR w v ls) (hu : SlR w u rs) (hl : ls.length ≤ 1048576) (hr : rs.length ≤ 1048576) (hn : n < 0) :
    Calls Try.prog 5 #[v, u, .int .i64 n] w fun e w' => e = .returned (.bool true) ∧ Below w.heap.size w w' := by
  obtain ⟨a, c, rfl⟩ := hv.val
  obtain ⟨a', c', rfl⟩ := hu.val
  have HV : Hid (SlR w (.slice a ls.length c) ls) := hv
  have HU : Hid (SlR w (.slice a' rs.length c') rs) := hu
  clear hv hu
  go_enter Try.func5, Try.ntmps5
  go_wp2_with fail
  refine (lit_least w).mono ?_
  rintro e w1 ⟨o1, cp1, rfl, r1, b1⟩
  have HR1 : Hid (Row w1 o1 cp1 [(1, 0)]) := r1
  have HB1 : Hid (Below w.heap.size w w1) := b1
  clear r1 b1
  go_wp2_with fail
  refine (equal_any _ _ [(1, 0)] [(1, 0)] _ (HR1.out.slr.below (balloc (Below.refl _ _) _)) (lit_slr w1 [(1, 0)] _ 1 rfl rfl (by decide)) (by decide)).mono ?_
  rintro e w2 ⟨rfl, q2, rfl⟩
  have HB2 : Hid (Below w.heap.size w ((w1.alloc (.cells (flat [(1, 0)]).toArray 32)).drewN q2)) := below_drewN (balloc HB1.out _) q2
  clear HB1 HR1
  generalize ((w1.alloc (.cells (flat [(1, 0)]).toArray 32)).drewN q2) = W2 at *
  go_wp2_with fail
  refine (least_no _ n _ hn).mono ?_
  rintro e w3 ⟨rfl, rfl⟩
  go_wp2_with fail
  refine (least_no _ n _ hn).mono ?_
  rintro e w3 ⟨rfl, rfl⟩
  go_wp2_with fail
  refine (concat_any _ _ _ ls rs _ (HV.out.below (balloc HB2.out _)) (HU.out.below (balloc HB2.out _)) hl hr (two0 _ _ _) (two1 _ _ _)).mono ?_
  rintro e w4 ⟨out, rfl, sl4, b4⟩
  have HB4 : Hid (Below w.heap.size w w4) := bthen (balloc HB2.out _) b4
  clear sl4 b4 HB2
  go_wp2_with fail
  refine (least_no _ n _ hn).mono ?_
  rintro e w5 ⟨rfl, rfl⟩
  go_wp2_with fail
  refine (concat_any _ (.slice none 0 0) (.slice none 0 0) [] [] _ (nil_slr _) (nil_slr _) (by simp) (by simp) (by simp) (by simp)).mono ?_
  rintro e w6 ⟨out2, rfl, sl6, b6⟩
  have HB6 : Hid (Below w.heap.size w w6) := bthen (balloc HB4.out _) b6
  clear sl6 b6 HB4
  go_wp2_with fail
  refine (least_no _ n _ hn).mono ?_
  rintro e w7 ⟨rfl, rfl⟩
  go_wp2
  go_ret
  exact ⟨rfl, HB6.out⟩

set_option maxRecDepth 100000 in
set_option maxHeartbeats 8000000 in
theorem walk_yes (v u : Value) (ls rs : List (Int × Int)) (n : Nat) (w : World) (hv : SlR w v ls) (hu : SlR w u rs) (hl : ls.length ≤ 1048576) (hr : rs.length ≤ 1048576) :
    Calls Try.prog 5 #[v, u, .int .i64 n] w fun e w' => e = .returned (.bool true) ∧ Below w.heap.size w w' := by
  obtain ⟨a, c, rfl⟩ := hv.val
  obtain ⟨a', c', rfl⟩ := hu.val
  have HV : Hid (SlR w (.slice a ls.length c) ls) := hv
  have HU : Hid (SlR w (.slice a' rs.length c') rs) := hu
  clear hv hu
  go_enter Try.func5, Try.ntmps5
  go_wp2_with fail
  refine (lit_least w).mono ?_
  rintro e w1 ⟨o1, cp1, rfl, r1, b1⟩
  have HR1 : Hid (Row w1 o1 cp1 [(1, 0)]) := r1
  have HB1 : Hid (Below w.heap.size w w1) := b1
  clear r1 b1
  go_wp2_with fail
  refine (equal_any _ _ [(1, 0)] [(1, 0)] _ (HR1.out.slr.below (balloc (Below.refl _ _) _)) (lit_slr w1 [(1, 0)] _ 1 rfl rfl (by decide)) (by decide)).mono ?_
  rintro e w2 ⟨rfl, q2, rfl⟩
  have HB2 : Hid (Below w.heap.size w ((w1.alloc (.cells (flat [(1, 0)]).toArray 32)).drewN q2)) := below_drewN (balloc HB1.out _) q2
  clear HB1 HR1
  generalize ((w1.alloc (.cells (flat [(1, 0)]).toArray 32)).drewN q2) = W2 at *
  go_wp2_with fail
  refine (least_yes _ n ls _ (HV.out.below HB2.out) (by omega)).mono ?_
  rintro e w3 ⟨o3, cp3, rfl, t3, r3, b3⟩
  have HB3 : Hid (Below w.heap.size w w3) := bthen HB2.out b3
  have HA3 : Hid (SlR w3 (.slice (some ⟨o3, 0, none⟩) (min n ls.length) cp3) ((srt ls).take n)) := by
    have := r3.slr
    rw [List.length_take, srt_length] at this
    exact this
  clear t3 r3 b3 HB2
  go_wp2_with fail
  refine (least_yes _ n rs _ (HU.out.below HB3.out) (by omega)).mono ?_
  rintro e w4 ⟨o4, cp4, rfl, t4, r4, b4⟩
  have HB4 : Hid (Below w.heap.size w w4) := bthen HB3.out b4
  have HA4 : Hid (SlR w4 (.slice (some ⟨o3, 0, none⟩) (min n ls.length) cp3) ((srt ls).take n)) := HA3.out.below b4
  have HC4 : Hid (SlR w4 (.slice (some ⟨o4, 0, none⟩) (min n rs.length) cp4) ((srt rs).take n)) := by
    have := r4.slr
    rw [List.length_take, srt_length] at this
    exact this
  clear t4 r4 b4 HB3 HA3
  go_wp2_with fail
  refine (concat_any _ _ _ ls rs _ (HV.out.below (balloc HB4.out _)) (HU.out.below (balloc HB4.out _)) hl hr (two0 _ _ _) (two1 _ _ _)).mono ?_
  rintro e w5 ⟨out, rfl, sl5, b5⟩
  have b5' := bthen (balloc (Below.refl w4.heap.size w4) _) b5
  have HB5 : Hid (Below w.heap.size w w5) := bthen HB4.out b5'
  have HA5 : Hid (SlR w5 (.slice (some ⟨o3, 0, none⟩) (min n ls.length) cp3) ((srt ls).take n)) := HA4.out.below b5'
  have HC5 : Hid (SlR w5 (.slice (some ⟨o4, 0, none⟩) (min n rs.length) cp4) ((srt rs).take n)) := HC4.out.below b5'
  have HS5 : Hid (SlR w5 out (ls ++ rs)) := sl5
  clear sl5 b5 b5' HB4 HA4 HC4
  go_wp2_with fail
  refine (least_yes _ n (ls ++ rs) _ HS5.out (by simp; omega)).mono ?_
  rintro e w6 ⟨o6, cp6, rfl, t6, r6, b6⟩
  have HB6 : Hid (Below w.heap.size w w6) := bthen HB5.out b6
  have HA6 : Hid (SlR w6 (.slice (some ⟨o3, 0, none⟩) (min n ls.length) cp3) ((srt ls).take n)) := HA5.out.below b6
  have HC6 : Hid (SlR w6 (.slice (some ⟨o4, 0, none⟩) (min n rs.length) cp4) ((srt rs).take n)) := HC5.out.below b6
  have HD6 : Hid (SlR w6 (.slice (some ⟨o6, 0, none⟩) (min n (ls ++ rs).length) cp6) ((srt (ls ++ rs)).take n)) := by
    have := r6.slr
    rw [List.length_take, srt_length] at this
    exact this
  clear t6 r6 b6 HB5 HA5 HC5 HS5
  generalize min n (ls ++ rs).length = m6 at *
  go_wp2_with fail
  refine (concat_any _ _ _ ((srt ls).take n) ((srt rs).take n) _ (HA6.out.below (balloc (Below.refl _ _) _)) (HC6.out.below (balloc (Below.refl _ _) _)) (by simp [srt_length]; omega) (by simp [srt_length]; omega) (by simp) (by simp)).mono ?_
  rintro e w7 ⟨out7, rfl, sl7, b7⟩
  have b7' := bthen (balloc (Below.refl w6.heap.size w6) _) b7
  have HB7 : Hid (Below w.heap.size w w7) := bthen HB6.out b7'
  have HD7 : Hid (SlR w7 (.slice (some ⟨o6, 0, none⟩) m6 cp6) ((srt (ls ++ rs)).take n)) := HD6.out.below b7'
  have HS7 : Hid (SlR w7 out7 ((srt ls).take n ++ (srt rs).take n)) := sl7
  clear sl7 b7 b7' HB6 HA6 HC6 HD6
  go_wp2_with fail
  refine (least_yes _ n ((srt ls).take n ++ (srt rs).take n) _ HS7.out (by simp [srt_length]; omega)).mono ?_
  rintro e w8 ⟨o8, cp8, rfl, t8, r8, b8⟩
  have HB8 : Hid (Below w.heap.size w w8) := bthen HB7.out b8
  have HD8 : Hid (SlR w8 (.slice (some ⟨o6, 0, none⟩) m6 cp6) ((srt (ls ++ rs)).take n)) := HD7.out.below b8
  have HE8 : Hid (SlR w8 (.slice (some ⟨o8, 0, none⟩) (min n ((srt ls).take n ++ (srt rs).take n).length) cp8) ((srt (ls ++ rs)).take n)) := by
    have := r8.slr
    rw [List.length_take, srt_length, ← least_two] at this
    exact this
  clear t8 r8 b8 HB7 HD7 HS7
  generalize min n ((srt ls).take n ++ (srt rs).take n).length = m8 at *
  go_wp2_with fail
  refine (equal_any _ _ ((srt (ls ++ rs)).take n) ((srt (ls ++ rs)).take n) _ HD8.out HE8.out (by simp [srt_length]; omega)).mono ?_
  rintro e w9 ⟨rfl, q9, rfl⟩
  go_wp2
  go_ret
  exact ⟨rfl, below_drewN HB8.out q9⟩

theorem walk (v : Value) (ls : List (Int × Int)) (u : Value) (rs : List (Int × Int)) (n : Int) (w : World) (hv : SlR w v ls) (hl : ls.length ≤ 1048576) (hu : SlR w u rs) (hr : rs.length ≤ 1048576) :
    Calls Try.prog 5 #[v, u, .int .i64 n] w fun e w' => e = .returned (.bool true) ∧ Below w.heap.size w w' := by
  rcases Int.lt_or_le n 0 with hn | hn
  · exact walk_no v u ls rs n w hv hu hl hr hn
  · obtain ⟨k, rfl⟩ := Int.eq_ofNat_of_zero_le hn
    exact walk_yes v u ls rs k w hv hu hl hr

end Go.Proofs.Ytihicidfpfkknab.HLeast
