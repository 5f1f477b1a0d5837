/-
  Contract: what is first of a list.
-/
import Derived.Test.YtdgihpegdcoilaaHeapE
import Derived.Maps.AppendAt
namespace Go.Proofs.Ytdgihpegdcoilaa.So
open Go.RowKit
open Hq

/-- A slice of pops, as it is read: nil, or its pops one behind the other. -/
def SlR (w : World) (v : Value) (ls : List (Int × Int)) : Prop :=
  (∃ a c, v = .slice a 0 c ∧ ls = []) ∨
  ∃ b off cap, v = .slice (some ⟨b, off, none⟩) ls.length cap ∧ ∀ i, i < ls.length → w.cell? ⟨b, off + i * 2, none⟩ = some (.int .i64 (at' ls i).1) ∧ w.cell? ⟨b, off + i * 2 + 1, none⟩ = some (.int .i64 (at' ls i).2)

theorem SlR.below {w w' : World} {v : Value} {ls : List (Int × Int)} (h : SlR w v ls) (hb : Below w.heap.size w w') : SlR w' v ls := by
  rcases h with h | ⟨b, off, cap, hv, hc⟩
  · exact .inl h
  · exact .inr ⟨b, off, cap, hv, fun i hi => ⟨kept hb (hc i hi).1, kept hb (hc i hi).2⟩⟩
theorem Row.slr {w : World} {g cap : Nat} {ps : List (Int × Int)} (h : Row w g cap ps) : SlR w (.slice (some ⟨g, 0, none⟩) ps.length cap) ps :=
  .inr ⟨g, 0, cap, rfl, fun i hi => by
    obtain ⟨h1, h2, _⟩ := h.cell i hi
    rw [Nat.zero_add]
    exact ⟨h1, h2⟩⟩

/-- The state of the first loop: k pops are in the heap. -/
def Pushed (w : World) (ls : List (Int × Int)) (k : Nat) (wr : World) : Prop :=
  ∃ v qs, wr.heap[w.heap.size]? = some (.cells #[.func (.func 70) #[] #[], v] 105 (0, 0)) ∧ wr.ownsRow w.heap.size 68 2 v qs.length (flat qs) ∧ v.ownBlock ≠ some w.heap.size ∧ qs.Perm (ls.take k) ∧ IsHeap qs ∧ Below w.heap.size w wr

theorem at_mem (l : List (Int × Int)) (i : Nat) (h : i < l.length) : at' l i ∈ l := by
  unfold at'
  rw [List.getD_eq_getElem?_getD, List.getElem?_eq_getElem h]
  exact List.getElem_mem h
theorem take_succ_at (l : List (Int × Int)) (k : Nat) (h : k < l.length) : l.take (k + 1) = l.take k ++ [at' l k] := by
  unfold at'
  rw [List.take_succ_eq_append_getElem h, List.getD_eq_getElem?_getD, List.getElem?_eq_getElem h]
  rfl

theorem new_any (w : World) : Calls Try.prog 64 #[.func (.func 70) #[] #[]] w fun e w' => e = .returned (.pointer (some ⟨w.heap.size, 0, none⟩)) ∧ w' = w.alloc (.cells #[.func (.func 70) #[] #[], .slice none 0 0] 105) := by
  go_enter Try.func64, Try.ntmps64
  go_wp2
  go_ret
  exact ⟨rfl, rfl⟩

theorem pushed_start (w : World) (ls : List (Int × Int)) : Pushed w ls 0 (w.alloc (.cells #[.func (.func 70) #[] #[], .slice none 0 0] 105)) :=
  ⟨.slice none 0 0, [], heap_alloc_new _ _, World.ownsRow_nil _ _ _ _, by simp [Value.ownBlock], by simp, fun i h0 hi => by simp at hi, balloc (Below.refl _ _) _⟩

theorem heap_lt {w : World} {k : Nat} {o : Obj} (h : w.heap[k]? = some o) : k < w.heap.size := by
  rcases Nat.lt_or_ge k w.heap.size with hlt | hge
  · exact hlt
  · rw [Array.getElem?_eq_none hge] at h; cases h

/-- One round of the first loop, over its push. -/
theorem pushed_step {w wr : World} {ls : List (Int × Int)} {k : Nat} {a b : Int} (hk : k < ls.length) (hlen : ls.length ≤ 8796093022208) (ha : (at' ls k).1 = a) (hb : (at' ls k).2 = b) (h : Pushed w ls k wr) (o : Obj) :
    Calls Try.prog 66 #[.pointer (some ⟨w.heap.size, 0, none⟩), .agg #[.int .i64 a, .int .i64 b]] (wr.alloc o) fun e w' => e = .returned (.tuple #[]) ∧ Pushed w ls (k + 1) w' := by
  obtain ⟨v, qs, h1, h2, h3, h4, h5, h6⟩ := h
  have hq : qs.length = k := by have := h4.length_eq; simp at this; omega
  have lH := heap_lt h1
  refine (push_any w.heap.size w.heap.size v qs a b (wr.alloc o) (by rw [Below.heap_alloc _ _ _ lH]; exact h1) (h2.alloc _) h3 (Nat.le_refl _) (by omega) h5).mono ?_
  rintro e w' ⟨rfl, g, cap, rs, r1, r2, r3, r4, r5⟩
  refine ⟨rfl, .slice (some ⟨g, 0, none⟩) rs.length cap, rs, r1.head, r1.row.owns r2, by simpa [Value.ownBlock] using Ne.symm r1.ne, ?_, r4, (h6.alloc (by omega) _).trans r5⟩
  rw [take_succ_at ls k hk, show at' ls k = (a, b) from Prod.ext ha hb]
  exact r3.trans (h4.append_right _)

/-- The state of the second loop: k pops are taken out, in order. -/
def Popped (w : World) (ls : List (Int × Int)) (n k : Nat) (out : Value) (wr : World) : Prop :=
  ∃ o cp os g cap, out = .slice (some ⟨o, 0, none⟩) k cp ∧ os.length = k ∧ Row wr o cp os ∧ w.heap.size < o ∧ o ≠ g ∧ Below w.heap.size w wr ∧
    (n = 0 ∨ ∃ hs, HeapIs wr w.heap.size g cap hs ∧ w.heap.size ≤ g ∧ IsHeap hs ∧ (os ++ hs).Perm ls ∧ os.Pairwise Le ∧ ∀ x ∈ os, ∀ y ∈ hs, Le x y)

/-- Behind a Pop: one is out, and not yet laid down. -/
def Mid (w : World) (ls : List (Int × Int)) (n k : Nat) (out : Value) (p : Int × Int) (wr : World) : Prop :=
  ∃ o cp os g cap, out = .slice (some ⟨o, 0, none⟩) k cp ∧ os.length = k ∧ Row wr o cp os ∧ w.heap.size < o ∧ o ≠ g ∧ Below w.heap.size w wr ∧ n ≤ ls.length ∧
    ∃ hs, HeapIs wr w.heap.size g cap hs ∧ w.heap.size ≤ g ∧ IsHeap hs ∧ (os ++ p :: hs).Perm ls ∧ (os ++ [p]).Pairwise Le ∧ ∀ x ∈ os ++ [p], ∀ y ∈ hs, Le x y

theorem popped_pop {w wr : World} {ls : List (Int × Int)} {n k : Nat} {out : Value} (hk : k < n) (hn : n ≤ ls.length) (h : Popped w ls n k out wr) :
    Calls Try.prog 67 #[.pointer (some ⟨w.heap.size, 0, none⟩)] wr fun e w' => ∃ p : Int × Int, e = .returned (.tuple #[.agg #[.int .i64 p.1, .int .i64 p.2], .bool true]) ∧ Mid w ls n k out p w' := by
  obtain ⟨o, cp, os, g, cap, h1, h2, h3, h4, h5, h6, h7⟩ := h
  rcases h7 with h7 | ⟨hs, e1, e2, e3, e4, e5, e6⟩
  · omega
  · have hl : 0 < hs.length := by have := e4.length_eq; simp at this; omega
    refine (pop_any w.heap.size g cap hs wr hl e1 e3).mono ?_
    rintro e w' ⟨rfl, qs, q1, q2, q3, q4, q5, q6, q7, q8⟩
    have hpm : (at' hs 0 :: qs).Perm hs := (q2.cons _).trans (left_perm hs hl)
    have hsub : ∀ y ∈ qs, y ∈ hs := fun y hy => hpm.mem_iff.1 (List.mem_cons_of_mem _ hy)
    refine ⟨at' hs 0, rfl, o, cp, os, g, cap, h1, h2, h3.frame (q4 o h3.lt (by omega) h5), h4, h5, ?_, hn, qs, q1, e2, q3, ?_, ?_, ?_⟩
    · exact h6.trans ⟨q5, q6, q7, q8, fun i hi => q4 i (by have := h6.size; omega) (by omega) (by omega)⟩
    · exact (hpm.append_left os).trans e4
    · refine List.pairwise_append.2 ⟨e5, List.pairwise_singleton _ _, fun x hx y hy => ?_⟩
      rw [List.mem_singleton.1 hy]
      exact e6 x hx _ (at_mem hs 0 hl)
    · intro x hx y hy
      rcases List.mem_append.1 hx with hx | hx
      · exact e6 x hx y (hsub y hy)
      · rw [List.mem_singleton.1 hx]
        obtain ⟨i, hi, rfl⟩ := List.mem_iff_getElem.1 (hsub y hy)
        have := heap_least e3 i hi
        unfold at' at this ⊢
        rw [List.getD_eq_getElem?_getD (i := i), List.getElem?_eq_getElem hi] at this
        exact this

theorem popped_start {w wr w2 : World} {ls : List (Int × Int)} {n : Nat} (hn : n ≤ ls.length) (hlen : ls.length ≤ 8796093022208) (h : Pushed w ls ls.length wr)
    (hown : w2.ownsRow wr.heap.size 68 2 (.slice (some ⟨wr.heap.size, 0, none⟩) 0 n) 0 []) (hgr : wr.grownBy w2 none) : Popped w ls n 0 (.slice (some ⟨wr.heap.size, 0, none⟩) 0 n) w2 := by
  obtain ⟨v, qs, h1, h2, h3, h4, h5, h6⟩ := h
  obtain ⟨hr, _⟩ := Row.of_owns (ps := []) rfl hown
  have lH := heap_lt h1
  have hbel : Below w.heap.size w w2 := h6.grown hgr (by omega) (fun k hk => by cases hk)
  rw [List.take_of_length_le (Nat.le_refl _)] at h4
  by_cases h0 : n = 0
  · exact ⟨wr.heap.size, n, [], wr.heap.size + 1, 0, rfl, rfl, hr, lH, by omega, hbel, .inl h0⟩
  · have hq : 0 < qs.length := by have := h4.length_eq; omega
    obtain ⟨g, cap, rfl, hg, hlt⟩ := h2.form hq
    obtain ⟨hr2, _⟩ := Row.of_owns rfl h2
    refine ⟨wr.heap.size, n, [], g, cap, rfl, rfl, hr, lH, by omega, hbel, .inr ⟨qs, ⟨?_, hr2.frame (hgr.block g hlt (by simp)), ?_, by have := h4.length_eq; omega⟩, hg, h5, h4, List.Pairwise.nil, by simp⟩⟩
    · rw [hgr.block _ lH (by simp)]; exact h1
    · intro e; exact h3 (by simp [Value.ownBlock, e])

/-- Laid down: the state of the second loop, one round on. -/
theorem popped_next {w wr w1 : World} {ls os hs : List (Int × Int)} {n k o cp g cap : Nat} {a b : Int} {o1 o2 : Obj} {gg cp' : Nat} (m2 : os.length = k) (m3 : Row wr o cp os) (m4 : w.heap.size < o) (m5 : o ≠ g) (m6 : Below w.heap.size w wr)
    (m8 : HeapIs wr w.heap.size g cap hs) (m9 : w.heap.size ≤ g) (m10 : IsHeap hs) (m11 : (os ++ (a, b) :: hs).Perm ls) (m12 : (os ++ [(a, b)]).Pairwise Le) (m13 : ∀ x ∈ os ++ [(a, b)], ∀ y ∈ hs, Le x y)
    (hown : w1.ownsRow w.heap.size 68 2 (.slice (some ⟨gg, 0, none⟩) (k + 1) cp') (k + 1) (flat os ++ [.int .i64 a, .int .i64 b]))
    (hgr : ((wr.alloc o1).alloc o2).grownBy w1 (some o)) (hat : some o = some gg ∨ gg = wr.heap.size + 1 + 1) : Popped w ls n (k + 1) (.slice (some ⟨gg, 0, none⟩) (k + 1) cp') w1 := by
  have hl : (os ++ [(a, b)]).length = k + 1 := by simp [m2]
  have hf : flat os ++ [.int .i64 a, .int .i64 b] = flat (os ++ [(a, b)]) := by rw [flat_append]; rfl
  rw [hf] at hown
  obtain ⟨hr, _⟩ := Row.of_owns hl.symm hown
  have lo := m3.lt
  have lH := m8.ltH
  have lg := m8.row.lt
  have hgo : w.heap.size < gg ∧ gg ≠ g := by
    rcases hat with h | h
    · cases h; exact ⟨m4, m5⟩
    · omega
  have hbl : ∀ q, q < wr.heap.size → q ≠ o → w1.heap[q]? = wr.heap[q]? := fun q hq hne => by
    rw [hgr.block q (by simp; omega) (by simpa using hne), Below.heap_alloc _ _ _ (by simp; omega), Below.heap_alloc _ _ _ hq]
  refine ⟨gg, cp', os ++ [(a, b)], g, cap, rfl, hl, hr, hgo.1, hgo.2, ?_, .inr ⟨hs, m8.frame (hbl _ lH (by omega)) (hbl _ lg (Ne.symm m5)), m9, m10, ?_, m12, m13⟩⟩
  · exact (((m6.alloc (by omega) _).alloc (by simp; omega) _).grown hgr (by simp; omega) (fun q hq => by cases hq; omega))
  · rw [List.append_assoc]; exact m11

set_option maxRecDepth 100000 in
set_option maxHeartbeats 8000000 in
theorem first_some (b off cap n : Nat) (ls : List (Int × Int)) (w : World) (hls : ∀ i, i < ls.length → w.cell? ⟨b, off + i * 2, none⟩ = some (.int .i64 (at' ls i).1) ∧ w.cell? ⟨b, off + i * 2 + 1, none⟩ = some (.int .i64 (at' ls i).2)) (hn : n ≤ ls.length) (hlen : ls.length ≤ 8796093022208) :
    Calls Try.prog 59 #[.slice (some ⟨b, off, none⟩) ls.length cap, .int .i64 n] w fun e w' => ∃ o cp, e = .returned (.slice (some ⟨o, 0, none⟩) n cp) ∧ w.heap.size ≤ o ∧ Row w' o cp ((srt ls).take n) ∧ Below w.heap.size w w' := by
  have HLS : Hid _ := hls
  clear hls
  go_enter Try.func59, Try.ntmps59
  go_wp2_with fail
  refine (new_any w).mono ?_
  rintro e w1 ⟨rfl, hw1⟩
  have hp0 := pushed_start w ls
  rw [← hw1] at hp0
  clear hw1
  go_wp2_with fail
  go_loopw [14] (fun x wr => ∃ k : Nat, x = .int .i64 k ∧ k ≤ ls.length ∧ Pushed w ls k wr) (fun x _ => ls.length - (intOf x).toNat)
  case atStart => exact ⟨0, rfl, Nat.zero_le _, hp0⟩
  case round =>
    clear hp0
    obtain ⟨k, rfl, hk, hp⟩ := hrel
    by_cases hlt : k < ls.length
    · have hki : (k : Int) < (ls.length : Int) := by omega
      obtain ⟨c0, c1⟩ := HLS.out k hlt
      have hbl : Below w.heap.size w wr := hp.choose_spec.choose_spec.2.2.2.2.2
      have d0 := kept hbl c0
      have d1 := kept hbl c1
      obtain ⟨x, hx⟩ : ∃ x, (at' ls k).1 = x := ⟨_, rfl⟩
      obtain ⟨y, hy⟩ : ∃ x, (at' ls k).2 = x := ⟨_, rfl⟩
      rw [hx] at d0
      rw [hy] at d1
      have HX : Hid _ := hx
      have HY : Hid _ := hy
      have HP : Hid _ := hp
      clear hx hy c0 c1 hp hbl
      go_wp2_with fail
      refine (pushed_step hlt hlen HX.out HY.out HP.out _).mono ?_
      rintro e w2 ⟨rfl, hp2⟩
      go_wp2
      go_roundw
      case rel => exact ⟨k + 1, by go_num, by omega, hp2⟩
      case measure => simp [intOf]; omega
    · have hke : k = ls.length := by omega
      subst hke
      obtain ⟨i0, hi0, hz0, hz1, hz2⟩ := info_parts info32
      have HP : Hid _ := hp
      clear hp
      obtain ⟨w2, hrun, hown2, hgr2⟩ := run_make_own (P := Try.prog) wr wr.heap.size 66 68 i0 _ 2 Try.underlying66 hi0 hz0 hz1 .i64 .i64 n (by rw [hz2]; omega) (by unfold maxLen; omega) (Nat.le_refl _)
      go_wp2_with fail
      have hst := popped_start hn hlen HP.out hown2 hgr2
      clear HP hrun hown2 hgr2
      go_loopw [25, 8] (fun x out wr => ∃ k : Nat, x = .int .i64 k ∧ k ≤ n ∧ Popped w ls n k out wr) (fun x _ _ => n - (intOf x).toNat)
      case atStart => exact ⟨0, rfl, Nat.zero_le _, hst⟩
      case round =>
        clear hst
        obtain ⟨k, rfl, hkn, hp⟩ := hrel
        have HP : Hid _ := hp
        clear hp
        by_cases hlt2 : k < n
        · have hki : (k : Int) < (n : Int) := by omega
          go_wp2_with fail
          refine (popped_pop hlt2 hn HP.out).mono ?_
          rintro e w3 ⟨⟨a, b⟩, rfl, hm⟩
          have HM : Hid _ := hm
          clear hm
          obtain ⟨o, cp, os, g2, cap2, rfl, m2, m3, m4, m5, m6, m7, hs, m8, m9, m10, m11, m12, m13⟩ := HM.out
          have hown3 := m3.owns (base := w.heap.size) (by omega)
          rw [m2] at hown3
          have hnew : ((w3.alloc (.cells #[.int .i64 a, .int .i64 b] 68)).alloc (.cells #[.int .i64 a, .int .i64 b] 68)).heap[w3.heap.size + 1]? = some (.cells #[.int .i64 a, .int .i64 b] 68) := by
            have := heap_alloc_new (w3.alloc (.cells #[.int .i64 a, .int .i64 b] 68)) (.cells #[.int .i64 a, .int .i64 b] 68)
            simpa using this
          have hsz3 : w.heap.size ≤ w3.heap.size := m6.size
          have HM2 : Hid (os.length = k) := m2
          have HNW : Hid _ := hnew
          clear hnew m2
          go_wp2_with (at_builtin; refine wpList_append_lies _ rfl _ _ _ rfl w.heap.size 68 i0 _ 2 16 Try.underlying66 hi0 hz0 hz1 hz2 rfl (by omega) _ k (flat os) rfl ((hown3.alloc _).alloc _) ⟨w3.heap.size + 1, 0, none⟩ 1 1 [.int .i64 a, .int .i64 b] rfl rfl (World.news_of_block HNW.out) (by simp [Value.oneCell']) (by omega) (by unfold maxLen; omega) (by omega) (by simp; omega) (w3.heap.size + 1 + 1) (by simp) ?_; intro gg cp' w4 hown4 hgrow hat hlt4)
          go_roundw
          case rel =>
            exact ⟨k + 1, by go_num, by omega, popped_next HM2.out m3 m4 m5 m6 m8 m9 m10 m11 m12 m13 hown4 hgrow hat⟩
          case measure => simp [intOf]; omega
        · have hke : k = n := by omega
          subst hke
          obtain ⟨o, cp, os, g2, cap2, rfl, m2, m3, m4, m5, m6, m7⟩ := HP.out
          go_wp2_with fail
          go_ret
          refine ⟨o, cp, rfl, by omega, ?_, m6⟩
          rcases m7 with rfl | ⟨hs, m8, m9, m10, m11, m12, m13⟩
          · rw [List.length_eq_zero_iff.1 m2] at m3
            simpa using m3
          · have := taken m12 m13 m11
            rw [m2] at this
            rw [← this]
            exact m3

set_option maxRecDepth 100000 in
set_option maxHeartbeats 8000000 in
theorem first_nil (a : Option Addr) (c : Nat) (w : World) :
    Calls Try.prog 59 #[.slice a 0 c, .int .i64 0] w fun e w' => ∃ o cp, e = .returned (.slice (some ⟨o, 0, none⟩) 0 cp) ∧ w.heap.size ≤ o ∧ Row w' o cp [] ∧ Below w.heap.size w w' := by
  go_enter Try.func59, Try.ntmps59
  go_wp2_with fail
  refine (new_any w).mono ?_
  rintro e w1 ⟨rfl, hw1⟩
  have hp0 := pushed_start w []
  rw [← hw1] at hp0
  clear hw1
  go_wp2_with fail
  go_loopw [14] (fun x wr => x = .int .i64 0 ∧ Pushed w [] 0 wr) (fun _ _ => 0)
  case atStart => exact ⟨rfl, hp0⟩
  case round =>
    clear hp0
    obtain ⟨rfl, hp⟩ := hrel
    obtain ⟨i0, hi0, hz0, hz1, hz2⟩ := info_parts info32
    have HP : Hid _ := hp
    clear hp
    obtain ⟨w2, hrun, hown2, hgr2⟩ := run_make_own (P := Try.prog) wr wr.heap.size 66 68 i0 _ 2 Try.underlying66 hi0 hz0 hz1 .i64 .i64 0 (by rw [hz2]; omega) (by unfold maxLen; omega) (Nat.le_refl _)
    rw [show (((0 : Nat) : Int)) = 0 from rfl] at hrun
    go_wp2_with fail
    have hst := popped_start (ls := []) (n := 0) (by simp) (by simp) HP.out hown2 hgr2
    clear HP hrun hown2 hgr2
    go_loopw [25, 8] (fun x out wr => x = .int .i64 0 ∧ Popped w [] 0 0 out wr) (fun _ _ _ => 0)
    case atStart => exact ⟨rfl, hst⟩
    case round =>
      clear hst
      obtain ⟨rfl, hp⟩ := hrel
      obtain ⟨o, cp, os, g2, cap2, rfl, m2, m3, m4, m5, m6, m7⟩ := hp
      rw [List.length_eq_zero_iff.1 m2] at m3
      clear m7 m2
      go_wp2_with fail
      go_ret
      exact ⟨o, cp, rfl, by omega, m3, m6⟩

theorem first_any (v : Value) (n : Nat) (ls : List (Int × Int)) (w : World) (hv : SlR w v ls) (hn : n ≤ ls.length) (hlen : ls.length ≤ 8796093022208) :
    Calls Try.prog 59 #[v, .int .i64 n] w fun e w' => ∃ o cp, e = .returned (.slice (some ⟨o, 0, none⟩) n cp) ∧ w.heap.size ≤ o ∧ Row w' o cp ((srt ls).take n) ∧ Below w.heap.size w w' := by
  rcases hv with ⟨a, c, rfl, rfl⟩ | ⟨b, off, cap, rfl, hc⟩
  · obtain rfl : n = 0 := by simpa using hn
    have := first_nil a c w
    rw [show (((0 : Nat) : Int)) = 0 from rfl]
    simpa using this
  · exact first_some b off cap n ls w hc hn hlen

/-- The length of a slice value. -/
theorem SlR.val {w : World} {v : Value} {ls : List (Int × Int)} (h : SlR w v ls) : ∃ a c, v = .slice a ls.length c := by
  rcases h with ⟨a, c, rfl, rfl⟩ | ⟨b, off, cap, rfl, _⟩
  · exact ⟨_, _, rfl⟩
  · exact ⟨_, _, rfl⟩

theorem sort_any (v : Value) (ls : List (Int × Int)) (w : World) (hv : SlR w v ls) (hlen : ls.length ≤ 8796093022208) :
    Calls Try.prog 52 #[v] w fun e w' => ∃ o cp, e = .returned (.slice (some ⟨o, 0, none⟩) ls.length cp) ∧ w.heap.size ≤ o ∧ Row w' o cp (srt ls) ∧ Below w.heap.size w w' := by
  obtain ⟨a, c, rfl⟩ := hv.val
  go_enter Try.func52, Try.ntmps52
  go_wp2_with fail
  refine (first_any _ ls.length ls w hv (Nat.le_refl _) hlen).mono ?_
  rintro e w' ⟨o, cp, rfl, h1, h2, h3⟩
  rw [List.take_of_length_le (by rw [srt_length]; exact Nat.le_refl _)] at h2
  go_wp2
  go_ret
  exact ⟨o, cp, rfl, h1, h2, h3⟩

end Go.Proofs.Ytdgihpegdcoilaa.So
