/-
  Contracts: sign, Print.
-/
import Derived.Test.YteediekpljjbpaaDoorPX
import Derived.Test.YteediekpljjbpaaDoorPm
import Derived.Laws.IdiomStrings
import Derived.Maps.AppendAt
namespace Go.Proofs.YteediekpljjbpaaDoor
open Go.RowKit
open Gm Pm

theorem sign_any (c : Int) (w : World) (h0 : 0 ≤ c) (h9 : c ≤ 9) : Calls Tryd.prog 22 #[.int .i64 c] w fun e w' => e = .returned (.int .u8 ((sg c).toNat : Int)) ∧ w' = w := by
  have HS : Hid _ := sg_nat h0 h9
  by_cases hc : c = 0
  · subst hc
    go_enter Tryd.func22, Tryd.ntmps22
    go_wp2
    go_ret
    exact ⟨ret_int (by rw [HS.out]; rfl), rfl⟩
  · rw [if_neg hc] at HS
    have hcb : (c == 0) = false := by simp [hc]
    go_enter Tryd.func22, Tryd.ntmps22
    go_wp2
    go_ret
    exact ⟨ret_int (by rw [HS.out]), rfl⟩

def bv (b : UInt8) : Value := .int .u8 (b.toNat : Int)
/-- A row of bytes that the calls made for themselves. -/
structure Bs (w : World) (base : Nat) (v : Value) (l : List UInt8) : Prop where
  own : w.ownsRow base 5 1 v l.length (l.map bv)
theorem owns_below {w w' : World} {base n t sz : Nat} {v : Value} {xs : List Value} (h : w.ownsRow base t sz v n xs) (hb : Below w.heap.size w w') : w'.ownsRow base t sz v n xs := by
  obtain ⟨h1, h2⟩ := h
  refine ⟨h1, ?_⟩
  rcases h2 with h2 | ⟨g, cap, cur, h3, h4, h5, h6⟩
  · exact .inl h2
  · refine .inr ⟨g, cap, cur, h3, h4, ?_, h6⟩
    have hlt : g < w.heap.size := by
      rcases Nat.lt_or_ge g w.heap.size with hlt | hge
      · exact hlt
      · rw [Array.getElem?_eq_none hge] at h5; cases h5
    rw [hb.block _ hlt]; exact h5
theorem Bs.below {w w' : World} {base : Nat} {v : Value} {l : List UInt8} (h : Bs w base v l) (hb : Below w.heap.size w w') : Bs w' base v l := ⟨owns_below h.own hb⟩
theorem ownBlock_lt {w : World} {base : Nat} {e : TypeId} {size : Nat} {v : Value} {n : Nat} {xs : List Value} (h : w.ownsRow base e size v n xs) : ∀ g, v.ownBlock = some g → base ≤ g ∧ g < w.heap.size := by
  intro g hg
  rcases h.2 with ⟨rfl, _⟩ | ⟨g', cap, cur, rfl, hb, hh, _⟩
  · cases hg
  · simp [Value.ownBlock] at hg
    subst hg
    refine ⟨hb, ?_⟩
    rcases Nat.lt_or_ge g' w.heap.size with hlt | hge
    · exact hlt
    · rw [Array.getElem?_eq_none hge] at hh; cases hh
theorem info5 : (Tryd.prog.info? 5).map (fun i => (i.zero, i.size, i.bytes)) = some (some (.int .u8 0), 1, 1) := by kernel_rfl
theorem info5_parts : ∃ i, Tryd.prog.info? 5 = some i ∧ i.zero = some (.int .u8 0) ∧ i.size = 1 ∧ i.bytes = 1 := by
  obtain ⟨i, hi, hh⟩ := Option.map_eq_some_iff.1 info5
  simp only [Prod.mk.injEq] at hh
  exact ⟨i, hi, hh.1, hh.2.1, hh.2.2⟩
theorem Bs.nil (w : World) (base : Nat) : Bs w base (.slice none 0 0) [] := ⟨World.ownsRow_nil _ _ _ _⟩
/-- The row's bytes as a string. -/
theorem Bs.str {w : World} {base : Nat} {v : Value} {l : List UInt8} (h : Bs w base v l) : (convert 53 9 v).run Tryd.prog w = .ok (.string ⟨l.toArray⟩) w := by
  rcases h.own.2 with ⟨rfl, h0⟩ | ⟨g, cap, cur, rfl, _, h1, h2, h3, h4, h5⟩
  · obtain rfl : l = [] := List.length_eq_zero_iff.1 h0
    kernel_rfl
  · refine run_convert_bytes_back w 53 9 5 ⟨g, 0, none⟩ cap l Tryd.underlying53 Tryd.underlying5 Tryd.underlying9 (fun j hj => ?_)
    have hadd : (⟨g, 0, none⟩ : Addr).add j = ⟨g, j, none⟩ := by unfold Addr.add; split <;> simp_all
    have : cur[j]? = some (bv l[j]) := by
      have e : (l.map bv)[j]? = some (bv l[j]) := by simp [hj]
      rw [← e, ← h5, List.getElem?_take_of_lt (by omega), Array.getElem?_toList]
    rw [hadd]
    simp [World.cell?, h1, this, bv]
/-- One byte more. -/
theorem Bs.next {w : World} {base n cap gg : Nat} {l m : List UInt8} {b : UInt8} (hm : m = l ++ [b]) (hn : n = l.length) (h : w.ownsRow base 5 1 (.slice (some ⟨gg, 0, none⟩) (n + 1) cap) (n + 1) (l.map bv ++ [.int .u8 (b.toNat : Int)])) : Bs w base (.slice (some ⟨gg, 0, none⟩) (n + 1) cap) m := by
  subst hm hn
  refine ⟨?_⟩
  rw [List.map_append, List.length_append]
  exact h

set_option maxRecDepth 100000 in
set_option maxHeartbeats 4000000 in
theorem print_bad (W H : Int) (v : Value) (cs : List Int) (w : World) (hv : SlI w v cs) (hlen : cs.length ≤ 9223372036854775807) (hc : gchk W H cs ≠ 0) :
    Calls Tryd.prog 13 #[.agg #[.int .i64 W, .int .i64 H, v]] w fun e w' => e = .returned (.tuple #[.string { data := #[] }, .int .i64 (gchk W H cs)]) ∧ Below w.heap.size w w' := by
  obtain ⟨a0, c0, rfl⟩ := hv.val
  have HV : Hid _ := hv
  clear hv
  have hz : (gchk W H cs != 0) = true := by simp [hc]
  clear hc
  go_enter Tryd.func13, Tryd.ntmps13
  go_wp2_with fail
  refine (gcheck_any W H _ cs _ (HV.out.below (balloc (Below.refl _ _) _)) hlen).mono ?_
  rintro e w1 ⟨rfl, b1⟩
  go_wp2_with fail
  go_ret2
  exact ⟨rfl, bthen (balloc (Below.refl _ _) _) b1⟩

set_option maxRecDepth 100000 in
set_option maxHeartbeats 8000000 in
theorem print_yes (W H : Int) (v : Value) (cs : List Int) (w : World) (hv : SlI w v cs) (hc : gchk W H cs = 0) :
    Calls Tryd.prog 13 #[.agg #[.int .i64 W, .int .i64 H, v]] w fun e w' => e = .returned (.tuple #[.string ⟨(txt W cs).toArray⟩, .int .i64 0]) ∧ Below w.heap.size w w' := by
  have hgd := gchk_zero hc
  have hle := hgd.le
  obtain ⟨b, off, c0, rfl, hcl⟩ := hv.some' (by omega)
  have HV : Hid _ := hv
  have HCL : Hid (∀ i, i < cs.length → w.cell? ⟨b, off + i, none⟩ = some (.int .i64 (cs.getD i 0))) := hcl
  have HC : Hid _ := hc
  have HGD : Hid _ := hgd
  have hw1 := hgd.w1
  have hw8 := hgd.w8
  have hWz : (W == 0) = false := by simp; omega
  clear hv hc hgd hcl
  go_enter Tryd.func13, Tryd.ntmps13
  go_wp2_with fail
  refine (gcheck_any W H _ cs _ (HV.out.below (balloc (Below.refl _ _) _)) (by omega)).mono ?_
  rintro e w1 ⟨rfl, b1⟩
  have P1 : Hid _ := (box3_start w W H (.slice (some ⟨b, off, none⟩) cs.length c0)).below b1
  have B1 : Hid (Below w.heap.size w w1) := bthen (balloc (Below.refl _ _) _) b1
  obtain ⟨p0, p1, p2⟩ := P1.out
  clear b1
  rw [HC.out]
  go_wp2_with fail
  clear p0 p1 p2
  go_loopw [16, 5] (fun z out wr => ∃ k : Nat, z = .int .i64 k ∧ k ≤ cs.length ∧ Bs wr w1.heap.size out (pm W cs k) ∧ Below w1.heap.size w1 wr) (fun z _ _ => cs.length - (intOf z).toNat)
  case atStart => exact ⟨0, rfl, Nat.zero_le _, Bs.nil _ _, Below.refl _ _⟩
  case round =>
    obtain ⟨k, rfl, hk, ho, hb⟩ := hrel
    have HO : Hid _ := ho
    have HB : Hid (Below w1.heap.size w1 wr) := hb
    clear ho hb
    by_cases hlt : k < cs.length
    · have hki : (k : Int) < (cs.length : Int) := by omega
      have d0 := kept HB.out (kept B1.out (HCL.out k hlt))
      obtain ⟨z0, z9⟩ := HGD.out.cell k hlt
      obtain ⟨x, hx⟩ : ∃ x, cs.getD k 0 = x := ⟨_, rfl⟩
      rw [hx] at d0 z0 z9
      have HX : Hid _ := hx
      clear hx
      have hlp := pm_length W cs k
      obtain ⟨i0, hi0, hz0, hz1, hz2⟩ := info5_parts
      have hown := HO.out.own
      have hwz := HB.out.size
      have HM : Hid _ := @pm_mid W cs k
      have HE : Hid _ := @pm_end W cs k
      rw [HX.out] at HM HE
      generalize pm W cs k = l at *
      go_wp2_with fail
      refine (sign_any x _ z0 z9).mono ?_
      rintro e w2 ⟨rfl, rfl⟩
      go_wp2_with (at_builtin; refine wpList_append_lies _ rfl _ _ _ rfl w1.heap.size 5 i0 _ 1 1 Tryd.underlying53 hi0 hz0 hz1 hz2 rfl (by omega) u5 l.length (l.map bv) rfl (hown.alloc _) ⟨w2.heap.size, 0, none⟩ 1 1 [.int .u8 ((sg x).toNat : Int)] rfl rfl (World.news_of_block (cs := #[.int .u8 ((sg x).toNat : Int)]) (t := 5) (fr := (0, 0)) (heap_alloc_new w2 _)) (by simp [Value.oneCell']) (by omega) (by unfold maxLen; omega) (by omega) (by simp; omega) (w2.heap.size + 1) (by simp) ?_; intro gg cap' w3 hown3 hgrow hat hlt3)
      have B3 : Hid (Below w1.heap.size w1 w3) := (balloc HB.out _).grown hgrow (by simp; omega) (fun k hk => (ownBlock_lt hown k hk).1)
      obtain ⟨p0, p1, p2⟩ := P1.out.below B3.out
      clear hgrow hat HO HB d0
      by_cases hm : (k : Int) % W = W - 1
      · have HE2 : Hid _ := HE.out hm
        have O3 : Hid (Bs w3 w1.heap.size (.slice (some ⟨gg, 0, none⟩) (l.length + 1) cap') (l ++ [sg x])) := Bs.next rfl rfl hown3
        have hmb : ((k : Int) % W == W - 1) = true := by simp [hm]
        clear HM HE hm hown hown3
        go_wp2_with fail
        go_quiet (fail)
        have B4 : Hid (Below w1.heap.size w1 (w3.drewN nq)) := bdrewN B3.out _
        have O4 : Hid (Bs (w3.drewN nq) w1.heap.size (.slice (some ⟨gg, 0, none⟩) (l.length + 1) cap') (l ++ [sg x])) := O3.out.below (bdrewN (Below.refl _ _) _)
        generalize w3.drewN nq = w4 at *
        have hown4 := O4.out.own
        have hwz4 := B4.out.size
        have hll : (l ++ [sg x]).length = l.length + 1 := by simp
        rw [hll] at hown4
        clear p0 p1 p2 hll
        go_wp2_with (at_builtin; refine wpList_append_lies _ rfl _ _ _ rfl w1.heap.size 5 i0 _ 1 1 Tryd.underlying53 hi0 hz0 hz1 hz2 rfl (by omega) (.slice (some ⟨gg, 0, none⟩) (l.length + 1) cap') (l.length + 1) ((l ++ [sg x]).map bv) rfl (hown4.alloc _) ⟨w4.heap.size, 0, none⟩ 1 1 [.int .u8 10] rfl rfl (World.news_of_block (cs := #[.int .u8 10]) (t := 5) (fr := (0, 0)) (heap_alloc_new w4 _)) (by simp [Value.oneCell']) (by omega) (by unfold maxLen; omega) (by omega) (by simp; omega) (w4.heap.size + 1) (by simp) ?_; intro gg5 cap5 w5 hown5 hgrow5 hat5 hlt5)
        have B5 : Hid (Below w1.heap.size w1 w5) := (balloc B4.out _).grown hgrow5 (by simp; omega) (fun k hk => (ownBlock_lt hown4 k hk).1)
        clear hgrow5 hat5
        go_wp2_with fail
        go_roundw
        case rel => exact ⟨k + 1, by go_num, by omega, Bs.next HE2.out (by simp) hown5, B5.out⟩
        case measure => simp [intOf]; omega
      · have HE2 : Hid _ := HM.out hm
        have O3 : Hid (Bs w3 w1.heap.size (.slice (some ⟨gg, 0, none⟩) (l.length + 1) cap') (pm W cs (k + 1))) := Bs.next HE2.out rfl hown3
        have hmb : ((k : Int) % W == W - 1) = false := by simp [hm]
        clear HM HE hm hown hown3
        go_wp2_with fail
        go_quiet (fail)
        have B4 : Hid (Below w1.heap.size w1 (w3.drewN nq)) := bdrewN B3.out _
        have O4 : Hid (Bs (w3.drewN nq) w1.heap.size (.slice (some ⟨gg, 0, none⟩) (l.length + 1) cap') (pm W cs (k + 1))) := O3.out.below (bdrewN (Below.refl _ _) _)
        generalize w3.drewN nq = w4 at *
        clear p0 p1 p2
        go_wp2_with fail
        go_roundw
        case rel => exact ⟨k + 1, by go_num, by omega, O4.out, B4.out⟩
        case measure => simp [intOf]; omega
    · have hke : k = cs.length := by omega
      subst hke
      have hT := HO.out.str
      go_wp2_with fail
      go_ret2
      exact ⟨rfl, bthen B1.out HB.out⟩
end Go.Proofs.YteediekpljjbpaaDoor
