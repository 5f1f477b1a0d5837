/-
  slices.DeleteFunc at this program. Contract: slices.DeleteFunc of one number, in place. Maps of numbers as they are kept; the search's key of a place. A key laid into a map that is written out, at the operation. Contract: the way back along what each place was got from. The two keys of the laws. Contract: the first of some places by keys, then guesses, then numbers. The document's first of those that wait is the search's. The document's Search: maps of numbers, by what an operation leaves; what the search's state keeps. The document's Search: its world.
-/
import Derived.Shelf.SlicesE.DeleteFunc
import Derived.Ground.SlgfProg
import Derived.Test.YtefikbjjdldomaaProg
import Derived.Test.YtefikbjjdldomaaFC
import Derived.Test.YtefikbjjdldomaaKY
import Derived.Deep.AppendLies
import Derived.Test.YtefikbjjdldomaaMx
import Derived.Test.YtefikbjjdldomaaQD
import Derived.Maps.OwnSet
namespace Go.Proofs
open Go.Shelf
def Try.l41_ren : Go.Shelf.Ren := ⟨fun | 10 => 41 | 6 => 65 | n => n, fun | 22 => 25 | 23 => 3 | 25 => 63 | 3 => 3 | 4 => 4 | 0 => 0 | n => n, fun | n => n⟩
theorem Try.l41 : Go.Proofs.SlLaysH.n10 Try.prog Try.l41_ren := {
  mixed := by kernel_rfl
  f6 := ⟨Try.f65.name, by decide, Try.func65.trans (congrArg some (by kernel_rfl))⟩
  f10 := ⟨Try.f41.name, by decide, Try.func41.trans (congrArg some (by kernel_rfl))⟩
  t0 := Try.underlying0
  a0 := Try.isAgg0
  z0 := Try.sizeOf0
  v0 := Try.zeroValue0
  t3 := Try.underlying3
  a3 := Try.isAgg3
  z3 := Try.sizeOf3
  v3 := Try.zeroValue3
  t4 := Try.underlying4
  a4 := Try.isAgg4
  z4 := Try.sizeOf4
  v4 := Try.zeroValue4
  t22 := Try.underlying25
  a22 := Try.isAgg25
  z22 := Try.sizeOf25
  v22 := Try.zeroValue25
  a23 := Try.isAgg3
  z23 := Try.sizeOf3
  t25 := Try.underlying63
  a25 := Try.isAgg63
  z25 := Try.sizeOf63
  v25 := Try.zeroValue63 }
end Go.Proofs
namespace Go.Proofs.Ytefikbjjdldomaa
open Go.RowKit Go.Shelf Go.Lib Go.Sort
open _root_.Go.Proofs.Ytefikbjjdldomaa.Nm Wm Dm

theorem zero3' (w : World) : (zeroValue 3).run Try.prog w = .ok (.int .i64 0) w := by kernel_rfl
/-- The closure: is it this number? -/
theorem isone (v x : Int) (B : Nat) (W : World) (hc : W.cell? ⟨B, 0, none⟩ = some (.int .i64 v)) :
    FnGives Try.prog 42 #[.pointer (some ⟨B, 0, none⟩)] #[.int .i64 x] (.bool (decide (x = v))) W := by
  show Calls Try.prog 42 #[.int .i64 x, .pointer (some ⟨B, 0, none⟩)] W _
  go_enter Try.func42, Try.ntmps42
  go_wp2
  all_goals (go_ret; exact ⟨by simp [Bool.beq_eq_decide_eq], 0, rfl⟩)
theorem put_heap {w : World} {g : Nat} {cur : Array Value} {d : Array Int} (h : w.heap[g]? = some (.cells cur 3 (0, 0))) :
    (putRow (Value.int .i64) w g 0 d).heap[g]? = some (.cells (putCells (Value.int .i64) 0 d cur) 3 (0, 0)) := by
  unfold putRow mapBlock
  simp [Array.getElem?_modify, h, onCells]
theorem put_other {w : World} {g k : Nat} {d : Array Int} (h : k ≠ g) : (putRow (Value.int .i64) w g 0 d).heap[k]? = w.heap[k]? := by
  unfold putRow mapBlock
  simp [Array.getElem?_modify, Ne.symm h]
theorem rw_put {w : World} {g cap : Nat} {l m r : List Int} (h : Rw w g cap l) (hs : (m ++ r).length = l.length) : Rw (putRow (Value.int .i64) w g 0 (m ++ r).toArray) g cap m := by
  obtain ⟨cur, h1, h2, h3, h4, h5⟩ := h.at_
  have hml : m.length ≤ l.length := by rw [← hs]; simp
  refine ⟨_, put_heap h1, by omega, h3, by simp [putCells, h4], ?_⟩
  apply List.ext_getElem?
  intro k
  by_cases hk : k < m.length
  · rw [List.getElem?_take_of_lt hk, Array.getElem?_toList]
    unfold putCells
    rw [Array.getElem?_mapIdx, Array.getElem?_eq_getElem (show k < cur.size by omega)]
    simp only [Option.map_some, List.getElem?_map, List.getElem?_eq_getElem hk]
    rw [if_pos ⟨Nat.zero_le _, by simp; omega⟩]
    have e : (m ++ r)[k]?.getD 0 = m[k] := by rw [List.getElem?_append_left hk, List.getElem?_eq_getElem hk]; rfl
    simpa using e
  · rw [List.getElem?_eq_none (by simp; omega), List.getElem?_eq_none (by simp; omega)]
/-- What is struck. -/
def strk (l : List Int) (v : Int) : List Int := l.filter fun x => !decide (x = v)
set_option maxRecDepth 100000 in
theorem strike_any (g cap : Nat) (l : List Int) (V : Nat) (v : Int) (w : World) (hr : Rw w g cap l) (hV : w.cell? ⟨V, 0, none⟩ = some (.int .i64 v)) (hVl : V < w.heap.size) (hne : V ≠ g) (hl : l.length ≤ 9223372036854775807) :
    Calls Try.prog 41 #[.slice (some ⟨g, 0, none⟩) l.length cap, .func (.func 42) #[] #[.pointer (some ⟨V, 0, none⟩)]] w fun e w' => e = .returned (.slice (some ⟨g, 0, none⟩) (strk l v).length cap) ∧ Rw w' g cap (strk l v) ∧ w.grownBy w' (some g) := by
  have eg : ∀ args w, (callFunc 42 args).run Try.prog w = .ok (.enter 42 args) w := enters_of Try.func42 (by kernel_rfl) rfl
  have hcap : l.length ≤ cap := by obtain ⟨_, _, h2, _⟩ := hr.at_; exact h2
  have hH : Holds (Value.int .i64) w g 0 l.toArray := fun j hj => by
    have := hr.cell j (by simpa using hj)
    rw [Nat.zero_add]
    have e : l.toArray[j]! = l.getD j 0 := by
      have hj' : j < l.length := by simpa using hj
      rw [getElem!_pos l.toArray j (by simpa using hj)]; simp [List.getD_eq_getElem?_getD, hj']
    rw [e]; exact this
  have hcon := AnyE.slices_DeleteFunc Try.l41 (Value.int .i64) (fun _ => rfl) (fun x => decide (x = v)) 42 #[.pointer (some ⟨V, 0, none⟩)] eg 0 zero3' g 0 cap l.toArray w
    (fun W x hb => isone v x V W ((hb.cell (p := ⟨V, 0, none⟩) hVl).trans hV))
    (fun n os dk x _ => isone v x V _ (by
      unfold sortWorld
      rw [cell?_grow _ _ _ (by show V < (putRow _ _ _ _ _).heap.size; rw [size_putRow]; exact hVl), cell?_putRow_other _ _ g _ _ _ (Or.inl hne)]
      exact hV)) hH (by simpa using hl) (by simpa using hcap)
  change Calls Try.prog 41 _ _ _ at hcon
  rw [show l.toArray.size = l.length by simp] at hcon
  refine hcon.mono ?_
  rintro e w' ⟨rfl, q, rfl⟩
  have e0 : (l.toArray.toList.filter fun x => !decide (x = v)) = strk l v := by simp [strk]
  rw [e0]
  have hle : (strk l v).length ≤ l.length := List.length_filter_le _ _
  refine ⟨rfl, rw_put (hr.frame (by rfl)) (by simp; omega), ⟨rfl, rfl, rfl, by simp [Sort.ahead], fun k _ hk => ?_⟩⟩
  rw [put_other (fun e => hk (by rw [e]))]; rfl
end Go.Proofs.Ytefikbjjdldomaa
namespace Go.Proofs.Ytefikbjjdldomaa
open Go.RowKit Go.Maps
open _root_.Go.Proofs.Ytefikbjjdldomaa.Nm Wm Dm Cm

/-- A map of numbers by places. -/
structure Mp (w : World) (B n : Nat) (m : Nat → Option Int) : Prop where
  own : ∃ D : DataW Unit, w.ownsMap Try.prog 3 (plainElem (H := Unit) Try.prog 3) B n D ∧ ∀ v : Nat, Maps.has D (.int .i64 v) = (m v).isSome ∧ ∀ c, m v = some c → ∀ z, D.atKey (.int .i64 v) z = .lit (.int .i64 c)
theorem Mp.lt {w : World} {B n : Nat} {m : Nat → Option Int} (h : Mp w B n m) : B < w.heap.size := by obtain ⟨D, h1, _⟩ := h.own; exact h1.lt
theorem Mp.frame {w w' : World} {B n : Nat} {m : Nat → Option Int} (h : Mp w B n m) (hb : w'.heap[B]? = w.heap[B]?) : Mp w' B n m := by
  obtain ⟨D, ⟨es, c, h1, h2⟩, h3⟩ := h.own
  exact ⟨D, ⟨es, c, hb.trans h1, h2⟩, h3⟩
theorem Mp.below {w w' : World} {B n : Nat} {m : Nat → Option Int} (h : Mp w B n m) (hb : Below w.heap.size w w') : Mp w' B n m := h.frame (hb.block B h.lt)
theorem Mp.grown {w w' : World} {B n : Nat} {m : Nat → Option Int} {g : Nat} (h : Mp w B n m) (hb : w.grownBy w' (some g)) (hne : B ≠ g) : Mp w' B n m := h.frame (hb.block B h.lt (fun e => hne (by simpa using e)))
set_option maxRecDepth 100000 in
set_option maxHeartbeats 8000000 in
theorem keyof_any (w0 W : World) (kn K C H MB n v : Nat) (lb : Array Value) (f : Int → Int → Int) (m : Nat → Option Int) (h : List Int) (vh : Value) (c : Int) (hk : Ky w0 kn lb f) (hb : Below w0.heap.size w0 W)
    (hK : W.cell? ⟨K, 0, none⟩ = some (.func (.func kn) #[] lb)) (hC : W.cell? ⟨C, 0, none⟩ = some (.map (some MB))) (hH : W.cell? ⟨H, 0, none⟩ = some vh) (hh : SlI W vh h) (hm : Mp W MB n m)
    (hv : m v = some c) (hv64 : v < 64) (hvh : v < h.length) (hc0 : 0 ≤ c) (hc1 : c ≤ 1099511627776) (hg0 : 0 ≤ h.getD v 0) (hg1 : h.getD v 0 ≤ 1099511627776) :
    Calls Try.prog 40 #[.int .i64 (v : Int), .pointer (some ⟨K, 0, none⟩), .pointer (some ⟨C, 0, none⟩), .pointer (some ⟨H, 0, none⟩)] W fun e w' => e = .returned (.int .i64 (f c (h.getD v 0))) ∧ ∃ q, w' = W.drewN q := by
  obtain ⟨b, off, cap, rfl, hcl⟩ := hh.some' (by omega)
  have d0 := hcl v hvh
  have hki : (v : Int) < (h.length : Int) := by omega
  have HY : Hid (∀ g, Ky w0 kn lb f → 0 ≤ g → g ≤ 1099511627776 → ∀ W', Below w0.heap.size w0 W' → Calls Try.prog kn (#[.int .i64 c, .int .i64 g] ++ lb) W' fun e w' => e = .returned (.int .i64 (f c g)) ∧ ∃ q, w' = W'.drewN q) := fun g hk a b W' hb' => hk.gives W' c g hb' hc0 hc1 a b
  have HKY : Hid _ := hk
  have HB : Hid _ := hb
  have ent := hk.ent
  obtain ⟨D, hown, hD⟩ := hm.own
  have HD : Hid (∀ z, D.atKey (.int .i64 v) z = .lit (.int .i64 c)) := (hD v).2 c hv
  have hkey : keyOf Try.prog 3 (.int .i64 (v : Int)) = some (.int .i64 (v : Int)) := keyOf_int_mk Try.underlying3 (WalkArith.wf_i64 (by omega))
  obtain ⟨g, hg⟩ : ∃ g, h.getD v 0 = g := ⟨_, rfl⟩
  rw [hg] at hg0 hg1 d0 ⊢
  have HG : Hid (∀ w', Below W.heap.size W w' → Calls Try.prog kn (#[.int .i64 c, .int .i64 g] ++ lb) w' fun e w'' => e = .returned (.int .i64 (f c g)) ∧ ∃ q, w'' = w'.drewN q) := fun w' hb' => HY.out g hk hg0 hg1 w' (bthen hb hb')
  have KEEP : Hid (∀ w', Below W.heap.size W w' → w'.cell? ⟨K, 0, none⟩ = some (.func (.func kn) #[] lb) ∧ w'.cell? ⟨C, 0, none⟩ = some (.map (some MB)) ∧ w'.cell? ⟨H, 0, none⟩ = some (.slice (some ⟨b, off, none⟩) h.length cap) ∧ w'.cell? ⟨b, off + v, none⟩ = some (.int .i64 g) ∧ (Instr.lookup 59 (.map (some MB)) (.int .i64 (v : Int)) false).run Try.prog w' = .ok (.int .i64 c) w') := by
    intro w' hb'
    refine ⟨kept hb' hK, kept hb' hC, kept hb' hH, kept hb' d0, ?_⟩
    obtain ⟨D', hown', hD'⟩ := (hm.below hb').own
    obtain ⟨c', hrun, hat, _⟩ := hown'.lookup_int law3 Try.underlying59 Try.underlying3 (zero3 _) hkey
    have : c' = c := by have h9 := ((hD' v).2 c hv (.lit (.int .i64 0))).symm.trans hat; simpa using h9.symm
    rw [this] at hrun
    exact hrun
  obtain ⟨k0, k1, k2, k3, k4⟩ := KEEP.out W (Below.refl _ _)
  clear hcl hh hm hv hD hk hg hb HY hc0 hc1 hg0 hg1 hvh hown HD hK hC hH d0 hkey
  go_enter Try.func40, Try.ntmps40
  go_wp2_with fail
  go_region_held3 (fun w' => w'.cell? ⟨K, 0, none⟩ = some (.func (.func kn) #[] lb) ∧ w'.cell? ⟨C, 0, none⟩ = some (.map (some MB)) ∧ w'.cell? ⟨H, 0, none⟩ = some (.slice (some ⟨b, off, none⟩) h.length cap) ∧ w'.cell? ⟨b, off + v, none⟩ = some (.int .i64 g) ∧ (Instr.lookup 59 (.map (some MB)) (.int .i64 (v : Int)) false).run Try.prog w' = .ok (.int .i64 c) w')
    (first | exact KEEP.out _ (Below.refl _ _) | exact KEEP.out _ (bdrewN (Below.refl _ _) _) | exact KEEP.out _ (Below.drew (Below.refl _ _)) | go_keep)
    (first
      | (go_at_fn kn; refine (HG.out _ (by first | exact Below.refl _ _ | exact bdrewN (Below.refl _ _) _ | exact Below.drew (Below.refl _ _))).mono ?_; rintro e w1 ⟨rfl, q1, rfl⟩))
  go_wp2_with fail
  go_ret
  exact ⟨rfl, _, rfl⟩
end Go.Proofs.Ytefikbjjdldomaa
namespace Go.Proofs.Ytefikbjjdldomaa
open Go.RowKit Go.Maps

theorem wpList_insert_own {H : Type} {P : Program} (w : World) {ops : Array Oper} {rest : List Oper} {o : Oper} {a : Act} {Q : Exit → Act → World → Prop}
    (hg : o.guard = none) (m x v : Operand) (t : TypeId) (hop : o.op = Op.insert t m x v)
    (k e : TypeId) (K : Keyed P k) (ht : P.underlying t = some (.map k e)) (R : Value → Option (DataW H × List MemPlace)) (b n : Nat) (D : DataW H)
    (hm : a.eval m = .map (some b)) (hown : w.ownsMap P k R b n D) (hn : n < maxLen) (key val : Value) (kl : Lit) (hx : a.eval x = key) (hv : a.eval v = val) (hkey : keyOf P k key = some kl)
    (d : DataW H) (ps : List MemPlace) (hval : R val = some (d, ps))
    (hK : ∀ w', w'.ownsMap P k R b (n + 1) (D.put kl d) → w.grownBy w' (some b) → wpList P ops Q rest (a.put o.dst undef) w') :
    wpList P ops Q (o :: rest) a w := by
  refine wpList_plain hg fun K' hK' => ?_
  obtain ⟨w', hrun, r1, r2⟩ := hown.update K ht hn hkey hval
  unfold Oper.wp
  simp [execOp, hop, hm, hx, hv, hrun, Result.andThen]
  exact hK' _ _ (hK w' r1 r2)
end Go.Proofs.Ytefikbjjdldomaa
namespace Go.Proofs.Ytefikbjjdldomaa
open Go.RowKit Go.Maps
open _root_.Go.Proofs.Ytefikbjjdldomaa.Nm Wm Dm Cm

/-- A way that the map leads back. -/
structure Bw (m : Nat → Option Int) (p : List Nat) : Prop where
  pos : 0 < p.length
  len : p.length ≤ 64
  small : ∀ j, j < p.length → p.getD j 0 < 64
  step : ∀ j, j + 1 < p.length → m (p.getD (j + 1) 0) = some ((p.getD j 0 : Nat) : Int)
  fst : m (p.getD 0 0) = none
theorem drop_head {p : List Nat} {i : Nat} (h : i < p.length) : (ints (p.drop i)).getD 0 0 = ((p.getD i 0 : Nat) : Int) := by
  rw [ints_at (by simp; omega)]; simp [List.getD_eq_getElem?_getD, h]
theorem drop_back {p : List Nat} {i : Nat} (h : i + 1 < p.length) : ints (p.drop i) = [((p.getD i 0 : Nat) : Int)] ++ ints (p.drop (i + 1)) := by
  rw [List.drop_eq_getElem_cons (show i < p.length by omega)]
  have e : p.getD i 0 = p[i]'(by omega) := by simp [List.getD_eq_getElem?_getD, show i < p.length by omega]
  rw [e]; rfl
set_option maxRecDepth 100000 in
set_option maxHeartbeats 16000000 in
theorem back_any (m : Nat → Option Int) (p : List Nat) (MB n : Nat) (fr : Int) (w : World) (hm : Mp w MB n m) (hp : Bw m p) :
    Calls Try.prog 43 #[.map (some MB), .int .i64 fr, .int .i64 ((p.getD (p.length - 1) 0 : Nat) : Int)] w fun e w' => ∃ v, e = .returned v ∧ Is w' w.heap.size v (ints p) ∧ Below w.heap.size w w' := by
  have HM : Hid _ := hm
  have HP : Hid _ := hp
  obtain ⟨hp0, hp64, _, _, _⟩ := hp
  obtain ⟨t, ht⟩ : ∃ t, p.getD (p.length - 1) 0 = t := ⟨_, rfl⟩
  have HT : Hid (ints (p.drop (p.length - 1)) = [(t : Int)]) := by
    unfold Hid
    rw [List.drop_eq_getElem_cons (show p.length - 1 < p.length by omega), show p.length - 1 + 1 = p.length by omega, List.drop_length]
    have : p[p.length - 1]'(by omega) = t := by rw [← ht, List.getD_eq_getElem?_getD, List.getElem?_eq_getElem (show p.length - 1 < p.length by omega)]; rfl
    simp [ints, this]
  rw [ht]
  clear hm ht
  go_enter Try.func43, Try.ntmps43
  go_wp2_with fail
  have N0 : Hid ((w.alloc (.cells #[.int .i64 t] 3)).heap[w.heap.size]? = some (.cells #[.int .i64 t] 3)) := heap_alloc_new w _
  have I0 : Hid (Is (w.alloc (.cells #[.int .i64 t] 3)) w.heap.size (.slice (some ⟨w.heap.size, 0, none⟩) 1 1) [(t : Int)]) := ⟨rfl, .inr ⟨w.heap.size, 1, #[.int .i64 t], rfl, Nat.le_refl _, N0.out, Nat.le_refl _, by unfold maxLen; omega, rfl, rfl⟩⟩
  have B0 : Hid (Below w.heap.size w (w.alloc (.cells #[.int .i64 t] 3))) := balloc (Below.refl _ _) _
  generalize w.alloc (.cells #[.int .i64 t] 3) = W0 at *
  go_loopw [7] (fun o wr => ∃ i : Nat, i < p.length ∧ Is wr w.heap.size o (ints (p.drop i)) ∧ Hid (Below w.heap.size w wr)) (fun o _ => 64 - (match o with | .slice _ k _ => k | _ => 0))
  case atStart => exact ⟨p.length - 1, by omega, by rw [HT.out]; exact I0.out, B0⟩
  case round =>
    obtain ⟨i, hi, ho, HB⟩ := hrel
    have HO : Hid _ := ho
    have hlen : (ints (p.drop i)).length = p.length - i := by rw [ints_length]; simp
    obtain ⟨b0, off0, cap0, hveq, hcl⟩ := ho.sl.some' (by rw [hlen]; omega)
    have d0 := hcl 0 (by rw [hlen]; omega)
    rw [drop_head hi, Nat.add_zero] at d0
    rw [hlen] at hveq
    subst hveq
    have hs := HP.out.small i hi
    have hpos : (0 : Int) < ((p.length - i : Nat) : Int) := by omega
    obtain ⟨x, hx⟩ : ∃ x, p.getD i 0 = x := ⟨_, rfl⟩
    have HX : Hid _ := hx
    rw [hx] at d0 hs
    have hkey : keyOf Try.prog 3 (.int .i64 (x : Int)) = some (.int .i64 (x : Int)) := keyOf_int_mk Try.underlying3 (WalkArith.wf_i64 (by omega))
    obtain ⟨D, hown, hD⟩ := (HM.out.below HB.out).own
    have hh := (hD x).1
    have HA : Hid _ := (hD x).2
    clear hcl ho hD hx
    by_cases h0 : i = 0
    · have e1 : (m x).isSome = false := by rw [← HX.out, h0, HP.out.fst]; rfl
      rw [e1] at hh
      go_wp2_with (first
        | (at_lookup; refine wpList_lookup_own_ok_int _ rfl _ _ 59 rfl 3 3 .i64 law3 Try.underlying59 Try.underlying3 (zero3 _) MB n D rfl hown _ _ rfl hkey ?_; intro c hatk hwc; rw [hh])
        | go_in)
      go_wp2_with fail
      go_ret
      subst h0
      exact ⟨_, rfl, by rw [← List.drop_zero (l := p)]; simpa using HO.out, HB.out⟩
    · have HS : Hid (m x = some ((p.getD (i - 1) 0 : Nat) : Int)) := by
        have := HP.out.step (i - 1) (by omega)
        rw [show i - 1 + 1 = i by omega, HX.out] at this
        exact this
      have HDB : Hid _ := drop_back (p := p) (i := i - 1) (by omega)
      rw [show i - 1 + 1 = i by omega] at HDB
      obtain ⟨y, hy⟩ : ∃ y, p.getD (i - 1) 0 = y := ⟨_, rfl⟩
      rw [hy] at HS HDB
      have e1 : (m x).isSome = true := by rw [HS.out]; rfl
      rw [e1] at hh
      have HAT : Hid (∀ z, D.atKey (.int .i64 (x : Int)) z = .lit (.int .i64 (y : Int))) := HA.out _ HS.out
      clear hy e1
      obtain ⟨i0, hi0, hz0, hz1, hz2⟩ := info3_parts
      have R1 : Hid ((wr.alloc (.cells #[.int .i64 (y : Int)] 3)).ownsRow wr.heap.size 3 1 (.slice (some ⟨wr.heap.size, 0, none⟩) 1 1) 1 [.int .i64 (y : Int)]) := ⟨rfl, .inr ⟨wr.heap.size, 1, #[.int .i64 (y : Int)], rfl, Nat.le_refl _, heap_alloc_new wr _, Nat.le_refl _, by unfold maxLen; omega, rfl, rfl⟩⟩
      have hsl := (HO.out.below (balloc (Below.refl _ _) (.cells #[.int .i64 (y : Int)] 3))).sl
      obtain ⟨b1, off1, cap1, hv1, hcl1⟩ := hsl.some' (by rw [hlen]; omega)
      simp only [Value.slice.injEq, Option.some.injEq, Addr.mk.injEq] at hv1
      obtain ⟨⟨rfl, rfl, -⟩, -, rfl⟩ := hv1
      have NEWS : Hid _ := nums_news hcl1
      have ONE : Hid _ := nums_one (ints (p.drop i))
      have LEN : Hid (((ints (p.drop i)).map (fun z => Value.int .i64 z)).length = (p.length - i) * 1) := by unfold Hid; rw [List.length_map, hlen, Nat.mul_one]
      clear hcl1 hsl
      go_wp2_with (first
        | (at_builtin; refine wpList_append_lies _ rfl _ _ _ rfl wr.heap.size 3 i0 _ 1 8 Try.underlying25 hi0 hz0 hz1 hz2 rfl (by omega) (.slice (some ⟨wr.heap.size, 0, none⟩) 1 1) 1 [.int .i64 (y : Int)] rfl R1.out ⟨b0, off0, none⟩ (p.length - i) cap0 ((ints (p.drop i)).map (fun z => .int .i64 z)) rfl LEN.out NEWS.out ONE.out (by omega) (by unfold maxLen; omega) (by omega) (by simp) (wr.heap.size + 1) (by simp) ?_; intro gg cap' w3 hown3 hgrow hat hlt3; have B3 : Hid (Below w.heap.size w w3) := (by exact (balloc HB.out _).grown hgrow (by simp; have := HB.out.size; omega) (fun k hk => (by cases hk; exact HB.out.size))); clear hgrow hat)
        | (at_lookup; refine wpList_lookup_own_ok_int _ rfl _ _ 59 rfl 3 3 .i64 law3 Try.underlying59 Try.underlying3 (zero3 _) MB n D rfl hown _ _ rfl hkey ?_; intro c hatk hwc; rw [hh]; (have hcy : c = (y : Int) := by (have h9 := (HAT.out (.lit (.int .i64 0))).symm.trans hatk; simpa using h9.symm)); subst hcy)
        | go_in)
      go_roundw
      case rel =>
        refine ⟨i - 1, by omega, ?_, B3⟩
        rw [HDB.out]
        have hl2 : ([(y : Int)] ++ ints (p.drop i)).length = 1 + (p.length - i) := by rw [List.length_append, hlen]; rfl
        have hi3 : Is w3 wr.heap.size (.slice (some ⟨gg, 0, none⟩) (1 + (p.length - i)) cap') ([(y : Int)] ++ ints (p.drop i)) := ⟨by rw [hl2, List.map_append]; exact hown3⟩
        exact hi3.mono HB.out.size
      case measure => simp; omega
end Go.Proofs.Ytefikbjjdldomaa
namespace Go.Proofs.Ytefikbjjdldomaa
open Go.RowKit Go.Maps
open _root_.Go.Proofs.Ytefikbjjdldomaa.Nm Wm Dm Cm

theorem starkey (w0 : World) : Ky w0 16 #[] (fun c g => c + g) where
  ent := enters_of Try.func16 (by kernel_rfl) rfl
  gives := by
    intro W c g _ h0 h1 h2 h3
    show Calls Try.prog 16 #[.int .i64 c, .int .i64 g] W _
    go_enter Try.func16, Try.ntmps16
    go_wp2_with fail
    go_ret
    exact ⟨rfl, 0, rfl⟩
set_option maxHeartbeats 4000000 in
theorem weighkey (w0 : World) (V : Nat) (num den : Int) (hn : w0.cell? ⟨V, 0, none⟩ = some (.int .i64 num)) (hd : w0.cell? ⟨V, 1, none⟩ = some (.int .i64 den)) (n0 : 0 ≤ num) (n1 : num ≤ 1000000) (d0 : 0 ≤ den) (d1 : den ≤ 1000000) : Ky w0 20 #[.pointer (some ⟨V, 0, none⟩)] (fun c g => c * den + g * num) where
  ent := enters_of Try.func20 (by kernel_rfl) rfl
  gives := by
    intro W c g hb h0 h1 h2 h3
    show Calls Try.prog 20 #[.int .i64 c, .int .i64 g, .pointer (some ⟨V, 0, none⟩)] W _
    have k0 := kept hb hn
    have k1 := kept hb hd
    have m0 : 0 ≤ c * den := Int.mul_nonneg h0 d0
    have m1 : c * den ≤ 1099511627776 * 1000000 := Int.mul_le_mul h1 d1 d0 (by omega)
    have m2 : 0 ≤ g * num := Int.mul_nonneg h2 n0
    have m3 : g * num ≤ 1099511627776 * 1000000 := Int.mul_le_mul h3 n1 n0 (by omega)
    clear hn hd hb
    go_enter Try.func20, Try.ntmps20
    go_wp2_with fail
    go_ret
    exact ⟨rfl, 0, rfl⟩
end Go.Proofs.Ytefikbjjdldomaa
namespace Go.Proofs.Ytefikbjjdldomaa
open Go.RowKit
open _root_.Go.Proofs.Ytefikbjjdldomaa.Nm Wm Dm Cm

def bet (k h : Nat → Int) (a b : Nat) : Bool := decide (k a < k b ∨ (k a = k b ∧ (h a < h b ∨ (h a = h b ∧ a < b))))
/-- The first of the first i. -/
def frk (k h : Nat → Int) (l : List Nat) : Nat → Option Nat
  | 0 => none
  | i + 1 => match frk k h l i with
    | none => some (l.getD i 0)
    | some b => if bet k h (l.getD i 0) b = true then some (l.getD i 0) else some b
def frz : Option Nat → Int
  | none => -1
  | some b => (b : Int)
theorem frk_mem {k h : Nat → Int} {l : List Nat} : ∀ {i b : Nat}, frk k h l i = some b → i ≤ l.length → ∃ j, j < i ∧ l.getD j 0 = b
  | 0, b, e, _ => by simp [frk] at e
  | i + 1, b, e, hi => by
    unfold frk at e
    cases e1 : frk k h l i with
    | none => rw [e1] at e; simp only [Option.some.injEq] at e; exact ⟨i, by omega, e⟩
    | some c =>
      rw [e1] at e
      simp only at e
      split at e
      · simp only [Option.some.injEq] at e; exact ⟨i, by omega, e⟩
      · simp only [Option.some.injEq] at e; subst e
        obtain ⟨j, h1, h2⟩ := frk_mem e1 (by omega)
        exact ⟨j, by omega, h2⟩
set_option maxRecDepth 100000 in
set_option maxHeartbeats 16000000 in
theorem first_any (l : List Nat) (h : List Int) (vl vh pK pC pH : Value) (k : Nat → Int) (w : World) (hl : SlI w vl (ints l)) (hh : SlI w vh h) (h64 : l.length ≤ 64)
    (hm : ∀ i, i < l.length → l.getD i 0 < h.length)
    (hk : ∀ x, x ∈ l → ∀ W', Below w.heap.size w W' → Calls Try.prog 40 #[.int .i64 ((x : Nat) : Int), pK, pC, pH] W' fun e w' => e = .returned (.int .i64 (k x)) ∧ ∃ q', w' = W'.drewN q') :
    Calls Try.prog 39 #[vl, .func (.func 40) #[] #[pK, pC, pH], vh] w fun e w' => e = .returned (.int .i64 (frz (frk k (fun v => h.getD v 0) l l.length))) ∧ ∃ q, w' = w.drewN q := by
  obtain ⟨a0, c0, rfl⟩ := hl.val
  obtain ⟨a1, c1, rfl⟩ := hh.val
  have HL : Hid _ := hl
  have HH : Hid _ := hh
  have HM : Hid _ := hm
  have HK : Hid _ := hk
  have hil : (ints l).length = l.length := ints_length l
  clear hl hh hm hk
  rw [hil]
  go_enter Try.func39, Try.ntmps39
  go_wp2_with fail
  go_loopw [7, 12] (fun x z wr => ∃ i : Nat, z = .int .i64 i ∧ i ≤ l.length ∧ x = .int .i64 (frz (frk k (fun v => h.getD v 0) l i)) ∧ Hid (∃ q, wr = w.drewN q)) (fun _ z _ => l.length - (intOf z).toNat)
  case atStart => exact ⟨0, rfl, Nat.zero_le _, rfl, ⟨0, rfl⟩⟩
  case round =>
    obtain ⟨i, rfl, hi, rfl, WR⟩ := hrel
    have BW : Hid (Below w.heap.size w wr) := by obtain ⟨q, hq⟩ := WR.out; unfold Hid; rw [hq]; exact bdrewN (Below.refl _ _) _
    have NX : Hid (∀ m, Hid (∃ q, wr.drewN m = w.drewN q)) := fun m => by obtain ⟨q, hq⟩ := WR.out; exact ⟨q + m, by rw [hq]; simp [World.drewN, Nat.add_assoc]⟩
    by_cases hlt : i < l.length
    · have hii : (i : Int) < (l.length : Int) := by omega
      have H0 : Hid _ := HL.out
      obtain ⟨b0, off0, cap0, hveq, hcl⟩ := (HL.out.below BW.out).some' (by rw [hil]; omega)
      rw [hil] at hveq
      simp only [Value.slice.injEq] at hveq
      obtain ⟨rfl, -, rfl⟩ := hveq
      have d0 := hcl i (by rw [hil]; exact hlt)
      have e0 : (ints l).getD i 0 = ((l.getD i 0 : Nat) : Int) := by rw [ints_at hlt]; simp [List.getD_eq_getElem?_getD, hlt]
      rw [e0] at d0
      have HVM : Hid (l.getD i 0 ∈ l) := by unfold Hid; rw [List.getD_eq_getElem?_getD, List.getElem?_eq_getElem hlt]; exact List.getElem_mem hlt
      have hvm := HM.out i hlt
      have HNX : Hid (∀ b, frk k (fun v => h.getD v 0) l i = some b → frk k (fun v => h.getD v 0) l (i + 1) = if bet k (fun v => h.getD v 0) (l.getD i 0) b = true then some (l.getD i 0) else some b) := fun b e => by simp only [frk, e]
      have HNN : Hid (frk k (fun v => h.getD v 0) l i = none → frk k (fun v => h.getD v 0) l (i + 1) = some (l.getD i 0)) := fun e => by simp only [frk, e]
      have HMB : Hid (∀ b, frk k (fun v => h.getD v 0) l i = some b → ∃ j, j < i ∧ l.getD j 0 = b) := fun b e => frk_mem e hi
      obtain ⟨v, hv⟩ : ∃ v, l.getD i 0 = v := ⟨_, rfl⟩
      rw [hv] at HVM HNX HNN d0 hvm
      clear hcl e0 hv
      cases hf : frk k (fun v => h.getD v 0) l i with
      | none =>
        have HN : Hid _ := HNN.out hf
        simp only [frz]
        clear hf
        go_wp2_with fail
        go_quiet (fail)
        go_wp2_with fail
        go_roundw
        case rel => exact ⟨i + 1, by go_num, by omega, by rw [HN.out], NX.out _⟩
        case measure => simp [intOf]; omega
      | some b =>
        obtain ⟨jb, hjb, hlb⟩ := HMB.out b hf
        have hbm := HM.out jb (by omega)
        have HBM : Hid (b ∈ l) := by unfold Hid; rw [← hlb, List.getD_eq_getElem?_getD, List.getElem?_eq_getElem (show jb < l.length by omega)]; exact List.getElem_mem _
        rw [hlb] at hbm
        have HN : Hid _ := HNX.out b hf
        have HBT : Hid (bet k (fun v => h.getD v 0) v b = decide (k v < k b ∨ (k v = k b ∧ (h.getD v 0 < h.getD b 0 ∨ (h.getD v 0 = h.getD b 0 ∧ v < b))))) := rfl
        obtain ⟨b1, off1, cap1, hueq, hcl⟩ := (HH.out.below BW.out).some' (by omega)
        simp only [Value.slice.injEq] at hueq
        obtain ⟨rfl, -, rfl⟩ := hueq
        have dv := hcl v hvm
        have db := hcl b hbm
        have hvi : (v : Int) < (h.length : Int) := by omega
        have hbi : (b : Int) < (h.length : Int) := by omega
        simp only [frz]
        clear hcl hf hlb HNX HNN HMB
        obtain ⟨gv, hgv⟩ : ∃ gv, h.getD v 0 = gv := ⟨_, rfl⟩
        obtain ⟨gb, hgb⟩ : ∃ gb, h.getD b 0 = gb := ⟨_, rfl⟩
        rw [hgv, hgb] at HBT
        rw [hgv] at dv
        rw [hgb] at db
        clear hgv hgb
        go_wp2_with fail
        have x0 : decide ((b : Int) < 0) = false := decide_eq_false (by omega)
        by_cases c1 : k v < k b
        · have x1 : decide (k v < k b) = true := decide_eq_true c1
          have HF : Hid (bet k (fun v => h.getD v 0) v b = true) := by rw [HBT.out]; exact decide_eq_true (by omega)
          clear HBT
          go_quiet (first | (go_at_call 40; exact Calls.quiet_of (HK.out _ (by first | exact HVM.out | exact HBM.out) _ (bdrewN BW.out _))))
          go_wp2_with fail
          go_roundw
          case rel => exact ⟨i + 1, by go_num, by omega, by rw [HN.out, HF.out]; rfl, NX.out _⟩
          case measure => simp [intOf]; omega
        · have x1 : decide (k v < k b) = false := decide_eq_false c1
          by_cases c2 : k v = k b
          · have x2 : (k v == k b) = true := by simp [c2]
            by_cases c3 : gv < gb
            · have x3 : decide (gv < gb) = true := decide_eq_true c3
              have HF : Hid (bet k (fun v => h.getD v 0) v b = true) := by rw [HBT.out]; exact decide_eq_true (by omega)
              clear HBT
              go_quiet (first | (go_at_call 40; exact Calls.quiet_of (HK.out _ (by first | exact HVM.out | exact HBM.out) _ (bdrewN BW.out _))))
              go_wp2_with fail
              go_roundw
              case rel => exact ⟨i + 1, by go_num, by omega, by rw [HN.out, HF.out]; rfl, NX.out _⟩
              case measure => simp [intOf]; omega
            · have x3 : decide (gv < gb) = false := decide_eq_false c3
              by_cases c4 : gv = gb
              · have x4 : (gv == gb) = true := by simp [c4]
                by_cases c5 : (v : Int) < (b : Int)
                · have x5 : decide ((v : Int) < (b : Int)) = true := decide_eq_true c5
                  have HF : Hid (bet k (fun v => h.getD v 0) v b = true) := by rw [HBT.out]; exact decide_eq_true (by omega)
                  clear HBT
                  go_quiet (first | (go_at_call 40; exact Calls.quiet_of (HK.out _ (by first | exact HVM.out | exact HBM.out) _ (bdrewN BW.out _))))
                  go_wp2_with fail
                  go_roundw
                  case rel => exact ⟨i + 1, by go_num, by omega, by rw [HN.out, HF.out]; rfl, NX.out _⟩
                  case measure => simp [intOf]; omega
                · have x5 : decide ((v : Int) < (b : Int)) = false := decide_eq_false c5
                  have HF : Hid (bet k (fun v => h.getD v 0) v b = false) := by rw [HBT.out]; exact decide_eq_false (by omega)
                  clear HBT
                  go_quiet (first | (go_at_call 40; exact Calls.quiet_of (HK.out _ (by first | exact HVM.out | exact HBM.out) _ (bdrewN BW.out _))))
                  go_wp2_with fail
                  go_roundw
                  case rel => exact ⟨i + 1, by go_num, by omega, by rw [HN.out, HF.out]; rfl, NX.out _⟩
                  case measure => simp [intOf]; omega
              · have x4 : (gv == gb) = false := by simp [c4]
                have HF : Hid (bet k (fun v => h.getD v 0) v b = false) := by rw [HBT.out]; exact decide_eq_false (by omega)
                clear HBT
                go_quiet (first | (go_at_call 40; exact Calls.quiet_of (HK.out _ (by first | exact HVM.out | exact HBM.out) _ (bdrewN BW.out _))))
                go_wp2_with fail
                go_roundw
                case rel => exact ⟨i + 1, by go_num, by omega, by rw [HN.out, HF.out]; rfl, NX.out _⟩
                case measure => simp [intOf]; omega
          · have x2 : (k v == k b) = false := by simp [c2]
            have HF : Hid (bet k (fun v => h.getD v 0) v b = false) := by rw [HBT.out]; exact decide_eq_false (by omega)
            clear HBT
            go_quiet (first | (go_at_call 40; exact Calls.quiet_of (HK.out _ (by first | exact HVM.out | exact HBM.out) _ (bdrewN BW.out _))))
            go_wp2_with fail
            go_roundw
            case rel => exact ⟨i + 1, by go_num, by omega, by rw [HN.out, HF.out]; rfl, NX.out _⟩
            case measure => simp [intOf]; omega
    · have hie : i = l.length := by omega
      subst hie
      go_wp2_with fail
      go_ret
      exact ⟨rfl, WR.out⟩
end Go.Proofs.Ytefikbjjdldomaa
namespace Go.Proofs.Ytefikbjjdldomaa
open _root_.Go.Proofs.Ytefikbjjdldomaa.Nm Wm Dm

theorem bet_asym {k h : Nat → Int} {a b : Nat} (h1 : bet k h a b = true) (h2 : bet k h b a = true) : False := by
  have e1 := of_decide_eq_true h1
  have e2 := of_decide_eq_true h2
  omega
theorem bet_total {k h : Nat → Int} {a b : Nat} (hne : a ≠ b) (h1 : bet k h a b = false) : bet k h b a = true := by
  have e1 := of_decide_eq_false h1
  exact decide_eq_true (by omega)
theorem bet_trans {k h : Nat → Int} {a b c : Nat} (h1 : bet k h a b = true) (h2 : bet k h b c = true) : bet k h a c = true := by
  have e1 := of_decide_eq_true h1
  have e2 := of_decide_eq_true h2
  exact decide_eq_true (by omega)
theorem frk_best {k h : Nat → Int} {l : List Nat} : ∀ {i b : Nat}, frk k h l i = some b → i ≤ l.length → ∀ j, j < i → l.getD j 0 ≠ b → bet k h b (l.getD j 0) = true
  | 0, b, e, _ => by simp [frk] at e
  | i + 1, b, e, hi => by
    unfold frk at e
    cases e1 : frk k h l i with
    | none =>
      rw [e1] at e
      simp only [Option.some.injEq] at e
      intro j hj hne
      rcases (show j < i ∨ j = i by omega) with h1 | rfl
      · exfalso
        cases i with
        | zero => omega
        | succ i =>
          unfold frk at e1
          split at e1
          · cases e1
          · split at e1 <;> cases e1
      · exact absurd e hne
    | some a =>
      rw [e1] at e
      simp only at e
      have ih := frk_best e1 (by omega)
      split at e
      · rename_i hb
        simp only [Option.some.injEq] at e
        rw [e] at hb
        intro j hj hne
        rcases (show j < i ∨ j = i by omega) with h1 | rfl
        · by_cases ea : l.getD j 0 = a
          · rw [ea]; exact hb
          · exact bet_trans hb (ih j h1 ea)
        · exact absurd e hne
      · rename_i hb
        simp only [Option.some.injEq] at e
        subst e
        intro j hj hne
        rcases (show j < i ∨ j = i by omega) with h1 | rfl
        · exact ih j h1 hne
        · exact bet_total hne (by simpa using hb)
theorem frk_some {k h : Nat → Int} {l : List Nat} (hl : 0 < l.length) : ∃ b, frk k h l l.length = some b := by
  obtain ⟨m, hm⟩ : ∃ m, l.length = m + 1 := ⟨l.length - 1, by omega⟩
  rw [hm]; unfold frk
  split
  · exact ⟨_, rfl⟩
  · split <;> exact ⟨_, rfl⟩
theorem frk_pick {k h : Nat → Int} {l : List Nat} {W : Nat → Bool} {n : Nat} (hl : 0 < l.length) (hW : ∀ v, v < n → (W v = true ↔ v ∈ l)) (hn : ∀ v, v ∈ l → v < n) : frk k h l l.length = Sk.pick W k h n := by
  obtain ⟨b, hb⟩ := frk_some (k := k) (h := h) hl
  obtain ⟨j, hj, hjb⟩ := frk_mem hb (Nat.le_refl _)
  have hbl : b ∈ l := by rw [← hjb, List.getD_eq_getElem?_getD, List.getElem?_eq_getElem hj]; exact List.getElem_mem hj
  rw [hb]
  cases hp : Sk.pick W k h n with
  | none => exact absurd ((hW b (hn b hbl)).2 hbl) (by rw [Sk.pick_none hp b (hn b hbl)]; simp)
  | some c =>
    obtain ⟨h1, h2, h3⟩ := Sk.pick_some hp
    by_cases e : b = c
    · rw [e]
    · exfalso
      have x1 : bet k h c b = true := h3 b (hn b hbl) ((hW b (hn b hbl)).2 hbl) e
      have hcl := (hW c h1).1 h2
      obtain ⟨i, hi, hic⟩ := List.mem_iff_getElem.1 hcl
      have hd : l.getD i 0 = c := by rw [List.getD_eq_getElem?_getD, List.getElem?_eq_getElem hi]; exact hic
      have x2 := frk_best hb (Nat.le_refl _) i hi (by rw [hd]; exact fun e' => e e'.symm)
      rw [hd] at x2
      exact bet_asym x1 x2
theorem strk_ints (l : List Nat) (v : Nat) : strk (ints l) (v : Int) = ints (l.filter (fun x => x ≠ v)) := by
  unfold strk ints
  induction l with
  | nil => rfl
  | cons a l ih =>
    by_cases e : a = v
    · subst e; simpa using ih
    · have e2 : ¬ ((a : Int) = (v : Int)) := by omega
      simp only [List.map_cons, List.filter_cons, decide_eq_false e2, Bool.not_false, if_true]
      rw [ih]
      simp [e]
end Go.Proofs.Ytefikbjjdldomaa
namespace Go.Proofs.Ytefikbjjdldomaa
open Go.RowKit Go.Maps
open _root_.Go.Proofs.Ytefikbjjdldomaa.Nm Wm Dm Cm

theorem nkey {v : Nat} (hv : v < 64) : keyOf Try.prog 3 (.int .i64 (v : Int)) = some (.int .i64 (v : Int)) := keyOf_int_mk Try.underlying3 (WalkArith.wf_i64 (by omega))
theorem Mp.get {w : World} {B n v : Nat} {m : Nat → Option Int} {c : Int} (h : Mp w B n m) (hv : v < 64) (hm : m v = some c) : (Instr.lookup 59 (.map (some B)) (.int .i64 (v : Int)) false).run Try.prog w = .ok (.int .i64 c) w := by
  obtain ⟨D, hown, hD⟩ := h.own
  obtain ⟨c', hrun, hat, _⟩ := hown.lookup_int law3 Try.underlying59 Try.underlying3 (zero3 _) (nkey hv)
  have : c' = c := by have h9 := ((hD v).2 c hm (.lit (.int .i64 0))).symm.trans hat; simpa using h9.symm
  rw [this] at hrun
  exact hrun
theorem Mp.ok {w : World} {B n v : Nat} {m : Nat → Option Int} (h : Mp w B n m) (hv : v < 64) : ∃ c, (Instr.lookup 59 (.map (some B)) (.int .i64 (v : Int)) true).run Try.prog w = .ok (.tuple #[.int .i64 c, .bool (m v).isSome]) w ∧ ∀ x, m v = some x → c = x := by
  obtain ⟨D, hown, hD⟩ := h.own
  obtain ⟨u, ps, hrun, hu⟩ := hown.look_ok law3 Try.underlying59 (zero3 _) (plainElem_int Try.underlying3 (by decide : (Lit.int .i64 0).wf = true)) (nkey hv)
  obtain ⟨c, rfl, hc, _⟩ := plainElem_int_inv Try.underlying3 hu
  simp only [Prod.mk.injEq] at hc
  rw [(hD v).1] at hrun
  refine ⟨c, hrun, fun x hx => ?_⟩
  have h9 := ((hD v).2 x hx (.lit (.int .i64 0))).symm.trans hc.1
  simpa using h9.symm
theorem Mp.put {w : World} {B n v : Nat} {m : Nat → Option Int} {c : Int} (h : Mp w B n m) (hv : v < 64) (hn : n < maxLen) (hc : (Lit.int .i64 c).wf = true) : ∃ w', (Instr.mapUpdate 59 (.map (some B)) (.int .i64 (v : Int)) (.int .i64 c)).run Try.prog w = .ok () w' ∧ Mp w' B (n + 1) (fun x => if x = v then some c else m x) ∧ w.grownBy w' (some B) := by
  obtain ⟨D, hown, hD⟩ := h.own
  obtain ⟨w', hrun, h1, h2⟩ := hown.update law3 Try.underlying59 hn (nkey hv) (plainElem_int Try.underlying3 hc)
  refine ⟨w', hrun, ⟨_, h1, fun x => ?_⟩, h2⟩
  by_cases e : x = v
  · subst e
    rw [if_pos rfl]
    refine ⟨has_put_same (k := .int .i64 x) hown.isMap trivial _, fun y hy z => ?_⟩
    rw [← Option.some.inj hy]
    exact atKey_put_same (k := .int .i64 x) hown.isMap trivial _ _
  · rw [if_neg e]
    have hne : Lit.int .i64 (x : Int) ≠ .int .i64 (v : Int) := by intro e'; simp at e'; omega
    refine ⟨by rw [has_put_other hne]; exact (hD x).1, fun y hy z => ?_⟩
    rw [atKey_put_other hne]
    exact (hD x).2 y hy z
end Go.Proofs.Ytefikbjjdldomaa
namespace Go.Proofs.Ytefikbjjdldomaa.Sk
open _root_.Go.Proofs.Ytefikbjjdldomaa.Nm _root_.Go.Proofs.Ytefikbjjdldomaa.Wm _root_.Go.Proofs.Ytefikbjjdldomaa.Dm

theorem pick_all {W : Nat → Bool} {k h : Nat → Int} {n : Nat} (hW : ∀ v, v < n → W v = false) : pick W k h n = none := by
  cases e : pick W k h n with
  | none => rfl
  | some b =>
    obtain ⟨h1, h2, _⟩ := pick_some e
    rw [hW b h1] at h2; cases h2
/-- Costs so far, as a map. -/
def mcf (s : S) : Nat → Option Int := fun v => if s.c v < far then some (s.c v) else none
/-- Where each was got from, as a map. -/
def mpf (s : S) (a : Nat) : Nat → Option Int := fun v => if s.c v < far ∧ v ≠ a then some (s.p v : Int) else none
/-- What the search's state keeps. -/
structure Ji (n : Nat) (h : Nat → Int) (a : Nat) (s : S) (ord : List Nat) : Prop where
  nd : ord.Nodup
  inn : ∀ v ∈ ord, v < n
  co : ∀ v, s.c v < far → v < n ∧ 0 ≤ s.c v ∧ s.c v ≤ 10000 * (ord.length : Int) ∧ h v ≠ far
  le : ∀ v, s.c v ≤ far
  st : a ∈ ord ∨ (ord = [] ∧ s = st0 h a)
  oc : ∀ v ∈ ord, s.c v < far
theorem ji_start {n a : Nat} {h : Nat → Int} (ha : a < n) (hh : h a ≠ far) : Ji n h a (st0 h a) [] := by
  have hF : far = 1099511627776 := rfl
  refine ⟨List.nodup_nil, fun v hv => absurd hv (by simp), fun v hv => ?_, fun v => ?_, .inr ⟨rfl, rfl⟩, fun v hv => absurd hv (by simp)⟩
  · by_cases e : v = a ∧ h a ≠ far
    · have h1 : (st0 h a).c v = 0 := if_pos e
      rw [h1, e.1]; exact ⟨ha, by omega, by simp, hh⟩
    · have h1 : (st0 h a).c v = far := if_neg e
      rw [h1] at hv; omega
  · by_cases e : v = a ∧ h a ≠ far
    · have h1 : (st0 h a).c v = 0 := if_pos e
      rw [h1]; omega
    · have h1 : (st0 h a).c v = far := if_neg e
      rw [h1]; omega
theorem Ji.len {n a : Nat} {h : Nat → Int} {s : S} {ord : List Nat} (j : Ji n h a s ord) : ord.length ≤ n := nodup_le j.nd j.inn
/-- .. while the edges are looked along. -/
structure Jk (n : Nat) (h : Nat → Int) (a : Nat) (s : S) (ord : List Nat) (v : Nat) : Prop where
  ji : Ji n h a s ord
  ao : a ∈ ord
  vo : v ∈ ord
  cv : s.c v + 10000 ≤ 10000 * (ord.length : Int)
theorem Ji.take {n a v : Nat} {h : Nat → Int} {s : S} {ord : List Nat} (j : Ji n h a s ord) (hw : wts s ord v = true) : Jk n h a s (ord ++ [v]) v := by
  obtain ⟨h1, h2⟩ := wts_yes hw
  obtain ⟨k1, k2, k3, k4⟩ := j.co v h1
  have ha : a ∈ ord ++ [v] := by
    rcases j.st with h3 | ⟨h3, h4⟩
    · exact List.mem_append_left _ h3
    · have : v = a := by
        refine Classical.byContradiction fun hne => ?_
        rw [h4] at h1
        have h5 : (st0 h a).c v = far := if_neg (fun hq => hne hq.1)
        rw [h5] at h1
        omega
      rw [this]; simp
  refine ⟨⟨?_, ?_, ?_, j.le, .inl ha, ?_⟩, ha, by simp, by simp; omega⟩
  · rw [List.nodup_append]
    exact ⟨j.nd, by simp, fun x hx y hy => by simp at hy; subst hy; exact fun e => h2 (e ▸ hx)⟩
  · intro x hx
    rcases List.mem_append.1 hx with h3 | h3
    · exact j.inn x h3
    · simp at h3; rw [h3]; exact k1
  · intro x hx
    obtain ⟨q1, q2, q3, q4⟩ := j.co x hx
    exact ⟨q1, q2, by simp; omega, q4⟩
  · intro x hx
    rcases List.mem_append.1 hx with h3 | h3
    · exact j.oc x h3
    · simp at h3; rw [h3]; exact h1
/-- The state behind an edge that makes a place cost less. -/
def put (s : S) (y : Nat) (c : Int) (v : Nat) : S := ⟨upd s.c y c, fun i => if i = y then v else s.p i⟩
theorem put_c (s : S) (y : Nat) (c : Int) (v x : Nat) : (put s y c v).c x = if x = y then c else s.c x := rfl
theorem rx_yes {h : Nat → Int} {ord : List Nat} {v : Nat} {e : E} {s : S} (h1 : e.1.toNat = v) (h2 : h e.2.1.toNat ≠ far) (h3 : ¬ e.2.1.toNat ∈ ord) (h4 : s.c v + e.2.2 < s.c e.2.1.toNat) : rx h ord v e s = put s e.2.1.toNat (s.c v + e.2.2) v := by
  unfold rx
  rw [if_pos ⟨h1, h2, h3, h4⟩]; rfl
theorem rx_no {h : Nat → Int} {ord : List Nat} {v : Nat} {e : E} {s : S} (hn : ¬ (e.1.toNat = v ∧ h e.2.1.toNat ≠ far ∧ ¬ e.2.1.toNat ∈ ord ∧ s.c v + e.2.2 < s.c e.2.1.toNat)) : rx h ord v e s = s := by
  unfold rx
  rw [if_neg hn]
theorem Jk.put {n a v y : Nat} {h : Nat → Int} {s : S} {ord : List Nat} {x : Int} (j : Jk n h a s ord v) (hy : y < n) (hh : h y ≠ far) (hn : ¬ y ∈ ord) (hx1 : 1 ≤ x) (hx2 : x ≤ 10000) (hc : s.c v + x < s.c y) : Jk n h a (Sk.put s y (s.c v + x) v) ord v := by
  obtain ⟨k1, k2, k3, k4⟩ := j.ji.co v (j.ji.oc v j.vo)
  have hvy : v ≠ y := fun e => hn (e ▸ j.vo)
  have hle := j.ji.le y
  refine ⟨⟨j.ji.nd, j.ji.inn, ?_, ?_, .inl j.ao, ?_⟩, j.ao, j.vo, ?_⟩
  · intro z hz
    rw [put_c] at hz ⊢
    by_cases e : z = y
    · rw [if_pos e]; rw [e]; have := j.cv; exact ⟨hy, by omega, by omega, hh⟩
    · rw [if_neg e] at hz ⊢; exact j.ji.co z hz
  · intro z
    rw [put_c]
    split
    · omega
    · exact j.ji.le z
  · intro z hz
    rw [put_c, if_neg (fun e : z = y => hn (e ▸ hz))]
    exact j.ji.oc z hz
  · rw [put_c, if_neg hvy]; exact j.cv
theorem Jk.next {n a v : Nat} {h : Nat → Int} {s : S} {ord : List Nat} (j : Jk n h a s ord v) : Ji n h a s ord := j.ji
theorem mcf_put {s : S} {y v : Nat} {c : Int} (hc : c < far) : mcf (put s y c v) = fun x => if x = y then some c else mcf s x := by
  funext x
  unfold mcf
  rw [put_c]
  by_cases e : x = y
  · rw [if_pos e, if_pos e, if_pos hc]
  · rw [if_neg e, if_neg e]
theorem mpf_put {s : S} {y v a : Nat} {c : Int} (hc : c < far) (ha : y ≠ a) : mpf (put s y c v) a = fun x => if x = y then some (v : Int) else mpf s a x := by
  funext x
  unfold mpf
  rw [put_c]
  show (if (if x = y then c else s.c x) < far ∧ x ≠ a then some (((if x = y then v else s.p x : Nat)) : Int) else none) = _
  by_cases e : x = y
  · rw [if_pos e, if_pos e, if_pos e, if_pos ⟨hc, e ▸ ha⟩]
  · rw [if_neg e, if_neg e, if_neg e]
theorem wts_put {s : S} {ord : List Nat} {y v : Nat} {c : Int} (hc : c < far) (hn : ¬ y ∈ ord) (x : Nat) : wts (put s y c v) ord x = true ↔ (x = y ∨ wts s ord x = true) := by
  unfold wts
  rw [put_c]
  by_cases e : x = y
  · subst e
    rw [if_pos rfl]
    simp [hc, hn]
  · rw [if_neg e]
    simp [e]
end Go.Proofs.Ytefikbjjdldomaa.Sk
namespace Go.Proofs.Ytefikbjjdldomaa
open _root_.Go.Proofs.Ytefikbjjdldomaa.Nm Wm Dm Sk

/-- The way is what the map leads back. -/
theorem way_bw {N a : Nat} {es : List E} {s : Sk.S} {o : List Nat} (h : Dn N es a s o) (hp : Pn N es) (ha : a < N) : ∀ m : Nat, ∀ v, v < N → (s.c v).toNat ≤ m → s.c v < far → Bw (mpf s a) (way s a v) := by
  have hn64 := hp.n64
  have base : Bw (mpf s a) (way s a a) := by
    rw [way_a]
    refine ⟨by simp, by simp, fun j hj => ?_, fun j hj => absurd hj (by simp), ?_⟩
    · have : j = 0 := by simpa using hj
      subst this; simp; omega
    · show mpf s a a = none
      unfold mpf
      rw [if_neg (fun hq => hq.2 rfl)]
  intro m
  induction m with
  | zero =>
    intro v hv hm hf
    by_cases e : v = a
    · subst e; exact base
    · have h1 := h.less hp hv hf e
      have h2 := h.lo _ h1.1
      have h3 := h.lo v hv
      omega
  | succ m ih =>
    intro v hv hm hf
    by_cases e : v = a
    · subst e; exact base
    · obtain ⟨k1, k2, k3⟩ := h.less hp hv hf e
      have h0 := h.lo _ k1
      have hb := ih (s.p v) k1 (by omega) k2
      have hl := way_len h hp ha hv hf
      obtain ⟨⟨q, hq⟩, _⟩ := way_is h hp ha (s.p v) k1 k2
      have hnx := way_next h hp hv hf e
      rw [hnx] at hl ⊢
      have hlen : (way s a (s.p v) ++ [v]).length = (way s a (s.p v)).length + 1 := by simp
      have hin : ∀ j, j < (way s a (s.p v)).length → (way s a (s.p v) ++ [v]).getD j 0 = (way s a (s.p v)).getD j 0 := fun j hj => by
        simp [List.getD_eq_getElem?_getD, List.getElem?_append_left hj]
      have hlast : (way s a (s.p v) ++ [v]).getD (way s a (s.p v)).length 0 = v := by simp [List.getD_eq_getElem?_getD]
      have hpl : (way s a (s.p v)).getD ((way s a (s.p v)).length - 1) 0 = s.p v := by
        rw [hq]; simp [List.getD_eq_getElem?_getD]
      have hpos := hb.pos
      refine ⟨by omega, by omega, fun j hj => ?_, fun j hj => ?_, ?_⟩
      · rcases (show j < (way s a (s.p v)).length ∨ j = (way s a (s.p v)).length by omega) with h1 | h1
        · rw [hin j h1]; exact hb.small j h1
        · rw [h1, hlast]; omega
      · rcases (show j + 1 < (way s a (s.p v)).length ∨ j + 1 = (way s a (s.p v)).length by omega) with h1 | h1
        · rw [hin _ h1, hin j (by omega)]; exact hb.step j h1
        · rw [h1, hlast, hin j (by omega), show j = (way s a (s.p v)).length - 1 by omega, hpl]
          unfold mpf
          rw [if_pos ⟨hf, e⟩]
      · rw [hin 0 hpos]; exact hb.fst
theorem way_last {N a t : Nat} {es : List E} {s : Sk.S} {o : List Nat} (h : Dn N es a s o) (hp : Pn N es) (ha : a < N) (ht : t < N) (hf : s.c t < far) : (way s a t).getD ((way s a t).length - 1) 0 = t := by
  obtain ⟨⟨q, hq⟩, _⟩ := way_is h hp ha t ht hf
  rw [hq]; simp [List.getD_eq_getElem?_getD]
end Go.Proofs.Ytefikbjjdldomaa
namespace Go.Proofs.Ytefikbjjdldomaa
open Go.RowKit Go.Maps
open _root_.Go.Proofs.Ytefikbjjdldomaa.Nm Wm Dm Cm

theorem Is.keep {w w' : World} {T : Nat} {v : Value} {l : List Int} {r : Option Nat} (h : Is w T v l) (hg : w.grownBy w' r) (hne : ∀ k, v.ownBlock = some k → r ≠ some k) : Is w' T v l := by
  rcases h.rw with ⟨rfl, rfl⟩ | ⟨g, cap, rfl, hb, hr⟩
  · exact Is.nil _ _
  · exact (hr.frame (hg.block g hr.lt (fun e => hne g rfl e.symm))).is hb
/-- The boxes that stay as they are. -/
structure Fq (w : World) (n : Int) (v hv kv : Value) (G H K R C MB : Nat) : Prop where
  g0 : w.cell? ⟨G, 0, none⟩ = some (.int .i64 n)
  g1 : w.cell? ⟨G, 1, none⟩ = some v
  hh : w.cell? ⟨H, 0, none⟩ = some hv
  kk : w.cell? ⟨K, 0, none⟩ = some kv
  cc : w.cell? ⟨C, 0, none⟩ = some (.map (some MB))
  rr : Rb w R (.slice none 0 0) (.int .i64 0) (.slice none 0 0)
theorem cell_keep {w w' : World} {r : Option Nat} {B o : Nat} {x : Value} (hg : w.grownBy w' r) (hne : r ≠ some B) (h : w.cell? ⟨B, o, none⟩ = some x) : w'.cell? ⟨B, o, none⟩ = some x :=
  (hg.cell_far _ (World.block_lt_of_cell? w _ h) (Ne.symm hne)).trans h
theorem Fq.grown {w w' : World} {n : Int} {v hv kv : Value} {G H K R C MB : Nat} {r : Option Nat} (h : Fq w n v hv kv G H K R C MB) (hg : w.grownBy w' r) (hr : r ≠ some G ∧ r ≠ some H ∧ r ≠ some K ∧ r ≠ some R ∧ r ≠ some C) : Fq w' n v hv kv G H K R C MB :=
  ⟨cell_keep hg hr.1 h.g0, cell_keep hg hr.1 h.g1, cell_keep hg hr.2.1 h.hh, cell_keep hg hr.2.2.1 h.kk, cell_keep hg hr.2.2.2.2 h.cc, ⟨(hg.block R h.rr.lt (Ne.symm hr.2.2.2.1)).trans h.rr.at_⟩⟩
/-- The search's world. -/
structure Sq (w0 w : World) (T : Nat) (n : Int) (v hv kv : Value) (G H K R C MB PB : Nat) (nc np gw cap : Nat) (l ord : List Nat) (vo : Value) (mc mp : Nat → Option Int) : Prop where
  bl : Below w0.heap.size w0 w
  od : w0.heap.size ≤ G ∧ G < H ∧ H < K ∧ K < R ∧ R < MB ∧ MB < PB ∧ PB < C ∧ C < T
  fx : Fq w n v hv kv G H K R C MB
  mc : Mp w MB nc mc
  mp : Mp w PB np mp
  tw : T ≤ gw
  ww : Rw w gw cap (ints l)
  oo : Is w T vo (ints ord)
  ne : vo.ownBlock ≠ some gw
section
variable {w0 w w' : World} {T : Nat} {n : Int} {v hv kv : Value} {G H K R C MB PB nc np gw cap : Nat} {l ord : List Nat} {vo : Value} {mc mp : Nat → Option Int}
theorem Sq.grow {r : Option Nat} (h : Sq w0 w T n v hv kv G H K R C MB PB nc np gw cap l ord vo mc mp) (hg : w.grownBy w' r) (hr : ∀ k, r = some k → T ≤ k) : Below w0.heap.size w0 w' ∧ Fq w' n v hv kv G H K R C MB := by
  obtain ⟨o1, o2, o3, o4, o5, o6, o7, o8⟩ := h.od
  refine ⟨h.bl.grown hg h.bl.size (fun k hk => by have := hr k hk; omega), h.fx.grown hg ⟨?_, ?_, ?_, ?_, ?_⟩⟩ <;> (intro e; have := hr _ e; omega)
theorem Sq.below (h : Sq w0 w T n v hv kv G H K R C MB PB nc np gw cap l ord vo mc mp) (hb : Below w.heap.size w w') : Sq w0 w' T n v hv kv G H K R C MB PB nc np gw cap l ord vo mc mp := by
  have hg : w.grownBy w' none := grown_below hb
  obtain ⟨k1, k2⟩ := h.grow hg (fun k hk => by cases hk)
  exact ⟨k1, h.od, k2, h.mc.below hb, h.mp.below hb, h.tw, h.ww.below hb, h.oo.below hb, h.ne⟩
theorem Sq.wadd {g2 cap2 : Nat} {l2 : List Nat} (h : Sq w0 w T n v hv kv G H K R C MB PB nc np gw cap l ord vo mc mp) (hg : w.grownBy w' (some gw)) (hr : Rw w' g2 cap2 (ints l2)) (hat : g2 = gw ∨ w.heap.size ≤ g2) : Sq w0 w' T n v hv kv G H K R C MB PB nc np g2 cap2 l2 ord vo mc mp := by
  obtain ⟨o1, o2, o3, o4, o5, o6, o7, o8⟩ := h.od
  have htw := h.tw
  have hlw := h.ww.lt
  obtain ⟨k1, k2⟩ := h.grow hg (fun k hk => by cases hk; exact htw)
  refine ⟨k1, h.od, k2, h.mc.grown hg (by omega), h.mp.grown hg (by omega), by omega, hr, h.oo.keep hg (fun k hk e => h.ne (hk.trans e.symm)), fun e => ?_⟩
  rcases hat with h1 | h1
  · rw [h1] at e; exact h.ne e
  · have := (h.oo.own_lt g2 e).2; omega
theorem Sq.oadd {o2 : List Nat} {vo2 : Value} (h : Sq w0 w T n v hv kv G H K R C MB PB nc np gw cap l ord vo mc mp) (hg : w.grownBy w' vo.ownBlock) (hr : Is w' T vo2 (ints o2)) (hat : ∀ k, vo2.ownBlock = some k → vo.ownBlock = some k ∨ w.heap.size ≤ k) : Sq w0 w' T n v hv kv G H K R C MB PB nc np gw cap l o2 vo2 mc mp := by
  obtain ⟨p1, p2, p3, p4, p5, p6, p7, p8⟩ := h.od
  have hlw := h.ww.lt
  obtain ⟨k1, k2⟩ := h.grow hg (fun k hk => (h.oo.own_lt k hk).1)
  refine ⟨k1, h.od, k2, h.mc.frame (hg.block _ h.mc.lt (fun e => by have := (h.oo.own_lt _ e.symm).1; omega)), h.mp.frame (hg.block _ h.mp.lt (fun e => by have := (h.oo.own_lt _ e.symm).1; omega)), h.tw, h.ww.frame (hg.block _ hlw (Ne.symm h.ne)), hr, fun e => ?_⟩
  rcases hat _ e with h1 | h1
  · exact h.ne h1
  · omega
theorem Sq.cput {mc2 : Nat → Option Int} (h : Sq w0 w T n v hv kv G H K R C MB PB nc np gw cap l ord vo mc mp) (hg : w.grownBy w' (some MB)) (hm : Mp w' MB (nc + 1) mc2) : Sq w0 w' T n v hv kv G H K R C MB PB (nc + 1) np gw cap l ord vo mc2 mp := by
  obtain ⟨o1, o2, o3, o4, o5, o6, o7, o8⟩ := h.od
  have htw := h.tw
  refine ⟨h.bl.grown hg h.bl.size (fun k hk => by cases hk; omega), h.od, h.fx.grown hg ⟨?_, ?_, ?_, ?_, ?_⟩, hm, h.mp.grown hg (by omega), h.tw, h.ww.frame (hg.block _ h.ww.lt (by simp; omega)), h.oo.keep hg (fun k hk e => by cases e; have := (h.oo.own_lt _ hk).1; omega), h.ne⟩ <;> (simp; omega)
theorem Sq.pput {mp2 : Nat → Option Int} (h : Sq w0 w T n v hv kv G H K R C MB PB nc np gw cap l ord vo mc mp) (hg : w.grownBy w' (some PB)) (hm : Mp w' PB (np + 1) mp2) : Sq w0 w' T n v hv kv G H K R C MB PB nc (np + 1) gw cap l ord vo mc mp2 := by
  obtain ⟨o1, o2, o3, o4, o5, o6, o7, o8⟩ := h.od
  have htw := h.tw
  refine ⟨h.bl.grown hg h.bl.size (fun k hk => by cases hk; omega), h.od, h.fx.grown hg ⟨?_, ?_, ?_, ?_, ?_⟩, h.mc.grown hg (by omega), hm, h.tw, h.ww.frame (hg.block _ h.ww.lt (by simp; omega)), h.oo.keep hg (fun k hk e => by cases e; have := (h.oo.own_lt _ hk).1; omega), h.ne⟩ <;> (simp; omega)
end
end Go.Proofs.Ytefikbjjdldomaa
