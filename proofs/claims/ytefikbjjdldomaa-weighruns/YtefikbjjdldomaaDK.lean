/-
  Contract: costs.
-/
import Derived.Test.YtefikbjjdldomaaDJ
import Derived.Test.YtefikbjjdldomaaNA
import Derived.Deep.LoopGhost
namespace Go.Proofs.Ytefikbjjdldomaa
open Go.RowKit
open Nm Wm Dm Hp
attribute [local go_sem ↓] Go.wp_at_zero Go.wp_at_succ

/-- The outer loop's relation. -/
structure Rd (w : World) (N0 G H N s : Nat) (u : Value) (es : List E) (gk : Nat) (wr : World) : Prop where
  ex : ∃ d qs v K, Dj w N0 G H (N : Int) N u d qs v wr ∧ Inv N es s K d qs (fun _ => False) ∧ 2 * phi N d + qs.length ≤ gk ∧ qs.length + phi N d ≤ 44800001
/-- The inner loop's relation: place j, of cost kk, is looked from; the first i edges are looked at. -/
structure Re (w : World) (N0 G H N s : Nat) (u : Value) (es : List E) (gk X j : Nat) (kk : Int) (i : Nat) (d : Nat → Int) (qs : List (Int × Int)) (v : Value) (wr : World) : Prop where
  st : Dj w N0 G H (N : Int) N u d qs v wr
  inv : Inv N es s kk d qs (fun x => x = j)
  dj : d j = kk
  rels : Rels es d j i
  mea : 2 * phi N d + qs.length + 1 ≤ gk
  size : qs.length + phi N d ≤ 44800001
  xbox : Box wr X (kk, (j : Int))
  x1 : H < X
  x2 : v.ownBlock ≠ some X
theorem Re.kept {w : World} {N0 G H N s : Nat} {u : Value} {es : List E} {gk X j : Nat} {kk : Int} {i : Nat} {d : Nat → Int} {qs : List (Int × Int)} {v : Value} {wr wr' : World} (h : Re w N0 G H N s u es gk X j kk i d qs v wr) (hb : Below wr.heap.size wr wr') : Re w N0 G H N s u es gk X j kk i d qs v wr' :=
  ⟨h.st.kept hb, h.inv, h.dj, h.rels, h.mea, h.size, h.xbox.frame (hb.block _ h.xbox.lt), h.x1, h.x2⟩
theorem Re.same {w : World} {N0 G H N s : Nat} {u : Value} {es : List E} {gk X j : Nat} {kk : Int} {i : Nat} {d : Nat → Int} {qs : List (Int × Int)} {v : Value} {wr : World} (h : Re w N0 G H N s u es gk X j kk i d qs v wr) (hno : (at3 es i).1.toNat = j → d (at3 es i).2.1.toNat ≤ kk + (at3 es i).2.2) : Re w N0 G H N s u es gk X j kk (i + 1) d qs v wr :=
  ⟨h.st, h.inv, h.dj, rels_same h.rels (by rw [h.dj]; exact hno), h.mea, h.size, h.xbox, h.x1, h.x2⟩
/-- The store and the push. -/
theorem Re.push {w : World} {N0 G H N s : Nat} {u : Value} {es : List E} {gk X j : Nat} {kk : Int} {i y : Nat} {x z c : Int} {d : Nat → Int} {qs : List (Int × Int)} {v : Value} {wr wr' : World} (hp : Pn N es) (hj : j < N) (h : Re w N0 G H N s u es gk X j kk i d qs v wr) (hi : i < es.length) (he : at3 es i = (x, z, c)) (hx : x.toNat = j) (hy : z = (y : Int)) (hlt : kk + c < d y) (hb : Below wr.heap.size (wr.setCell ⟨G, y, none⟩ (.int .i64 (kk + c))) wr') :
    Calls Try.prog 74 #[.pointer (some ⟨H, 0, none⟩), .agg #[.int .i64 (kk + c), .int .i64 z]] wr' fun e w' => e = .returned (.tuple #[]) ∧ (∃ d' rs v', Re w N0 G H N s u es gk X j kk (i + 1) d' rs v' w') ∧ ∀ k, k < wr'.heap.size → k ≠ H → v.ownBlock ≠ some k → w'.heap[k]? = wr'.heap[k]? := by
  have hmem : at3 es i ∈ es := mem_at hi
  rw [he] at hmem
  obtain ⟨a1, a2, a3, a4⟩ := hp.nat hmem
  subst hy
  simp only [Int.toNat_natCast] at a1 a2 a3 a4
  have hk := h.inv.key hp hj h.dj
  have hk0 := h.inv.k0
  obtain ⟨i1, i2, i3⟩ := inv_push (i := i) (y := y) (c := c) (e := (x, (y : Int), c)) hp h.inv h.dj hmem hi he hx (by simp) rfl h.rels hlt
  have hph : phi N (upd d y (kk + c)) + 1 ≤ phi N d := phi_upd a2 (by omega) (by omega) hlt
  have hsz : (wr.setCell ⟨G, y, none⟩ (.int .i64 (kk + c))).heap.size = wr.heap.size := by simp [World.setCell]
  have hb' : Below (wr.setCell ⟨G, y, none⟩ (.int .i64 (kk + c))).heap.size (wr.setCell ⟨G, y, none⟩ (.int .i64 (kk + c))) wr' := by rw [hsz]; exact hb
  have st' := (h.st.put y (kk + c)).kept hb'
  have hGX : X ≠ G := by have := h.st.o3; have := h.x1; omega
  have xb : Box wr' X (kk, (j : Int)) := by
    have := h.xbox.frame (w' := wr.setCell ⟨G, y, none⟩ (.int .i64 (kk + c))) (Below.heap_setCell _ _ _ _ hGX)
    exact this.frame (hb'.block _ this.lt)
  have hs := h.size
  have hm := h.mea
  refine (pushj (kk + c) (y : Int) st' (by omega)).mono ?_
  rintro e w' ⟨rfl, v', rs, s1, s2, s3, s4, s5⟩
  have hl : rs.length = qs.length + 1 := by rw [s2.length_eq]; simp
  refine ⟨rfl, ⟨_, rs, v', s1, i1.perm s2, i2, i3, by omega, by omega, xb.frame (s3 X xb.lt (by have := h.x1; omega) h.x2), h.x1, fun e => ?_⟩, s3⟩
  rcases s4 X e with h1 | h1
  · exact h.x2 h1
  · have := xb.lt; omega
theorem cell_put {w : World} {g o b i : Nat} {v u : Value} (hne : b ≠ g) (h : w.cell? ⟨b, i, none⟩ = some u) : (w.setCell ⟨g, o, none⟩ v).cell? ⟨b, i, none⟩ = some u := by
  unfold World.cell? at *; rw [Below.heap_setCell _ _ _ _ hne]; exact h
theorem cell_block {w w' : World} {b i : Nat} {u : Value} (he : w'.heap[b]? = w.heap[b]?) (h : w.cell? ⟨b, i, none⟩ = some u) : w'.cell? ⟨b, i, none⟩ = some u := by
  unfold World.cell? at *; rw [he]; exact h
theorem start_upd (s : Nat) : upd (fun _ => (1099511627776 : Int)) s 0 = Dm.start s := by
  funext i; unfold upd Dm.start; rfl

set_option maxRecDepth 100000 in
set_option maxHeartbeats 32000000 in
theorem costs_any (N s : Nat) (v : Value) (es : List E) (w : World) (hv : SlE w v es) (hp : Pn N es) (hs : s < N) :
    Calls Try.prog 47 #[.agg #[.int .i64 N, v], .int .i64 s] w fun e w' => ∃ G d, e = .returned (.slice (some ⟨G, 0, none⟩) N N) ∧ w.heap.size ≤ G ∧ Ur w' G N d ∧ IsD N es s d ∧ Below w.heap.size w w' := by
  obtain ⟨a0, c0, rfl⟩ := hv.val
  have HV : Hid _ := hv
  have HP : Hid _ := hp
  have hn1 := hp.n1
  have hn64 := hp.n64
  have hlen := hp.len
  have hsN : (s : Int) < (N : Int) := by omega
  clear hv hp
  go_enter Try.func47, Try.ntmps47
  go_wp2_with fail
  have W0b : Hid ((w.alloc (.cells #[.int .i64 N, .slice a0 es.length c0] 24)).heap[w.heap.size]? = some (.cells #[.int .i64 N, .slice a0 es.length c0] 24 (0, 0))) := heap_alloc_new w _
  have hz0 : (w.alloc (.cells #[.int .i64 N, .slice a0 es.length c0] 24)).heap.size = w.heap.size + 1 := by simp
  have B0 : Hid (Below w.heap.size w (w.alloc (.cells #[.int .i64 N, .slice a0 es.length c0] 24))) := balloc (Below.refl _ _) _
  generalize w.alloc (.cells #[.int .i64 N, .slice a0 es.length c0] 24) = W0 at *
  have L1 : Hid _ := cell_new W0 #[.int .i64 1099511627776] 3 0 _ rfl
  rw [hz0] at L1
  have hz1 : (W0.alloc (.cells #[.int .i64 1099511627776] 3)).heap.size = w.heap.size + 2 := by simp; omega
  have b1 : Below W0.heap.size W0 (W0.alloc (.cells #[.int .i64 1099511627776] 3)) := balloc (Below.refl _ _) _
  generalize W0.alloc (.cells #[.int .i64 1099511627776] 3) = W1 at *
  have W1b : Hid (W1.heap[w.heap.size]? = some (.cells #[.int .i64 N, .slice a0 es.length c0] 24 (0, 0))) := (b1.block _ (by omega)).trans W0b.out
  have B1 : Hid (Below w.heap.size w W1) := bthen B0.out b1
  clear b1 B0 W0b hz0
  refine (repeat_any (w.heap.size + 1) N 1099511627776 W1 hn1 hn64 L1.out).mono ?_
  rintro e w2 ⟨rfl, ur2, b2⟩
  rw [hz1] at ur2 ⊢
  have W2b : Hid (w2.heap[w.heap.size]? = some (.cells #[.int .i64 N, .slice a0 es.length c0] 24 (0, 0))) := (b2.block _ (by omega)).trans W1b.out
  have B2 : Hid (Below w.heap.size w w2) := bthen B1.out b2
  have hz2 : w.heap.size + 2 < w2.heap.size := ur2.lt
  have U3 : Hid _ := ur2.put s 0
  rw [start_upd] at U3
  obtain ⟨c2, f2⟩ := ur2.cell s hs
  clear b2 W1b B1 L1 ur2 hz1
  go_wp2_with fail
  have W3b : Hid ((w2.setCell ⟨w.heap.size + 2, s, none⟩ (.int .i64 0)).heap[w.heap.size]? = some (.cells #[.int .i64 N, .slice a0 es.length c0] 24 (0, 0))) := (Below.heap_setCell _ _ _ _ (by simp)).trans W2b.out
  have B3 : Hid (Below w.heap.size w (w2.setCell ⟨w.heap.size + 2, s, none⟩ (.int .i64 0))) := Below.setCell B2.out (by simp) _
  have hz3 : (w2.setCell ⟨w.heap.size + 2, s, none⟩ (.int .i64 0)).heap.size = w2.heap.size := by simp [World.setCell]
  generalize w2.setCell ⟨w.heap.size + 2, s, none⟩ (.int .i64 0) = W3 at *
  clear c2 f2 W2b B2
  refine (new_any W3).mono ?_
  rintro e w4 ⟨rfl, hw4⟩
  have S4 : Hid (Dj w w.heap.size (w.heap.size + 2) W3.heap.size (N : Int) N (.slice a0 es.length c0) (Dm.start s) [] (.slice none 0 0) w4) := by
    have hb : Below W3.heap.size W3 w4 := by rw [hw4]; exact balloc (Below.refl _ _) _
    refine ⟨Nat.le_refl _, by omega, by omega, (hb.block _ (by omega)).trans W3b.out, U3.out.below hb, by rw [hw4]; exact heap_alloc_new _ _, World.ownsRow_nil _ _ _ _, by simp [Value.ownBlock], fun i h0 hi => by simp at hi, bthen B3.out hb⟩
  obtain ⟨H, hH⟩ : ∃ H, W3.heap.size = H := ⟨_, rfl⟩
  rw [hH] at S4 ⊢
  clear hw4 W3b B3 U3 hH hz3 hz2
  go_wp2_with fail
  refine (pushj 0 (s : Int) S4.out (by simp)).mono ?_
  rintro e w5 ⟨rfl, v5, q5, s5, p5, _, _, _⟩
  have R5 : Hid (Rd w w.heap.size (w.heap.size + 2) H N s (.slice a0 es.length c0) es (2 * phi N (Dm.start s) + 1) w5) := by
    have hl : q5.length = 1 := by rw [p5.length_eq]; rfl
    have h7 := phi_le N (Dm.start s)
    refine ⟨Dm.start s, q5, v5, 0, s5, (inv_start hs).perm (by simpa using p5), by omega, by omega⟩
  clear s5 p5 S4
  go_wp2_with fail
  go_loopg [7] (2 * phi N (Dm.start s) + 1) (fun gk _ wr => Rd w w.heap.size (w.heap.size + 2) H N s (.slice a0 es.length c0) es gk wr)
  case atStart => exact R5.out
  case round =>
    clear R5
    obtain ⟨d, qs, vv, K, st, inv, mea, siz⟩ := hrel.ex
    have ST : Hid _ := st
    have IV : Hid _ := inv
    clear hrel st inv
    by_cases h0 : qs.length = 0
    · obtain rfl : qs = [] := List.length_eq_zero_iff.1 h0
      have HD : Hid _ := inv_end HP.out IV.out
      have hown := ST.out.own
      have hcell : wr.cell? ⟨H, 1, none⟩ = some vv := by simp [World.cell?, ST.out.head]
      obtain ⟨av, cv, rfl⟩ : ∃ a c, vv = .slice a 0 c := by
        rcases hown.2 with ⟨rfl, _⟩ | ⟨g, cap, cur, rfl, _⟩
        · exact ⟨_, _, rfl⟩
        · exact ⟨_, _, rfl⟩
      have HCL : Hid _ := hcell
      clear hcell hown
      go_wp2_with fail
      refine (pop_nil H cv av wr HCL.out).mono ?_
      rintro e w6 ⟨rfl, b6⟩
      have S6 : Hid _ := ST.out.kept b6
      clear b6
      go_wp2_with fail
      go_ret
      have S7 := S6.out.kept (balloc (Below.refl _ _) (.cells #[.int .i64 0, .int .i64 0] 101))
      exact ⟨w.heap.size + 2, d, rfl, by omega, S7.dist, HD.out, S7.below⟩
    · go_wp2_with fail
      refine (popj ST.out (by omega) (by omega)).mono ?_
      rintro e w6 ⟨⟨kk, jj⟩, rs, v6, rfl, st6, pm, mn⟩
      have PM : Hid _ := pm
      have MN : Hid _ := mn
      have S6 : Hid _ := st6
      have hl6 : rs.length + 1 = qs.length := by have := pm.length_eq; simpa using this
      have I6 : Hid (Inv N es s K d ((kk, jj) :: rs) (fun _ => False)) := IV.out.perm pm
      obtain ⟨k1, k2, k3, k4, k5⟩ := I6.out.keys (kk, jj) (by simp)
      have kk0 : 0 ≤ kk := by have := I6.out.k0; simp only at k4; omega
      simp only at k5
      obtain ⟨j, rfl⟩ := Int.eq_ofNat_of_zero_le k1
      simp only [Int.toNat_natCast] at k2 k3
      have hjN : (j : Int) < (N : Int) := by omega
      have XO : Hid (v6.ownBlock ≠ some w6.heap.size) := fun e => by have := (ownBlock_lt S6.out.own _ e).2; omega
      have XH : Hid (H < w6.heap.size) := heap_lt S6.out.head
      have XB : Hid (Box (w6.alloc (.cells #[.int .i64 kk, .int .i64 j] 101)) w6.heap.size (kk, (j : Int))) := heap_alloc_new w6 _
      have S7 : Hid _ := S6.out.kept (balloc (Below.refl _ _) (.cells #[.int .i64 kk, .int .i64 j] 101))
      clear pm mn st6 IV k1 k4 k3 S6
      go_wp2_with fail
      generalize w6.alloc (.cells #[.int .i64 kk, .int .i64 j] 101) = W7 at *
      obtain ⟨X, hX⟩ : ∃ X, w6.heap.size = X := ⟨_, rfl⟩
      rw [hX] at XO XH XB ⊢
      clear hX
      obtain ⟨x0, x1, _, _⟩ := XB.out.cell
      simp only at x0 x1
      obtain ⟨c7, _⟩ := S7.out.dist.cell j k2
      by_cases hsk : d j < kk
      · have HI : Hid _ := inv_skip I6.out MN.out (by simpa using hsk)
        go_quiet (fail)
        have S8 : Hid _ := S7.out.kept (bdrewN (Below.refl _ _) nq)
        go_wp2_with fail
        go_roundg (2 * phi N d + rs.length)
        case measure => omega
        case rel => exact ⟨d, rs, v6, kk, S8.out, HI.out, by omega, by omega⟩
      · obtain ⟨hi, hdj⟩ := inv_take I6.out MN.out (by simpa using hsk)
        simp only [Int.toNat_natCast] at hi hdj
        have hkk : kk ≤ 640000 := hi.key HP.out k2 hdj
        have HI : Hid _ := hi
        have HDJ : Hid _ := hdj
        clear hi hdj
        go_quiet (fail)
        have R8 : Hid (Re w w.heap.size (w.heap.size + 2) H N s (.slice a0 es.length c0) es gk X j kk 0 d rs v6 (W7.drewN nq)) := by
          have hb := bdrewN (Below.refl W7.heap.size W7) nq
          exact ⟨S7.out.kept hb, HI.out, HDJ.out, fun i hi => absurd hi (by omega), by omega, by omega, XB.out.frame (hb.block _ XB.out.lt), XH.out, XO.out⟩
        obtain ⟨g0, g1⟩ := R8.out.st.cells
        generalize W7.drewN nq = W8 at *
        clear x0 x1 c7 S7 XB I6 HI HDJ
        go_wp2_with fail
        clear g0 g1
        go_loopw [42] (fun z wr => ∃ (i : Nat) (d : Nat → Int) (qs : List (Int × Int)) (v : Value), z = .int .i64 i ∧ i ≤ es.length ∧ Re w w.heap.size (w.heap.size + 2) H N s (.slice a0 es.length c0) es gk X j kk i d qs v wr) (fun z _ => es.length - (intOf z).toNat)
        case atStart => exact ⟨0, d, rs, v6, rfl, Nat.zero_le _, R8.out⟩
        case round =>
          clear R8 MN PM mea siz hl6 h0 hsk k5 XO XH
          obtain ⟨i, d, qs, v, rfl, hi, hre⟩ := hrel
          have RE : Hid _ := hre
          clear hre
          by_cases hlt : i < es.length
          · have hii : (i : Int) < (es.length : Int) := by omega
            obtain ⟨b, off, cap, hveq, hc⟩ := (HV.out.below RE.out.st.below).some' (by omega)
            simp only [Value.slice.injEq] at hveq
            obtain ⟨rfl, -, rfl⟩ := hveq
            obtain ⟨e0, e1, e2⟩ := hc i hlt
            clear hc
            have hok := HP.out.ok _ (mem_at hlt)
            obtain ⟨p, hpe⟩ : ∃ p, at3 es i = p := ⟨_, rfl⟩
            rw [hpe] at e0 e1 e2 hok
            have HPE : Hid _ := hpe
            clear hpe
            obtain ⟨x, z, c⟩ := p
            simp only at e0 e1 e2 hok
            obtain ⟨ok1, ok2, ok3, ok4, ok5, ok6⟩ := hok
            obtain ⟨y, rfl⟩ := Int.eq_ofNat_of_zero_le ok3
            have hyN : y < N := by omega
            have R9 : Hid _ := RE.out.kept (balloc (Below.refl _ _) (.cells #[.int .i64 x, .int .i64 y, .int .i64 c] 66))
            have Y9 : Hid _ := box3_new wr x y (.int .i64 c) 66
            have YL : Hid (X < wr.heap.size) := RE.out.xbox.lt
            have YG : Hid (w.heap.size + 2 < wr.heap.size) := RE.out.st.dist.lt
            have VY : Hid (v.ownBlock ≠ some wr.heap.size) := fun e => by have := (ownBlock_lt RE.out.st.own _ e).2; omega
            have VG : Hid (v.ownBlock ≠ some (w.heap.size + 2)) := fun e => by have := (ownBlock_lt RE.out.st.own _ e).1; have := RE.out.st.o3; omega
            have HX1 : Hid (H < X) := RE.out.x1
            have HGH : Hid (w.heap.size + 2 < H) := RE.out.st.o3
            go_wp2_with fail
            clear e0 e1 e2
            generalize hW9 : wr.alloc (.cells #[.int .i64 x, .int .i64 y, .int .i64 c] 66) = W9 at *
            have HZ9 : Hid (wr.heap.size < W9.heap.size) := by rw [← hW9]; unfold Hid; simp
            obtain ⟨Y, hY⟩ : ∃ Y, wr.heap.size = Y := ⟨_, rfl⟩
            rw [hY] at Y9 YL YG HZ9 VY ⊢
            clear hY hW9
            obtain ⟨y0, y1, y2⟩ := Y9.out
            obtain ⟨x0, x1, _, _⟩ := R9.out.xbox.cell
            simp only at x0 x1
            obtain ⟨c9, f9⟩ := R9.out.st.dist.cell y hyN
            by_cases hxj : x = (j : Int)
            · have hxb : (x == (j : Int)) = true := by simp [hxj]
              by_cases hm : kk + c < d y
              · have hmd : decide (kk + c < d y) = true := decide_eq_true hm
                have HXJ : Hid _ := hxj
                have HM : Hid _ := hm
                clear hxj hm
                go_quiet (fail)
                go_wp2_with fail
                have R10 : Hid _ := R9.out.kept (bdrewN (Below.refl _ _) nq)
                have t1 : ((W9.drewN nq).setCell ⟨w.heap.size + 2, y, none⟩ (.int .i64 (kk + c))).cell? ⟨Y, 1, none⟩ = some (.int .i64 (y : Int)) := cell_put (by have := YG.out; omega) y1
                have t2 : ((W9.drewN nq).setCell ⟨w.heap.size + 2, y, none⟩ (.int .i64 (kk + c))).cell? ⟨w.heap.size + 2, y, none⟩ = some (.int .i64 (kk + c)) := by
                  have := (R10.out.st.dist.put y (kk + c)).cell y hyN
                  rw [upd_same] at this
                  exact this.1
                have HZ10 : Hid (((W9.drewN nq).setCell ⟨w.heap.size + 2, y, none⟩ (.int .i64 (kk + c))).heap.size = W9.heap.size) := by
                  have h9 : ((W9.drewN nq).setCell ⟨w.heap.size + 2, y, none⟩ (.int .i64 (kk + c))).heap.size = (W9.drewN nq).heap.size := by simp [World.setCell]
                  exact h9
                generalize hW10 : W9.drewN nq = W10 at *
                generalize hEQ : W10.setCell ⟨w.heap.size + 2, y, none⟩ (.int .i64 (kk + c)) = W11 at *
                have EQ : Hid _ := hEQ
                clear hEQ hW10 y0 y1 y2 x0 x1 c9 f9
                go_region_held3 (fun w' => w'.cell? ⟨Y, 1, none⟩ = some (.int .i64 (y : Int)) ∧ w'.cell? ⟨w.heap.size + 2, y, none⟩ = some (.int .i64 (kk + c))) (first | go_keep | exact S12.out)
                  (first
                   | (go_at_call 74; refine (Re.push HP.out k2 R10.out hlt HPE.out (by rw [HXJ.out]; simp) rfl HM.out (wr' := W11.drew) (by rw [EQ.out]; exact Below.drew (Below.refl _ _))).mono ?_; rintro e w12 ⟨rfl, ⟨d12, q12, v12, r12⟩, fr12⟩; have S12 : Hid (w12.cell? ⟨Y, 1, none⟩ = some (.int .i64 (y : Int)) ∧ w12.cell? ⟨w.heap.size + 2, y, none⟩ = some (.int .i64 (kk + c))) := (by have q1 := HZ9.out; have q2 := HZ10.out; have q3 := YG.out; have q4 := HX1.out; have q5 := YL.out; have q6 := HGH.out; exact ⟨cell_block (fr12 Y (by show Y < W11.heap.size; omega) (by omega) VY.out) t1, cell_block (fr12 (w.heap.size + 2) (by show w.heap.size + 2 < W11.heap.size; omega) (by omega) VG.out) t2⟩); have R12 : Hid _ := r12; clear r12 fr12)
                   | fail)
                go_wp2_with fail
                go_roundw
                case rel => exact ⟨i + 1, d12, q12, v12, by go_num, by omega, R12.out⟩
                case measure => simp [intOf]; omega
              · have hmd : decide (kk + c < d y) = false := decide_eq_false hm
                have HF : Hid (Re w w.heap.size (w.heap.size + 2) H N s (.slice (some ⟨b, off, none⟩) es.length _) es gk X j kk (i + 1) d qs v W9) := R9.out.same (fun _ => by rw [HPE.out]; simp only [Int.toNat_natCast]; omega)
                clear hxj hm
                go_quiet (fail)
                have F9 : Hid _ := HF.out.kept (bdrewN (Below.refl _ _) nq)
                go_wp2_with fail
                go_roundw
                case rel => exact ⟨i + 1, d, qs, v, by go_num, by omega, F9.out⟩
                case measure => simp [intOf]; omega
            · have hxb : (x == (j : Int)) = false := by simp [hxj]
              have HF : Hid (Re w w.heap.size (w.heap.size + 2) H N s (.slice (some ⟨b, off, none⟩) es.length _) es gk X j kk (i + 1) d qs v W9) := R9.out.same (fun h => absurd (show x = (j : Int) by rw [HPE.out] at h; simp only at h; omega) hxj)
              go_quiet (fail)
              have F9 : Hid _ := HF.out.kept (bdrewN (Below.refl _ _) nq)
              go_wp2_with fail
              go_roundw
              case rel => exact ⟨i + 1, d, qs, v, by go_num, by omega, F9.out⟩
              case measure => simp [intOf]; omega
          · have hie : i = es.length := by omega
            subst hie
            have HI : Hid _ := inv_done RE.out.inv RE.out.rels
            have hme := RE.out.mea
            go_wp2_with fail
            go_roundg (2 * phi N d + qs.length)
            case measure => omega
            case rel => exact ⟨d, qs, v, kk, RE.out.st, HI.out, Nat.le_refl _, RE.out.size⟩
end Go.Proofs.Ytefikbjjdldomaa
