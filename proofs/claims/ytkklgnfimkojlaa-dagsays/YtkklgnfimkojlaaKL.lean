/-
  Contracts: the document's Lift and Long.
-/
import Derived.Test.YtkklgnfimkojlaaMA
import Derived.Test.YtkklgnfimkojlaaER
import Derived.Test.YtkklgnfimkojlaaDN
import Derived.Test.YtkklgnfimkojlaaKr
import Derived.Test.YtkklgnfimkojlaaQL
import Derived.Deep.DeepCutAuto
namespace Go.Proofs.Ytkklgnfimkojlaa
open Go.RowKit
open Nm Wm Dm Bm Fm Km
attribute [local go_sem ↓] Go.wp_at_zero Go.wp_at_succ

theorem es_er {w : World} {base : Nat} {v : Value} {es : List E} (h : Es w base v es) (h0 : 0 < es.length) : ∃ g cap, v = .slice (some ⟨g, 0, none⟩) es.length cap ∧ base ≤ g ∧ Er w g es.length (at3 es) := by
  rcases h.own.2 with ⟨rfl, h1⟩ | ⟨g, cap, cur, rfl, hb, h1, h2, h3, h4, h5⟩
  · omega
  · refine ⟨g, cap, rfl, hb, cur, h1, by omega, fun i hi => ?_⟩
    obtain ⟨f0, f1, f2⟩ := flat3_get es i hi
    refine ⟨?_, ?_, ?_⟩
    · rw [← f0, ← h5, List.getElem?_take_of_lt (by omega), Array.getElem?_toList]
    · rw [← f1, ← h5, List.getElem?_take_of_lt (by omega), Array.getElem?_toList]
    · rw [← f2, ← h5, List.getElem?_take_of_lt (by omega), Array.getElem?_toList]
theorem neg_at {es : List E} {i : Nat} (h : i < es.length) : at3 (neg es) i = ((at3 es i).1, (at3 es i).2.1, -(at3 es i).2.2) := by
  unfold neg at3; simp [List.getD_eq_getElem?_getD, h]
theorem Er.put2 {w : World} {g m : Nat} {f f' : Nat → E} (h : Er w g m f) (k : Nat) (z : Int) (hf : ∀ i, i < m → f' i = if i = k then ((f i).1, (f i).2.1, z) else f i) : Er (w.setCell ⟨g, k * 3 + 2, none⟩ (.int .i64 z)) g m f' := by
  obtain ⟨cur, h1, h2, h3⟩ := h.at_
  refine ⟨_, heap_setCell_same _ _ _ _ _ _ _ h1, by simpa using h2, fun i hi => ?_⟩
  obtain ⟨k0, k1, k2⟩ := h3 i hi
  rw [hf i hi]
  by_cases e : i = k
  · subst e
    rw [if_pos rfl]
    refine ⟨?_, ?_, ?_⟩
    · rw [Array.getElem?_setIfInBounds_ne (by omega)]; exact k0
    · rw [Array.getElem?_setIfInBounds_ne (by omega)]; exact k1
    · rw [Array.getElem?_setIfInBounds_self_of_lt (by omega)]
  · rw [if_neg e]
    refine ⟨?_, ?_, ?_⟩
    all_goals rw [Array.getElem?_setIfInBounds_ne (by omega)]
    · exact k0
    · exact k1
    · exact k2
theorem heap_two (w : World) (H : Nat) (a b u v : Value) (h : w.heap[H]? = some (.cells #[a, b] 24 (0, 0))) : ((w.setCell ⟨H, 0, none⟩ u).setCell ⟨H, 1, none⟩ v).heap[H]? = some (.cells #[u, v] 24 (0, 0)) := by
  rw [heap_setCell_same _ _ _ _ _ _ _ (heap_setCell_same _ _ _ _ _ _ _ h)]; rfl
/-- The net that is turned, behind its making. -/
structure Nw (W0 w3 : World) (Hb N : Nat) (au : Option Addr) (cu : Nat) (es : List E) : Prop where
  box : w3.heap[Hb]? = some (.cells #[.int .i64 (N : Int), .slice au es.length cu] 24 (0, 0))
  ed : Es w3 W0.heap.size (.slice au es.length cu) es
  ne : ∀ k, (Value.slice au es.length cu).ownBlock = some k → k ≠ Hb
  lo : W0.heap.size ≤ Hb
  below : Below W0.heap.size W0 w3
theorem owns_val3 {w : World} {base n t sz : Nat} {v : Value} {xs : List Value} (h : w.ownsRow base t sz v n xs) : ∃ ao co, v = .slice ao n co := by
  rcases h.2 with ⟨rfl, h0⟩ | ⟨g, cap, cur, rfl, _⟩
  · subst h0; exact ⟨none, 0, rfl⟩
  · exact ⟨_, _, rfl⟩
theorem heap_below2 {w : World} {k : Nat} {o : Obj} (h : w.heap[k]? = some o) : k < w.heap.size := by
  rcases Nat.lt_or_ge k w.heap.size with hlt | hge
  · exact hlt
  · rw [Array.getElem?_eq_none hge] at h; cases h
/-- The first k turned round. -/
def ngf (es : List E) (k i : Nat) : E := if i < k then ((at3 es i).1, (at3 es i).2.1, -(at3 es i).2.2) else at3 es i
set_option maxRecDepth 100000 in
set_option maxHeartbeats 8000000 in
theorem rlift (N : Nat) (v : Value) (es : List E) (w : World) (hv : SlE w v es) (hb : Rnt N es) :
    Calls Try.prog 48 #[.agg #[.int .i64 N, v]] w fun e w' => ∃ b cap, e = .returned (.slice (some ⟨b, 0, none⟩) N cap) ∧ Rw w' b cap (lst N (spr es (fun _ => 0) (N - 1))) ∧ Below w.heap.size w w' ∧ w.heap.size ≤ b := by
  obtain ⟨a0, c0, rfl⟩ := hv.val
  have HV : Hid _ := hv
  have HB : Hid _ := hb
  have hn64 := hb.n64
  have hn1 := hb.n1
  clear hv hb
  have hmk := made_ur N hn64
  obtain ⟨m, hm⟩ : ∃ m : Nat, m = N - 1 := ⟨_, rfl⟩
  have hmi : (N : Int) - 1 = (m : Int) := by omega
  have hmw : IntKind.i64.wrap (m : Int) = (m : Int) := by rw [IntKind.wrap_i64]; omega
  have hm64 : m ≤ 64 := by omega
  have HM : Hid _ := hm
  clear hm
  rw [← HM.out]
  go_enter Try.func48, Try.ntmps48
  go_wp2_with fail
  have P0 : Hid _ := box2_new w (N : Int) (.slice a0 es.length c0) 24
  have B0 : Hid (Below w.heap.size w (w.alloc (.cells #[.int .i64 N, .slice a0 es.length c0] 24))) := balloc (Below.refl _ _) _
  generalize w.alloc (.cells #[.int .i64 N, .slice a0 es.length c0] 24) = W0 at *
  obtain ⟨p0, p1⟩ := P0.out
  have U1 : Hid (Ur (W0.alloc (.cells (Array.ofFn (n := N) fun _ => .int .i64 0) 3)).drew W0.heap.size N (fun _ => 0)) := ⟨heap_alloc_new _ _⟩
  have B1 : Hid (Below W0.heap.size W0 (W0.alloc (.cells (Array.ofFn (n := N) fun _ => .int .i64 0) 3)).drew) := Below.drew (balloc (Below.refl _ _) _)
  have k0 := kept_alloc (x := .cells (Array.ofFn (n := N) fun _ => .int .i64 0) 3) p0
  have k1 := kept_alloc (x := .cells (Array.ofFn (n := N) fun _ => .int .i64 0) 3) p1
  go_region_law (first
    | (go_simp; go_at_call 63; refine (spread_own N m _ N _ es (fun _ => 0) _ ((HV.out.below B0.out).below B1.out) HB.out hm64 (U1.out.rw hn64) (fun _ _ => by decide)).mono ?_; rintro e w2 ⟨g2, cp2, rfl, r2, b2, l2⟩; have L2 : Hid (W0.heap.size ≤ g2) := (by unfold Hid; exact l2.elim (fun h => by omega) (fun h => Nat.le_trans B1.out.size h)); have R2 : Hid _ := r2; have B2 : Hid (Below W0.heap.size W0 w2) := (by exact bthen B1.out b2); clear r2 b2; (try dsimp only))
    | fail)
  all_goals
    go_wp2_with fail
    go_ret
    exact ⟨g2, cp2, rfl, R2.out, bthen B0.out B2.out, Nat.le_trans B0.out.size L2.out⟩
set_option maxRecDepth 100000 in
set_option maxHeartbeats 8000000 in
theorem rlong (N : Nat) (v : Value) (es : List E) (w : World) (hv : SlE w v es) (hb : Rnt N es) :
    Calls Try.prog 20 #[.agg #[.int .i64 N, v]] w fun e w' => ∃ b cap, e = .returned (.slice (some ⟨b, 0, none⟩) N cap) ∧ Rw w' b cap (lst N (fun x => -(spr (neg es) (fun _ => 0) (N - 1) x))) ∧ Below w.heap.size w w' := by
  obtain ⟨a0, c0, rfl⟩ := hv.val
  have HV : Hid _ := hv
  have HB : Hid _ := hb
  have hn64 := hb.n64
  have hlen := hb.len
  clear hv hb
  obtain ⟨D, hD⟩ : ∃ D, spr (neg es) (fun _ => 0) (N - 1) = D := ⟨_, rfl⟩
  have HD : Hid _ := hD
  have HBD : Hid (∀ x, x < N → -1000000 ≤ D x ∧ D x ≤ far) := fun x hx => by
    have h1 := spr_low (neg_rnt HB.out) (d := fun _ => 0) (B := 0) (fun v hv => by decide) (N - 1) x hx
    rw [hD] at h1
    refine ⟨by omega, h1.2⟩
  rw [hD]
  clear hD
  go_enter Try.func20, Try.ntmps20
  go_wp2_with fail
  have P0 : Hid _ := box2_new w (N : Int) (.slice a0 es.length c0) 24
  have B0 : Hid (Below w.heap.size w (w.alloc (.cells #[.int .i64 N, .slice a0 es.length c0] 24))) := balloc (Below.refl _ _) _
  have Z0 : Hid ((w.alloc (.cells #[.int .i64 N, .slice a0 es.length c0] 24)).heap.size = w.heap.size + 1) := by unfold Hid; simp
  generalize w.alloc (.cells #[.int .i64 N, .slice a0 es.length c0] 24) = W0 at *
  obtain ⟨p0, p1⟩ := P0.out
  have k0 := kept_alloc (x := (.cells #[.int .i64 0, .slice none 0 0] 24)) p0
  have k1 := kept_alloc (x := (.cells #[.int .i64 0, .slice none 0 0] 24)) p1
  have FH : Hid ((W0.alloc (.cells #[.int .i64 0, .slice none 0 0] 24)).drew.heap[W0.heap.size]? = some (.cells #[.int .i64 0, .slice none 0 0] 24 (0, 0))) := heap_alloc_new W0 _
  have BH : Hid (Below W0.heap.size W0 (W0.alloc (.cells #[.int .i64 0, .slice none 0 0] 24)).drew) := Below.drew (balloc (Below.refl _ _) _)
  have BD : Hid (Below W0.heap.size W0 W0.drew) := Below.drew (Below.refl _ _)
  have V0 : Hid _ := HV.out.below B0.out
  go_cut [3] (fun z wc => ∃ Hb au cu, z = .pointer (some ⟨Hb, 0, none⟩) ∧ Nw W0 wc Hb N au cu es)
  case first =>
    go_region_law (first
      | (go_simp; go_at_call 47; refine (eclone_any _ es _ (V0.out.below BD.out) (by omega)).mono ?_; rintro e w2 ⟨u, rfl, i2, b2⟩; obtain ⟨au, cu, rfl⟩ := owns_val3 i2.own; have I2 : Hid _ := i2; have B2 : Hid (Below W0.heap.size W0 w2) := (by exact bthen BD.out b2); have q0 := kept B2.out p0; have q1 := kept_alloc (x := (.cells #[.int .i64 0, .slice none 0 0] 24)) q0; clear i2 b2; (try dsimp only))
      | (go_simp; go_at_call 47; refine (eclone_any _ es _ (V0.out.below BH.out) (by omega)).mono ?_; rintro e w2 ⟨u, rfl, i2, b2⟩; obtain ⟨au, cu, rfl⟩ := owns_val3 i2.own; have I2 : Hid _ := i2; have B2 : Hid (Below W0.heap.size W0 w2) := (by exact bthen BH.out b2); have q0 := kept B2.out p0; have H2 : Hid (w2.heap[W0.heap.size]? = some (.cells #[.int .i64 0, .slice none 0 0] 24 (0, 0))) := (by exact (b2.block _ (heap_below2 FH.out)).trans FH.out); have f0 : w2.frozen? ⟨W0.heap.size, 0, none⟩ = false := (by have := H2.out; simp [World.frozen?, this]); have f1 : w2.frozen? ⟨W0.heap.size, 1, none⟩ = false := (by have := H2.out; simp [World.frozen?, this]); have y0 : w2.cell? ⟨W0.heap.size, 0, none⟩ = some (.int .i64 0) := (by have := H2.out; simp [World.cell?, this]); have y1 : w2.cell? ⟨W0.heap.size, 1, none⟩ = some (.slice none 0 0) := (by have := H2.out; simp [World.cell?, this]); clear i2 b2; (try dsimp only))
      | fail)
    all_goals
      go_wp2_with fail
      go_meet
      first
        | exact ⟨_, _, _, rfl, heap_two _ _ _ _ _ _ H2.out, ((I2.out.other (by simp)).other (by simp)).mono (by simp), fun k hk e => by have := (ownBlock_lt I2.out.own k hk).1; simp at this; omega, Nat.le_refl _, Below.setCell (Below.setCell B2.out (Nat.le_refl _) _) (Nat.le_refl _) _⟩
        | exact ⟨_, _, _, rfl, heap_alloc_new _ _, (I2.out.below (balloc (Below.refl _ _) _)).mono (Nat.le_of_eq rfl), fun k hk e => by have := (ownBlock_lt I2.out.own k hk).2; omega, B2.out.size, balloc B2.out _⟩
  case rest =>
    obtain ⟨Hb, au, cu, rfl, hnw⟩ := hcut
    have NW : Hid _ := hnw
    clear hnw p0 p1 k0 k1 FH BH BD V0 Z0
    have ER : Hid ((∃ g, au = some ⟨g, 0, none⟩ ∧ g ≠ Hb ∧ W0.heap.size ≤ g ∧ Er wc g es.length (ngf es 0)) ∨ es.length = 0) := by
      by_cases h0 : 0 < es.length
      · obtain ⟨g, cap, h1, h2, h3⟩ := es_er NW.out.ed h0
        simp only [Value.slice.injEq] at h1
        exact .inl ⟨g, h1.1, NW.out.ne g (by rw [h1.1]; rfl), h2, h3.congr (fun i hi => by unfold ngf; rw [if_neg (by omega)])⟩
      · exact .inr (by omega)
    have h1 : wc.cell? ⟨Hb, 1, none⟩ = some (.slice au es.length cu) := by have := NW.out.box; simp [World.cell?, this]
    go_wp2_with fail
    clear h1
    have BX : Hid _ := NW.out.box
    have LO : Hid _ := NW.out.lo
    have BB : Hid _ := NW.out.below
    clear NW
    go_loopw [16] (fun z wr => ∃ k : Nat, z = .int .i64 k ∧ k ≤ es.length ∧ wr.heap[Hb]? = some (.cells #[.int .i64 (N : Int), .slice au es.length cu] 24 (0, 0)) ∧ ((∃ g, au = some ⟨g, 0, none⟩ ∧ g ≠ Hb ∧ W0.heap.size ≤ g ∧ Er wr g es.length (ngf es k)) ∨ es.length = 0) ∧ Below W0.heap.size W0 wr) (fun z _ => es.length - (intOf z).toNat)
    case atStart => exact ⟨0, rfl, Nat.zero_le _, BX.out, ER.out, BB.out⟩
    case round =>
      obtain ⟨k, rfl, hk, hbx, her, hbr⟩ := hrel
      clear ER BX BB
      have XR : Hid _ := hbx
      have BR : Hid (Below W0.heap.size W0 wr) := hbr
      clear hbx hbr
      have h1 : wr.cell? ⟨Hb, 1, none⟩ = some (.slice au es.length cu) := by have := XR.out; simp [World.cell?, this]
      by_cases hlt : k < es.length
      · have hki : (k : Int) < (es.length : Int) := by omega
        rcases her with ⟨g, rfl, hne, hgl, he⟩ | h0
        · have ER : Hid _ := he
          have NE : Hid _ := hne
          have GL : Hid _ := hgl
          obtain ⟨e0, e1, e2⟩ := he.cell k hlt
          have e3 := he.frozen (k * 3 + 2)
          have hok := HB.out.ok _ (mem_at hlt)
          have hng : ngf es k k = at3 es k := by unfold ngf; rw [if_neg (by omega)]
          rw [hng] at e0 e1 e2
          obtain ⟨p, hpe⟩ : ∃ p, at3 es k = p := ⟨_, rfl⟩
          rw [hpe] at e0 e1 e2 hok
          have HPE : Hid _ := hpe
          clear hpe hng he hne hgl
          obtain ⟨x, y, c⟩ := p
          simp only at e0 e1 e2 hok
          obtain ⟨ok1, ok2, ok3, ok4, ok5, ok6⟩ := hok
          have hw : IntKind.i64.wrap (-c) = -c := by rw [IntKind.wrap_i64]; omega
          have HF : Hid (∀ i, i < es.length → ngf es (k + 1) i = if i = k then ((ngf es k i).1, (ngf es k i).2.1, -c) else ngf es k i) := fun i hi => by
            unfold ngf
            by_cases h : i = k
            · subst h; rw [if_pos (by omega), if_pos rfl, if_neg (by omega), HPE.out]
            · rw [if_neg h]
              by_cases h2 : i < k
              · rw [if_pos (by omega), if_pos h2]
              · rw [if_neg (by omega), if_neg h2]
          go_upto_region 5 with fail
          go_region
          have NE' : Hid (Hb ≠ g) := fun e => NE.out e.symm
          have E10 : Hid (Er (wr.setCell ⟨g, k * 3 + 2, none⟩ (.int .i64 (-c))).drew g es.length (ngf es (k + 1))) := (ER.out.put2 k (-c) HF.out).below (Below.drew (Below.refl _ _))
          have B10 : Hid (Below W0.heap.size W0 (wr.setCell ⟨g, k * 3 + 2, none⟩ (.int .i64 (-c))).drew) := Below.drew (Below.setCell BR.out GL.out _)
          have X10 : Hid ((wr.setCell ⟨g, k * 3 + 2, none⟩ (.int .i64 (-c))).drew.heap[Hb]? = some (.cells #[.int .i64 (N : Int), .slice (some ⟨g, 0, none⟩) es.length cu] 24 (0, 0))) := (Below.heap_setCell _ _ _ _ NE'.out).trans XR.out
          go_wp2_with fail
          go_roundw
          case rel =>
            exact ⟨k + 1, by go_num, by omega, X10.out, .inl ⟨g, rfl, NE.out, GL.out, E10.out⟩, B10.out⟩
          case measure => simp [intOf]; omega
        · omega
      · obtain rfl : k = es.length := by omega
        have h0 : wr.cell? ⟨Hb, 0, none⟩ = some (.int .i64 (N : Int)) := by have := XR.out; simp [World.cell?, this]
        have SL : Hid (SlE wr (.slice au (neg es).length cu) (neg es)) := by
          rw [neg_length]
          rcases her with ⟨g, rfl, hne, hgl, he⟩ | h0
          · exact he.sl (neg_length es) (fun i hi => by rw [neg_at hi]; unfold ngf; rw [if_pos hi])
          · have : es = [] := List.length_eq_zero_iff.1 h0
            subst this
            exact .no au cu rfl rfl
        clear her
        rw [← neg_length es] at h1
        go_wp2_with fail
        refine (rlift N _ (neg es) wr SL.out (neg_rnt HB.out)).mono ?_
        rintro e w5 ⟨b5, cp5, rfl, r5, bb5, l5⟩
        rw [HD.out] at r5
        have R5 : Hid (Rw w5 b5 cp5 (lst N (fun x => if x < 0 then -(D x) else D x))) := by
          have e : lst N (fun x => if x < 0 then -(D x) else D x) = lst N D := lst_congr (fun v _ => by simp)
          rw [e]; exact r5
        have B5 : Hid (Below w.heap.size w w5) := bthen (bthen B0.out BR.out) bb5
        have LB : Hid (w.heap.size ≤ b5) := Nat.le_trans (bthen B0.out BR.out).size l5
        clear r5 bb5 l5 h0 h1
        go_wp2_with fail
        clear XR BR LO SL
        go_loopw [36] (fun z wr => ∃ k : Nat, z = .int .i64 k ∧ k ≤ N ∧ Rw wr b5 cp5 (lst N (fun x => if x < k then -(D x) else D x)) ∧ Below w.heap.size w wr) (fun z _ => N - (intOf z).toNat)
        case atStart => exact ⟨0, rfl, Nat.zero_le _, R5.out, B5.out⟩
        case round =>
          obtain ⟨k, rfl, hk, hrw, hbr⟩ := hrel
          clear R5 B5
          have RR : Hid _ := hrw
          have BR : Hid (Below w.heap.size w wr) := hbr
          clear hrw hbr
          by_cases hlt : k < N
          · have hki : (k : Int) < (N : Int) := by omega
            obtain ⟨c1, f1⟩ := RR.out.cell k (by rw [lst_length]; exact hlt)
            rw [lst_at hlt] at c1
            obtain ⟨d1, d2⟩ := HBD.out k hlt
            have HX : Hid (D k = D k) := rfl
            rw [if_neg (Nat.lt_irrefl k)] at c1
            have hfar : far = 1099511627776 := rfl
            rw [hfar] at d2
            clear hfar
            have HP : Hid _ := RR.out.put k (-(D k))
            have HN : Hid ((lst N (fun x => if x < k then -(D x) else D x)).set k (-(D k)) = lst N (fun x => if x < k + 1 then -(D x) else D x)) := by
              unfold Hid
              rw [lst_set]
              refine lst_congr (fun x _ => ?_)
              unfold upd; dsimp only
              by_cases e : x = k
              · subst e; rw [if_pos rfl, if_pos (by omega)]
              · rw [if_neg e]
                by_cases h : x < k
                · rw [if_pos h, if_pos (by omega)]
                · rw [if_neg h, if_neg (by omega)]
            rw [HN.out] at HP
            generalize D k = dk at *
            go_wp2_with fail
            go_roundw
            case rel => exact ⟨k + 1, by go_num, by omega, HP.out, Below.setCell BR.out LB.out _⟩
            case measure => simp [intOf]; omega
          · have hkN : k = N := by omega
            have HE : Hid (lst N (fun x => if x < k then -(D x) else D x) = lst N (fun x => -(D x))) := lst_congr (fun x hx => by rw [if_pos (by omega)])
            rw [HE.out] at RR
            subst hkN
            go_wp2_with fail
            go_ret
            exact ⟨b5, cp5, rfl, RR.out, BR.out⟩
end Go.Proofs.Ytkklgnfimkojlaa
