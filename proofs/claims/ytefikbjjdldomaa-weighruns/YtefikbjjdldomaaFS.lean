/-
  Contract: the document's Search.
-/
import Derived.Test.YtefikbjjdldomaaQA
namespace Go.Proofs.Ytefikbjjdldomaa
open Go.RowKit Go.Maps
open _root_.Go.Proofs.Ytefikbjjdldomaa.Nm Wm Dm Cm Sk

def lenOf : Value → Nat
  | .slice _ n _ => n
  | _ => 0
theorem mp_first {w : World} {B s : Nat} (h : w.ownsMap Try.prog 3 (plainElem (H := Unit) Try.prog 3) B (0 + 1) ((DataW.map []).put (.int .i64 (s : Int)) (.lit (.int .i64 0)))) : Mp w B 1 (fun x => if x = s then some 0 else none) := by
  refine ⟨_, h, fun x => ?_⟩
  by_cases e : x = s
  · subst e
    rw [if_pos rfl]
    refine ⟨has_put_same (k := .int .i64 x) ⟨[], rfl⟩ trivial _, fun y hy z => ?_⟩
    rw [← Option.some.inj hy]
    exact atKey_put_same (k := .int .i64 x) ⟨[], rfl⟩ trivial _ _
  · rw [if_neg e]
    have hne : Lit.int .i64 (x : Int) ≠ .int .i64 (s : Int) := by intro e'; simp at e'; omega
    refine ⟨by rw [has_put_other hne]; rfl, fun y hy => by cases hy⟩
theorem mp_none (w : World) : Mp (w.alloc (.map #[] 0)) w.heap.size 0 (fun _ => none) :=
  ⟨_, World.ownsMap_made w Try.prog 3 (plainElem (H := Unit) Try.prog 3), fun _ => ⟨rfl, fun c hc => by cases hc⟩⟩
theorem Sq.wgrow {w0 w w' : World} {T : Nat} {n : Int} {v hv kv : Value} {G H K R C MB PB nc np gw cap : Nat} {l ord : List Nat} {vo : Value} {mc mp : Nat → Option Int} {g2 cap2 m : Nat} {l2 : List Nat} (h : Sq w0 w T n v hv kv G H K R C MB PB nc np gw cap l ord vo mc mp) (hg : w.grownBy w' (some gw)) (hr : Is w' T (.slice (some ⟨g2, 0, none⟩) m cap2) (ints l2)) (hat : g2 = gw ∨ w.heap.size ≤ g2) : Sq w0 w' T n v hv kv G H K R C MB PB nc np g2 cap2 l2 ord vo mc mp := by
  rcases hr.rw with ⟨e, _⟩ | ⟨g5, cap5, e, _, e2⟩
  · cases e
  · simp only [Value.slice.injEq, Option.some.injEq, Addr.mk.injEq] at e
    obtain ⟨⟨rfl, -⟩, -, rfl⟩ := e
    exact h.wadd hg e2 hat
theorem mcf_st0 {h : Nat → Int} {a : Nat} (hh : h a ≠ far) : mcf (st0 h a) = fun x => if x = a then some 0 else none := by
  funext x
  unfold mcf
  by_cases e : x = a
  · have h1 : (st0 h a).c x = 0 := if_pos ⟨e, hh⟩
    rw [h1, if_pos (by decide), if_pos e]
  · have h1 : (st0 h a).c x = far := if_neg (fun hq => e hq.1)
    rw [h1, if_neg (by decide), if_neg e]
theorem mpf_st0 {h : Nat → Int} {a : Nat} : mpf (st0 h a) a = fun _ => none := by
  funext x
  unfold mpf
  refine if_neg (fun hq => ?_)
  have h1 : (st0 h a).c x = far := if_neg (fun hp => hq.2 hp.1)
  rw [h1] at hq
  exact absurd hq.1 (by decide)
theorem wts_st0 {h : Nat → Int} {a : Nat} (hh : h a ≠ far) (x : Nat) : x ∈ [a] ↔ wts (st0 h a) [] x = true := by
  unfold wts
  by_cases e : x = a
  · have h1 : (st0 h a).c x = 0 := if_pos ⟨e, hh⟩
    rw [h1]; simp [e]; decide
  · have h1 : (st0 h a).c x = far := if_neg (fun hq => e hq.1)
    rw [h1]; simp [e]
set_option maxRecDepth 100000 in
set_option maxHeartbeats 32000000 in
theorem search_yes (n s t : Nat) (es : List E) (h : List Int) (v u : Value) (kn : Nat) (lb : Array Value) (f : Int → Int → Int) (w : World) (hv : SlE w v es) (hu : SlI w u h) (hp : Pn n es) (hs : s < n) (ht : t < n) (hh : h.length = n) (hk : Ky w kn lb f) (hf : h.getD s 0 ≠ 1099511627776)
    (hrg : ∀ v, v < n → 0 ≤ h.getD v 0 ∧ h.getD v 0 ≤ 1099511627776) (hdn : ∀ s' o, sea n es (gf h) f t (n + 1) (st0 (gf h) s) [] = some (s', o) → ∃ q, o = q ++ [t] ∧ Dn n es s s' q) :
    Calls Try.prog 15 #[.agg #[.int .i64 n, v], .int .i64 s, .int .i64 t, u, .func (.func kn) #[] lb] w fun e w' => Bk9 w n es h s t f e w' := by
  obtain ⟨a0, c0, rfl⟩ := hv.val
  have hn64 := hp.n64
  obtain ⟨b1, off1, c1, rfl, hcl⟩ := hu.some' (by omega)
  have d0 := hcl s (by omega)
  have hsi : (s : Int) < (h.length : Int) := by omega
  obtain ⟨x, hx⟩ : ∃ x, h.getD s 0 = x := ⟨_, rfl⟩
  have HF : Hid (gf h s ≠ far) := hf
  rw [hx] at d0 hf
  have hxf : (x == 1099511627776) = false := by simp; exact hf
  have hkey : keyOf Try.prog 3 (.int .i64 (s : Int)) = some (.int .i64 (s : Int)) := keyOf_int_mk Try.underlying3 (WalkArith.wf_i64 (by omega))
  have HV : Hid _ := hv
  have HU : Hid _ := hu
  have HP : Hid _ := hp
  have HKY : Hid _ := hk
  have HRG : Hid _ := hrg
  have HDN : Hid _ := hdn
  have HH : Hid (h.length = n) := hh
  have HCL : Hid (∀ i, i < n → w.cell? ⟨b1, off1 + i, none⟩ = some (.int .i64 (h.getD i 0))) := fun i hi => hcl i (by omega)
  rw [hh] at HU hsi ⊢
  obtain ⟨RES, hRES⟩ : ∃ RES, sea n es (gf h) f t (n + 1) (st0 (gf h) s) [] = RES := ⟨_, rfl⟩
  have HRES : Hid _ := hRES
  clear hv hu hp hk hcl hx hf hrg hdn hh hRES
  have hmm := @run_makeMap Try.prog
  obtain ⟨W4, HW4⟩ : ∃ W4, Hid (W4 = (((w.alloc (.cells #[.int .i64 n, .slice a0 es.length c0] 24)).alloc (.cells #[.slice (some ⟨b1, off1, none⟩) n c1] 25)).alloc (.cells #[.func (.func kn) #[] lb] 36)).alloc (.cells #[.slice none 0 0, .int .i64 0, .slice none 0 0] 29)) := ⟨_, rfl⟩
  have Z4 : Hid (W4.heap.size = w.heap.size + 1 + 1 + 1 + 1) := by rw [HW4.out]; simp [Hid]
  have B4 : Hid (Below w.heap.size w W4) := by rw [HW4.out]; exact balloc (balloc (balloc (balloc (Below.refl _ _) _) _) _) _
  have X4 : Hid (Fq (W4.alloc (.cells #[.map (some (w.heap.size + 1 + 1 + 1 + 1))] 59)) n (.slice a0 es.length c0) (.slice (some ⟨b1, off1, none⟩) n c1) (.func (.func kn) #[] lb) w.heap.size (w.heap.size + 1) (w.heap.size + 1 + 1) (w.heap.size + 1 + 1 + 1) (w.heap.size + 1 + 1 + 1 + 1) (w.heap.size + 1 + 1 + 1 + 1)) := by
    have g0 : Box2 W4 w.heap.size n (.slice a0 es.length c0) := by
      rw [HW4.out]
      refine (box2_new w n (.slice a0 es.length c0) 24).below ?_
      exact balloc (balloc (balloc (Below.refl _ _) _) _) _
    have g1 : W4.heap[w.heap.size + 1]? = some (.cells #[.slice (some ⟨b1, off1, none⟩) n c1] 25) := by
      rw [HW4.out]
      refine ((balloc (balloc (Below.refl _ _) (.cells #[.func (.func kn) #[] lb] 36)) (.cells #[.slice none 0 0, .int .i64 0, .slice none 0 0] 29)).block (w.heap.size + 1) (by simp)).trans ?_
      exact new_at _ _ (by simp)
    have g2 : W4.heap[w.heap.size + 1 + 1]? = some (.cells #[.func (.func kn) #[] lb] 36) := by
      rw [HW4.out]
      refine ((balloc (Below.refl _ _) (.cells #[.slice none 0 0, .int .i64 0, .slice none 0 0] 29)).block (w.heap.size + 1 + 1) (by simp)).trans ?_
      exact new_at _ _ (by simp)
    have g3 : Rb W4 (w.heap.size + 1 + 1 + 1) (.slice none 0 0) (.int .i64 0) (.slice none 0 0) := by
      rw [HW4.out]; exact ⟨new_at _ _ (by simp)⟩
    have hb : Below W4.heap.size W4 (W4.alloc (.cells #[.map (some (w.heap.size + 1 + 1 + 1 + 1))] 59)) := balloc (Below.refl _ _) _
    refine ⟨kept hb g0.g0, kept hb g0.g1, kept hb ?_, kept hb ?_, ?_, g3.below hb⟩
    · simp [World.cell?, g1]
    · simp [World.cell?, g2]
    · have := cell_new W4 #[.map (some (w.heap.size + 1 + 1 + 1 + 1))] 59 0 _ rfl
      rw [Z4.out] at this
      exact this
  have KEEP : Hid (∀ w1, (W4.alloc (.map #[] 0)).grownBy w1 (some (w.heap.size + 1 + 1 + 1 + 1)) → Below w.heap.size w w1 ∧ w.heap.size + 1 + 1 + 1 + 1 < w1.heap.size ∧ (∀ k, k < w.heap.size + 1 + 1 + 1 + 1 → w1.heap[k]? = W4.heap[k]?) ∧ w1.cell? ⟨w.heap.size + 1, 0, none⟩ = some (.slice (some ⟨b1, off1, none⟩) n c1) ∧ w1.cell? ⟨b1, off1 + s, none⟩ = some (.int .i64 x)) := by
    intro w1 hg
    have z := Z4.out
    have bb : Below w.heap.size w w1 := (balloc B4.out _).grown hg (by simp [z]; omega) (fun k hk => by cases hk; omega)
    have bl : ∀ k, k < w.heap.size + 1 + 1 + 1 + 1 → w1.heap[k]? = W4.heap[k]? := fun k hk => (hg.block k (by simp [z]; omega) (by simp; omega)).trans ((balloc (Below.refl W4.heap.size W4) (.map #[] 0)).block k (by omega))
    refine ⟨bb, ?_, bl, ?_, kept bb d0⟩
    · have := hg.size; simp [z] at this; omega
    · have h1 : w1.cell? ⟨w.heap.size + 1, 0, none⟩ = W4.cell? ⟨w.heap.size + 1, 0, none⟩ := by unfold World.cell?; rw [bl (w.heap.size + 1) (by omega)]
      have h2 : (W4.alloc (.cells #[.map (some (w.heap.size + 1 + 1 + 1 + 1))] 59)).cell? ⟨w.heap.size + 1, 0, none⟩ = W4.cell? ⟨w.heap.size + 1, 0, none⟩ := World.cell?_alloc_lt W4 _ _ (by rw [z]; show w.heap.size + 1 < _; omega)
      rw [h1, ← h2]
      exact X4.out.hh
  have OWN : Hid ((W4.alloc (.map #[] 0)).ownsMap Try.prog 3 (plainElem (H := Unit) Try.prog 3) (w.heap.size + 1 + 1 + 1 + 1) 0 (.map [])) := by
    have := World.ownsMap_made W4 Try.prog 3 (plainElem (H := Unit) Try.prog 3)
    rw [Z4.out] at this; exact this
  have START : Hid (∀ w1, (W4.alloc (.map #[] 0)).grownBy w1 (some (w.heap.size + 1 + 1 + 1 + 1)) → w1.ownsMap Try.prog 3 (plainElem (H := Unit) Try.prog 3) (w.heap.size + 1 + 1 + 1 + 1) (0 + 1) ((DataW.map []).put (.int .i64 (s : Int)) (.lit (.int .i64 0))) → Sq w (((w1.alloc (.map #[] 0)).alloc (.cells #[.map (some (w.heap.size + 1 + 1 + 1 + 1))] 59)).alloc (.cells #[.int .i64 (s : Int)] 3)) (w1.heap.size + 1 + 1) n (.slice a0 es.length c0) (.slice (some ⟨b1, off1, none⟩) n c1) (.func (.func kn) #[] lb) w.heap.size (w.heap.size + 1) (w.heap.size + 1 + 1) (w.heap.size + 1 + 1 + 1) (w1.heap.size + 1) (w.heap.size + 1 + 1 + 1 + 1) w1.heap.size 1 0 (w1.heap.size + 1 + 1) 1 [s] [] (.slice none 0 0) (mcf (st0 (gf h) s)) (mpf (st0 (gf h) s) s)) := by
    intro w1 hg hown
    obtain ⟨bb, hlt, bl, -, -⟩ := KEEP.out w1 hg
    have hb : Below w1.heap.size w1 (((w1.alloc (.map #[] 0)).alloc (.cells #[.map (some (w.heap.size + 1 + 1 + 1 + 1))] 59)).alloc (.cells #[.int .i64 (s : Int)] 3)) := balloc (balloc (balloc (Below.refl _ _) _) _) _
    have hb2 : Below (w1.alloc (.map #[] 0)).heap.size (w1.alloc (.map #[] 0)) (((w1.alloc (.map #[] 0)).alloc (.cells #[.map (some (w.heap.size + 1 + 1 + 1 + 1))] 59)).alloc (.cells #[.int .i64 (s : Int)] 3)) := balloc (balloc (Below.refl _ _) _) _
    have z := Z4.out
    have cl : ∀ k, k < w.heap.size + 1 + 1 + 1 + 1 → ∀ o y, (W4.alloc (.cells #[.map (some (w.heap.size + 1 + 1 + 1 + 1))] 59)).cell? ⟨k, o, none⟩ = some y → (((w1.alloc (.map #[] 0)).alloc (.cells #[.map (some (w.heap.size + 1 + 1 + 1 + 1))] 59)).alloc (.cells #[.int .i64 (s : Int)] 3)).cell? ⟨k, o, none⟩ = some y := by
      intro k hk o y hy
      refine kept hb ?_
      rw [World.cell?_alloc_lt W4 _ _ (by rw [z]; exact hk)] at hy
      have h1 : w1.cell? ⟨k, o, none⟩ = W4.cell? ⟨k, o, none⟩ := by unfold World.cell?; rw [bl k hk]
      rw [h1]; exact hy
    have hx4 := X4.out
    refine ⟨bthen bb hb, ⟨Nat.le_refl _, by omega, by omega, by omega, by omega, by omega, by omega, by omega⟩, ⟨cl _ (by omega) _ _ hx4.g0, cl _ (by omega) _ _ hx4.g1, cl _ (by omega) _ _ hx4.hh, cl _ (by omega) _ _ hx4.kk, ?_, ⟨?_⟩⟩, ?_, ?_, Nat.le_refl _, ?_, Is.nil _ _, by simp [Value.ownBlock]⟩
    · have h1 := cell_new (w1.alloc (.map #[] 0)) #[.map (some (w.heap.size + 1 + 1 + 1 + 1))] 59 0 _ rfl
      have e1 : (w1.alloc (.map #[] 0)).heap.size = w1.heap.size + 1 := by simp
      rw [e1] at h1
      exact kept (balloc (Below.refl _ _) _ : Below ((w1.alloc (.map #[] 0)).alloc (.cells #[.map (some (w.heap.size + 1 + 1 + 1 + 1))] 59)).heap.size _ _) h1
    · rw [hb.block _ (by omega), bl _ (by omega)]
      have h1 := hx4.rr.at_
      rw [(balloc (Below.refl _ _) _ : Below W4.heap.size W4 _).block _ (by rw [z]; omega)] at h1
      exact h1
    · rw [mcf_st0 HF.out]
      exact (mp_first hown).below hb
    · rw [mpf_st0]
      exact (mp_none w1).below hb2
    · exact ⟨#[.int .i64 (s : Int)], by rw [← show ((w1.alloc (.map #[] 0)).alloc (.cells #[.map (some (w.heap.size + 1 + 1 + 1 + 1))] 59)).heap.size = w1.heap.size + 1 + 1 by simp]; exact heap_alloc_new _ _, by simp [ints], by unfold maxLen; omega, rfl, rfl⟩
  rw [HW4.out] at KEEP OWN START
  clear B4 Z4 X4 HW4 W4 d0
  go_enter Try.func15, Try.ntmps15
  go_wp2_with (first
    | (refine wpList_insert_own _ rfl _ _ _ 59 rfl 3 3 law3 Try.underlying59 _ (w.heap.size + 1 + 1 + 1 + 1) 0 (.map []) rfl OWN.out (by unfold maxLen; omega) _ _ _ rfl rfl hkey _ [] (plainElem_int Try.underlying3 (WalkArith.wf_i64 (by omega))) ?_; intro w1 hown1 hgrow1; have KK : Hid _ := KEEP.out w1 hgrow1; have ST : Hid _ := START.out w1 hgrow1 hown1; have hlt1 := KK.out.2.1; have B3 : Hid _ := balloc (balloc (balloc (Below.refl w1.heap.size w1) (.map #[] 0)) (.cells #[.map (some (w.heap.size + 1 + 1 + 1 + 1))] 59)) (.cells #[.int .i64 (s : Int)] 3); have hH := kept B3.out KK.out.2.2.2.1; have d1 := kept B3.out KK.out.2.2.2.2; clear hgrow1)
    | go_in)
  clear hH d1 B3 KK hown1 KEEP START OWN hmm hkey hxf hsi
  clear hlt1
  generalize ((w1.alloc (.map #[] 0)).alloc (.cells #[.map (some (w.heap.size + 1 + 1 + 1 + 1))] 59)).alloc (.cells #[.int .i64 (s : Int)] 3) = WL at *
  generalize w1.heap.size + 1 + 1 = TT at *
  generalize w1.heap.size + 1 = CB at *
  generalize w1.heap.size = PB at *
  generalize w.heap.size + 1 + 1 + 1 + 1 = MB at *
  generalize w.heap.size + 1 + 1 + 1 = RR at *
  generalize w.heap.size + 1 + 1 = KB at *
  generalize w.heap.size + 1 = HB at *

  go_loopw [14, 15] (fun xv yv wr => ∃ (sk : Sk.S) (ord l : List Nat) (gw cap nc np f0 : Nat), xv = .slice (some ⟨gw, 0, none⟩) l.length cap ∧ (∃ ay cy, yv = .slice ay ord.length cy) ∧ Sq w wr TT n (.slice a0 es.length c0) (.slice (some ⟨b1, off1, none⟩) n c1) (.func (.func kn) #[] lb) w.heap.size HB KB RR CB MB PB nc np gw cap l ord yv (mcf sk) (mpf sk s) ∧ Ji n (gf h) s sk ord ∧ l.Nodup ∧ (∀ v, v ∈ l ↔ wts sk ord v = true) ∧ sea n es (gf h) f t f0 sk ord = RES ∧ f0 + ord.length = n + 1 ∧ nc ≤ 1 + 600 * ord.length ∧ np ≤ 600 * ord.length) (fun _ y _ => n + 1 - lenOf y)
  case atStart => exact ⟨st0 (gf h) s, [], [s], TT, 1, 1, 0, n + 1, rfl, ⟨none, 0, rfl⟩, ST.out, ji_start hs HF.out, by simp, wts_st0 HF.out, HRES.out, by simp, by simp, by simp⟩
  case round =>
    obtain ⟨sk, ord, l, gw, cap, nc, np, f0, rfl, ⟨ay, cy, rfl⟩, sq, ji, hnd, hmem, hsea, hfu, hnc, hnp⟩ := hrel
    have SQ : Hid _ := sq
    have JI : Hid _ := ji
    have MEM : Hid _ := hmem
    have ND : Hid _ := hnd
    have SEA : Hid _ := hsea
    have CNT : Hid (f0 + ord.length = n + 1 ∧ nc ≤ 1 + 600 * ord.length ∧ np ≤ 600 * ord.length) := ⟨hfu, hnc, hnp⟩
    have hol := ji.len
    obtain ⟨f1, rfl⟩ : ∃ f1, f0 = f1 + 1 := ⟨f0 - 1, by omega⟩
    clear sq ji hmem hsea hfu hnc hnp hnd
    by_cases hl : 0 < l.length
    · have hli : (0 : Int) < (l.length : Int) := by omega
      have hhv := SQ.out.fx.hh
      have FA : Hid _ := fun (_ : Unit) => first_any l h (.slice (some ⟨gw, 0, none⟩) l.length cap) (.slice (some ⟨b1, off1, none⟩) n c1) (.pointer (some ⟨KB, 0, none⟩)) (.pointer (some ⟨CB, 0, none⟩)) (.pointer (some ⟨HB, 0, none⟩)) (fun x => f (sk.c x) (h.getD x 0)) wr (by have := (SQ.out.ww.is (Nat.le_refl _)).sl; rw [ints_length] at this; exact this) (HU.out.below SQ.out.bl) (by have := nodup_le ND.out (fun x hx => (JI.out.co x (wts_yes ((MEM.out x).1 hx)).1).1); omega)
        (fun i hi => by
          have hx : l.getD i 0 ∈ l := by rw [List.getD_eq_getElem?_getD, List.getElem?_eq_getElem hi]; exact List.getElem_mem hi
          have := (JI.out.co _ (wts_yes ((MEM.out _).1 hx)).1).1
          rw [HH.out]; exact this)
        (fun x hx W' hb => by
          obtain ⟨q1, q2, q3, q4⟩ := JI.out.co x (wts_yes ((MEM.out x).1 hx)).1
          have q5 := HRG.out x q1
          exact keyof_any w W' kn KB CB HB MB nc x lb f (mcf sk) h (.slice (some ⟨b1, off1, none⟩) n c1) (sk.c x) HKY.out (bthen SQ.out.bl hb) (kept hb SQ.out.fx.kk) (kept hb SQ.out.fx.cc) (kept hb SQ.out.fx.hh) (HU.out.below (bthen SQ.out.bl hb)) (SQ.out.mc.below hb) (by unfold mcf; rw [if_pos (wts_yes ((MEM.out x).1 hx)).1]) (by omega) (by rw [HH.out]; exact q1) q2 (by omega) q5.1 q5.2)
      go_wp2_with fail
      refine (FA.out ()).mono ?_
      rintro e w2 ⟨rfl, q2, rfl⟩
      obtain ⟨p, hpk⟩ : ∃ x, pick (wts sk ord) (fun v => f (sk.c v) (gf h v)) (gf h) n = some x := by
        rw [← frk_pick hl (fun v _ => (MEM.out v).symm) (fun v hv => (JI.out.co v (wts_yes ((MEM.out v).1 hv)).1).1)]
        exact frk_some hl
      have e1 : frz (frk (fun x => f (sk.c x) (h.getD x 0)) (fun v => h.getD v 0) l l.length) = (p : Int) := by
        have h1 : frk (fun x => f (sk.c x) (h.getD x 0)) (fun v => h.getD v 0) l l.length = some p := (frk_pick hl (fun v _ => (MEM.out v).symm) (fun v hv => (JI.out.co v (wts_yes ((MEM.out v).1 hv)).1).1)).trans hpk
        rw [h1]; rfl
      rw [e1]
      have PK : Hid _ := hpk
      have hpn : p < n := (pick_some hpk).1
      have hpw : Hid (wts sk ord p = true) := (pick_some hpk).2.1
      have S2 : Hid _ := SQ.out.below (bdrewN (Below.refl wr.heap.size wr) q2)
      clear e1 hpk FA hhv SQ
      generalize wr.drewN q2 = W2 at *
      obtain ⟨VB, hVB⟩ : ∃ VB, W2.heap.size = VB := ⟨_, rfl⟩
      have S3 : Hid _ := S2.out.below (balloc (Below.refl _ _) (.cells #[.int .i64 (p : Int)] 3))
      have V3 : Hid ((W2.alloc (.cells #[.int .i64 (p : Int)] 3)).cell? ⟨VB, 0, none⟩ = some (.int .i64 (p : Int)) ∧ VB < (W2.alloc (.cells #[.int .i64 (p : Int)] 3)).heap.size) := by
        rw [← hVB]; exact ⟨cell_new W2 _ _ 0 _ rfl, by simp⟩
      have VT : Hid (TT ≤ VB ∧ gw < VB ∧ ∀ k, (Value.slice ay ord.length cy).ownBlock = some k → k < VB) := by
        rw [← hVB]
        have h1 := S2.out.ww.lt
        have h2 := S2.out.tw
        exact ⟨by omega, h1, fun k hk => (S2.out.oo.own_lt k hk).2⟩
      go_wp2_with fail
      have SA : Hid _ := fun (_ : Unit) => strike_any gw cap (ints l) VB (p : Int) _ S3.out.ww V3.out.1 V3.out.2 (by have := VT.out.2.1; omega) (by have := S3.out.ww.is (Nat.le_refl _) |>.short; omega)
      have JK : Hid _ := JI.out.take hpw.out
      simp only [strk_ints, ints_length] at SA
      have ND2 : Hid ((l.filter (fun x => decide (x ≠ p))).Nodup) := ND.out.filter _
      have MEM2 : Hid (∀ v, v ∈ l.filter (fun x => decide (x ≠ p)) ↔ wts sk (ord ++ [p]) v = true) := by
        intro v
        rw [List.mem_filter, MEM.out v]
        unfold wts
        simp
        constructor
        · rintro ⟨⟨q1, q2⟩, q3⟩; exact ⟨q1, q2, q3⟩
        · rintro ⟨q1, q2, q3⟩; exact ⟨⟨q1, q2⟩, q3⟩
      generalize W2.alloc (.cells #[.int .i64 (p : Int)] 3) = W3 at *
      generalize l.filter (fun x => decide (x ≠ p)) = l2 at *
      clear hVB S2
      refine (SA.out ()).mono ?_
      rintro e w4 ⟨rfl, hr4, hg4⟩
      have S4 : Hid _ := S3.out.wadd hg4 hr4 (.inl rfl)
      have V4 : Hid (w4.cell? ⟨VB, 0, none⟩ = some (.int .i64 (p : Int)) ∧ VB < w4.heap.size) := ⟨cell_keep hg4 (by have := VT.out.2.1; simp; omega) V3.out.1, Nat.lt_of_lt_of_le V3.out.2 hg4.size⟩
      clear hr4 hg4 SA S3 V3 ND MEM JI
      clear W2 W3 wr
      have v0 := V4.out.1
      have hown : w4.ownsRow TT 3 1 (.slice ay ord.length cy) ord.length ((ints ord).map (fun z => Value.int .i64 z)) := by have := S4.out.oo.own; rw [ints_length] at this; exact this
      obtain ⟨i0, hi0, hz0, hz1, hz2⟩ := info3_parts
      have HNW : Hid ((w4.alloc (.cells #[.int .i64 (p : Int)] 3)).heap[w4.heap.size]? = some (.cells #[.int .i64 (p : Int)] 3)) := heap_alloc_new w4 _
      have hom : ord.length + 1 ≤ maxLen := by unfold maxLen; omega
      have htw4 : TT ≤ w4.heap.size := by have := VT.out.1; have := V4.out.2; omega
      have S4b : Hid _ := S4.out.below (balloc (Below.refl _ _) (.cells #[.int .i64 (p : Int)] 3))
      have V4b : Hid _ := kept_alloc (x := .cells #[.int .i64 (p : Int)] 3) v0
      go_upto_region 10 with (first
        | (at_builtin; refine wpList_append_lies _ rfl _ _ _ rfl TT 3 i0 _ 1 8 Try.underlying25 hi0 hz0 hz1 hz2 rfl (by omega) (.slice ay ord.length cy) ord.length ((ints ord).map (fun z => Value.int .i64 z)) rfl (hown.alloc _) ⟨w4.heap.size, 0, none⟩ 1 1 [.int .i64 (p : Int)] rfl rfl (World.news_of_block (cs := #[.int .i64 (p : Int)]) (t := 3) (fr := (0, 0)) HNW.out) (by simp [Value.oneCell']) (by omega) hom (by omega) (by simp; omega) (w4.heap.size + 1) (by simp) ?_; intro gg cap' w5 hown5 hgrow hat hlt5; have S5 : Hid (Sq w w5 TT n (.slice a0 es.length c0) (.slice (some ⟨b1, off1, none⟩) n c1) (.func (.func kn) #[] lb) w.heap.size HB KB RR CB MB PB nc np gw cap l2 (ord ++ [p]) (.slice (some ⟨gg, 0, none⟩) (ord.length + 1) cap') (mcf sk) (mpf sk s)) := (by exact S4b.out.oadd hgrow (Is.next (by rw [ints_append]; rfl) (ints_length ord).symm hown5) (fun k hk => (by cases hk; exact hat.imp_right (fun e => by simp; omega)))); have V5 : Hid (w5.cell? ⟨VB, 0, none⟩ = some (.int .i64 (p : Int)) ∧ VB < w5.heap.size) := (by exact ⟨cell_keep hgrow (fun e => by have := VT.out.2.2 _ e; omega) V4b.out, Nat.lt_of_lt_of_le V4.out.2 (Nat.le_trans (by simp) hgrow.size)⟩); have v5 := V5.out.1; clear hgrow hat hlt5 hown5)
        | fail)
      clear v0 hown hi0 hz0 hz1 hz2 HNW hom htw4 S4 S4b V4 V4b
      obtain ⟨hi0, hi1⟩ : True ∧ True := ⟨trivial, trivial⟩
      have OL : Hid ((ord ++ [p]).length = ord.length + 1) := by simp [Hid]
      by_cases hpt : p = t
      · subst hpt
        have hpp : ((p : Int) == (p : Int)) = true := by simp
        go_wp2_with fail
        have RS : Hid (RES = some (sk, ord ++ [p])) := by
          have h1 := SEA.out
          unfold sea at h1
          rw [PK.out] at h1
          simp only [if_true] at h1
          exact h1.symm
        have HRS : Hid _ := HRES.out.trans RS.out
        obtain ⟨q0, -, hdn⟩ := HDN.out _ _ HRS.out
        have hcp : sk.c p < far := (wts_yes hpw.out).1
        have hbw := way_bw hdn HP.out hs _ p hpn (Nat.le_refl _) hcp
        have hlast := way_last hdn HP.out hs hpn hcp
        have hmc : mcf sk p = some (sk.c p) := by unfold mcf; rw [if_pos hcp]
        have BACK : Hid (∀ W, Below w5.heap.size w5 W → Calls Try.prog 43 #[.map (some PB), .int .i64 (s : Int), .int .i64 (p : Int)] W fun e w' => ∃ v, e = .returned v ∧ Is w' W.heap.size v (ints (way sk s p)) ∧ Below W.heap.size W w') := fun W hb => by
          have h1 := back_any (mpf sk s) (way sk s p) PB np (s : Int) W (S5.out.mp.below hb) hbw
          rw [hlast] at h1; exact h1
        have LOOK : Hid (∀ W, Below w5.heap.size w5 W → (Instr.lookup 59 (.map (some MB)) (.int .i64 (p : Int)) false).run Try.prog W = .ok (.int .i64 (sk.c p)) W) := fun W hb => (S5.out.mc.below hb).get (by omega) hmc
        have l5 := LOOK.out _ (Below.drew (Below.refl _ _))
        have cc5 := S5.out.fx.cc
        have hR : RR < TT ∧ w.heap.size ≤ RR ∧ w.heap.size ≤ TT := by have := S5.out.od; omega
        have HRT : Hid (RR < TT ∧ w.heap.size ≤ RR ∧ w.heap.size ≤ TT ∧ TT ≤ w5.heap.size) := ⟨hR.1, hR.2.1, hR.2.2, by have := V5.out.2; have := VT.out.1; omega⟩
        clear hbw hlast hdn hR
        go_region_law (first
          | (go_simp; go_at_call 43; refine (BACK.out _ (by exact Below.drew (Below.refl _ _))).mono ?_; rintro e w8 ⟨vb, rfl, ib, b8⟩; obtain ⟨av, cv, rfl⟩ := ib.sl.val; have IB : Hid (Is w8 w5.heap.size (.slice av (ints (way sk s p)).length cv) (ints (way sk s p))) := ib; have B8 : Hid (Below w5.heap.size w5 w8) := bthen (Below.drew (Below.refl _ _)) b8; have l8 := LOOK.out _ B8.out; have cc8 := (S5.out.below B8.out).fx.cc; obtain ⟨k0, k1, k2⟩ := (S5.out.below B8.out).fx.rr.cell; obtain ⟨z0, z1, z2⟩ := (S5.out.below B8.out).fx.rr.frozen; clear ib b8)
          | fail)
        all_goals
          have R9 : Hid _ := (S5.out.below B8.out).fx.rr.put (.slice av (ints (way sk s p)).length cv) (.int .i64 (sk.c p)) (.slice (some ⟨gg, 0, none⟩) (ord.length + 1) cap')
          have B9 : Hid _ := rb_below (bthen S5.out.bl B8.out) HRT.out.2.1 (.slice av (ints (way sk s p)).length cv) (.int .i64 (sk.c p)) (.slice (some ⟨gg, 0, none⟩) (ord.length + 1) cap')
          have hr1 : RR < w5.heap.size := Nat.lt_of_lt_of_le HRT.out.1 HRT.out.2.2.2
          have I9 : Hid _ := (((IB.out.other (o := 0) (u := .slice av (ints (way sk s p)).length cv) hr1).other (o := 1) (u := .int .i64 (sk.c p)) hr1).other (o := 2) (u := .slice (some ⟨gg, 0, none⟩) (ord.length + 1) cap') hr1).mono (Nat.le_trans HRT.out.2.2.1 HRT.out.2.2.2)
          have O9 : Hid _ := ((((S5.out.below B8.out).oo.other (o := 0) (u := .slice av (ints (way sk s p)).length cv) HRT.out.1).other (o := 1) (u := .int .i64 (sk.c p)) HRT.out.1).other (o := 2) (u := .slice (some ⟨gg, 0, none⟩) (ord.length + 1) cap') HRT.out.1).mono HRT.out.2.2.1
          clear hr1
          go_wp2_with fail
          clear k0 k1 k2 z0 z1 z2 l5 l8 cc5 cc8
          obtain ⟨k0, k1, k2⟩ := R9.out.cell
          exact bodyPost_ret (v := .tuple #[.agg #[.slice av (ints (way sk s p)).length cv, .int .i64 (sk.c p), .slice (some ⟨gg, 0, none⟩) (ord.length + 1) cap'], .int .i64 0]) (by simp [results, Try.results15, go_sem, k0, k1, k2]) rfl (.inr ⟨sk, ord ++ [p], _, _, HRS.out, rfl, I9.out, O9.out, B9.out⟩)
      · have hpp : ((p : Int) == (t : Int)) = false := by simp; omega
        have g1 := S5.out.fx.g1
        go_wp2_with fail
        have S5V : Hid (gw < VB ∧ TT ≤ VB) := ⟨VT.out.2.1, VT.out.1⟩
        have hes600 : es.length ≤ 600 := HP.out.len
        clear g1 v5
        go_loopw [63, 14] (fun zv xv wr => ∃ (i g3 cap3 nc3 np3 : Nat) (l3 : List Nat), zv = .int .i64 i ∧ i ≤ es.length ∧ xv = .slice (some ⟨g3, 0, none⟩) l3.length cap3 ∧ Sq w wr TT n (.slice a0 es.length c0) (.slice (some ⟨b1, off1, none⟩) n c1) (.func (.func kn) #[] lb) w.heap.size HB KB RR CB MB PB nc3 np3 g3 cap3 l3 (ord ++ [p]) (.slice (some ⟨gg, 0, none⟩) (ord.length + 1) cap') (mcf (rxs (gf h) (ord ++ [p]) p es sk i)) (mpf (rxs (gf h) (ord ++ [p]) p es sk i) s) ∧ (wr.cell? ⟨VB, 0, none⟩ = some (.int .i64 (p : Int)) ∧ VB < wr.heap.size ∧ g3 ≠ VB) ∧ Jk n (gf h) s (rxs (gf h) (ord ++ [p]) p es sk i) (ord ++ [p]) p ∧ l3.Nodup ∧ (∀ v, v ∈ l3 ↔ wts (rxs (gf h) (ord ++ [p]) p es sk i) (ord ++ [p]) v = true) ∧ nc3 ≤ nc + i ∧ np3 ≤ np + i) (fun zv _ _ => es.length - (intOf zv).toNat)
        case atStart => exact ⟨0, gw, cap, nc, np, l2, rfl, Nat.zero_le _, rfl, S5.out, ⟨V5.out.1, V5.out.2, by have := S5V.out.1; omega⟩, JK.out, ND2.out, MEM2.out, Nat.le_refl _, Nat.le_refl _⟩
        case round =>
          obtain ⟨i, g3, cap3, nc3, np3, l3, rfl, hi, rfl, sq, vq, jk, hnd, hmem, hnc, hnp⟩ := hrel
          have SQ : Hid _ := sq
          have VQ : Hid _ := vq
          have CNT3 : Hid (nc3 ≤ nc + i ∧ np3 ≤ np + i) := ⟨hnc, hnp⟩
          clear sq vq hnc hnp
          by_cases hlt : i < es.length
          · have hii : (i : Int) < (es.length : Int) := by omega
            obtain ⟨si, hsi⟩ : ∃ si, rxs (gf h) (ord ++ [p]) p es sk i = si := ⟨_, rfl⟩
            have NXT : Hid (rxs (gf h) (ord ++ [p]) p es sk (i + 1) = rx (gf h) (ord ++ [p]) p (at3 es i) si) := by rw [← hsi]; rfl
            rw [hsi] at SQ jk hmem
            have JK3 : Hid _ := jk
            have ND3 : Hid _ := hnd
            have MEM3 : Hid _ := hmem
            clear hsi jk hnd hmem
            obtain ⟨b, off, cp, hveq, hc⟩ := (HV.out.below SQ.out.bl).some' (by omega)
            simp only [Value.slice.injEq] at hveq
            obtain ⟨rfl, -, rfl⟩ := hveq
            obtain ⟨e0, e1, e2⟩ := hc i hlt
            obtain ⟨nX, nY, nC1, nC2⟩ := HP.out.nat (mem_at hlt)
            have hok := HP.out.ok _ (mem_at hlt)
            obtain ⟨X, hX⟩ : ∃ X : Nat, (at3 es i).1 = X := ⟨(at3 es i).1.toNat, by omega⟩
            obtain ⟨Y, hY⟩ : ∃ Y : Nat, (at3 es i).2.1 = Y := ⟨(at3 es i).2.1.toNat, by omega⟩
            obtain ⟨c, hC⟩ : ∃ c : Int, (at3 es i).2.2 = c := ⟨_, rfl⟩
            have HE : Hid ((at3 es i).1.toNat = X ∧ (at3 es i).2.1.toNat = Y ∧ (at3 es i).2.2 = c) := ⟨by omega, by omega, hC⟩
            rw [hX] at e0
            rw [hY] at e1
            rw [hC] at e2
            have HYn : Hid (Y < n ∧ 1 ≤ c ∧ c ≤ 10000) := ⟨by omega, by omega, by omega⟩
            clear hc nX nY nC1 nC2 hok hX hY hC
            obtain ⟨EB, hEB⟩ : ∃ EB, wr.heap.size = EB := ⟨_, rfl⟩
            have S6 : Hid _ := SQ.out.below (balloc (Below.refl _ _) (.cells #[.int .i64 (X : Int), .int .i64 (Y : Int), .int .i64 c] 66))
            have V6 : Hid ((wr.alloc (.cells #[.int .i64 (X : Int), .int .i64 (Y : Int), .int .i64 c] 66)).cell? ⟨VB, 0, none⟩ = some (.int .i64 (p : Int)) ∧ VB < (wr.alloc (.cells #[.int .i64 (X : Int), .int .i64 (Y : Int), .int .i64 c] 66)).heap.size ∧ g3 ≠ VB) := ⟨kept_alloc VQ.out.1, by have := VQ.out.2.1; simp; omega, VQ.out.2.2⟩
            have E6 : Hid ((wr.alloc (.cells #[.int .i64 (X : Int), .int .i64 (Y : Int), .int .i64 c] 66)).heap[EB]? = some (.cells #[.int .i64 (X : Int), .int .i64 (Y : Int), .int .i64 c] 66 (0, 0))) := by rw [← hEB]; exact heap_alloc_new wr _
            have EG : Hid (TT ≤ EB ∧ g3 < EB ∧ VB < EB) := by
              have h1 := SQ.out.ww.lt
              have h2 := VQ.out.2.1
              have h3 := S5V.out.2
              rw [← hEB]; exact ⟨by omega, h1, h2⟩
            go_upto_region 15 with fail
            clear hEB e0 e1 e2 SQ VQ
            generalize wr.alloc (.cells #[.int .i64 (X : Int), .int .i64 (Y : Int), .int .i64 c] 66) = W6 at *
            have E0 : W6.cell? ⟨EB, 0, none⟩ = some (.int .i64 (X : Int)) := by simp [World.cell?, E6.out]
            have E1 : W6.cell? ⟨EB, 1, none⟩ = some (.int .i64 (Y : Int)) := by simp [World.cell?, E6.out]
            have E2 : W6.cell? ⟨EB, 2, none⟩ = some (.int .i64 c) := by simp [World.cell?, E6.out]
            have v6 := V6.out.1
            have h6 := S6.out.fx.hh
            have hy6 := kept S6.out.bl (HCL.out Y HYn.out.1)
            have hYi : (Y : Int) < (n : Int) := by have := HYn.out.1; omega
            by_cases hXp : X = p
            · subst hXp
              have hxp : ((X : Int) != (X : Int)) = false := by simp
              obtain ⟨hy, hhy⟩ : ∃ hy, h.getD Y 0 = hy := ⟨_, rfl⟩
              have HHY : Hid (gf h Y = hy) := hhy
              rw [hhy] at hy6
              clear hhy
              by_cases hyf : hy = 1099511627776
              · have hyb : (hy == 1099511627776) = true := by simp [hyf]
                have NS : Hid (rxs (gf h) (ord ++ [X]) X es sk (i + 1) = si) := NXT.out.trans (rx_no (fun hq => hq.2.1 (by rw [HE.out.2.1, HHY.out]; exact hyf)))
                clear hyf
                go_wp2_with fail
                go_roundw
                case rel => exact ⟨i + 1, g3, cap3, nc3, np3, l3, by go_num, by omega, rfl, by rw [NS.out]; exact S6.out, V6.out, by rw [NS.out]; exact JK3.out, ND3.out, by rw [NS.out]; exact MEM3.out, by have := CNT3.out; omega, by have := CNT3.out; omega⟩
                case measure => simp [intOf]; omega
              · have hyb : (hy == 1099511627776) = false := by simp [hyf]
                have HYF : Hid (gf h Y ≠ far) := by unfold Hid; rw [HHY.out]; exact hyf
                have CT : Hid _ := fun (_ : Unit) => contains_any (.slice (some ⟨gg, 0, none⟩) (ord.length + 1) cap') (ord ++ [X]) Y W6 S6.out.oo.sl (by have := OL.out; have := hol; omega)
                clear hyf
                by_cases hyo : Y ∈ ord ++ [X]
                · have NS : Hid (rxs (gf h) (ord ++ [X]) X es sk (i + 1) = si) := NXT.out.trans (rx_no (fun hq => hq.2.2.1 (by rw [HE.out.2.1]; exact hyo)))
                  rw [decide_eq_true hyo] at CT
                  clear hyo
                  go_wp2_with fail
                  refine (CT.out ()).mono ?_
                  rintro e w7 ⟨rfl, rfl⟩
                  go_wp2_with fail
                  go_roundw
                  case rel => exact ⟨i + 1, g3, cap3, nc3, np3, l3, by go_num, by omega, rfl, by rw [NS.out]; exact S6.out, V6.out, by rw [NS.out]; exact JK3.out, ND3.out, by rw [NS.out]; exact MEM3.out, by have := CNT3.out; omega, by have := CNT3.out; omega⟩
                  case measure => simp [intOf]; omega
                · have HYO : Hid (¬ Y ∈ ord ++ [X]) := hyo
                  rw [decide_eq_false hyo] at CT
                  clear hyo
                  go_wp2_with fail
                  refine (CT.out ()).mono ?_
                  rintro e w7 ⟨rfl, rfl⟩
                  obtain ⟨co, hrun, hco⟩ := S6.out.mc.ok (v := Y) (by have := HYn.out.1; omega)
                  have hcX : si.c X < far := JK3.out.ji.oc X JK3.out.vo
                  have l6 := S6.out.mc.get (v := X) (by omega) (by unfold mcf; rw [if_pos hcX])
                  have cc6 := S6.out.fx.cc
                  obtain ⟨cx, hcx⟩ : ∃ cx, si.c X = cx := ⟨_, rfl⟩
                  have HCX : Hid (si.c X = cx) := hcx
                  have HCB : Hid (0 ≤ cx ∧ cx + 10000 ≤ 640000) := by
                    have h1 := JK3.out.cv
                    have h2 := (JK3.out.ji.co X hcX).2.1
                    have h3 := JK3.out.ji.len
                    rw [hcx] at h1 h2
                    exact ⟨h2, by omega⟩
                  rw [hcx] at l6
                  have hcb := HCB.out
                  have hcc := HYn.out.2
                  have hwr : IntKind.i64.wrap (cx + c) = cx + c := by rw [IntKind.wrap_i64]; omega
                  have HCO : Hid (∀ y, mcf si Y = some y → co = y) := hco
                  clear hcX hcx hco
                  obtain ⟨ok, hok⟩ : ∃ ok, (mcf si Y).isSome = ok := ⟨_, rfl⟩
                  have HOK : Hid _ := hok
                  rw [hok] at hrun
                  clear hok
                  have hleY := JK3.out.ji.le Y
                  have hfar : far = 1099511627776 := rfl
                  rcases (show (ok = true ∧ ¬ cx + c < co ∧ ¬ si.c X + c < si.c Y) ∨ ((ok = false ∨ (ok = true ∧ cx + c < co)) ∧ si.c X + c < si.c Y) by
                    have h0 := HCX.out
                    have h1 := HOK.out
                    have h2 := HCO.out
                    unfold mcf at h1 h2
                    by_cases hf : si.c Y < far
                    · rw [if_pos hf] at h1 h2
                      have h3 := h2 _ rfl
                      have h4 : ok = true := h1.symm
                      rcases (show cx + c < co ∨ ¬ cx + c < co by omega) with h5 | h5
                      · exact .inr ⟨.inr ⟨h4, h5⟩, by omega⟩
                      · exact .inl ⟨h4, h5, by omega⟩
                    · rw [if_neg hf] at h1
                      have h4 : ok = false := h1.symm
                      exact .inr ⟨.inl h4, by omega⟩) with ⟨rfl, hn1, hn2⟩ | ⟨hor, hls⟩
                  · have NS : Hid (rxs (gf h) (ord ++ [X]) X es sk (i + 1) = si) := NXT.out.trans (rx_no (fun hq => hn2 (by have := hq.2.2.2; rw [HE.out.2.1, HE.out.2.2] at this; exact this)))
                    have hd : decide (cx + c < co) = false := decide_eq_false hn1
                    clear hn1 hn2 hleY hfar
                    go_wp2_with fail
                    go_roundw
                    case rel => exact ⟨i + 1, g3, cap3, nc3, np3, l3, by go_num, by omega, rfl, by rw [NS.out]; exact S6.out, V6.out, by rw [NS.out]; exact JK3.out, ND3.out, by rw [NS.out]; exact MEM3.out, by have := CNT3.out; omega, by have := CNT3.out; omega⟩
                    case measure => simp [intOf]; omega
                  · have NS : Hid (rxs (gf h) (ord ++ [X]) X es sk (i + 1) = Sk.put si Y (cx + c) X) := NXT.out.trans (by rw [rx_yes HE.out.1 (by rw [HE.out.2.1]; exact HYF.out) (by rw [HE.out.2.1]; exact HYO.out) (by rw [HE.out.2.1, HE.out.2.2]; exact hls), HE.out.2.1, HE.out.2.2, HCX.out])
                    have hcf : cx + c < far := by omega
                    have JN : Hid (Jk n (gf h) s (Sk.put si Y (cx + c) X) (ord ++ [X]) X) := by
                      have h1 := JK3.out.put HYn.out.1 HYF.out HYO.out HYn.out.2.1 HYn.out.2.2 hls
                      rw [HCX.out] at h1; exact h1
                    have hYa : Y ≠ s := fun e => HYO.out (e ▸ JK3.out.ao)
                    have EC : Hid (mcf (Sk.put si Y (cx + c) X) = fun x => if x = Y then some (cx + c) else mcf si x) := mcf_put hcf
                    have EP : Hid (mpf (Sk.put si Y (cx + c) X) s = fun x => if x = Y then some (X : Int) else mpf si s x) := mpf_put hcf hYa
                    have WP : Hid (∀ v, wts (Sk.put si Y (cx + c) X) (ord ++ [X]) v = true ↔ (v = Y ∨ wts si (ord ++ [X]) v = true)) := wts_put hcf HYO.out
                    have hY64 : Y < 64 := by have := HYn.out.1; omega
                    have hnb : nc3 < maxLen ∧ np3 < maxLen := by
                      have h1 := CNT3.out
                      have h2 := CNT.out
                      unfold maxLen
                      constructor <;> omega
                    have S6d : Hid _ := S6.out.below (Below.drew (Below.refl w7.heap.size w7))
                    obtain ⟨wa, ra, ma, ga⟩ := S6d.out.mc.put (v := Y) (c := cx + c) hY64 hnb.1 (WalkArith.wf_i64 (by omega))
                    have Sa : Hid _ := S6d.out.cput ga ma
                    obtain ⟨wb, rb, mb, gb⟩ := Sa.out.mp.put (v := Y) (c := (X : Int)) hY64 hnb.2 (WalkArith.wf_i64 (by omega))
                    have Sb : Hid _ := Sa.out.pput gb mb
                    have hod := S6.out.od
                    have hegt := EG.out.1
                    have hvbt := S5V.out.2
                    have n1 : (some MB : Option Nat) ≠ some EB := by simp; omega
                    have n2 : (some PB : Option Nat) ≠ some EB := by simp; omega
                    have n3 : (some MB : Option Nat) ≠ some VB := by simp; omega
                    have n4 : (some PB : Option Nat) ≠ some VB := by simp; omega
                    have ea := cell_keep ga n1 E1
                    have va := cell_keep ga n3 v6
                    have ca := Sa.out.fx.cc
                    have FB : Hid (Sq w wb TT n (.slice (some ⟨b, off, none⟩) es.length c0) (.slice (some ⟨b1, off1, none⟩) n c1) (.func (.func kn) #[] lb) w.heap.size HB KB RR CB MB PB (nc3 + 1) (np3 + 1) g3 cap3 l3 (ord ++ [X]) (.slice (some ⟨gg, 0, none⟩) (ord.length + 1) cap') (mcf (Sk.put si Y (cx + c) X)) (mpf (Sk.put si Y (cx + c) X) s) ∧ wb.cell? ⟨VB, 0, none⟩ = some (.int .i64 (X : Int)) ∧ VB < wb.heap.size ∧ wb.cell? ⟨EB, 1, none⟩ = some (.int .i64 (Y : Int))) := by
                      unfold Hid
                      rw [EC.out, EP.out]
                      exact ⟨Sb.out, cell_keep gb n4 va, Nat.lt_of_lt_of_le V6.out.2.1 (Nat.le_trans ga.size gb.size), cell_keep gb n2 ea⟩
                    clear hod hegt hvbt n1 n2 n3 n4 ma mb ga gb Sa Sb S6d hnb hY64 hYa hcf hls hfar hleY
                    rcases hor with rfl | ⟨rfl, hlc⟩
                    · have hd : True := trivial
                      go_upto_region 19 with fail
                      go_cut [14] (fun xv wx => xv = .slice (some ⟨g3, 0, none⟩) l3.length cap3 ∧ Sq w wx TT n (.slice (some ⟨b, off, none⟩) es.length c0) (.slice (some ⟨b1, off1, none⟩) n c1) (.func (.func kn) #[] lb) w.heap.size HB KB RR CB MB PB (nc3 + 1) (np3 + 1) g3 cap3 l3 (ord ++ [X]) (.slice (some ⟨gg, 0, none⟩) (ord.length + 1) cap') (mcf (Sk.put si Y (cx + c) X)) (mpf (Sk.put si Y (cx + c) X) s) ∧ wx.cell? ⟨VB, 0, none⟩ = some (.int .i64 (X : Int)) ∧ VB < wx.heap.size ∧ wx.cell? ⟨EB, 1, none⟩ = some (.int .i64 (Y : Int)))
                      case first =>
                        go_region
                        all_goals
                          go_wp2_with fail
                          go_meet
                          exact ⟨rfl, FB.out⟩
                      case rest =>
                        obtain ⟨rfl, sq, vq, hvl, eq⟩ := hcut
                        have S9 : Hid _ := sq
                        have V9 : Hid (wc.cell? ⟨VB, 0, none⟩ = some (.int .i64 (X : Int)) ∧ VB < wc.heap.size ∧ g3 ≠ VB) := ⟨vq, hvl, V6.out.2.2⟩
                        have CT3 : Hid _ := fun (_ : Unit) => contains_any (.slice (some ⟨g3, 0, none⟩) l3.length cap3) l3 Y wc (by have h1 := (S9.out.ww.is (Nat.le_refl _)).sl; rw [ints_length] at h1; exact h1) (by have h1 := nodup_le ND3.out (fun x hx => (JK3.out.ji.co x (wts_yes ((MEM3.out x).1 hx)).1).1); omega)
                        clear FB S6 V6 E0 E1 E2 v6 h6 hy6 cc6 l6 ra rb ea va ca hrun sq vq hvl
                        by_cases hYl : Y ∈ l3
                        · have HYL : Hid _ := hYl
                          rw [decide_eq_true hYl] at CT3
                          clear hYl
                          go_wp2_with fail
                          refine (CT3.out ()).mono ?_
                          rintro e w10 ⟨rfl, rfl⟩
                          go_wp2_with fail
                          go_roundw
                          case rel => exact ⟨i + 1, g3, cap3, nc3 + 1, np3 + 1, l3, by go_num, by omega, rfl, by rw [NS.out]; exact S9.out, V9.out, by rw [NS.out]; exact JN.out, ND3.out, by rw [NS.out]; exact fun v => ⟨fun hv => (WP.out v).2 (.inr ((MEM3.out v).1 hv)), fun hv => ((WP.out v).1 hv).elim (fun e => e ▸ HYL.out) (fun h1 => (MEM3.out v).2 h1)⟩, by have := CNT3.out; omega, by have := CNT3.out; omega⟩
                          case measure => simp [intOf]; omega
                        · have HYL : Hid _ := hYl
                          rw [decide_eq_false hYl] at CT3
                          clear hYl
                          have hown : wc.ownsRow TT 3 1 (.slice (some ⟨g3, 0, none⟩) l3.length cap3) l3.length ((ints l3).map (fun z => Value.int .i64 z)) := by have h1 := (S9.out.ww.is S9.out.tw).own; rw [ints_length] at h1; exact h1
                          obtain ⟨i0, hi0, hz0, hz1, hz2⟩ := info3_parts
                          have HNW : Hid ((wc.alloc (.cells #[.int .i64 (Y : Int)] 3)).heap[wc.heap.size]? = some (.cells #[.int .i64 (Y : Int)] 3)) := heap_alloc_new wc _
                          have hl64 : l3.length ≤ 64 := by have h1 := nodup_le ND3.out (fun x hx => (JK3.out.ji.co x (wts_yes ((MEM3.out x).1 hx)).1).1); omega
                          have hom3 : l3.length + 1 ≤ maxLen := by unfold maxLen; omega
                          have htw9 : TT ≤ wc.heap.size := by have h1 := V9.out.2.1; have h2 := S5V.out.2; omega
                          have S9b : Hid _ := S9.out.below (balloc (Below.refl _ _) (.cells #[.int .i64 (Y : Int)] 3))
                          have V9b : Hid _ := kept_alloc (x := .cells #[.int .i64 (Y : Int)] 3) V9.out.1
                          have ND4 : Hid ((l3 ++ [Y]).Nodup) := by
                            unfold Hid
                            rw [List.nodup_append]
                            exact ⟨ND3.out, by simp, fun x hx y hy => by simp at hy; subst hy; exact fun e => HYL.out (e ▸ hx)⟩
                          have LL : Hid (l3.length + 1 = (l3 ++ [Y]).length) := by simp [Hid]
                          go_wp2_with fail
                          refine (CT3.out ()).mono ?_
                          rintro e w10 ⟨rfl, rfl⟩
                          go_wp2_with (first
                            | (at_builtin; refine wpList_append_lies _ rfl _ _ _ rfl TT 3 i0 _ 1 8 Try.underlying25 hi0 hz0 hz1 hz2 rfl (by omega) (.slice (some ⟨g3, 0, none⟩) l3.length cap3) l3.length ((ints l3).map (fun z => Value.int .i64 z)) rfl (hown.alloc _) ⟨w10.heap.size, 0, none⟩ 1 1 [.int .i64 (Y : Int)] rfl rfl (World.news_of_block (cs := #[.int .i64 (Y : Int)]) (t := 3) (fr := (0, 0)) HNW.out) (by simp [Value.oneCell']) (by omega) hom3 (by omega) (by simp; omega) (w10.heap.size + 1) (by simp) ?_; intro g4 cap4 w11 hown11 hgrow hat hlt11; have RW : Hid (Is w11 TT (.slice (some ⟨g4, 0, none⟩) (l3.length + 1) cap4) (ints (l3 ++ [Y]))) := (by exact Is.next (by rw [ints_append]; rfl) (ints_length l3).symm hown11); have hgr : (w10.alloc (.cells #[.int .i64 (Y : Int)] 3)).grownBy w11 (some g3) := (by exact hgrow); have SA : Hid (Sq w w11 TT n (.slice (some ⟨b, off, none⟩) es.length c0) (.slice (some ⟨b1, off1, none⟩) n c1) (.func (.func kn) #[] lb) w.heap.size HB KB RR CB MB PB (nc3 + 1) (np3 + 1) g4 cap4 (l3 ++ [Y]) (ord ++ [X]) (.slice (some ⟨gg, 0, none⟩) (ord.length + 1) cap') (mcf (Sk.put si Y (cx + c) X)) (mpf (Sk.put si Y (cx + c) X) s)) := (by exact S9b.out.wgrow hgr RW.out (hat.imp (fun e => by cases e; rfl) (fun e => by simp; omega))); have VA : Hid (w11.cell? ⟨VB, 0, none⟩ = some (.int .i64 (X : Int)) ∧ VB < w11.heap.size ∧ g4 ≠ VB) := (by exact ⟨cell_keep hgr (fun e => V9.out.2.2 (Option.some.inj e)) V9b.out, Nat.lt_of_lt_of_le V9.out.2.1 (Nat.le_trans (by simp) hgr.size), hat.elim (fun e => by cases e; exact V9.out.2.2) (fun e => by have := V9.out.2.1; omega)⟩); clear hgrow hat hlt11 hown11 RW hgr)
                            | fail)
                          go_roundw
                          case rel =>
                            have sa := SA.out
                            exact ⟨i + 1, g4, _, nc3 + 1, np3 + 1, l3 ++ [Y], by go_num, by omega, by rw [LL.out], by rw [NS.out]; exact sa, VA.out, by rw [NS.out]; exact JN.out, ND4.out, by rw [NS.out]; exact fun v => ⟨fun hv => (WP.out v).2 ((List.mem_append.1 hv).elim (fun h1 => .inr ((MEM3.out v).1 h1)) (fun h1 => .inl (by simpa using h1))), fun hv => List.mem_append.2 (((WP.out v).1 hv).elim (fun e => .inr (by simp [e])) (fun h1 => .inl ((MEM3.out v).2 h1)))⟩, by have := CNT3.out; omega, by have := CNT3.out; omega⟩
                          case measure => simp [intOf]; omega
                    · have hd : decide (cx + c < co) = true := decide_eq_true hlc
                      clear hlc
                      go_upto_region 19 with fail
                      go_cut [14] (fun xv wx => xv = .slice (some ⟨g3, 0, none⟩) l3.length cap3 ∧ Sq w wx TT n (.slice (some ⟨b, off, none⟩) es.length c0) (.slice (some ⟨b1, off1, none⟩) n c1) (.func (.func kn) #[] lb) w.heap.size HB KB RR CB MB PB (nc3 + 1) (np3 + 1) g3 cap3 l3 (ord ++ [X]) (.slice (some ⟨gg, 0, none⟩) (ord.length + 1) cap') (mcf (Sk.put si Y (cx + c) X)) (mpf (Sk.put si Y (cx + c) X) s) ∧ wx.cell? ⟨VB, 0, none⟩ = some (.int .i64 (X : Int)) ∧ VB < wx.heap.size ∧ wx.cell? ⟨EB, 1, none⟩ = some (.int .i64 (Y : Int)))
                      case first =>
                        go_region
                        all_goals
                          go_wp2_with fail
                          go_meet
                          exact ⟨rfl, FB.out⟩
                      case rest =>
                        obtain ⟨rfl, sq, vq, hvl, eq⟩ := hcut
                        have S9 : Hid _ := sq
                        have V9 : Hid (wc.cell? ⟨VB, 0, none⟩ = some (.int .i64 (X : Int)) ∧ VB < wc.heap.size ∧ g3 ≠ VB) := ⟨vq, hvl, V6.out.2.2⟩
                        have CT3 : Hid _ := fun (_ : Unit) => contains_any (.slice (some ⟨g3, 0, none⟩) l3.length cap3) l3 Y wc (by have h1 := (S9.out.ww.is (Nat.le_refl _)).sl; rw [ints_length] at h1; exact h1) (by have h1 := nodup_le ND3.out (fun x hx => (JK3.out.ji.co x (wts_yes ((MEM3.out x).1 hx)).1).1); omega)
                        clear FB S6 V6 E0 E1 E2 v6 h6 hy6 cc6 l6 ra rb ea va ca hrun sq vq hvl
                        by_cases hYl : Y ∈ l3
                        · have HYL : Hid _ := hYl
                          rw [decide_eq_true hYl] at CT3
                          clear hYl
                          go_wp2_with fail
                          refine (CT3.out ()).mono ?_
                          rintro e w10 ⟨rfl, rfl⟩
                          go_wp2_with fail
                          go_roundw
                          case rel => exact ⟨i + 1, g3, cap3, nc3 + 1, np3 + 1, l3, by go_num, by omega, rfl, by rw [NS.out]; exact S9.out, V9.out, by rw [NS.out]; exact JN.out, ND3.out, by rw [NS.out]; exact fun v => ⟨fun hv => (WP.out v).2 (.inr ((MEM3.out v).1 hv)), fun hv => ((WP.out v).1 hv).elim (fun e => e ▸ HYL.out) (fun h1 => (MEM3.out v).2 h1)⟩, by have := CNT3.out; omega, by have := CNT3.out; omega⟩
                          case measure => simp [intOf]; omega
                        · have HYL : Hid _ := hYl
                          rw [decide_eq_false hYl] at CT3
                          clear hYl
                          have hown : wc.ownsRow TT 3 1 (.slice (some ⟨g3, 0, none⟩) l3.length cap3) l3.length ((ints l3).map (fun z => Value.int .i64 z)) := by have h1 := (S9.out.ww.is S9.out.tw).own; rw [ints_length] at h1; exact h1
                          obtain ⟨i0, hi0, hz0, hz1, hz2⟩ := info3_parts
                          have HNW : Hid ((wc.alloc (.cells #[.int .i64 (Y : Int)] 3)).heap[wc.heap.size]? = some (.cells #[.int .i64 (Y : Int)] 3)) := heap_alloc_new wc _
                          have hl64 : l3.length ≤ 64 := by have h1 := nodup_le ND3.out (fun x hx => (JK3.out.ji.co x (wts_yes ((MEM3.out x).1 hx)).1).1); omega
                          have hom3 : l3.length + 1 ≤ maxLen := by unfold maxLen; omega
                          have htw9 : TT ≤ wc.heap.size := by have h1 := V9.out.2.1; have h2 := S5V.out.2; omega
                          have S9b : Hid _ := S9.out.below (balloc (Below.refl _ _) (.cells #[.int .i64 (Y : Int)] 3))
                          have V9b : Hid _ := kept_alloc (x := .cells #[.int .i64 (Y : Int)] 3) V9.out.1
                          have ND4 : Hid ((l3 ++ [Y]).Nodup) := by
                            unfold Hid
                            rw [List.nodup_append]
                            exact ⟨ND3.out, by simp, fun x hx y hy => by simp at hy; subst hy; exact fun e => HYL.out (e ▸ hx)⟩
                          have LL : Hid (l3.length + 1 = (l3 ++ [Y]).length) := by simp [Hid]
                          go_wp2_with fail
                          refine (CT3.out ()).mono ?_
                          rintro e w10 ⟨rfl, rfl⟩
                          go_wp2_with (first
                            | (at_builtin; refine wpList_append_lies _ rfl _ _ _ rfl TT 3 i0 _ 1 8 Try.underlying25 hi0 hz0 hz1 hz2 rfl (by omega) (.slice (some ⟨g3, 0, none⟩) l3.length cap3) l3.length ((ints l3).map (fun z => Value.int .i64 z)) rfl (hown.alloc _) ⟨w10.heap.size, 0, none⟩ 1 1 [.int .i64 (Y : Int)] rfl rfl (World.news_of_block (cs := #[.int .i64 (Y : Int)]) (t := 3) (fr := (0, 0)) HNW.out) (by simp [Value.oneCell']) (by omega) hom3 (by omega) (by simp; omega) (w10.heap.size + 1) (by simp) ?_; intro g4 cap4 w11 hown11 hgrow hat hlt11; have RW : Hid (Is w11 TT (.slice (some ⟨g4, 0, none⟩) (l3.length + 1) cap4) (ints (l3 ++ [Y]))) := (by exact Is.next (by rw [ints_append]; rfl) (ints_length l3).symm hown11); have hgr : (w10.alloc (.cells #[.int .i64 (Y : Int)] 3)).grownBy w11 (some g3) := (by exact hgrow); have SA : Hid (Sq w w11 TT n (.slice (some ⟨b, off, none⟩) es.length c0) (.slice (some ⟨b1, off1, none⟩) n c1) (.func (.func kn) #[] lb) w.heap.size HB KB RR CB MB PB (nc3 + 1) (np3 + 1) g4 cap4 (l3 ++ [Y]) (ord ++ [X]) (.slice (some ⟨gg, 0, none⟩) (ord.length + 1) cap') (mcf (Sk.put si Y (cx + c) X)) (mpf (Sk.put si Y (cx + c) X) s)) := (by exact S9b.out.wgrow hgr RW.out (hat.imp (fun e => by cases e; rfl) (fun e => by simp; omega))); have VA : Hid (w11.cell? ⟨VB, 0, none⟩ = some (.int .i64 (X : Int)) ∧ VB < w11.heap.size ∧ g4 ≠ VB) := (by exact ⟨cell_keep hgr (fun e => V9.out.2.2 (Option.some.inj e)) V9b.out, Nat.lt_of_lt_of_le V9.out.2.1 (Nat.le_trans (by simp) hgr.size), hat.elim (fun e => by cases e; exact V9.out.2.2) (fun e => by have := V9.out.2.1; omega)⟩); clear hgrow hat hlt11 hown11 RW hgr)
                            | fail)
                          go_roundw
                          case rel =>
                            have sa := SA.out
                            exact ⟨i + 1, g4, _, nc3 + 1, np3 + 1, l3 ++ [Y], by go_num, by omega, by rw [LL.out], by rw [NS.out]; exact sa, VA.out, by rw [NS.out]; exact JN.out, ND4.out, by rw [NS.out]; exact fun v => ⟨fun hv => (WP.out v).2 ((List.mem_append.1 hv).elim (fun h1 => .inr ((MEM3.out v).1 h1)) (fun h1 => .inl (by simpa using h1))), fun hv => List.mem_append.2 (((WP.out v).1 hv).elim (fun e => .inr (by simp [e])) (fun h1 => .inl ((MEM3.out v).2 h1)))⟩, by have := CNT3.out; omega, by have := CNT3.out; omega⟩
                          case measure => simp [intOf]; omega
            · have hxp : ((X : Int) != (p : Int)) = true := by simp; omega
              have NS : Hid (rxs (gf h) (ord ++ [p]) p es sk (i + 1) = si) := NXT.out.trans (rx_no (fun hq => hXp (HE.out.1.symm.trans hq.1)))
              go_wp2_with fail
              go_roundw
              case rel => exact ⟨i + 1, g3, cap3, nc3, np3, l3, by go_num, by omega, rfl, by rw [NS.out]; exact S6.out, V6.out, by rw [NS.out]; exact JK3.out, ND3.out, by rw [NS.out]; exact MEM3.out, by have := CNT3.out; omega, by have := CNT3.out; omega⟩
              case measure => simp [intOf]; omega
          · obtain rfl : i = es.length := by omega
            have SN : Hid (sea n es (gf h) f t f1 (rxs (gf h) (ord ++ [p]) p es sk es.length) (ord ++ [p]) = RES) := by
              have h1 := SEA.out
              unfold sea at h1
              rw [PK.out] at h1
              simp only [if_neg hpt] at h1
              exact h1
            have JKE : Hid _ := jk.ji
            have ND3 : Hid _ := hnd
            have MEM3 : Hid _ := hmem
            clear jk hnd hmem
            go_wp2_with fail
            go_roundw
            case rel => exact ⟨_, ord ++ [p], l3, g3, cap3, nc3, np3, f1, rfl, ⟨some ⟨gg, 0, none⟩, cap', by rw [OL.out]⟩, SQ.out, JKE.out, ND3.out, MEM3.out, SN.out, by rw [OL.out]; have := CNT.out; omega, by rw [OL.out]; have := CNT.out; have := CNT3.out; omega, by rw [OL.out]; have := CNT.out; have := CNT3.out; omega⟩
            case measure => simp [lenOf]; omega
    · obtain rfl : l = [] := List.length_eq_zero_iff.1 (by omega)
      have hN : RES = none := by
        rw [← SEA.out]
        unfold sea
        rw [pick_all (fun v _ => by
          cases hw : wts sk ord v with
          | false => rfl
          | true => exact absurd ((MEM.out v).2 hw) (by simp))]
      have HN : Hid _ := hN
      clear hN
      obtain ⟨k0, k1, k2⟩ := SQ.out.fx.rr.cell
      obtain ⟨z0, z1, z2⟩ := SQ.out.fx.rr.frozen
      have R2 : Hid _ := SQ.out.fx.rr.put (.slice none 0 0) (.int .i64 0) (.slice none 0 0)
      have B2 : Hid _ := rb_below SQ.out.bl (show w.heap.size ≤ RR by have := SQ.out.od; omega) (.slice none 0 0) (.int .i64 0) (.slice none 0 0)
      have HRS : Hid _ := HRES.out.trans HN.out
      go_wp2_with fail
      clear k0 k1 k2 z0 z1 z2
      obtain ⟨k0, k1, k2⟩ := R2.out.cell
      exact bodyPost_ret (v := .tuple #[.agg #[.slice none 0 0, .int .i64 0, .slice none 0 0], .int .i64 5]) (by simp [results, Try.results15, go_sem, k0, k1, k2]) rfl (.inl ⟨HRS.out, rfl, B2.out⟩)
end Go.Proofs.Ytefikbjjdldomaa
