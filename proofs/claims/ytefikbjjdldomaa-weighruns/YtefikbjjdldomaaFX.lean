/-
  Contract: the document's Search, whatever agrees.
-/
import Derived.Test.YtefikbjjdldomaaFS
import Derived.Test.YtefikbjjdldomaaQD
namespace Go.Proofs.Ytefikbjjdldomaa
open Go.RowKit Go.Maps
open _root_.Go.Proofs.Ytefikbjjdldomaa.Nm Wm Dm Cm Sk

set_option maxRecDepth 100000 in
set_option maxHeartbeats 32000000 in
theorem search_far (n s t : Nat) (es : List E) (h : List Int) (v u : Value) (kn : Nat) (lb : Array Value) (f : Int → Int → Int) (w : World) (hv : SlE w v es) (hu : SlI w u h) (hp : Pn n es) (hs : s < n) (hh : h.length = n) (hk : Ky w kn lb f) (hf : h.getD s 0 = 1099511627776) :
    Calls Try.prog 15 #[.agg #[.int .i64 n, v], .int .i64 s, .int .i64 t, u, .func (.func kn) #[] lb] w fun e w' => Bk9 w n es h s t f e w' := by
  obtain ⟨a0, c0, rfl⟩ := hv.val
  have hn64 := hp.n64
  obtain ⟨b1, off1, c1, rfl, hcl⟩ := hu.some' (by omega)
  have d0 := hcl s (by omega)
  have hsi : (s : Int) < (h.length : Int) := by omega
  obtain ⟨x, hx⟩ : ∃ x, h.getD s 0 = x := ⟨_, rfl⟩
  have HF : Hid (gf h s = far) := hf
  rw [hx] at d0 hf
  have hxf : (x == 1099511627776) = true := by simp; exact hf
  have hkey : keyOf Try.prog 3 (.int .i64 (s : Int)) = some (.int .i64 (s : Int)) := keyOf_int_mk Try.underlying3 (WalkArith.wf_i64 (by omega))
  have HV : Hid _ := hv
  have HU : Hid _ := hu
  have HP : Hid _ := hp
  have HKY : Hid _ := hk
  have HH : Hid (h.length = n) := hh
  rw [hh] at HU hsi ⊢
  clear hv hu hp hk hcl hx hf hh
  have hmm := @run_makeMap Try.prog
  obtain ⟨W4, HW4⟩ : ∃ W4, Hid (W4 = (((w.alloc (.cells #[.int .i64 n, .slice a0 es.length c0] 24)).alloc (.cells #[.slice (some ⟨b1, off1, none⟩) n c1] 25)).alloc (.cells #[.func (.func kn) #[] lb] 36)).alloc (.cells #[.slice none 0 0, .int .i64 0, .slice none 0 0] 29)) := ⟨_, rfl⟩
  have Z4 : Hid (W4.heap.size = w.heap.size + 1 + 1 + 1 + 1) := by rw [HW4.out]; simp [Hid]
  have B4 : Hid (Below w.heap.size w W4) := by rw [HW4.out]; exact balloc (balloc (balloc (balloc (Below.refl _ _) _) _) _) _
  have X4 : Hid (Fq (W4.alloc (.cells #[.map (some (w.heap.size + 1 + 1 + 1 + 1))] 59)) n (.slice a0 es.length c0) (.slice (some ⟨b1, off1, none⟩) n c1) (.func (.func kn) #[] lb) w.heap.size (w.heap.size + 1) (w.heap.size + 1 + 1) (w.heap.size + 1 + 1 + 1) (w.heap.size + 1 + 1 + 1 + 1) (w.heap.size + 1 + 1 + 1 + 1)) := by
    have g0 : Box2 W4 w.heap.size n (.slice a0 es.length c0) := by
      rw [HW4.out]
      refine (box2_new w n (.slice a0 es.length c0) 24).below ?_
      exact balloc (balloc (balloc (Below.refl _ _) _) _) _
    have g1 : W4.heap[w.heap.size + 1]? = some (.cells #[.slice (some ⟨b1, off1, none⟩) n c1] 25) := by
      rw [HW4.out]
      refine ((balloc (balloc (Below.refl _ _) (.cells #[.func (.func kn) #[] lb] 36)) (.cells #[.slice none 0 0, .int .i64 0, .slice none 0 0] 29)).block (w.heap.size + 1) (by simp)).trans ?_
      exact new_at _ _ (by simp)
    have g2 : W4.heap[w.heap.size + 1 + 1]? = some (.cells #[.func (.func kn) #[] lb] 36) := by
      rw [HW4.out]
      refine ((balloc (Below.refl _ _) (.cells #[.slice none 0 0, .int .i64 0, .slice none 0 0] 29)).block (w.heap.size + 1 + 1) (by simp)).trans ?_
      exact new_at _ _ (by simp)
    have g3 : Rb W4 (w.heap.size + 1 + 1 + 1) (.slice none 0 0) (.int .i64 0) (.slice none 0 0) := by
      rw [HW4.out]; exact ⟨new_at _ _ (by simp)⟩
    have hb : Below W4.heap.size W4 (W4.alloc (.cells #[.map (some (w.heap.size + 1 + 1 + 1 + 1))] 59)) := balloc (Below.refl _ _) _
    refine ⟨kept hb g0.g0, kept hb g0.g1, kept hb ?_, kept hb ?_, ?_, g3.below hb⟩
    · simp [World.cell?, g1]
    · simp [World.cell?, g2]
    · have := cell_new W4 #[.map (some (w.heap.size + 1 + 1 + 1 + 1))] 59 0 _ rfl
      rw [Z4.out] at this
      exact this
  have KEEP : Hid (∀ w1, (W4.alloc (.map #[] 0)).grownBy w1 (some (w.heap.size + 1 + 1 + 1 + 1)) → Below w.heap.size w w1 ∧ w.heap.size + 1 + 1 + 1 + 1 < w1.heap.size ∧ (∀ k, k < w.heap.size + 1 + 1 + 1 + 1 → w1.heap[k]? = W4.heap[k]?) ∧ w1.cell? ⟨w.heap.size + 1, 0, none⟩ = some (.slice (some ⟨b1, off1, none⟩) n c1) ∧ w1.cell? ⟨b1, off1 + s, none⟩ = some (.int .i64 x)) := by
    intro w1 hg
    have z := Z4.out
    have bb : Below w.heap.size w w1 := (balloc B4.out _).grown hg (by simp [z]; omega) (fun k hk => by cases hk; omega)
    have bl : ∀ k, k < w.heap.size + 1 + 1 + 1 + 1 → w1.heap[k]? = W4.heap[k]? := fun k hk => (hg.block k (by simp [z]; omega) (by simp; omega)).trans ((balloc (Below.refl W4.heap.size W4) (.map #[] 0)).block k (by omega))
    refine ⟨bb, ?_, bl, ?_, kept bb d0⟩
    · have := hg.size; simp [z] at this; omega
    · have h1 : w1.cell? ⟨w.heap.size + 1, 0, none⟩ = W4.cell? ⟨w.heap.size + 1, 0, none⟩ := by unfold World.cell?; rw [bl (w.heap.size + 1) (by omega)]
      have h2 : (W4.alloc (.cells #[.map (some (w.heap.size + 1 + 1 + 1 + 1))] 59)).cell? ⟨w.heap.size + 1, 0, none⟩ = W4.cell? ⟨w.heap.size + 1, 0, none⟩ := World.cell?_alloc_lt W4 _ _ (by rw [z]; show w.heap.size + 1 < _; omega)
      rw [h1, ← h2]
      exact X4.out.hh
  have OWN : Hid ((W4.alloc (.map #[] 0)).ownsMap Try.prog 3 (plainElem (H := Unit) Try.prog 3) (w.heap.size + 1 + 1 + 1 + 1) 0 (.map [])) := by
    have := World.ownsMap_made W4 Try.prog 3 (plainElem (H := Unit) Try.prog 3)
    rw [Z4.out] at this; exact this
  have START : Hid (∀ w1, (W4.alloc (.map #[] 0)).grownBy w1 (some (w.heap.size + 1 + 1 + 1 + 1)) → Rb (((w1.alloc (.map #[] 0)).alloc (.cells #[.map (some (w.heap.size + 1 + 1 + 1 + 1))] 59)).alloc (.cells #[.int .i64 (s : Int)] 3)) (w.heap.size + 1 + 1 + 1) (.slice none 0 0) (.int .i64 0) (.slice none 0 0) ∧ Below w.heap.size w (((w1.alloc (.map #[] 0)).alloc (.cells #[.map (some (w.heap.size + 1 + 1 + 1 + 1))] 59)).alloc (.cells #[.int .i64 (s : Int)] 3))) := by
    intro w1 hg
    obtain ⟨bb, hlt, bl, -, -⟩ := KEEP.out w1 hg
    have hb : Below w1.heap.size w1 (((w1.alloc (.map #[] 0)).alloc (.cells #[.map (some (w.heap.size + 1 + 1 + 1 + 1))] 59)).alloc (.cells #[.int .i64 (s : Int)] 3)) := balloc (balloc (balloc (Below.refl _ _) _) _) _
    have z := Z4.out
    refine ⟨⟨?_⟩, bthen bb hb⟩
    rw [hb.block _ (by omega), bl _ (by omega)]
    have h1 := X4.out.rr.at_
    rw [(balloc (Below.refl _ _) _ : Below W4.heap.size W4 _).block _ (by rw [z]; omega)] at h1
    exact h1
  rw [HW4.out] at KEEP OWN START
  clear B4 Z4 X4 HW4 W4 d0
  go_enter Try.func15, Try.ntmps15
  go_wp2_with (first
    | (refine wpList_insert_own _ rfl _ _ _ 59 rfl 3 3 law3 Try.underlying59 _ (w.heap.size + 1 + 1 + 1 + 1) 0 (.map []) rfl OWN.out (by unfold maxLen; omega) _ _ _ rfl rfl hkey _ [] (plainElem_int Try.underlying3 (WalkArith.wf_i64 (by omega))) ?_; intro w1 hown1 hgrow1; have KK : Hid _ := KEEP.out w1 hgrow1; have ST : Hid _ := START.out w1 hgrow1; have hlt1 := KK.out.2.1; have B3 : Hid _ := balloc (balloc (balloc (Below.refl w1.heap.size w1) (.map #[] 0)) (.cells #[.map (some (w.heap.size + 1 + 1 + 1 + 1))] 59)) (.cells #[.int .i64 (s : Int)] 3); have hH := kept B3.out KK.out.2.2.2.1; have d1 := kept B3.out KK.out.2.2.2.2; clear hgrow1)
    | go_in)
  clear hH d1 B3 KK hown1 KEEP START OWN hmm hkey hxf hsi hlt1
  generalize ((w1.alloc (.map #[] 0)).alloc (.cells #[.map (some (w.heap.size + 1 + 1 + 1 + 1))] 59)).alloc (.cells #[.int .i64 (s : Int)] 3) = WL at *
  go_loopw [14] (fun xv wr => xv = .slice none 0 0 ∧ wr = WL) (fun _ _ => 0)
  case atStart => exact ⟨rfl, rfl⟩
  case round =>
    obtain ⟨rfl, rfl⟩ := hrel
    obtain ⟨k0, k1, k2⟩ := ST.out.1.cell
    obtain ⟨z0, z1, z2⟩ := ST.out.1.frozen
    have R2 : Hid _ := ST.out.1.put (.slice none 0 0) (.int .i64 0) (.slice none 0 0)
    have B2 : Hid _ := rb_below ST.out.2 (show w.heap.size ≤ w.heap.size + 1 + 1 + 1 by omega) (.slice none 0 0) (.int .i64 0) (.slice none 0 0)
    go_wp2_with fail
    clear k0 k1 k2 z0 z1 z2
    obtain ⟨k0, k1, k2⟩ := R2.out.cell
    exact bodyPost_ret (v := .tuple #[.agg #[.slice none 0 0, .int .i64 0, .slice none 0 0], .int .i64 5]) (by simp [results, Try.results15, go_sem, k0, k1, k2]) rfl (.inl ⟨sea_dead HF.out, rfl, B2.out⟩)
theorem rsearch_any (n s t : Nat) (es : List E) (h : List Int) (v u : Value) (kn : Nat) (lb : Array Value) (f : Int → Int → Int) (w : World) (hv : SlE w v es) (hu : SlI w u h) (hp : Pn n es) (hs : s < n) (ht : t < n) (hh : h.length = n) (hk : Ky w kn lb f)
    (hrg : ∀ v, v < n → 0 ≤ h.getD v 0 ∧ h.getD v 0 ≤ 1099511627776) (hdn : ∀ s' o, sea n es (gf h) f t (n + 1) (st0 (gf h) s) [] = some (s', o) → ∃ q, o = q ++ [t] ∧ Dn n es s s' q) :
    Calls Try.prog 15 #[.agg #[.int .i64 n, v], .int .i64 s, .int .i64 t, u, .func (.func kn) #[] lb] w fun e w' => Bk9 w n es h s t f e w' := by
  by_cases hf : h.getD s 0 = 1099511627776
  · exact search_far n s t es h v u kn lb f w hv hu hp hs hh hk hf
  · exact search_yes n s t es h v u kn lb f w hv hu hp hs ht hh hk hf hrg hdn
theorem dn_star {N S T : Nat} {es : List E} {h : List Int} {v : Value} (w : World) (hv : SlE w v es) (hp : Pn N es) (hS : S < N) (hT : T < N) (hg : Agr N T es h) :
    ∀ s' o, sea N es (gf h) (fun c g => c + g) T (N + 1) (st0 (gf h) S) [] = some (s', o) → ∃ q, o = q ++ [T] ∧ Dn N es S s' q := by
  obtain ⟨d, hd⟩ := lv_ex (h := gf h) w hp hS
  obtain ⟨D, hD⟩ := d_ex v es w hv hp hS
  rw [key_one]
  intro s' o e
  obtain ⟨q, h1, _, h2⟩ := ((weigh_fin (A := 1) (B := 1) hp hd hD hg hS hT (by omega) (by omega)).1 s' o e).dn
  exact ⟨q, h1, h2⟩
theorem key_swap (num den : Int) : (fun c g : Int => c * den + g * num) = fun c g => den * c + num * g := by
  funext c g
  rw [Int.mul_comm c, Int.mul_comm g]
theorem dn_weigh {N S T : Nat} {es : List E} {h : List Int} {v : Value} {num den : Int} (w : World) (hv : SlE w v es) (hp : Pn N es) (hS : S < N) (hT : T < N) (hg : Agr N T es h) (h1 : 1 ≤ den) (h2 : den ≤ num) :
    ∀ s' o, sea N es (gf h) (fun c g => c * den + g * num) T (N + 1) (st0 (gf h) S) [] = some (s', o) → ∃ q, o = q ++ [T] ∧ Dn N es S s' q := by
  obtain ⟨d, hd⟩ := lv_ex (h := gf h) w hp hS
  obtain ⟨D, hD⟩ := d_ex v es w hv hp hS
  rw [key_swap]
  intro s' o e
  obtain ⟨q, k1, _, k2⟩ := ((weigh_fin (A := den) (B := num) hp hd hD hg hS hT h1 h2).1 s' o e).dn
  exact ⟨q, k1, k2⟩
end Go.Proofs.Ytefikbjjdldomaa
