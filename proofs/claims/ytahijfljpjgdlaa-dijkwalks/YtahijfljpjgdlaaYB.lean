/-
  Contracts: back.
-/
import Derived.Test.YtahijfljpjgdlaaYA
import Derived.Test.YtahijfljpjgdlaaRV
namespace Go.Proofs.Ytahijfljpjgdlaa
open Go.RowKit
open Nm Wm Dm Ym
attribute [local go_sem ↓] Go.wp_at_zero Go.wp_at_succ

theorem lit_is (w : World) (x : Int) (base : Nat) (hb : base ≤ w.heap.size) : Is (w.alloc (.cells #[.int .i64 x] 3)) base (.slice (some ⟨w.heap.size, 0, none⟩) 1 1) [x] :=
  ⟨⟨rfl, .inr ⟨w.heap.size, 1, #[.int .i64 x], rfl, hb, heap_alloc_new w _, Nat.le_refl _, by unfold maxLen; omega, rfl, rfl⟩⟩⟩

set_option maxRecDepth 100000 in
set_option maxHeartbeats 16000000 in
theorem back_any (N s t G : Nat) (v : Value) (es : List E) (d : Nat → Int) (w : World) (hv : SlE w v es) (hp : Pn N es) (hd : IsD N es s d) (hu : Ur w G N d) (ht : t < N) (hf : d t < far) :
    Calls Try.prog 32 #[.agg #[.int .i64 N, v], .slice (some ⟨G, 0, none⟩) N N, .int .i64 s, .int .i64 t] w fun e w' => ∃ g cap k, e = .returned (.slice (some ⟨g, 0, none⟩) (k + 1) cap) ∧ Bk N es s d t k ∧ anc (ah N es d) t k = s ∧ Is w' w.heap.size (.slice (some ⟨g, 0, none⟩) (k + 1) cap) (bp (ah N es d) t k).reverse ∧ Below w.heap.size w w' := by
  obtain ⟨a0, c0, rfl⟩ := hv.val
  have HV : Hid _ := hv
  have HP : Hid _ := hp
  have HU : Hid _ := hu
  have HD : Hid _ := hd
  have HDR : Hid (∀ i, i < N → 0 ≤ d i ∧ d i ≤ 1099511627776) := fun i hi => ⟨hd.lo i hi, hd.hi i hi⟩
  have HK0 : Hid _ := bk_zero (N := N) (es := es) (s := s) ht hf
  have hlen := hp.len
  have hn64 := hp.n64
  obtain ⟨f, hfe⟩ : ∃ f, ah N es d = f := ⟨_, rfl⟩
  have HFE : Hid _ := hfe
  clear hv hp hu hd hf hfe
  go_enter Try.func32, Try.ntmps32
  go_wp2_with fail
  have P0 : Hid _ := box2_new w (N : Int) (.slice a0 es.length c0) 24
  have B0 : Hid (Below w.heap.size w (w.alloc (.cells #[.int .i64 N, .slice a0 es.length c0] 24))) := balloc (Below.refl _ _) _
  have hz0 : (w.alloc (.cells #[.int .i64 N, .slice a0 es.length c0] 24)).heap.size = w.heap.size + 1 := by simp
  generalize w.alloc (.cells #[.int .i64 N, .slice a0 es.length c0] 24) = W0 at *
  have I1 : Hid _ := lit_is W0 (t : Int) W0.heap.size (Nat.le_refl _)
  rw [hz0] at I1
  have B1 : Hid (Below W0.heap.size W0 (W0.alloc (.cells #[.int .i64 t] 3))) := balloc (Below.refl _ _) _
  generalize W0.alloc (.cells #[.int .i64 t] 3) = W1 at *
  go_loopw [9, 10] (fun u z wr => ∃ k g cap : Nat, u = .slice (some ⟨g, 0, none⟩) (k + 1) cap ∧ z = .int .i64 (anc f t k) ∧ Bk N es s d t k ∧ Is wr W0.heap.size (.slice (some ⟨g, 0, none⟩) (k + 1) cap) (bp f t k) ∧ Below W0.heap.size W0 wr) (fun _ z _ => (d (intOf z).toNat).toNat)
  case atStart => exact ⟨0, w.heap.size + 1, 1, rfl, rfl, HK0.out, by rw [hz0]; exact I1.out, B1.out⟩
  case round =>
    clear I1 B1 HK0
    obtain ⟨k, g, cap, rfl, rfl, hbk, his, hb⟩ := hrel
    have HBK : Hid _ := hbk
    have HI : Hid _ := his
    have HB : Hid (Below W0.heap.size W0 wr) := hb
    have hkN := hbk.short HP.out
    have hlt : anc f t k < N := by have := hbk.lt k (Nat.le_refl _); rw [HFE.out] at this; exact this
    clear hbk his hb
    by_cases he : anc f t k = s
    · have HE : Hid _ := he
      have heb : ((anc f t k : Int) != (s : Int)) = false := by simp [he]
      have hie : ((anc f t k : Nat) : Int) = (s : Int) := by rw [he]
      clear he
      have HRW : Hid (Rw wr g cap (bp f t k) ∧ W0.heap.size ≤ g) := by
        rcases HI.out.rw with ⟨h1, _⟩ | ⟨g', cap', h1, h2, h3⟩
        · cases h1
        · simp only [Value.slice.injEq, Option.some.injEq, Addr.mk.injEq] at h1
          obtain ⟨⟨rfl, -, -⟩, -, rfl⟩ := h1
          exact ⟨h3, h2⟩
      have hr := reverse_any g cap (bp f t k) wr HRW.out.1 (by rw [bp_length]; omega)
      rw [bp_length] at hr
      have HR : Hid _ := fun (_ : Unit) => hr
      clear hr
      go_wp2_with fail
      refine (HR.out ()).mono ?_
      rintro e w2 ⟨rfl, r2, gr2⟩
      have R2 : Hid _ := r2
      have B2 : Hid (Below W0.heap.size W0 w2) := below_grown HB.out gr2 HRW.out.2 HB.out.size
      clear r2 gr2
      go_wp2_with fail
      go_ret
      refine ⟨g, cap, k, rfl, HBK.out, by rw [HFE.out]; exact HE.out, ?_, bthen B0.out B2.out⟩
      have := R2.out.is (base := w.heap.size) (by have := HRW.out.2; omega)
      rw [List.length_reverse, bp_length] at this
      rw [HFE.out]
      exact this
    · have HBN : Hid (Bk N es s d t (k + 1)) := bk_next HP.out HD.out HBK.out (by rw [HFE.out]; exact he)
      have heb : ((anc f t k : Int) != (s : Int)) = true := by simp; omega
      have hne : ¬ ((anc f t k : Nat) : Int) = (s : Int) := by omega
      have HDN : Hid (d (anc f t (k + 1)) < d (anc f t k) ∧ 0 ≤ d (anc f t (k + 1))) := by
        have h1 := HBN.out.down HP.out k (k + 1) (by omega) (by omega)
        have h2 := HBN.out.lt (k + 1) (by omega)
        rw [HFE.out] at h1 h2
        exact ⟨h1, (HDR.out _ h2).1⟩
      have HA : Hid _ := fun (_ : Unit) => ahead_any N (anc f t k) G (.slice a0 es.length c0) es d wr ((HV.out.below B0.out).below HB.out) HP.out HDR.out ((HU.out.below B0.out).below HB.out) hlt
      rw [HFE.out] at HA
      have HNX : Hid (anc f t (k + 1) = f (anc f t k)) := rfl
      rw [← HNX.out] at HA
      have HBP : Hid _ := bp_next f t k
      have HBL : Hid _ := bp_length f t k
      clear he
      obtain ⟨p0, p1⟩ := P0.out.below HB.out
      obtain ⟨y, hy⟩ : ∃ y, anc f t (k + 1) = y := ⟨_, rfl⟩
      have HYE : Hid _ := hy
      rw [hy] at HA HBP HDN
      clear hy
      go_wp2_with fail
      refine (HA.out ()).mono ?_
      rintro e w2 ⟨rfl, b2⟩
      have B2 : Hid (Below W0.heap.size W0 w2) := bthen HB.out b2
      have hown := (HI.out.below b2).own
      rw [HBL.out] at hown
      have hwz := B2.out.size
      obtain ⟨i0, hi0, hz0, hz1, hz2⟩ := info3_parts
      have HNW : Hid ((w2.alloc (.cells #[.int .i64 y] 3)).heap[w2.heap.size]? = some (.cells #[.int .i64 y] 3)) := heap_alloc_new w2 _
      clear b2 p0 p1
      go_wp2_with (first
        | (at_builtin; refine wpList_append_lies _ rfl _ _ _ rfl W0.heap.size 3 i0 _ 1 8 Try.underlying27 hi0 hz0 hz1 hz2 rfl (by omega) (.slice (some ⟨g, 0, none⟩) (k + 1) cap) (k + 1) ((bp f t k).map (fun z => .int .i64 z)) rfl (hown.alloc _) ⟨w2.heap.size, 0, none⟩ 1 1 [.int .i64 y] rfl rfl (World.news_of_block (cs := #[.int .i64 y]) (t := 3) (fr := (0, 0)) HNW.out) (by simp [Value.oneCell']) (by omega) (by unfold maxLen; omega) (by omega) (by simp; omega) (w2.heap.size + 1) (by simp) ?_; intro gg cap' w3 hown3 hgrow hat hlt3; have B3 : Hid (Below W0.heap.size W0 w3) := (by exact (balloc B2.out _).grown hgrow (by simp; omega) (fun k hk => (ownBlock_lt hown k hk).1)); clear hgrow hat)
        | go_in)
      go_roundw
      case rel => exact ⟨k + 1, gg, cap', rfl, by rw [HYE.out], HBN.out, by rw [HBP.out]; exact Is.next rfl HBL.out.symm hown3, B3.out⟩
      case measure => have := HDN.out; simp [intOf]; omega
end Go.Proofs.Ytahijfljpjgdlaa
