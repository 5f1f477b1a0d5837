/-
  Contracts: the document's Start, Spread and Dist.
-/
import Derived.Test.YtkbebdanpgaehaaRP
import Derived.Test.YtkbebdanpgaehaaRV
namespace Go.Proofs.Ytkbebdanpgaehaa
open Go.RowKit
open Nm Wm Dm
attribute [local go_sem ↓] Go.wp_at_zero Go.wp_at_succ

theorem made_ur (n : Nat) (hn : n ≤ 64) (w : World) : (Instr.makeSlice 25 (.int .i64 n) (.int .i64 n)).run Try.prog w = .ok (.slice (some ⟨w.heap.size, 0, none⟩) n n) (w.alloc (.cells (Array.ofFn (n := n) fun _ => .int .i64 0) 3)) := by
  rw [made_run n hn w]
  have e : (List.replicate n (Value.int .i64 0)).toArray = Array.ofFn (n := n) fun _ => Value.int .i64 0 := by
    apply Array.ext
    · simp
    · intro i h1 h2
      simp
  rw [e]
theorem lst_set {n : Nat} {d : Nat → Int} {y : Nat} {x : Int} : (lst n d).set y x = lst n (upd d y x) := by
  unfold lst
  apply List.ext_getElem
  · simp
  · intro i h1 h2
    rw [List.getElem_set]
    simp at h1 h2 ⊢
    by_cases e : y = i
    · subst e; simp [upd_same]
    · simp [e, upd_other d x (fun e' => e e'.symm)]
theorem Ur.rw {w : World} {g n : Nat} {d : Nat → Int} (h : Ur w g n d) (hn : n ≤ 64) : Rw w g n (lst n d) := by
  refine ⟨_, h.block, by rw [lst_length]; exact Nat.le_refl _, by unfold maxLen; omega, by simp, ?_⟩
  rw [lst_length]
  apply List.ext_getElem
  · simp [lst]
  · intro i h1 h2
    simp [lst]

/-- The first k are far. -/
def fil (k : Nat) : Nat → Int := fun i => if i < k then 1099511627776 else 0
theorem fil_next (k x : Nat) : upd (fil k) k 1099511627776 x = fil (k + 1) x := by
  unfold upd fil
  by_cases e : x = k
  · rw [if_pos e, if_pos (by omega)]
  · rw [if_neg e]
    by_cases h : x < k
    · rw [if_pos h, if_pos (by omega)]
    · rw [if_neg h, if_neg (by omega)]
theorem fil_end {N s x : Nat} (hx : x < N) : upd (fil N) s 0 x = Dm.start s x := by
  unfold upd Dm.start fil
  by_cases e : x = s
  · rw [if_pos e, if_pos e]
  · rw [if_neg e, if_neg e, if_pos hx]

set_option maxRecDepth 100000 in
set_option maxHeartbeats 4000000 in
theorem rstart_any (N s : Nat) (w : World) (hn : N ≤ 64) (hs : s < N) :
    Calls Try.prog 56 #[.int .i64 N, .int .i64 s] w fun e w' => e = .returned (.slice (some ⟨w.heap.size, 0, none⟩) N N) ∧ Ur w' w.heap.size N (Dm.start s) ∧ Below w.heap.size w w' := by
  have hmk := made_ur N hn
  have hsN : (s : Int) < (N : Int) := by omega
  go_enter Try.func56, Try.ntmps56
  go_wp2_with fail
  have U0 : Hid (Ur (w.alloc (.cells (Array.ofFn (n := N) fun _ => .int .i64 0) 3)) w.heap.size N (fil 0)) := ⟨by rw [heap_alloc_new]; rfl⟩
  have B0 : Hid (Below w.heap.size w (w.alloc (.cells (Array.ofFn (n := N) fun _ => .int .i64 0) 3))) := balloc (Below.refl _ _) _
  generalize w.alloc (.cells (Array.ofFn (n := N) fun _ => .int .i64 0) 3) = W0 at *
  clear hmk
  go_loopw [11] (fun z wr => ∃ k : Nat, z = .int .i64 k ∧ k ≤ N ∧ Ur wr w.heap.size N (fil k) ∧ Below w.heap.size w wr) (fun z _ => N - (intOf z).toNat)
  case atStart => exact ⟨0, rfl, Nat.zero_le _, U0.out, B0.out⟩
  case round =>
    clear U0 B0
    obtain ⟨k, rfl, hk, hu, hb⟩ := hrel
    have HB : Hid (Below w.heap.size w wr) := hb
    by_cases hlt : k < N
    · have hki : (k : Int) < (N : Int) := by omega
      obtain ⟨c0, f0⟩ := hu.cell k hlt
      have U1 : Hid _ := hu.put k 1099511627776
      clear hu hb
      go_wp2_with fail
      go_roundw
      case rel =>
        exact ⟨k + 1, by go_num, by omega, U1.out.congr (fun x _ => fil_next k x), Below.setCell HB.out (by simp) _⟩
      case measure => simp [intOf]; omega
    · have hke : k = N := by omega
      subst hke
      obtain ⟨c0, f0⟩ := hu.cell s hs
      have U1 : Hid _ := hu.put s 0
      clear hu hb
      go_wp2_with fail
      go_ret
      exact ⟨rfl, U1.out.congr (fun x hx => fil_end hx), Below.setCell HB.out (by simp) _⟩

set_option maxRecDepth 100000 in
set_option maxHeartbeats 16000000 in
theorem spread_any (N m G cp : Nat) (v : Value) (es : List E) (d0 : Nat → Int) (w : World) (hv : SlE w v es) (hp : Pn N es) (hm : m ≤ 64) (hr : Rw w G cp (lst N d0)) (hd : ∀ v, v < N → 0 ≤ d0 v ∧ d0 v ≤ far) :
    Calls Try.prog 55 #[.agg #[.int .i64 N, v], .slice (some ⟨G, 0, none⟩) N cp, .int .i64 m] w fun e w' => ∃ b cap, e = .returned (.slice (some ⟨b, 0, none⟩) N cap) ∧ Rw w' b cap (lst N (spr es d0 m)) ∧ Below w.heap.size w w' := by
  obtain ⟨a0, c0, rfl⟩ := hv.val
  have HV : Hid _ := hv
  have HP : Hid _ := hp
  have HR : Hid _ := hr
  have HD : Hid _ := spr_range hp hd
  have hn64 := hp.n64
  have hlen := hp.len
  clear hv hp hr hd
  go_enter Try.func55, Try.ntmps55
  go_wp2_with fail
  have P0 : Hid _ := box2_new w (N : Int) (.slice a0 es.length c0) 24
  have B0 : Hid (Below w.heap.size w (w.alloc (.cells #[.int .i64 N, .slice a0 es.length c0] 24))) := balloc (Below.refl _ _) _
  generalize w.alloc (.cells #[.int .i64 N, .slice a0 es.length c0] 24) = W0 at *
  have R0 : Hid _ := HR.out.below B0.out
  go_loopw [11, 1] (fun z dv wr => ∃ k b cap : Nat, z = .int .i64 k ∧ k ≤ m ∧ dv = .slice (some ⟨b, 0, none⟩) N cap ∧ Rw wr b cap (lst N (spr es d0 k)) ∧ Below W0.heap.size W0 wr) (fun z _ _ => m - (intOf z).toNat)
  case atStart => exact ⟨0, G, cp, rfl, Nat.zero_le _, rfl, R0.out, Below.refl _ _⟩
  case round =>
    clear R0 HR
    obtain ⟨k, b, cap, rfl, hk, rfl, hrw, hb⟩ := hrel
    have RW : Hid _ := hrw
    have HB : Hid (Below W0.heap.size W0 wr) := hb
    clear hrw hb
    obtain ⟨wo, hwo⟩ : ∃ wo, wo = wr := ⟨_, rfl⟩
    subst hwo
    by_cases hlt : k < m
    · have hki : (k : Int) < (m : Int) := by omega
      have HDK : Hid _ := HD.out k
      have HSP : Hid (spr es d0 (k + 1) = nx (spr es d0 k) es es.length) := rfl
      generalize spr es d0 k = D at *
      obtain ⟨l, hl⟩ : ∃ l, lst N D = l := ⟨_, rfl⟩
      have hll : l.length = N := by rw [← hl]; exact lst_length _ _
      have HL : Hid _ := hl
      rw [hl] at RW
      go_wp2_with fail
      have S1 : Hid (SlI wo (.slice (some ⟨b, 0, none⟩) N cap) l) := by have := (RW.out.is (base := 0) (by omega)).sl; rw [hll] at this; exact this
      refine (iclone_any _ l wo S1.out (by omega)).mono ?_
      rintro e w3 ⟨u3, rfl, i3, b3⟩
      rcases i3.rw with ⟨_, hnil⟩ | ⟨g, cg, rfl, hg, rw3⟩
      · exfalso; have := HP.out.n1; rw [hnil] at hll; simp at hll; omega
      rw [hll]
      have R3 : Hid (Rw w3 g cg (lst N (nx D es 0))) := by rw [← HL.out] at rw3; exact rw3
      have B3 : Hid (Below wo.heap.size wo w3) := b3
      have HGW : Hid (wo.heap.size ≤ g) := hg
      obtain ⟨p0, p1⟩ := (P0.out.below HB.out).below b3
      clear i3 b3 hg rw3 hl
      go_wp2_with fail
      clear p0 p1
      go_loopw [18] (fun z wx => ∃ i : Nat, z = .int .i64 i ∧ i ≤ es.length ∧ Rw wx g cg (lst N (nx D es i)) ∧ Below wo.heap.size wo wx) (fun z _ => es.length - (intOf z).toNat)
      case atStart => exact ⟨0, rfl, Nat.zero_le _, R3.out, B3.out⟩
      case round =>
        clear R3 B3
        obtain ⟨i, rfl, hi, hrx, hbx⟩ := hrel
        have RX : Hid _ := hrx
        have BX : Hid (Below wo.heap.size wo wr) := hbx
        clear hrx hbx
        by_cases hil : i < es.length
        · have hii : (i : Int) < (es.length : Int) := by omega
          obtain ⟨bb, off, ce, hveq, hc⟩ := (((HV.out.below B0.out).below HB.out).below BX.out).some' (by omega)
          simp only [Value.slice.injEq] at hveq
          obtain ⟨rfl, -, rfl⟩ := hveq
          obtain ⟨e0, e1, e2⟩ := hc i hil
          clear hc
          have hok := HP.out.ok _ (mem_at hil)
          have HNY : Hid _ := @nx_yes D es i
          have HNN : Hid _ := @nx_no D es i
          have HRG : Hid _ := nx_range HP.out HDK.out i (by omega)
          obtain ⟨p, hpe⟩ : ∃ p, at3 es i = p := ⟨_, rfl⟩
          rw [hpe] at e0 e1 e2 hok HNY HNN
          clear hpe
          obtain ⟨x, y, c⟩ := p
          simp only at e0 e1 e2 hok HNY HNN
          obtain ⟨ok1, ok2, ok3, ok4, ok5, ok6⟩ := hok
          obtain ⟨x, rfl⟩ := Int.eq_ofNat_of_zero_le ok1
          obtain ⟨y, rfl⟩ := Int.eq_ofNat_of_zero_le ok3
          simp only [Int.toNat_natCast] at HNY HNN
          have hxN : x < N := by omega
          have hyN : y < N := by omega
          have hD := HDK.out x hxN
          have hR := HRG.out y hyN
          have hF : far = 1099511627776 := rfl
          rw [hF] at hD hR HNY HNN
          clear hF
          have c1 := kept BX.out (RW.out.cell x (by omega)).1
          rw [← HL.out, lst_at hxN] at c1
          obtain ⟨c2, f2⟩ := RX.out.cell y (by rw [lst_length]; exact hyN)
          rw [lst_at hyN] at c2
          have HPT : Hid _ := fun q => RX.out.put y q
          generalize nx D es i = E at *
          have hG : g ≠ wr.heap.size := by have := RX.out.lt; omega
          have k1 := kept_alloc (x := .cells #[.int .i64 x, .int .i64 y, .int .i64 c] 54) c1
          have k2 := kept_alloc (x := .cells #[.int .i64 x, .int .i64 y, .int .i64 c] 54) c2
          have kf : (wr.alloc (.cells #[.int .i64 x, .int .i64 y, .int .i64 c] 54)).frozen? ⟨g, y, none⟩ = false := by rw [frozen?_alloc_cells]; exact f2
          obtain ⟨y0, y1, y2⟩ := box3_new wr x y (.int .i64 c) 54
          have YB : Hid (Below wo.heap.size wo (wr.alloc (.cells #[.int .i64 x, .int .i64 y, .int .i64 c] 54))) := balloc BX.out _
          have RY : Hid _ := RX.out.below (balloc (Below.refl _ _) (.cells #[.int .i64 x, .int .i64 y, .int .i64 c] 54))
          have HGO : Hid (wo.heap.size ≤ g) := HGW.out
          by_cases hDf : D x < 1099511627776
          · have HE : Hid _ := HNY.out hDf
            go_wp2_with fail
            generalize wr.alloc (.cells #[.int .i64 x, .int .i64 y, .int .i64 c] 54) = W4 at *
            clear e0 e1 e2 c1 c2 f2 HNY HNN HPT RX BX
            have HPT : Hid _ := fun q => RY.out.put y q
            rcases (show E y < D x + c ∨ D x + c < E y ∨ E y = D x + c by omega) with h | h | h
            · have HM : Hid (min (E y) (D x + c) = E y) := by unfold Hid; omega
              rw [HM.out] at HE
              generalize D x = dx at *
              generalize hEy : E y = ey at *
              clear hEy
              go_region
              go_wp2_with fail
              go_roundw
              case rel => exact ⟨i + 1, by go_num, by omega, by rw [HE.out, ← lst_set]; exact (HPT.out _).frame rfl, Below.drew (Below.setCell YB.out (by have := HGO.out; simp; omega) _)⟩
              case measure => simp [intOf]; omega
            · have HM : Hid (min (E y) (D x + c) = D x + c) := by unfold Hid; omega
              rw [HM.out] at HE
              generalize D x = dx at *
              generalize hEy : E y = ey at *
              clear hEy
              go_region
              go_wp2_with fail
              go_roundw
              case rel => exact ⟨i + 1, by go_num, by omega, by rw [HE.out, ← lst_set]; exact (HPT.out _).frame rfl, Below.drew (Below.setCell YB.out (by have := HGO.out; simp; omega) _)⟩
              case measure => simp [intOf]; omega
            · have HM : Hid (min (E y) (D x + c) = D x + c) := by unfold Hid; omega
              rw [HM.out] at HE
              rw [h] at k2
              generalize D x = dx at *
              clear h
              go_region
              go_wp2_with fail
              go_roundw
              case rel => exact ⟨i + 1, by go_num, by omega, by rw [HE.out, ← lst_set]; exact (HPT.out _).frame rfl, Below.drew (Below.setCell YB.out (by have := HGO.out; simp; omega) _)⟩
              case measure => simp [intOf]; omega
          · have HE : Hid _ := HNN.out hDf
            clear HNY HNN
            go_wp2_with fail
            go_roundw
            case rel => exact ⟨i + 1, by go_num, by omega, by rw [HE.out]; exact RY.out, YB.out⟩
            case measure => simp [intOf]; omega
        · have hie : i = es.length := by omega
          subst hie
          have RX2 : Hid (Rw wr g cg (lst N (spr es d0 (k + 1)))) := by rw [HSP.out]; exact RX.out
          go_wp2_with fail
          go_roundw
          case rel => exact ⟨k + 1, g, cg, by go_num, by omega, rfl, RX2.out, bthen HB.out BX.out⟩
          case measure => simp [intOf]; omega
    · have hke : k = m := by omega
      subst hke
      go_wp2_with fail
      go_ret
      exact ⟨b, cap, rfl, RW.out, bthen B0.out HB.out⟩

set_option maxRecDepth 100000 in
set_option maxHeartbeats 16000000 in
theorem rdist_any (N s : Nat) (v : Value) (es : List E) (w : World) (hv : SlE w v es) (hp : Pn N es) (hs : s < N) :
    Calls Try.prog 35 #[.agg #[.int .i64 N, v], .int .i64 s] w fun e w' => ∃ b cap, e = .returned (.slice (some ⟨b, 0, none⟩) N cap) ∧ Rw w' b cap (lst N (spr es (Dm.start s) (N - 1))) ∧ Below w.heap.size w w' := by
  obtain ⟨a0, c0, rfl⟩ := hv.val
  have HV : Hid _ := hv
  have HP : Hid _ := hp
  have hn1 := hp.n1
  have hn64 := hp.n64
  clear hv hp
  obtain ⟨m, hm⟩ : ∃ m : Nat, m = N - 1 := ⟨_, rfl⟩
  rw [← hm]
  have hmi : (N : Int) - 1 = (m : Int) := by omega
  have hmw : IntKind.i64.wrap (m : Int) = (m : Int) := by rw [IntKind.wrap_i64]; omega
  have hm64 : m ≤ 64 := by omega
  clear hm
  go_enter Try.func35, Try.ntmps35
  go_wp2_with fail
  have P0 : Hid _ := box2_new w (N : Int) (.slice a0 es.length c0) 24
  have B0 : Hid (Below w.heap.size w (w.alloc (.cells #[.int .i64 N, .slice a0 es.length c0] 24))) := balloc (Below.refl _ _) _
  generalize w.alloc (.cells #[.int .i64 N, .slice a0 es.length c0] 24) = W0 at *
  obtain ⟨p0, p1⟩ := P0.out
  go_region_held3 (fun w' => w'.cell? ⟨w.heap.size, 0, none⟩ = some (.int .i64 N) ∧ w'.cell? ⟨w.heap.size, 1, none⟩ = some (.slice a0 es.length c0)) (first | go_keep | exact ⟨kept BB.out P0.out.g0, kept BB.out P0.out.g1⟩)
    (first
     | (go_at_call 56; refine (rstart_any N s _ hn64 hs).mono ?_; rintro e w2 ⟨rfl, ur2, b2⟩; have BB : Hid (Below W0.heap.size W0 w2) := (by exact bthen (Below.drew (Below.refl _ _)) b2); have U2 : Hid _ := ur2; clear ur2 b2)
     | (go_at_call 55; refine (spread_any N m _ N _ es (Dm.start s) w2 ((HV.out.below B0.out).below BB.out) HP.out hm64 (U2.out.rw hn64) (start_range N s)).mono ?_; rintro e w3 ⟨b3, cp3, rfl, r3, bb3⟩; have R3 : Hid _ := r3; have BB : Hid (Below W0.heap.size W0 w3) := (by exact bthen BB.out bb3); clear r3 bb3)
     | fail)
  all_goals
    go_wp2_with fail
    go_ret
    exact ⟨b3, cp3, rfl, R3.out, bthen B0.out BB.out⟩
end Go.Proofs.Ytkbebdanpgaehaa
