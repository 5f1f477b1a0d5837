/-
  Contract: the document's reading of a text.
-/
import Derived.Test.YteediekpljjbpaaDoorRm
import Derived.Test.YteediekpljjbpaaDoorRd
import Derived.Test.YteediekpljjbpaaDoorPB
import Derived.Test.YteediekpljjbpaaDoorDB
import Derived.Test.YteediekpljjbpaaDoorSS
namespace Go.Proofs.YteediekpljjbpaaDoor
open Go.RowKit
open Gm Pm

theorem byte_back (b : UInt8) : (((b.toNat : Nat) : Int)).toNat.toUInt8 = b := by
  rw [Int.toNat_natCast]; exact UInt8.ofNat_toNat
theorem index_at (l : List UInt8) (k : Nat) (hk : k < l.length) (w : World) : (Instr.index 9 (.string ⟨l.toArray⟩) (.int .i64 (k : Int))).run Tryd.prog w = .ok (.int .u8 ((l.getD k 0).toNat : Int)) w := by
  have hsz : (⟨l.toArray⟩ : ByteArray).size = l.length := by show l.toArray.size = _; simp
  rw [run_index_string w 9 _ _ _ Tryd.underlying9, dif_pos (by rw [hsz]; omega)]
  have e : ((⟨l.toArray⟩ : ByteArray)[((k : Int)).toNat]'(by rw [hsz]; omega)) = l.getD k 0 := by
    show l.toArray[((k : Int)).toNat]'(by simp; omega) = _
    simp [hk]
  rw [e]
/-- strings.Split at a byte 10. -/
theorem split_at (l : List UInt8) (m : Int) (w : World) (hl : l.length < 4294967281) (hm : w.cell? ⟨1, 0, none⟩ = some (.int .i64 m)) :
    Calls Tryd.prog 14 #[.string ⟨l.toArray⟩, .string { data := #[10] }] w fun e w' => ∃ (s0 : ByteArray) (rest : List Value), e = .returned (.slice (some ⟨w.heap.size, 0, none⟩) (nls l + 1) (nls l + 1)) ∧ w' = w.alloc (.cells (Value.string s0 :: rest).toArray 9) ∧ (s0.size : Int) ≤ l.length ∧ ∀ i : Nat, Lib.indexByte l 10 = i → s0.size = i := by
  have hc : Lib.countB ⟨l.toArray⟩ { data := #[10] } = nls l := count_nls l.length l (Nat.le_refl _)
  have hsz : (⟨l.toArray⟩ : ByteArray).size = l.length := by show l.toArray.size = _; simp
  have c := Tryd.strings_Split ⟨l.toArray⟩ { data := #[10] } m w (by rw [hsz]; exact hl) hm (by decide)
  rw [hc] at c
  refine c.mono ?_
  rintro e w' ⟨rfl, rfl⟩
  rcases ix_split l with ⟨h1, h2⟩ | ⟨a, r, h0, h2, h3⟩
  · rw [nls_row h2]
    refine ⟨⟨l.toArray⟩, [], rfl, rfl, by rw [hsz]; omega, fun i hi => ?_⟩
    rw [h1] at hi
    omega
  · have hn : nls l = nls r + 1 := by rw [h0, nls_append, nls_row h3]; simp [nls]
    have hx : Lib.indexB ⟨l.toArray⟩ { data := #[10] } = (a.length : Int) := by
      show Lib.index l [10] = _
      rw [index_ix, h2]
    have hal : a.length ≤ l.length := by rw [h0]; simp
    have hes : ((⟨l.toArray⟩ : ByteArray).extract 0 (a.length + 0)).size = a.length := by rw [ByteArray.size_extract, hsz]; omega
    rw [hn, Lib.splitB_hit _ _ _ _ _ hx]
    refine ⟨_, _, rfl, rfl, by rw [hes]; omega, fun i hi => ?_⟩
    rw [hes]
    omega

set_option maxRecDepth 100000 in
set_option maxHeartbeats 8000000 in
theorem rread_any (l : List UInt8) (m : Int) (w : World) (hl : l.length ≤ 1048576) (hm : w.cell? ⟨1, 0, none⟩ = some (.int .i64 m)) (P : Ending → World → Prop)
    (hyes : ∀ W H cs v w', Gd W H cs → l = txt W cs → Is w' w.heap.size v cs → Below w.heap.size w w' → P (.returned (.tuple #[.agg #[.int .i64 W, .int .i64 H, v], .int .i64 0])) w')
    (hno : noTxt l → ∀ w', Below w.heap.size w w' → P (.returned (.tuple #[.agg #[.int .i64 0, .int .i64 0, .slice none 0 0], .int .i64 9])) w') :
    Calls Tryd.prog 6 #[.string ⟨l.toArray⟩] w P := by
  have HY : Hid _ := hyes
  have HN : Hid _ := hno
  have HM : Hid _ := hm
  clear hyes hno hm
  go_enter Tryd.func6, Tryd.ntmps6
  go_wp2_with fail
  have X0 : Hid _ := bx_new w (.int .i64 0) (.int .i64 0) (.slice none 0 0)
  have B0 : Hid (Below w.heap.size w (w.alloc (.cells #[.int .i64 0, .int .i64 0, .slice none 0 0] 24))) := balloc (Below.refl _ _) _
  have hz0 : (w.alloc (.cells #[.int .i64 0, .int .i64 0, .slice none 0 0] 24)).heap.size = w.heap.size + 1 := by simp
  generalize w.alloc (.cells #[.int .i64 0, .int .i64 0, .slice none 0 0] 24) = W0 at *
  refine (split_at l m W0 (by omega) (kept B0.out HM.out)).mono ?_
  rintro e w1 ⟨s0, rest, rfl, rfl, h0, h1⟩
  have HS0 : Hid _ := h1
  rw [hz0]
  clear h1
  have c0 : (W0.alloc (.cells (Value.string s0 :: rest).toArray 9)).cell? ⟨w.heap.size + 1, 0, none⟩ = some (.string s0) := by
    rw [← hz0]; exact cell_new W0 _ _ 0 _ (by simp)
  have X1 : Hid _ := X0.out.below (balloc (Below.refl _ _) (.cells (Value.string s0 :: rest).toArray 9))
  have B1 : Hid (Below w.heap.size w (W0.alloc (.cells (Value.string s0 :: rest).toArray 9))) := balloc B0.out _
  have hz1 : (W0.alloc (.cells (Value.string s0 :: rest).toArray 9)).heap.size = w.heap.size + 1 + 1 := by simp [hz0]
  generalize W0.alloc (.cells (Value.string s0 :: rest).toArray 9) = W1 at *
  clear hz0 X0 B0
  have hnl : nls l ≤ l.length := by unfold nls; exact List.countP_le_length
  have hn0 : (0 : Int) < (nls l : Int) + 1 := by omega
  go_wp2_with fail
  clear c0
  have Y2 : Hid _ := bx_new W1 (.int .i64 (s0.size : Int)) (.int .i64 (nls l : Int)) (.slice none 0 0)
  rw [hz1] at Y2
  have X2 : Hid _ := X1.out.below (balloc (Below.refl _ _) (.cells #[.int .i64 (s0.size : Int), .int .i64 (nls l : Int), .slice none 0 0] 24))
  have B2 : Hid (Below w.heap.size w (W1.alloc (.cells #[.int .i64 (s0.size : Int), .int .i64 (nls l : Int), .slice none 0 0] 24))) := balloc B1.out _
  have hz2 : (W1.alloc (.cells #[.int .i64 (s0.size : Int), .int .i64 (nls l : Int), .slice none 0 0] 24)).heap.size = w.heap.size + 1 + 1 + 1 := by simp [hz1]
  generalize W1.alloc (.cells #[.int .i64 (s0.size : Int), .int .i64 (nls l : Int), .slice none 0 0] 24) = W2 at *
  clear X1 B1 hz1
  have HZ2 : Hid _ := hz2
  clear hz2
  go_loopw [20] (fun z wr => ∃ (k : Nat) (out : Value), z = .int .i64 k ∧ k ≤ l.length ∧ Bx wr w.heap.size (.int .i64 0) (.int .i64 0) (.slice none 0 0) ∧ Bx wr (w.heap.size + 1 + 1) (.int .i64 (s0.size : Int)) (.int .i64 (nls l : Int)) out ∧ Is wr (w.heap.size + 1 + 1 + 1) out (kcs (l.take k)) ∧ w.heap.size + 1 + 1 + 1 ≤ wr.heap.size ∧ Below w.heap.size w wr) (fun z _ => l.length - (intOf z).toNat)
  case atStart => exact ⟨0, _, rfl, Nat.zero_le _, X2.out, Y2.out, Is.nil _ _, by have := HZ2.out; omega, B2.out⟩
  case round =>
    obtain ⟨k, out, rfl, hk, y0, y1, o, hz, hb⟩ := hrel
    obtain ⟨ao, co, rfl⟩ := o.sl.val
    clear X2 Y2 B2 HZ2
    have Y0 : Hid _ := y0
    have Y1 : Hid _ := y1
    have O : Hid _ := o
    have HZ : Hid _ := hz
    have HB : Hid (Below w.heap.size w wr) := hb
    clear y0 y1 o hz hb
    by_cases hlt : k < l.length
    · have hki : (k : Int) < (l.length : Int) := by omega
      have hidx := index_at l k hlt
      have HK : Hid _ := kcs_next hlt
      have hgl : (kcs (l.take k)).length ≤ 1048576 := by
        have h1 := kcs_length (l.take k)
        have h2 : (l.take k).length ≤ k := by simp; omega
        omega
      obtain ⟨b, hb⟩ : ∃ b, l.getD k 0 = b := ⟨_, rfl⟩
      rw [hb] at hidx HK
      clear hb
      obtain ⟨p0, p1, p2⟩ := Y1.out.cell
      obtain ⟨f0, f1, f2⟩ := Y1.out.frozen
      go_wp2_with fail
      refine (sIndex_any { data := #[35, 49, 50, 51, 52, 53, 54, 55, 56, 57] } (b.toNat : Int) wr).mono ?_
      rintro e w3 ⟨rfl, rfl⟩
      rw [byte_back b]
      have HKC : Hid (kc b = if 0 ≤ Lib.indexByte signL b then some (Lib.indexByte signL b) else none) := rfl
      obtain ⟨x, hx⟩ : ∃ x, Lib.indexByte signL b = x := ⟨_, rfl⟩
      have hge := Lib.indexByte_ge signL b
      rw [hx] at HKC hge
      have hx2 : Lib.indexByte (ByteArray.data { data := #[35, 49, 50, 51, 52, 53, 54, 55, 56, 57] }).toList b = x := hx
      rw [hx2]
      clear hx hx2 hidx
      by_cases hx0 : 0 ≤ x
      · have HKY : Hid (kc b = some x) := by unfold Hid; rw [HKC.out, if_pos hx0]
        obtain ⟨i0, hi0, hz0, hz1, hz2⟩ := info3_parts
        have hown := O.out.own
        have hzz := HZ.out
        go_wp2_with (at_builtin; refine wpList_append_lies _ rfl _ _ _ rfl (w.heap.size + 1 + 1 + 1) 3 i0 _ 1 8 Tryd.underlying22 hi0 hz0 hz1 hz2 rfl (by omega) (.slice ao (kcs (l.take k)).length co) (kcs (l.take k)).length ((kcs (l.take k)).map (fun z => .int .i64 z)) rfl (hown.alloc _) ⟨w3.heap.size, 0, none⟩ 1 1 [.int .i64 x] rfl rfl (World.news_of_block (cs := #[.int .i64 x]) (t := 3) (fr := (0, 0)) (heap_alloc_new w3 _)) (by simp [Value.oneCell']) (by omega) (by unfold maxLen; omega) (by omega) (by simp; omega) (w3.heap.size + 1) (by simp) ?_; intro gg cap' w4 hown4 hgrow hat hlt4; have FAR : Hid (∀ g, g < w.heap.size + 1 + 1 + 1 → w4.heap[g]? = w3.heap[g]?) := (by exact fun g hg => (hgrow.block g (by simp; omega) (fun e => by have := (ownBlock_lt hown g e.symm).1; omega)).trans (Below.heap_alloc _ _ _ (by omega))); have B4 : Hid (Below w.heap.size w w4) := (by exact (HB.out.alloc HB.out.size _).grown hgrow (by simp; have := HB.out.size; omega) (fun k hk => by have := (ownBlock_lt hown k hk).1; omega)); have HZ4 : Hid (w.heap.size + 1 + 1 + 1 ≤ w4.heap.size) := (by have := hgrow.size; simp at this; unfold Hid; omega); have V0 : Hid _ := Y0.out.frame (FAR.out _ (by omega)); have V1 : Hid _ := Y1.out.frame (FAR.out _ (by omega)); clear hgrow hat p0 p1 p2 f0 f1 f2; obtain ⟨p0, p1, p2⟩ := V1.out.cell; obtain ⟨f0, f1, f2⟩ := V1.out.frozen)
        go_roundw
        case rel =>
          refine ⟨k + 1, .slice (some ⟨gg, 0, none⟩) ((kcs (l.take k)).length + 1) cap', by go_num, by omega, V0.out.other (by omega), V1.out.put2 _, ?_, by have := HZ4.out; simp [World.setCell]; omega, Below.setCell B4.out (by simp; omega) _⟩
          exact Is.other (Is.next (by rw [HK.out, HKY.out]; rfl) rfl hown4) (by omega)
        case measure => simp [intOf]; omega
      · have HKY : Hid (kc b = none) := by unfold Hid; rw [HKC.out, if_neg hx0]
        go_wp2_with fail
        go_roundw
        case rel => exact ⟨k + 1, .slice ao (kcs (l.take k)).length co, by go_num, by omega, Y0.out, Y1.out, by rw [HK.out, HKY.out]; simpa using O.out, HZ.out, HB.out⟩
        case measure => simp [intOf]; omega
    · have hke : k = l.length := by omega
      subst hke
      rw [List.take_length] at Y1 O
      have hkl := kcs_length l
      have UQ : Hid (∀ W H cs, Gd W H cs → l = txt W cs → (s0.size : Int) = W ∧ (nls l : Int) = H ∧ kcs l = cs) := fun W H cs hg e => by
        have h1 := hg.w1
        have hi : Lib.indexByte l 10 = ((W.toNat : Nat) : Int) := by rw [e, ix_txt hg]; omega
        refine ⟨?_, ?_, ?_⟩
        · rw [HS0.out _ hi]; omega
        · rw [e, nls_txt hg]
        · rw [e, kcs_txt hg]
      obtain ⟨p0, p1, p2⟩ := Y1.out.cell
      go_wp2_with fail
      clear p0 p1 p2
      generalize kcs l = cs at *
      obtain ⟨fw, hfw⟩ : ∃ fw, (s0.size : Int) = fw := ⟨_, rfl⟩
      obtain ⟨fh, hfh⟩ : ∃ fh, (nls l : Int) = fh := ⟨_, rfl⟩
      rw [hfw, hfh] at Y1 UQ ⊢
      clear hfw hfh HS0
      refine (rgrid_any fw fh _ cs wr O.out.sl (by omega)).mono ?_
      rintro e w4 ⟨rfl, b4⟩
      have Z0 : Hid _ := Y0.out.below b4
      have Z1 : Hid _ := Y1.out.below b4
      have O4 : Hid _ := O.out.below b4
      have HZ4 : Hid (w.heap.size + 1 + 1 + 1 ≤ w4.heap.size) := Nat.le_trans HZ.out b4.size
      have B4 : Hid (Below w.heap.size w w4) := bthen HB.out b4
      clear b4 Y0 Y1 O HZ HB
      obtain ⟨p0, p1, p2⟩ := Z1.out.cell
      obtain ⟨g0, g1, g2⟩ := Z0.out.cell
      obtain ⟨f0, f1, f2⟩ := Z0.out.frozen
      by_cases hc : gchk fw fh cs = 0
      · have HG : Hid _ := gchk_zero hc
        rw [hc]
        clear hc
        go_wp2_with fail
        clear p0 p1 p2 g0 g1 g2 f0 f1 f2
        refine (map_any fw fh _ cs w4 O4.out.sl HG.out).mono ?_
        rintro e w5 ⟨rfl, b5⟩
        have V0 : Hid _ := Z0.out.below b5
        have V1 : Hid _ := Z1.out.below b5
        have O5 : Hid _ := O4.out.below b5
        have B5 : Hid (Below w.heap.size w w5) := bthen B4.out b5
        clear b5 Z0 Z1 O4 B4
        obtain ⟨p0, p1, p2⟩ := V1.out.cell
        obtain ⟨g0, g1, g2⟩ := V0.out.cell
        obtain ⟨f0, f1, f2⟩ := V0.out.frozen
        by_cases ht : txt fw cs = l
        · have HT : Hid _ := ht.symm
          have htb : (txt fw cs == l) = true := by simp [ht]
          clear ht
          go_wp2_with fail
          refine bodyPost_ret (v := .tuple #[.agg #[.int .i64 fw, .int .i64 fh, .slice ao cs.length co], .int .i64 0]) ?_ rfl ?_
          · simp [results, Tryd.results6, go_sem, *]
          · exact HY.out fw fh cs _ _ HG.out HT.out ((((O5.out.other (by omega)).other (by omega)).other (by omega)).mono (by omega)) (Below.setCell (Below.setCell (Below.setCell B5.out (by simp) _) (by simp) _) (by simp) _)
        · have HT : Hid (noTxt l) := fun W H ds hg e => by
            obtain ⟨rfl, rfl, rfl⟩ := UQ.out W H ds hg e
            exact ht e.symm
          have htb : (txt fw cs == l) = false := by simp [ht]
          clear ht
          go_wp2_with fail
          refine bodyPost_ret (v := .tuple #[.agg #[.int .i64 0, .int .i64 0, .slice none 0 0], .int .i64 9]) ?_ rfl ?_
          · simp [results, Tryd.results6, go_sem, *]
          · exact HN.out HT.out _ (Below.setCell (Below.setCell (Below.setCell B5.out (by simp) _) (by simp) _) (by simp) _)
      · have HT : Hid (noTxt l) := fun W H ds hg e => by
          obtain ⟨rfl, rfl, rfl⟩ := UQ.out W H ds hg e
          exact hc (gd_gchk hg)
        have hz : (gchk fw fh cs != 0) = true := by simp [hc]
        clear hc
        go_wp2_with fail
        refine bodyPost_ret (v := .tuple #[.agg #[.int .i64 0, .int .i64 0, .slice none 0 0], .int .i64 9]) ?_ rfl ?_
        · simp [results, Tryd.results6, go_sem, *]
        · exact HN.out HT.out _ (Below.setCell (Below.setCell (Below.setCell B4.out (by simp) _) (by simp) _) (by simp) _)
end Go.Proofs.YteediekpljjbpaaDoor
