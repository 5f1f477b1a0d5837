/-
  The law fellkeep.SpanLeast, walked.
-/
import Derived.Test.YtdgihpegdcoilaaSJoins
import Derived.Test.YtdgihpegdcoilaaWi
import Derived.Test.YtdgihpegdcoilaaCo
import Derived.Deep.DeepAppendWide
namespace Go.Proofs.Ytdgihpegdcoilaa.SLeast
open Go.RowKit
open Nm Kk SJoins
attribute [local go_sem ↓] Go.wp_at_zero Go.wp_at_succ

section
variable {P : Program} (w : World)
theorem step_append_wide {ops : Array Oper} {o : Oper} {a : Act} {K : Act → World → Prop} {Q : Exit → Act → World → Prop} {F : Prop} (hgd : o.guard = none) (s x : Operand) (t : TypeId)
    (ho : o.op = .call { callee := .builtin .append, args := #[s, x], argTypes := #[t, t] })
    (base : Nat) (e : TypeId) (i : TypeInfo) (z : Value) (size bytes : Nat) (ht : P.underlying t = some (.slice e)) (hi : P.info? e = some i) (hz : i.zero = some z)
    (hsize : i.size = size) (hby : i.bytes = bytes) (hzs : z.cells.size = size) (hsz : 0 < size)
    (v : Value) (n : Nat) (xs : List Value) (hs : a.eval s = v) (hown : w.ownsRow base e size v n xs)
    (ad : Addr) (m c : Nat) (news : List Value) (hx : a.eval x = .slice (some ad) m c) (hl : news.length = m * size) (hnews : ∀ j u, news[j]? = some u → w.cell? (ad.add j) = some u) (h1 : ∀ u ∈ news, u.oneCell' = true)
    (h63 : n + m ≤ maxLen) (hbytes : ((n + m) + (n + m) / 4 + 192) * bytes ≤ 281474976710656) (hbase : base ≤ w.heap.size)
    (h : ∀ v' w', w'.ownsRow base e size v' (n + m) (xs ++ news) → w.grownBy w' v.ownBlock → (v' = .slice none 0 0 ↔ v = .slice none 0 0 ∧ m = 0) → K (a.put o.dst v') w') :
    if Region.wanted o (yielded ops a.tmps) = true then Oper.wp P o a w K Q else F := by
  have hw : Region.wanted o (yielded ops a.tmps) = true := by simp [Region.wanted, hgd]
  rw [if_pos hw]
  exact wp_append_own_wide w s x t ho base e i z size bytes ht hi hz hsize hby hzs hsz v n xs hs hown ad m c news hx hl hnews h1 h63 hbytes hbase h
end
theorem kst_many {n : Nat} {es : List E} (hg : Gn n es) (L : List Nat) {j : Nat} (hj : j < es.length) : kst es L j = if Un.Uf.many n (Un.Uf.grp (pl es (L ++ [j]))) < Un.Uf.many n (Un.Uf.grp (pl es L)) then L ++ [j] else L := by
  unfold kst
  rw [pl_snoc, Un.Uf.grp_snoc]
  have he := gn_en hg hj
  by_cases h : Un.Uf.grp (pl es L) (en es j).1.toNat = Un.Uf.grp (pl es L) (en es j).2.toNat
  · rw [if_neg (by simpa using h), if_neg]
    have : Un.Uf.jn (Un.Uf.grp (pl es L)) (en es j).1.toNat (en es j).2.toNat = Un.Uf.grp (pl es L) := by funext x; exact Un.Uf.jn_same _ _ _ _ h
    rw [this]; omega
  · have := Un.Uf.many_less (n := n) (Un.Uf.good_grp (pl es L)).le (Un.Uf.good_grp (pl es L)).idem (a := (en es j).1.toNat) (b := (en es j).2.toNat) (by omega) (by omega) h
    rw [if_pos h, if_pos (by omega)]
def wis (m : Nat) (l : List Int) : List Nat := l.map (fun x => wi x m)
theorem wis_next (m : Nat) (l : List Int) {k : Nat} {x : Int} (hk : k < l.length) (hx : l.getD k 0 = x) : wis m (l.take (k + 1)) = wis m (l.take k) ++ [wi x m] := by
  subst hx
  unfold wis
  rw [List.take_add_one, List.getElem?_eq_getElem hk, List.map_append]
  simp [List.getD_eq_getElem?_getD, hk]
theorem wis_lt {m : Nat} (h : 1 ≤ m) (l : List Int) : ∀ x, x ∈ wis m l → x < m := by
  intro x hx
  obtain ⟨y, _, rfl⟩ := List.mem_map.1 hx
  exact wi_lt y h
theorem ind_short {n : Nat} {es : List E} (hg : Gn n es) (l : List Nat) (hl : ∀ x, x ∈ l → x < es.length) : (kru es l).length ≤ n := by
  have h := ind_many (n := (n : Int).toNat) (gn_ok hg (fun x hx => hl x (kru_mem es l x hx))) (kru_ind es l)
  rw [Int.toNat_natCast, pl_length] at h
  omega
theorem pl_in {es : List E} {l : List Nat} (h : ∀ x, x ∈ l → x < es.length) : ∀ p, p ∈ pl es l → p ∈ pl es (List.range es.length) := by
  intro p hp
  obtain ⟨x, hx, rfl⟩ := List.mem_map.1 hp
  exact List.mem_map.2 ⟨x, by simpa using h x hx, rfl⟩
theorem wis_all (m : Nat) (os : List Int) (h0 : 1 ≤ m) (h : m ≤ 600) (x : Nat) (hx : x < m) : x ∈ wis m (os ++ ints (List.range m)) := by
  unfold wis
  refine List.mem_map.2 ⟨(x : Int), List.mem_append.2 (.inr (List.mem_map.2 ⟨x, by simpa using hx, rfl⟩)), ?_⟩
  unfold wi
  have : IntKind.u64.wrap (x : Int) = (x : Int) := by rw [IntKind.wrap_u64]; omega
  rw [this, Int.toNat_natCast, Nat.mod_eq_of_lt hx]
theorem lt_gn : Gn 2 [(0, 1, 5), (1, 0, 4)] := ⟨by omega, by omega, by simp, fun e he => by simp at he; rcases he with rfl | rfl <;> simp⟩
theorem lt_tree : tree [(0, 1, 5), (1, 0, 4)] = [1] := by decide
set_option maxRecDepth 100000 in
set_option maxHeartbeats 8000000 in
theorem walk_net (n : Int) (v ov : Value) (es : List E) (w : World) (hv : SlE w v es) (hlen : es.length ≤ 9223372036854775807) (hc : nck n es ≠ 0) :
    Calls Try.prog 9 #[.agg #[.int .i64 n, v], ov] w fun e w' => e = .returned (.bool true) ∧ Below w.heap.size w w' := by
  obtain ⟨a0, c0, rfl⟩ := hv.val
  have HV : Hid _ := hv
  obtain ⟨k1, hk1⟩ : ∃ k, nck n es = k := ⟨_, rfl⟩
  have HK : Hid _ := hk1
  have HD : Hid (∀ W, SlE W (.slice a0 es.length c0) es → Calls Try.prog 17 #[.agg #[.int .i64 n, .slice a0 es.length c0]] W fun e w' => e = .returned (.tuple #[.slice none 0 0, .int .i64 k1]) ∧ Below W.heap.size W w') := fun W hW => by rw [← hk1]; exact tree_no n _ es W hW hlen hc
  have hk0 : k1 ≠ 0 := by rw [← hk1]; exact hc
  have z4 : (k1 != 0) = true := by simp [hk0]
  have z5 : (k1 == 0) = false := by simp [hk0]
  clear hv hc hk1 hk0
  go_enter Try.func9, Try.ntmps9
  go_wp2_with fail
  have P0 : Hid _ := box2_new w n (.slice a0 es.length c0) 35
  have B0 : Hid (Below w.heap.size w (w.alloc (.cells #[.int .i64 n, .slice a0 es.length c0] 35))) := balloc (Below.refl _ _) _
  have E0 : Hid _ := lit_edges (w.alloc (.cells #[.int .i64 n, .slice a0 es.length c0] 35)) [(0, 1, 5), (1, 0, 4)] #[.int .i64 0, .int .i64 1, .int .i64 5, .int .i64 1, .int .i64 0, .int .i64 4] 2 rfl rfl
  rw [show (w.alloc (.cells #[.int .i64 n, .slice a0 es.length c0] 35)).heap.size = w.heap.size + 1 by simp] at E0
  generalize (w.alloc (.cells #[.int .i64 n, .slice a0 es.length c0] 35)) = W0 at *
  have P1 : Hid _ := P0.out.below (balloc (Below.refl _ _) (.cells #[.int .i64 0, .int .i64 1, .int .i64 5, .int .i64 1, .int .i64 0, .int .i64 4] 50))
  have B1 : Hid (Below w.heap.size w (W0.alloc (.cells #[.int .i64 0, .int .i64 1, .int .i64 5, .int .i64 1, .int .i64 0, .int .i64 4] 50))) := balloc B0.out _
  generalize W0.alloc (.cells #[.int .i64 0, .int .i64 1, .int .i64 5, .int .i64 1, .int .i64 0, .int .i64 4] 50) = W1 at *
  refine (tree_yes 2 _ [(0, 1, 5), (1, 0, 4)] W1 E0.out lt_gn).mono ?_
  rintro e w2 ⟨u2, rfl, s2, b2⟩
  rw [lt_tree] at s2
  have S2 : Hid _ := s2
  have B2 : Hid (Below w.heap.size w w2) := bthen B1.out b2
  have P2 : Hid _ := P1.out.below b2
  clear s2 b2 E0 P1 B1 P0 B0
  go_wp2_with fail
  refine (iequal_yes _ _ (ints [1]) _ (S2.out.sl.below (balloc (Below.refl _ _) _)) (lit_nums w2 _ #[.int .i64 1] 1 rfl rfl) (by simp [ints])).mono ?_
  rintro e w3 ⟨rfl, b3⟩
  have B3 : Hid (Below w.heap.size w w3) := bthen (balloc B2.out _) b3
  have P3 : Hid _ := (P2.out.below (balloc (Below.refl _ _) _)).below b3
  obtain ⟨p0, p1⟩ := P3.out
  clear b3 P2 B2 S2
  go_wp2_with fail
  clear p0 p1
  refine (HD.out w3 (HV.out.below B3.out)).mono ?_
  rintro e w4 ⟨rfl, b4⟩
  have B4 : Hid (Below w.heap.size w w4) := bthen B3.out b4
  clear b4
  go_wp2_with fail
  go_ret
  exact ⟨rfl, B4.out⟩
set_option maxRecDepth 100000 in
set_option maxHeartbeats 8000000 in
theorem walk_nil (n : Nat) (v ov : Value) (w : World) (hv : SlE w v []) (hg : Gn n []) :
    Calls Try.prog 9 #[.agg #[.int .i64 n, v], ov] w fun e w' => e = .returned (.bool true) ∧ Below w.heap.size w w' := by
  obtain ⟨es, hes⟩ : ∃ es : List E, es = [] := ⟨_, rfl⟩
  rw [← hes] at hv hg
  have HT : Hid (tree es = []) := by rw [hes]; rfl
  obtain ⟨a0, c0, rfl⟩ := hv.val
  have HV : Hid _ := hv
  have HG : Hid _ := hg
  have HL : Hid (es.length = 0) := by rw [hes]; rfl
  clear hv hg hes
  go_enter Try.func9, Try.ntmps9
  go_wp2_with fail
  have P0 : Hid _ := box2_new w (n : Int) (.slice a0 es.length c0) 35
  have B0 : Hid (Below w.heap.size w (w.alloc (.cells #[.int .i64 (n : Int), .slice a0 es.length c0] 35))) := balloc (Below.refl _ _) _
  have E0 : Hid _ := lit_edges (w.alloc (.cells #[.int .i64 (n : Int), .slice a0 es.length c0] 35)) [(0, 1, 5), (1, 0, 4)] #[.int .i64 0, .int .i64 1, .int .i64 5, .int .i64 1, .int .i64 0, .int .i64 4] 2 rfl rfl
  rw [show (w.alloc (.cells #[.int .i64 (n : Int), .slice a0 es.length c0] 35)).heap.size = w.heap.size + 1 by simp] at E0
  generalize (w.alloc (.cells #[.int .i64 (n : Int), .slice a0 es.length c0] 35)) = W0 at *
  have P1 : Hid _ := P0.out.below (balloc (Below.refl _ _) (.cells #[.int .i64 0, .int .i64 1, .int .i64 5, .int .i64 1, .int .i64 0, .int .i64 4] 50))
  have B1 : Hid (Below w.heap.size w (W0.alloc (.cells #[.int .i64 0, .int .i64 1, .int .i64 5, .int .i64 1, .int .i64 0, .int .i64 4] 50))) := balloc B0.out _
  generalize W0.alloc (.cells #[.int .i64 0, .int .i64 1, .int .i64 5, .int .i64 1, .int .i64 0, .int .i64 4] 50) = W1 at *
  refine (tree_yes 2 _ [(0, 1, 5), (1, 0, 4)] W1 E0.out lt_gn).mono ?_
  rintro e w2 ⟨u2, rfl, s2, b2⟩
  rw [lt_tree] at s2
  have S2 : Hid _ := s2
  have B2 : Hid (Below w.heap.size w w2) := bthen B1.out b2
  have P2 : Hid _ := P1.out.below b2
  clear s2 b2 E0 P1 B1 P0 B0
  go_wp2_with fail
  refine (iequal_yes _ _ (ints [1]) _ (S2.out.sl.below (balloc (Below.refl _ _) _)) (lit_nums w2 _ #[.int .i64 1] 1 rfl rfl) (by simp [ints])).mono ?_
  rintro e w3 ⟨rfl, b3⟩
  have B3 : Hid (Below w.heap.size w w3) := bthen (balloc B2.out _) b3
  have P3 : Hid _ := (P2.out.below (balloc (Below.refl _ _) _)).below b3
  obtain ⟨p0, p1⟩ := P3.out
  clear b3 P2 B2 S2
  go_wp2_with fail
  clear p0 p1
  refine (tree_yes n _ es w3 (HV.out.below B3.out) HG.out).mono ?_
  rintro e w4 ⟨u4, rfl, s4, b4⟩
  have B4 : Hid (Below w.heap.size w w4) := bthen B3.out b4
  have P4 : Hid _ := P3.out.below b4
  obtain ⟨a4, c4, rfl⟩ := s4.sl.val
  rw [ints_length, HT.out]
  obtain ⟨p0, p1⟩ := P4.out
  rw [HL.out] at p1
  clear b4 s4 P3 P4 B3
  go_wp2_with fail
  go_ret
  exact ⟨rfl, B4.out⟩
set_option maxRecDepth 100000 in
set_option maxHeartbeats 8000000 in
theorem walk_yes (n : Nat) (v ov : Value) (es : List E) (os : List Int) (w : World) (hv : SlE w v es) (ho : SlI w ov os) (hol : os.length ≤ 17592186043904) (hg : Gn n es) (h0 : 0 < es.length) :
    Calls Try.prog 9 #[.agg #[.int .i64 n, v], ov] w fun e w' => e = .returned (.bool true) ∧ Below w.heap.size w w' := by
  obtain ⟨a0, c0, rfl⟩ := hv.val
  have HV : Hid _ := hv
  have HG : Hid _ := hg
  have HO : Hid _ := ho
  have hl := hg.len
  have hn64 := hg.n64
  have hTl := tree_length_le es
  have HTm : Hid _ := tree_lt es
  have h0i : ((es.length : Int) == 0) = false := by simp; exact fun e => by simp [e] at h0
  clear hv hg ho
  go_enter Try.func9, Try.ntmps9
  go_wp2_with fail
  have P0 : Hid _ := box2_new w (n : Int) (.slice a0 es.length c0) 35
  have B0 : Hid (Below w.heap.size w (w.alloc (.cells #[.int .i64 (n : Int), .slice a0 es.length c0] 35))) := balloc (Below.refl _ _) _
  have E0 : Hid _ := lit_edges (w.alloc (.cells #[.int .i64 (n : Int), .slice a0 es.length c0] 35)) [(0, 1, 5), (1, 0, 4)] #[.int .i64 0, .int .i64 1, .int .i64 5, .int .i64 1, .int .i64 0, .int .i64 4] 2 rfl rfl
  rw [show (w.alloc (.cells #[.int .i64 (n : Int), .slice a0 es.length c0] 35)).heap.size = w.heap.size + 1 by simp] at E0
  generalize (w.alloc (.cells #[.int .i64 (n : Int), .slice a0 es.length c0] 35)) = W0 at *
  have P1 : Hid _ := P0.out.below (balloc (Below.refl _ _) (.cells #[.int .i64 0, .int .i64 1, .int .i64 5, .int .i64 1, .int .i64 0, .int .i64 4] 50))
  have B1 : Hid (Below w.heap.size w (W0.alloc (.cells #[.int .i64 0, .int .i64 1, .int .i64 5, .int .i64 1, .int .i64 0, .int .i64 4] 50))) := balloc B0.out _
  generalize W0.alloc (.cells #[.int .i64 0, .int .i64 1, .int .i64 5, .int .i64 1, .int .i64 0, .int .i64 4] 50) = W1 at *
  refine (tree_yes 2 _ [(0, 1, 5), (1, 0, 4)] W1 E0.out lt_gn).mono ?_
  rintro e w2 ⟨u2, rfl, s2, b2⟩
  rw [lt_tree] at s2
  have S2 : Hid _ := s2
  have B2 : Hid (Below w.heap.size w w2) := bthen B1.out b2
  have P2 : Hid _ := P1.out.below b2
  clear s2 b2 E0 P1 B1 P0 B0
  go_wp2_with fail
  refine (iequal_yes _ _ (ints [1]) _ (S2.out.sl.below (balloc (Below.refl _ _) _)) (lit_nums w2 _ #[.int .i64 1] 1 rfl rfl) (by simp [ints])).mono ?_
  rintro e w3 ⟨rfl, b3⟩
  have B3 : Hid (Below w.heap.size w w3) := bthen (balloc B2.out _) b3
  have P3 : Hid _ := (P2.out.below (balloc (Below.refl _ _) _)).below b3
  obtain ⟨p0, p1⟩ := P3.out
  clear b3 P2 B2 S2
  go_wp2_with fail
  clear p0 p1
  refine (tree_yes n _ es w3 (HV.out.below B3.out) HG.out).mono ?_
  rintro e w4 ⟨u4, rfl, s4, b4⟩
  have B4 : Hid (Below w.heap.size w w4) := bthen B3.out b4
  have P4 : Hid _ := P3.out.below b4
  obtain ⟨a4, c4, rfl⟩ := s4.sl.val
  rw [ints_length] at s4 ⊢
  have S4 : Hid (SlI w4 (.slice a4 (tree es).length c4) (ints (tree es))) := s4.sl
  clear s4 b4 P3 B3
  obtain ⟨p0, p1⟩ := P4.out
  go_wp2_with fail
  have V4 : Hid _ := HV.out.below B4.out
  have O4 : Hid _ := HO.out.below B4.out
  obtain ⟨i0, hi0, hz0, hz1, hz2⟩ := info3_parts
  go_region_held3 (fun w' => w'.cell? ⟨w.heap.size, 0, none⟩ = some (.int .i64 n) ∧ w'.cell? ⟨w.heap.size, 1, none⟩ = some (.slice a0 es.length c0)) (first | exact KEEP.out | go_keep)
    (first
     | (go_at_call 28; refine (iclone_any _ os _ (by first | exact O4.out | exact O4.out.below (Below.drew (Below.refl _ _)) | exact O4.out.below (Below.drew (Below.drew (Below.refl _ _))) | exact O4.out.below (Below.drew (Below.drew (Below.drew (Below.refl _ _))))) hol).mono ?_; rintro e w5 ⟨u5, rfl, s5, b5⟩; have B5 : Hid (Below w4.heap.size w4 w5) := (by first | exact bthen (Below.refl w4.heap.size w4) b5 | exact bthen (Below.drew (Below.refl w4.heap.size w4)) b5 | exact bthen (Below.drew (Below.drew (Below.refl w4.heap.size w4))) b5 | exact bthen (Below.drew (Below.drew (Below.drew (Below.refl w4.heap.size w4)))) b5); have KEEP : Hid (w5.cell? ⟨w.heap.size, 0, none⟩ = some (.int .i64 n) ∧ w5.cell? ⟨w.heap.size, 1, none⟩ = some (.slice a0 es.length c0)) := (by exact ⟨kept B5.out p0, kept B5.out p1⟩))
     | (go_at_call 26; refine (all_any n _ es _ (by first | exact V4.out.below B5.out | exact V4.out.below (Below.drew B5.out) | exact V4.out.below (Below.drew (Below.drew B5.out))) hl).mono ?_; rintro e w6 ⟨u6, rfl, s6, b6⟩; have B6 : Hid (Below w4.heap.size w4 w6) := (by first | exact bthen (B5.out) b6 | exact bthen (Below.drew (B5.out)) b6 | exact bthen (Below.drew (Below.drew (B5.out))) b6 | exact bthen (Below.drew (Below.drew (Below.drew (B5.out)))) b6); have KEEP : Hid (w6.cell? ⟨w.heap.size, 0, none⟩ = some (.int .i64 n) ∧ w6.cell? ⟨w.heap.size, 1, none⟩ = some (.slice a0 es.length c0)) := (by exact ⟨kept B6.out p0, kept B6.out p1⟩); obtain ⟨g6, o6, c6, rfl, hc6⟩ := s6.sl.some' (by rw [ints_length, List.length_range]; exact h0); rw [ints_length, List.length_range]; have I6 : Hid (Is w6 w4.heap.size u5 os) := (by exact (s5.below b6).mono (by exact Nat.le_refl w4.heap.size)))
     | (refine step_append_wide w6 (by rfl) _ _ _ (by rfl) w4.heap.size 3 i0 _ 1 8 Try.underlying23 hi0 hz0 hz1 hz2 rfl (by omega) u5 os.length _ (by rfl) I6.out.own ⟨g6, o6, none⟩ es.length c6 ((ints (List.range es.length)).map (fun z => .int .i64 z)) (by rfl) (by simp [ints_length]) (nums_news hc6) (nums_one _) (by unfold maxLen; omega) (by omega) B6.out.size ?_; intro v7 w7 hown7 hgrow7 hiff7; have B7 : Hid (Below w4.heap.size w4 w7) := (by exact B6.out.grown hgrow7 B6.out.size (fun k hk => (ownBlock_lt I6.out.own k hk).1)); have I7 : Hid (Is w7 w4.heap.size v7 (os ++ ints (List.range es.length))) := (by refine ⟨?_⟩; rw [List.map_append, List.length_append, ints_length, List.length_range]; exact hown7); obtain ⟨a7, c7, rfl⟩ := I7.out.sl.val; have KEEP : Hid (w7.cell? ⟨w.heap.size, 0, none⟩ = some (.int .i64 n) ∧ w7.cell? ⟨w.heap.size, 1, none⟩ = some (.slice a0 es.length c0)) := (by exact ⟨kept B7.out p0, kept B7.out p1⟩))
     | fail)
  all_goals
    obtain ⟨M, hM⟩ : ∃ M, os.length + es.length = M := ⟨_, rfl⟩
    have HKL : Hid ((os ++ ints (List.range es.length)).length = M) := by unfold Hid; rw [List.length_append, ints_length, List.length_range, hM]
    have hMl : M ≤ 17592186045000 := by omega
    have HM9 : Hid _ := hM
    clear hM
    have HRL : (ints (List.range es.length)).length = es.length := by rw [ints_length, List.length_range]
    rw [HKL.out] at I7 ⊢
    rw [HRL]
    clear HRL
    have V7 : Hid _ := V4.out.below B7.out
    have P7 : Hid _ := P4.out.below B7.out
    have T7 : Hid _ := S4.out.below B7.out
    have Z7 : Hid (Below w.heap.size w w7) := bthen B4.out B7.out
    clear s5 b5 s6 b6 hc6 hown7 hgrow7 hiff7 p0 p1
    have HALL : Hid (Un.Uf.grp (pl es (kru es (wis es.length (os ++ ints (List.range es.length))))) = Un.Uf.grp (pl es (List.range es.length))) := by
      unfold Hid
      rw [kru_grp]
      exact grp_perm (fun p => ⟨fun hp => pl_in (wis_lt h0 _) p hp, fun hp => by
        obtain ⟨x, hx, rfl⟩ := List.mem_map.1 hp
        exact List.mem_map.2 ⟨x, wis_all es.length os h0 hl x (by simpa using hx), rfl⟩⟩)
    generalize os ++ ints (List.range es.length) = ks at *
    go_wp2_with fail
    go_loopw [56, 10] (fun z oe wr => ∃ k : Nat, z = .int .i64 k ∧ k ≤ ks.length ∧ Is wr w7.heap.size oe (ints (kru es (wis es.length (ks.take k)))) ∧ Below w7.heap.size w7 wr) (fun z _ _ => ks.length - (intOf z).toNat)
    case atStart => exact ⟨0, by simp, Nat.zero_le _, Is.nil _ _, Below.refl _ _⟩
    case round =>
      obtain ⟨k, rfl, hk, ho9, hb9⟩ := hrel
      have HB : Hid (Below w7.heap.size w7 wr) := hb9
      have hLv : ∀ x, x ∈ kru es (wis es.length (ks.take k)) → x < es.length := fun x hx => wis_lt h0 _ x (kru_mem es _ x hx)
      have hLs : (kru es (wis es.length (ks.take k))).length ≤ n := ind_short HG.out _ (wis_lt h0 _)
      obtain ⟨ao, co, rfl⟩ := ho9.sl.val
      have HI : Hid _ := ho9
      clear hb9 ho9
      by_cases hlt : k < ks.length
      · have hki : (k : Int) < (M : Int) := by have := HKL.out; omega
        have hkj : (k : Int) < (os.length : Int) + (es.length : Int) := by have := HKL.out; have := HM9.out; omega
        obtain ⟨b1, off1, cap1, hveq, hc⟩ := (I7.out.sl.below HB.out).some' (by have := HKL.out; omega)
        rw [HKL.out] at hveq
        simp only [Value.slice.injEq] at hveq
        obtain ⟨rfl, -, rfl⟩ := hveq
        have l0 := hc k hlt
        have HNX : Hid _ := wis_next es.length ks hlt (rfl : ks.getD k 0 = ks.getD k 0)
        obtain ⟨x, hx⟩ : ∃ x, ks.getD k 0 = x := ⟨_, rfl⟩
        rw [hx] at l0 HNX
        clear hc hx
        have hj : wi x es.length < es.length := wi_lt x h0
        have HKN : Hid (kru es (wis es.length (ks.take (k + 1))) = if Un.Uf.many n (Un.Uf.grp (pl es (kru es (wis es.length (ks.take k)) ++ [wi x es.length]))) < Un.Uf.many n (Un.Uf.grp (pl es (kru es (wis es.length (ks.take k))))) then kru es (wis es.length (ks.take k)) ++ [wi x es.length] else kru es (wis es.length (ks.take k))) := by
          unfold Hid; rw [HNX.out, kru_snoc]; exact kst_many HG.out _ hj
        obtain ⟨p0, p1⟩ := P7.out.below HB.out
        generalize kru es (wis es.length (ks.take k)) = L at *
        have HWI : Hid (∀ W, Calls Try.prog 29 #[.int .i64 x, .int .i64 (es.length : Int)] W fun e w' => e = .returned (.int .i64 (wi x es.length)) ∧ w' = W) := fun W => within_any x es.length W h0 hl
        generalize wi x es.length = j at *
        have HLv : Hid _ := hLv
        have hLj : Hid (∀ x, x ∈ L ++ [j] → x < es.length) := fun x hx => by
          rcases List.mem_append.1 hx with hx | hx
          · exact hLv x hx
          · simp at hx; omega
        have HC1 : Hid (Un.chk n (pl es L) = 0) := chk_pl HG.out hLv (by omega)
        have HC2 : Hid (Un.chk n (pl es (L ++ [j])) = 0) := chk_pl HG.out hLj.out (by simp; omega)
        have VW : Hid _ := V7.out.below HB.out
        clear hLv
        go_wp2_with fail
        refine (HWI.out _).mono ?_
        rintro e w8 ⟨rfl, hw8⟩
        have HW8 : Hid (w8 = wr) := hw8
        clear hw8
        rw [HW8.out]
        clear l0
        go_wp2_with fail
        go_region_held3 (fun w' => w'.cell? ⟨w.heap.size, 0, none⟩ = some (.int .i64 n) ∧ w'.cell? ⟨w.heap.size, 1, none⟩ = some (.slice a0 es.length c0)) (first | exact KEEP.out | go_keep)
          (first
           | (go_at_call 25; refine (pairs_any n _ _ es L _ (by first | exact VW.out | exact VW.out.below (Below.drew (Below.refl _ _)) | exact VW.out.below (Below.drew (Below.drew (Below.refl _ _))) | exact VW.out.below (Below.drew (Below.drew (Below.drew (Below.refl _ _))))) (by first | exact HI.out.sl | exact HI.out.sl.below (Below.drew (Below.refl _ _)) | exact HI.out.sl.below (Below.drew (Below.drew (Below.refl _ _))) | exact HI.out.sl.below (Below.drew (Below.drew (Below.drew (Below.refl _ _))))) HLv.out (by omega)).mono ?_; rintro e w9 ⟨u9, rfl, q9, b9⟩; have B9 : Hid (Below wr.heap.size wr w9) := (by first | exact bthen (Below.refl wr.heap.size wr) b9 | exact bthen (Below.drew (Below.refl wr.heap.size wr)) b9 | exact bthen (Below.drew (Below.drew (Below.refl wr.heap.size wr))) b9 | exact bthen (Below.drew (Below.drew (Below.drew (Below.refl wr.heap.size wr)))) b9); have KEEP : Hid (w9.cell? ⟨w.heap.size, 0, none⟩ = some (.int .i64 n) ∧ w9.cell? ⟨w.heap.size, 1, none⟩ = some (.slice a0 es.length c0)) := (by exact ⟨kept B9.out p0, kept B9.out p1⟩))
           | (go_at_call 13; refine (Un.many_yes n _ (pl es L) _ (by first | exact q9.sl | exact q9.sl.below (Below.drew (Below.refl _ _)) | exact q9.sl.below (Below.drew (Below.drew (Below.refl _ _))) | exact q9.sl.below (Below.drew (Below.drew (Below.drew (Below.refl _ _))))) HC1.out).mono ?_; rintro e w10 ⟨rfl, b10⟩; have B10 : Hid (Below wr.heap.size wr w10) := (by first | exact bthen (B9.out) b10 | exact bthen (Below.drew (B9.out)) b10 | exact bthen (Below.drew (Below.drew (B9.out))) b10 | exact bthen (Below.drew (Below.drew (Below.drew (B9.out)))) b10); have KEEP : Hid (w10.cell? ⟨w.heap.size, 0, none⟩ = some (.int .i64 n) ∧ w10.cell? ⟨w.heap.size, 1, none⟩ = some (.slice a0 es.length c0)) := (by exact ⟨kept B10.out p0, kept B10.out p1⟩))
           | fail)
        all_goals
          have P10 : Hid (Box2 w10 w.heap.size n (.slice a0 es.length c0)) := (P7.out.below HB.out).below B10.out
          have V10 : Hid _ := VW.out.below B10.out
          have I10 : Hid _ := HI.out.below B10.out
          have Z10 : Hid (Below w7.heap.size w7 w10) := bthen HB.out B10.out
          clear q9 b9 b10 KEEP p0 p1
          obtain ⟨p0, p1⟩ := P10.out
          go_wp2_with fail
          have B11 : Hid (Below w10.heap.size w10 w10) := Below.refl _ _
          go_region_held3 (fun w' => w'.cell? ⟨w.heap.size, 0, none⟩ = some (.int .i64 n) ∧ w'.cell? ⟨w.heap.size, 1, none⟩ = some (.slice a0 es.length c0)) (first | exact KEEP.out | go_keep)
            (first
             | (go_at_call 28; refine (iclone_any _ (ints L) _ (by first | exact I10.out.sl | exact I10.out.sl.below (Below.drew (Below.refl _ _)) | exact I10.out.sl.below (balloc (Below.drew (Below.refl _ _)) _) | exact I10.out.sl.below (Below.drew (balloc (Below.refl _ _) _)) | exact I10.out.sl.below (balloc (Below.refl _ _) _)) (by rw [ints_length]; omega)).mono ?_; rintro e w12 ⟨u12, rfl, s12, b12⟩; have B12 : Hid (Below w10.heap.size w10 w12) := (by first | exact bthen (Below.refl w10.heap.size w10) b12 | exact bthen (Below.drew (Below.refl w10.heap.size w10)) b12 | exact bthen (balloc (Below.refl w10.heap.size w10) _) b12 | exact bthen (Below.drew (balloc (Below.refl w10.heap.size w10) _)) b12 | exact bthen (balloc (Below.drew (Below.refl w10.heap.size w10)) _) b12); have S12 : Hid (Is w12 w10.heap.size u12 (ints L)) := (by exact s12.mono (by first | exact Nat.le_refl w10.heap.size | simp)); have KEEP : Hid (w12.cell? ⟨w.heap.size, 0, none⟩ = some (.int .i64 n) ∧ w12.cell? ⟨w.heap.size, 1, none⟩ = some (.slice a0 es.length c0)) := (by exact ⟨kept B12.out p0, kept B12.out p1⟩))
             | (refine step_append_lies _ (by rfl) _ _ _ (by rfl) w10.heap.size 3 i0 _ 1 8 Try.underlying23 hi0 hz0 hz1 hz2 rfl (by omega) u12 (ints L).length _ (by rfl) (S12.out.own.alloc _) ⟨w12.heap.size, 0, none⟩ 1 1 [.int .i64 (j : Int)] (by rfl) (by rfl) (World.news_of_block (cs := #[.int .i64 (j : Int)]) (t := 3) (fr := (0, 0)) (heap_alloc_new w12 _)) (by simp [Value.oneCell']) (by omega) (by rw [ints_length]; unfold maxLen; omega) (by rw [ints_length]; omega) (by have := B12.out.size; simp; omega) (w12.heap.size + 1) (by simp) ?_; intro gg cap' w13 hown13 hgrow13 hat13 hlt13; have B13 : Hid (Below w10.heap.size w10 w13) := (by exact (balloc B12.out _).grown hgrow13 (by have := B12.out.size; simp; omega) (fun k hk => (ownBlock_lt S12.out.own k hk).1)); have S13 : Hid (Is w13 w10.heap.size (.slice (some ⟨gg, 0, none⟩) ((ints L).length + 1) cap') (ints (L ++ [j]))) := (by rw [ints_snoc]; exact Is.next rfl rfl hown13); have KEEP : Hid (w13.cell? ⟨w.heap.size, 0, none⟩ = some (.int .i64 n) ∧ w13.cell? ⟨w.heap.size, 1, none⟩ = some (.slice a0 es.length c0)) := (by exact ⟨kept B13.out p0, kept B13.out p1⟩))
             | (refine step_append_lies _ (by rfl) _ _ _ (by rfl) w10.heap.size 3 i0 _ 1 8 Try.underlying23 hi0 hz0 hz1 hz2 rfl (by omega) u12 (ints L).length _ (by rfl) S12.out.own ⟨w10.heap.size, 0, none⟩ 1 1 [.int .i64 (j : Int)] (by rfl) (by rfl) (World.news_of_block (cs := #[.int .i64 (j : Int)]) (t := 3) (fr := (0, 0)) ((b12.block _ (by simp)).trans (heap_alloc_new w10 _))) (by simp [Value.oneCell']) (by omega) (by rw [ints_length]; unfold maxLen; omega) (by rw [ints_length]; omega) B12.out.size w12.heap.size rfl ?_; intro gg cap' w13 hown13 hgrow13 hat13 hlt13; have B13 : Hid (Below w10.heap.size w10 w13) := (by exact B12.out.grown hgrow13 B12.out.size (fun k hk => (ownBlock_lt S12.out.own k hk).1)); have S13 : Hid (Is w13 w10.heap.size (.slice (some ⟨gg, 0, none⟩) ((ints L).length + 1) cap') (ints (L ++ [j]))) := (by rw [ints_snoc]; exact Is.next rfl rfl hown13); have KEEP : Hid (w13.cell? ⟨w.heap.size, 0, none⟩ = some (.int .i64 n) ∧ w13.cell? ⟨w.heap.size, 1, none⟩ = some (.slice a0 es.length c0)) := (by exact ⟨kept B13.out p0, kept B13.out p1⟩))
             | (go_at_call 25; refine (pairs_any n _ _ es (L ++ [j]) _ (by first | exact V10.out.below (B13.out) | exact V10.out.below (Below.drew (B13.out)) | exact V10.out.below (Below.drew (Below.drew (B13.out))) | exact V10.out.below (Below.drew (Below.drew (Below.drew (B13.out))))) (by have hs := S13.out.sl; have e : (ints L).length + 1 = (ints (L ++ [j])).length := (by rw [ints_snoc, List.length_append]; rfl); first | exact hs | exact hs.below (Below.drew (Below.refl _ _)) | exact hs.below (Below.drew (Below.drew (Below.refl _ _)))) hLj.out (by simp; omega)).mono ?_; rintro e w14 ⟨u14, rfl, q14, b14⟩; have B14 : Hid (Below w10.heap.size w10 w14) := (by first | exact bthen (B13.out) b14 | exact bthen (Below.drew (B13.out)) b14 | exact bthen (Below.drew (Below.drew (B13.out))) b14 | exact bthen (Below.drew (Below.drew (Below.drew (B13.out)))) b14); have KEEP : Hid (w14.cell? ⟨w.heap.size, 0, none⟩ = some (.int .i64 n) ∧ w14.cell? ⟨w.heap.size, 1, none⟩ = some (.slice a0 es.length c0)) := (by exact ⟨kept B14.out p0, kept B14.out p1⟩))
             | (go_at_call 13; refine (Un.many_yes n _ (pl es (L ++ [j])) _ (by first | exact q14.sl | exact q14.sl.below (Below.drew (Below.refl _ _)) | exact q14.sl.below (Below.drew (Below.drew (Below.refl _ _))) | exact q14.sl.below (Below.drew (Below.drew (Below.drew (Below.refl _ _))))) HC2.out).mono ?_; rintro e w15 ⟨rfl, b15⟩; have B15 : Hid (Below w10.heap.size w10 w15) := (by first | exact bthen (B14.out) b15 | exact bthen (Below.drew (B14.out)) b15 | exact bthen (Below.drew (Below.drew (B14.out))) b15 | exact bthen (Below.drew (Below.drew (Below.drew (B14.out)))) b15); have KEEP : Hid (w15.cell? ⟨w.heap.size, 0, none⟩ = some (.int .i64 n) ∧ w15.cell? ⟨w.heap.size, 1, none⟩ = some (.slice a0 es.length c0)) := (by exact ⟨kept B15.out p0, kept B15.out p1⟩))
             | fail)
          all_goals
            have I15 : Hid _ := I10.out.below B15.out
            have Z15 : Hid (Below w7.heap.size w7 w15) := bthen Z10.out B15.out
            clear S12 S13 b12 s12 q14 b14 b15 hown13 hgrow13 hat13 hlt13 KEEP p0 p1
            generalize Un.Uf.many n (Un.Uf.grp (pl es (L ++ [j]))) = m1 at *
            generalize Un.Uf.many n (Un.Uf.grp (pl es L)) = m0 at *
            by_cases hmm : m1 < m0
            · have hmi : (m1 : Int) < (m0 : Int) := by omega
              have HK2 : Hid (kru es (wis es.length (ks.take (k + 1))) = L ++ [j]) := by unfold Hid; rw [HKN.out, if_pos hmm]
              have hown15 := I15.out.own
              have hz15 := Z15.out.size
              have HNW : Hid ((w15.alloc (.cells #[.int .i64 (j : Int)] 3)).heap[w15.heap.size]? = some (.cells #[.int .i64 (j : Int)] 3)) := heap_alloc_new _ _
              go_wp2_with (at_builtin; refine wpList_append_lies _ rfl _ _ _ rfl w7.heap.size 3 i0 _ 1 8 Try.underlying23 hi0 hz0 hz1 hz2 rfl (by omega) (.slice ao (ints L).length co) (ints L).length _ rfl (hown15.alloc _) ⟨w15.heap.size, 0, none⟩ 1 1 [.int .i64 (j : Int)] rfl rfl (World.news_of_block (cs := #[.int .i64 (j : Int)]) (t := 3) (fr := (0, 0)) HNW.out) (by simp [Value.oneCell']) (by omega) (by rw [ints_length]; unfold maxLen; omega) (by rw [ints_length]; omega) (by simp; omega) (w15.heap.size + 1) (by simp) ?_; intro gh cap2 w16 hown16 hgrow16 hat16 hlt16; have B16 : Hid (Below w7.heap.size w7 w16) := (by exact (balloc Z15.out _).grown hgrow16 (by simp; omega) (fun k hk => (ownBlock_lt hown15 k hk).1)))
              go_roundw
              case rel => exact ⟨k + 1, by go_num, by omega, by rw [HK2.out, ints_snoc]; exact Is.next rfl rfl hown16, B16.out⟩
              case measure => simp [intOf]; omega
            · have hmi : ¬ (m1 : Int) < (m0 : Int) := by omega
              have HK2 : Hid (kru es (wis es.length (ks.take (k + 1))) = L) := by unfold Hid; rw [HKN.out, if_neg hmm]
              go_wp2_with fail
              go_roundw
              case rel => exact ⟨k + 1, by go_num, by omega, by rw [HK2.out]; exact I15.out, Z15.out⟩
              case measure => simp [intOf]; omega
      · have hki : ¬ (k : Int) < (M : Int) := by have := HKL.out; omega
        have hkj : ¬ (k : Int) < (os.length : Int) + (es.length : Int) := by have := HKL.out; have := HM9.out; omega
        obtain rfl : k = ks.length := by omega
        rw [List.take_of_length_le (Nat.le_refl _)] at HI hLv hLs ⊢
        have HJN := HALL.out
        have HSL : Hid ((kru es (wis es.length ks)).length = (tree es).length) := same_length HG.out _ hLv (kru_ind es _) HJN
        have HSM : Hid (sm es (tree es) ≤ sm es (kru es (wis es.length ks))) := tree_least HG.out _ hLv (kru_ind es _) HSL.out
        have hil : (ints (kru es (wis es.length ks))).length = (tree es).length := by rw [ints_length, HSL.out]
        have HLv : Hid _ := hLv
        rw [hil] at HI ⊢
        clear hLv hil
        generalize kru es (wis es.length ks) = L at *
        have heq : (((tree es).length : Int) == ((tree es).length : Int)) = true := by simp
        have PW := (P7.out.below HB.out).g1
        have VW : Hid _ := V7.out.below HB.out
        have TW : Hid _ := T7.out.below HB.out
        go_wp2_with fail
        refine (cost_any n w.heap.size _ _ es (tree es) wr PW VW.out HG.out TW.out HTm.out (by omega)).mono ?_
        rintro e w8 ⟨rfl, b8⟩
        have PX := kept b8 PW
        have BX : Hid (Below w.heap.size w w8) := bthen (bthen Z7.out HB.out) b8
        have VX : Hid _ := VW.out.below b8
        have IX : Hid _ := HI.out.sl.below b8
        clear b8 PW
        generalize sm es (tree es) = q1 at *
        go_wp2_with fail
        refine (cost_any n w.heap.size _ _ es L w8 PX VX.out HG.out IX.out HLv.out (by have := HSL.out; omega)).mono ?_
        rintro e w9 ⟨rfl, b9⟩
        have BY : Hid (Below w.heap.size w w9) := bthen BX.out b9
        have hsm := HSM.out
        generalize sm es L = q2 at *
        clear b9
        go_wp2_with fail
        go_ret
        exact ⟨rfl, BY.out⟩
theorem walk (n : Int) (v ov : Value) (es : List E) (os : List Int) (w : World) (hv : SlE w v es) (hlen : es.length ≤ 9223372036854775807) (ho : SlI w ov os) (hol : os.length ≤ 17592186043904) :
    Calls Try.prog 9 #[.agg #[.int .i64 n, v], ov] w fun e w' => e = .returned (.bool true) ∧ Below w.heap.size w w' := by
  by_cases hc : nck n es = 0
  · have hg := nck_zero.1 hc
    obtain ⟨m, rfl⟩ := Int.eq_ofNat_of_zero_le (show 0 ≤ n by have := hg.n1; omega)
    rcases Nat.eq_zero_or_pos es.length with h | h
    · obtain rfl := List.length_eq_zero_iff.1 h
      exact walk_nil m v ov w hv hg
    · exact walk_yes m v ov es os w hv ho hol hg h
  · exact walk_net n v ov es w hv hlen hc
end Go.Proofs.Ytdgihpegdcoilaa.SLeast
