/-
  Contract of package exact's naturals: add.
-/
import Derived.Test.YtebibadldcempaaGreatDoorP11
import Derived.Laws.CopyOwn
import Derived.Lib.SmallJoins
import Derived.Lib.LazyBuf
set_option linter.unusedVariables false
set_option linter.unusedSimpArgs false
set_option linter.unusedSectionVars false
namespace Go.Proofs.YtebibadldcempaaGreatDoor
open Go.RowKit Go.Shelf

theorem Nt.apart {w : World} {v : Value} {n : Int} (h : Nt w v n) : Apart w.heap.size v := by
  intro a l c e
  rcases h with ⟨h, _⟩ | ⟨b, off, cap, zs, h, hN⟩
  · rw [h] at e; cases e
  · rw [h] at e
    injection e with e1 e2 e3
    injection e1 with e1
    subst e1
    have := hN.lt
    simp; omega

theorem blk_copied {w : World} {n : Nat} {g : Nat} {za : List Int} (hl : za.length ≤ n) (h : w.heap[g]? = some (.cells (splice ((List.replicate n (0 : Int)).map (Value.int .u64)) 0 (za.map (Value.int .u64))).toArray 24 (0, 0))) :
    Blk w g (za ++ List.replicate (n - za.length) 0) := by
  unfold Blk
  rw [h]
  congr 3
  simp [splice]

theorem row_cells {w : World} {b off : Nat} {zs : List Int} (h : Row w b off zs) : ∀ j v, (zs.map (Value.int .u64))[j]? = some v → w.cell? ((⟨b, off, none⟩ : Addr).add j) = some v := by
  intro j v hj
  rw [List.getElem?_map] at hj
  by_cases hlt : j < zs.length
  · rw [List.getElem?_eq_getElem hlt] at hj
    simp at hj
    rw [← hj, ← gd_get hlt]
    have := h j hlt
    unfold Addr.add
    split
    · rename_i e; subst e; simpa using this
    · exact this
  · rw [List.getElem?_eq_none (by omega)] at hj; simp at hj

theorem add_end {w w2 w3 : World} {g : Nat} {za : List Int} {x y : Int} {M : List Int} (hg : w.heap.size = g) (hM : M = za ++ List.replicate (za.length + 1 - za.length) 0) (hwd : Wd za) (hv : nv za = x) (hy0 : 0 ≤ y) (hy : y < pw ^ za.length)
    (hb : Below g w w2) {e : Ending} (h : AddPost w2 g 0 (za.length + 1) M y e w3) :
    ∃ L : List Int, L.length = za.length + 1 ∧ Wd L ∧ nv L = x + y ∧ Blk w3 g L ∧ Below g w w3 := by
  obtain ⟨c, M', c0, c1, _, ho, hl, hw, hnv, _, hB⟩ := h
  have hlen : M.length = za.length + 1 := by rw [hM]; simp
  have hx : nv M = x := by rw [hM, nv_append, nv_replicate, hv]; simp
  refine ⟨M', by omega, hw, ?_, hB, hb.trans (ho.below (by have := hb.size; omega) (Nat.le_refl _))⟩
  rw [hx] at hnv
  have h1 := nv_nonneg hw
  have h2 := nv_lt hwd
  rw [hv] at h2
  have h3 : pw ^ (za.length + 1) = pw ^ za.length * pw := Int.pow_succ _ _
  have h4 := ppos za.length
  have h5 : pw ^ za.length * 2 ≤ pw ^ za.length * pw := Int.mul_le_mul_of_nonneg_left (by decide) (Int.le_of_lt h4)
  rw [Nat.zero_add] at hnv
  have hc : c = 0 := by
    apply Classical.byContradiction
    intro hne
    have : c = 1 := by omega
    subst this
    simp at hnv
    omega
  rw [hc] at hnv
  simp at hnv
  exact hnv

set_option maxRecDepth 100000 in
set_option maxHeartbeats 1000000 in
theorem add_ge (w : World) (b off cap : Nat) (za : List Int) (bo : Option Addr) (lb cb : Nat) (x y : Int) (ha : Ns w b off cap za x) (hb : Nt w (.slice bo lb cb) y) (hx : x < big) (hl : lb ≤ za.length) (hy : y < pw ^ za.length) :
    Calls Tryz.prog 85 #[.slice (some ⟨b, off, none⟩) za.length cap, .slice bo lb cb] w (NewNt w (x + y)) := by
  have hla := ha.len hx
  have hcap := ha.cap
  have HA := Lib.hid ha
  have HB := Lib.hid hb
  have HY := Lib.hid hy
  have hlt := ha.lt
  clear ha hb hx hy
  obtain ⟨l, hl'⟩ : ∃ l, za.length = l := ⟨_, rfl⟩
  have HL := Lib.hid hl'
  rw [hl'] at hla hcap hl ⊢
  clear hl'
  obtain ⟨i0, hi, hz0, hz1, hz2⟩ := info_parts infoU
  have hsz : (Tryz.prog.info? 24).map (·.size) = some 1 := by rw [hi]; simp [hz1]
  have hii := Lib.hid hi
  go_enter Tryz.func85, Tryz.ntmps85
  go_wp2_with (first | (at_make; refine wpList_make_full w rfl (.tmp 15) (.tmp 15) 30 rfl w.heap.size 24 i0 (.int .u64 0) 1 Tryz.underlying30 hii.out hz0 hz1 .i64 .i64 _ _ (l + 1) rfl rfl (by omega) (by omega) (by rw [hz2]; omega) (by unfold maxLen; omega) (Nat.le_refl _) ?_; intro w1 hown hgrow; have hblk := Lib.hid (blk_made hown); have hbel := Lib.hid (below_made hgrow); clear hown hgrow hz0 hz1 hz2) | (refine wpList_copy_splice (o := ⟨some 19, _, _, _, _, _⟩) rfl (.tmp 17) (.tmp 18) 30 30 rfl 24 Tryz.underlying30 hsz _ _ _ _ _ _ rfl rfl w.heap.size 0 _ 24 hblk.out (za.map (Value.int .u64)) (by rw [List.length_map, HL.out]; exact (Nat.min_eq_left (Nat.le_succ l)).symm) (fun _ => ⟨rfl, _, rfl, row_cells ((HA.out.below hbel.out).row)⟩) (by rw [List.length_map, List.length_map, List.length_replicate, HL.out]; omega) (ints_oneCell _ _) w.heap.size w hbel.out (Nat.le_refl _) ?_; intro w2 hw2 hbel2))
  have hBk := blk_copied (by rw [HL.out]; omega) hw2.out
  rw [HL.out] at hBk
  have HBel := Lib.hid hbel2
  have hg : w.heap.size ≤ w2.heap.size := hbel2.size
  clear hw2 hbel2
  refine (addTo_any w2 w.heap.size 0 (l + 1) (l + 1) _ hBk ?_ (by simp [HL.out]) (by simp [HL.out]; omega) _ y (HB.out.below HBel.out) HB.out.apart ?_).mono ?_
  · exact Wd_append.2 ⟨HA.out.wd, Wd_replicate _⟩
  · have h1 := HY.out
    have h2 : pw ^ za.length ≤ pw ^ (l + 1) := pow_mono (by rw [HL.out]; omega)
    omega
  intro e w3 hpost
  have hend := add_end rfl (by rw [HL.out]) HA.out.wd HA.out.val HB.out.nonneg HY.out HBel.out (by rw [HL.out]; exact hpost)
  obtain ⟨c, _, _, _, rfl, _⟩ := hpost
  clear hBk hg
  obtain ⟨L, e1, e2, e3, e4, e5⟩ := hend
  have HE := Lib.hid (And.intro e1 (And.intro e2 (And.intro e3 (And.intro e4 e5))))
  clear e1 e2 e3 e4 e5
  have hcut := cut_any w.heap.size 0 (l + 1) L w3 (by rw [HE.out.1, HL.out]; omega) (by rw [HE.out.1, HL.out]; exact Nat.le_refl _) HE.out.2.2.2.1.row
  rw [HE.out.1, HL.out] at hcut
  have HC := Lib.hid hcut
  clear hcut
  go_wp2_with fail
  refine HC.out.mono ?_
  rintro e w' ⟨rfl, m', hm1, hm2, hm3, rfl⟩
  go_wp2_with fail
  go_ret
  refine ⟨_, rfl, ?_, HE.out.2.2.2.2⟩
  rw [← HE.out.2.2.1]
  exact nt_cut HE.out.2.2.2.1.row HE.out.2.2.2.1.lt HE.out.2.2.2.1.ty HE.out.2.1 (by rw [HE.out.1, HL.out]; exact Nat.le_refl _) m' hm1 hm2 hm3
set_option maxRecDepth 100000 in
set_option maxHeartbeats 1000000 in
theorem add_lt (w : World) (b off cap : Nat) (za : List Int) (bo : Option Addr) (lb cb : Nat) (x y : Int) (ha : Ns w b off cap za x) (hb : Nt w (.slice bo lb cb) y) (hx : x < big) (hl : lb < za.length) (hy : y < pw ^ za.length) :
    Calls Tryz.prog 85 #[.slice bo lb cb, .slice (some ⟨b, off, none⟩) za.length cap] w (NewNt w (x + y)) := by
  have hla := ha.len hx
  have hcap := ha.cap
  have HA := Lib.hid ha
  have HB := Lib.hid hb
  have HY := Lib.hid hy
  have hlt := ha.lt
  clear ha hb hx hy
  obtain ⟨l, hl'⟩ : ∃ l, za.length = l := ⟨_, rfl⟩
  have HL := Lib.hid hl'
  rw [hl'] at hla hcap hl ⊢
  clear hl'
  obtain ⟨i0, hi, hz0, hz1, hz2⟩ := info_parts infoU
  have hsz : (Tryz.prog.info? 24).map (·.size) = some 1 := by rw [hi]; simp [hz1]
  have hii := Lib.hid hi
  go_enter Tryz.func85, Tryz.ntmps85
  go_wp2_with (first | (at_make; refine wpList_make_full w rfl (.tmp 15) (.tmp 15) 30 rfl w.heap.size 24 i0 (.int .u64 0) 1 Tryz.underlying30 hii.out hz0 hz1 .i64 .i64 _ _ (l + 1) rfl rfl (by omega) (by omega) (by rw [hz2]; omega) (by unfold maxLen; omega) (Nat.le_refl _) ?_; intro w1 hown hgrow; have hblk := Lib.hid (blk_made hown); have hbel := Lib.hid (below_made hgrow); clear hown hgrow hz0 hz1 hz2) | (refine wpList_copy_splice (o := ⟨some 19, _, _, _, _, _⟩) rfl (.tmp 17) (.tmp 18) 30 30 rfl 24 Tryz.underlying30 hsz _ _ _ _ _ _ rfl rfl w.heap.size 0 _ 24 hblk.out (za.map (Value.int .u64)) (by rw [List.length_map, HL.out]; exact (Nat.min_eq_left (Nat.le_succ l)).symm) (fun _ => ⟨rfl, _, rfl, row_cells ((HA.out.below hbel.out).row)⟩) (by rw [List.length_map, List.length_map, List.length_replicate, HL.out]; omega) (ints_oneCell _ _) w.heap.size w hbel.out (Nat.le_refl _) ?_; intro w2 hw2 hbel2))
  have hBk := blk_copied (by rw [HL.out]; omega) hw2.out
  rw [HL.out] at hBk
  have HBel := Lib.hid hbel2
  have hg : w.heap.size ≤ w2.heap.size := hbel2.size
  clear hw2 hbel2
  refine (addTo_any w2 w.heap.size 0 (l + 1) (l + 1) _ hBk ?_ (by simp [HL.out]) (by simp [HL.out]; omega) _ y (HB.out.below HBel.out) HB.out.apart ?_).mono ?_
  · exact Wd_append.2 ⟨HA.out.wd, Wd_replicate _⟩
  · have h1 := HY.out
    have h2 : pw ^ za.length ≤ pw ^ (l + 1) := pow_mono (by rw [HL.out]; omega)
    omega
  intro e w3 hpost
  have hend := add_end rfl (by rw [HL.out]) HA.out.wd HA.out.val HB.out.nonneg HY.out HBel.out (by rw [HL.out]; exact hpost)
  obtain ⟨c, _, _, _, rfl, _⟩ := hpost
  clear hBk hg
  obtain ⟨L, e1, e2, e3, e4, e5⟩ := hend
  have HE := Lib.hid (And.intro e1 (And.intro e2 (And.intro e3 (And.intro e4 e5))))
  clear e1 e2 e3 e4 e5
  have hcut := cut_any w.heap.size 0 (l + 1) L w3 (by rw [HE.out.1, HL.out]; omega) (by rw [HE.out.1, HL.out]; exact Nat.le_refl _) HE.out.2.2.2.1.row
  rw [HE.out.1, HL.out] at hcut
  have HC := Lib.hid hcut
  clear hcut
  go_wp2_with fail
  refine HC.out.mono ?_
  rintro e w' ⟨rfl, m', hm1, hm2, hm3, rfl⟩
  go_wp2_with fail
  go_ret
  refine ⟨_, rfl, ?_, HE.out.2.2.2.2⟩
  rw [← HE.out.2.2.1]
  exact nt_cut HE.out.2.2.2.1.row HE.out.2.2.2.1.lt HE.out.2.2.2.1.ty HE.out.2.1 (by rw [HE.out.1, HL.out]; exact Nat.le_refl _) m' hm1 hm2 hm3

theorem Nt.len {w : World} {bo : Option Addr} {lb cb : Nat} {y : Int} (h : Nt w (.slice bo lb cb) y) : y < pw ^ lb := by
  rcases h with ⟨h, rfl⟩ | ⟨b, off, cap, zs, h, hN⟩
  · injection h with h1 h2 h3
    subst h2
    simp
  · injection h with h1 h2 h3
    subst h2
    rw [← hN.val]; exact nv_lt hN.wd

theorem Nt.shape {w : World} {v : Value} {n : Int} (h : Nt w v n) : ∃ bo lb cb, v = .slice bo lb cb := by
  rcases h with ⟨h, _⟩ | ⟨b, off, cap, zs, h, _⟩
  · exact ⟨_, _, _, h⟩
  · exact ⟨_, _, _, h⟩

theorem natAdd_any (w : World) (va vb : Value) (x y : Int) (ha : Nt w va x) (hb : Nt w vb y) (hx : x < big) (hy : y < big) (h0 : 0 < x) (h1 : 0 < y) :
    Calls Tryz.prog 85 #[va, vb] w (NewNt w (x + y)) := by
  obtain ⟨b, off, cap, za, rfl, hA⟩ := ha.pos (by omega)
  obtain ⟨b2, off2, cap2, zb, rfl, hB⟩ := hb.pos (by omega)
  by_cases hl : zb.length ≤ za.length
  · have h2 := hb.len
    have h3 : pw ^ zb.length ≤ pw ^ za.length := pow_mono hl
    exact add_ge w b off cap za _ _ _ x y hA hb hx hl (by omega)
  · have h2 := ha.len
    have h3 : pw ^ za.length ≤ pw ^ zb.length := pow_mono (by omega)
    have := add_lt w b2 off2 cap2 zb _ _ _ y x hB ha hy (by omega) (by omega)
    rwa [Int.add_comm y x] at this
end Go.Proofs.YtebibadldcempaaGreatDoor
/-
  Contracts of package exact's numbers: odd, fraction.
-/
namespace Go.Proofs.YtebibadldcempaaGreatDoor
open Go.RowKit Go.Shelf

theorem bcell {w W : World} (hb : Below W.heap.size W w) : (∀ b o, b < W.heap.size → w.cell? ⟨b, o, none⟩ = W.cell? ⟨b, o, none⟩) ∧ (∀ b o, b < W.heap.size → w.frozen? ⟨b, o, none⟩ = W.frozen? ⟨b, o, none⟩) :=
  ⟨fun b o h => hb.cell (p := ⟨b, o, none⟩) h, fun b o h => hb.frozen (p := ⟨b, o, none⟩) h⟩

theorem eqNil (w : World) (a : Option Addr) (n c : Nat) : (binOp .eql 30 (.slice a n c) (.slice none 0 0)).run Tryz.prog w = .ok (.bool a.isNone) w := Lib.run_eql_slice_nil (P := Tryz.prog) w 30 24 a n c 0 0 Tryz.underlying30
theorem neqNil (w : World) (a : Option Addr) (n c : Nat) : (binOp .neq 30 (.slice a n c) (.slice none 0 0)).run Tryz.prog w = .ok (.bool (!a.isNone)) w := run_neq_slice_nil_any (P := Tryz.prog) w 30 24 a n c 0 0 Tryz.underlying30
attribute [local go_sem] eqNil neqNil

theorem p2pos (z : Nat) : (0 : Int) < 2 ^ z := Int.pow_pos (by omega)
theorem p2ne (z : Nat) : (2 : Int) ^ z ≠ 0 := by have := p2pos z; omega

/-- n = 2^z * t with t odd -/
def OddPost (w : World) (n : Int) (e : Ending) (w' : World) : Prop :=
  ∃ (v : Value) (t : Int) (z : Nat), e = .returned (.tuple #[v, .int .i64 z]) ∧ Nt w' v t ∧ t % 2 = 1 ∧ n = 2 ^ z * t ∧ Below w.heap.size w w'

theorem two_le_pow {z : Nat} {n t : Int} (h : n = 2 ^ z * t) (h0 : 0 < n) (hn : n < big) : z < 64000 ∧ 0 < t ∧ t ≤ n := by
  have hp : (0 : Int) < 2 ^ z := Int.pow_pos (by omega)
  have ht : 0 < t := by
    apply Classical.byContradiction
    intro hc
    have := Int.mul_le_mul_of_nonneg_left (show t ≤ 0 by omega) (Int.le_of_lt hp)
    omega
  have h1 := Int.mul_le_mul_of_nonneg_left (show 1 ≤ t by omega) (Int.le_of_lt hp)
  have h2 := Int.mul_le_mul_of_nonneg_right (show (1 : Int) ≤ 2 ^ z from hp) (Int.le_of_lt ht)
  refine ⟨?_, ht, by omega⟩
  apply Classical.byContradiction
  intro hz
  have h3 : (2 : Int) ^ 64000 * 1 ≤ 2 ^ 64000 * 2 ^ (z - 64000) := Int.mul_le_mul_of_nonneg_left (show (1 : Int) ≤ 2 ^ (z - 64000) from Int.pow_pos (by omega)) (Int.le_of_lt (Int.pow_pos (by omega)))
  rw [← Int.pow_add, show 64000 + (z - 64000) = z by omega] at h3
  have h4 : big = 2 ^ 64000 := by unfold big; rw [pw_two]
  omega

theorem odd_any (w : World) (hE : Env w) (v : Value) (n : Int) (h : Nt w v n) (hs : n < big) (hn : n ≠ 0) :
    Calls Tryz.prog 45 #[v] w (OddPost w n) := by
  have h0 : 0 < n := by have := h.nonneg; omega
  have HE := Lib.hid hE
  have H := Lib.hid h
  have HS := Lib.hid hs
  have HN := Lib.hid h0
  have HNE := Lib.hid hn
  clear h hs hn hE h0
  go_enter Tryz.func45, Tryz.ntmps45
  go_wp2_with fail
  refine (zeros_any w HE.out v n H.out HS.out HNE.out).mono ?_
  rintro e w' ⟨rfl, z, m, rfl, hz⟩
  have hb := two_le_pow hz HN.out HS.out
  have HZ := Lib.hid hz
  have hz0 := hb.1
  clear hz hb
  go_wp2_with fail
  refine (right_any w v n H.out HS.out z (by omega) (by omega)).mono ?_
  rintro e w' ⟨v', rfl, hv, hbel⟩
  have HV := Lib.hid hv
  have HB := Lib.hid hbel
  clear hv hbel
  go_wp2_with fail
  go_ret2
  refine ⟨v', 2 * m + 1, z, rfl, ?_, by omega, HZ.out, HB.out⟩
  have := HV.out
  rw [Int.toNat_natCast, HZ.out, Int.mul_ediv_cancel_left _ (p2ne z)] at this
  exact this

/-- no word of a natural lies in block g -/
def NoW (w : World) (g : Nat) : Prop := ∀ o x, w.cell? ⟨g, o, none⟩ ≠ some (.int .u64 x)
theorem Nt.only {w w' : World} {g : Nat} {v : Value} {t : Int} (h : Nt w v t) (ho : Only g w w') (hno : NoW w g) : Nt w' v t := by
  rcases h with h | ⟨b, off, cap, zs, e, h⟩
  · exact .inl h
  · have hne : b ≠ g := by
      intro hb
      subst hb
      exact hno _ _ (h.row 0 h.pos)
    exact .inr ⟨b, off, cap, zs, e, { h with lt := Nat.lt_of_lt_of_le h.lt ho.size, row := fun i hi => ho.cell (h.row i hi) hne, ty := by obtain ⟨c, f, h1⟩ := h.ty; exact ⟨c, f, (ho.block b h.lt (by simp; exact hne)).trans h1⟩ }⟩

/-- a fraction without a divisor: 0, or the sign, an odd numerator, and the exponent of 2 -/
def FracPost (w : World) (neg : Bool) (n twos : Int) (e : Ending) (w' : World) : Prop :=
  ∃ (v : Value) (t : Int) (z : Nat), e = .returned (.agg #[.bool neg, v, .slice none 0 0, .int .i64 (twos + z)]) ∧ Nt w' v t ∧ t % 2 = 1 ∧ n = 2 ^ z * t ∧ Below w.heap.size w w'

theorem frac_zero (w : World) (neg : Bool) (twos : Int) (bo : Option Addr) (lb cb : Nat) :
    Calls Tryz.prog 46 #[.bool neg, .slice none 0 0, .slice bo lb cb, .int .i64 twos] w fun e w' => e = .returned (.agg #[.bool false, .slice none 0 0, .slice none 0 0, .int .i64 0]) ∧ Below w.heap.size w w' := by
  go_enter Tryz.func46, Tryz.ntmps46
  go_wp2_with fail
  refine bodyPost_ret (v := .agg #[.bool false, .slice none 0 0, .slice none 0 0, .int .i64 0]) (by simp [results, Tryz.results46, go_sem]) rfl ⟨rfl, ?_⟩
  exact (Below.refl _ _).alloc (Nat.le_refl _) _

set_option maxRecDepth 100000 in
theorem frac_nil (w : World) (hE : Env w) (neg : Bool) (v : Value) (n twos : Int) (h : Nt w v n) (hs : n < big) (hn : n ≠ 0) (ht : -1000000000 < twos) (ht' : twos < 1000000000) :
    Calls Tryz.prog 46 #[.bool neg, v, .slice none 0 0, .int .i64 twos] w (FracPost w neg n twos) := by
  obtain ⟨b, off, cap, zs, rfl, hN⟩ := h.pos hn
  have hp := hN.pos
  have hn0 := Lib.hid hN.npos
  have HE := Lib.hid hE
  have H := Lib.hid h
  have HS := Lib.hid hs
  have HNE := Lib.hid hn
  clear h hs hn hE hN
  obtain ⟨l, hl⟩ : ∃ l, zs.length = l := ⟨_, rfl⟩
  have HL := Lib.hid hl
  rw [hl] at H hp ⊢
  clear hl
  have hb : ((l : Int) == 0) = false := by simp; omega
  go_enter Tryz.func46, Tryz.ntmps46
  go_wp2_with fail
  refine (odd_any _ (HE.out.below ((Below.refl _ _).alloc (Nat.le_refl _) _)) _ n (H.out.below ((Below.refl _ _).alloc (Nat.le_refl _) _)) HS.out HNE.out).mono ?_
  rintro e w1 ⟨v, t, z, rfl, hv, ht2, hz, hbel⟩
  have hz1 := (two_le_pow hz hn0.out HS.out).1
  obtain ⟨bo, lb, cb, rfl⟩ := hv.shape
  have HV := Lib.hid hv
  have HT := Lib.hid ht2
  have HZ := Lib.hid hz
  have HB := Lib.hid hbel
  clear hv ht2 hz
  obtain ⟨hc, hf⟩ := bcell hbel
  have hz : w.heap.size < w1.heap.size := by have := hbel.size; simp at this; omega
  clear hbel
  go_wp2_with (go_at_call 77; refine (isOne_nil _).mono ?_; rintro e w' ⟨rfl, rfl⟩)
  refine bodyPost_ret (v := .agg #[.bool neg, .slice bo lb cb, .slice none 0 0, .int .i64 (twos + z)]) (by simp [results, Tryz.results46, go_sem, hc, hz]) rfl ⟨_, t, z, rfl, ?_, HT.out, HZ.out, ?_⟩
  · exact HV.out.only ((((((Only.refl _ _).set _ _).set _ _).set _ _).set _ _)) (by
      intro o x
      rw [hc _ _ (by simp)]
      rcases o with _ | _ | _ | _ | o <;> simp [go_sem])
  · have h1 : Below w.heap.size w w1 := ((Below.refl _ _).alloc (Nat.le_refl _) _).trans (HB.out.mono (by simp))
    exact h1.trans (Only.below ((((((Only.refl w.heap.size w1).set _ _).set _ _).set _ _).set _ _)) h1.size (Nat.le_refl _))

/-- a divisor: nil for 1 -/
def Bt (w : World) (v : Value) (b : Int) : Prop := (b = 1 ∧ v = .slice none 0 0) ∨ (b ≠ 1 ∧ Nt w v b)
theorem Bt.below {w w' : World} {v : Value} {n : Int} (h : Bt w v n) (hw : Below w.heap.size w w') : Bt w' v n := h.imp id (fun h => ⟨h.1, h.2.below hw⟩)
theorem Bt.only {w w' : World} {g : Nat} {v : Value} {t : Int} (h : Bt w v t) (ho : Only g w w') (hno : NoW w g) : Bt w' v t := h.imp id (fun h => ⟨h.1, h.2.only ho hno⟩)
theorem Bt.shape {w : World} {v : Value} {n : Int} (h : Bt w v n) : ∃ bo lb cb, v = .slice bo lb cb := by
  rcases h with ⟨_, h⟩ | ⟨_, h⟩
  · exact ⟨_, _, _, h⟩
  · exact h.shape

/-- a fraction with a divisor -/
def FracPost2 (w : World) (neg : Bool) (n d twos : Int) (e : Ending) (w' : World) : Prop :=
  ∃ (v vb : Value) (t b : Int) (z y : Nat), e = .returned (.agg #[.bool neg, v, vb, .int .i64 (twos + z - y)]) ∧ Nt w' v t ∧ t % 2 = 1 ∧ n = 2 ^ z * t ∧ Bt w' vb b ∧ b % 2 = 1 ∧ d = 2 ^ y * b ∧ Below w.heap.size w w'

set_option maxRecDepth 100000 in
set_option maxHeartbeats 1000000 in
theorem frac_some (w : World) (hE : Env w) (neg : Bool) (v vd : Value) (n d twos : Int) (h : Nt w v n) (hs : n < big) (hn : n ≠ 0) (h2 : Nt w vd d) (hs2 : d < big) (hn2 : d ≠ 0) (ht : -1000000000 < twos) (ht' : twos < 1000000000) :
    Calls Tryz.prog 46 #[.bool neg, v, vd, .int .i64 twos] w (FracPost2 w neg n d twos) := by
  obtain ⟨b, off, cap, zs, rfl, hN⟩ := h.pos hn
  obtain ⟨b2, off2, cap2, zs2, rfl, hN2⟩ := h2.pos hn2
  have hp := hN.pos
  have hn0 := Lib.hid hN.npos
  have hn20 := Lib.hid hN2.npos
  have HE := Lib.hid hE
  have H := Lib.hid h
  have H2 := Lib.hid h2
  have HS := Lib.hid hs
  have HS2 := Lib.hid hs2
  have HNE := Lib.hid hn
  have HNE2 := Lib.hid hn2
  clear h hs hn hE hN h2 hs2 hn2 hN2
  obtain ⟨l, hl⟩ : ∃ l, zs.length = l := ⟨_, rfl⟩
  obtain ⟨l2, hl2⟩ : ∃ l, zs2.length = l := ⟨_, rfl⟩
  rw [hl] at H hp ⊢
  rw [hl2] at H2 ⊢
  clear hl hl2
  have hb : ((l : Int) == 0) = false := by simp; omega
  go_enter Tryz.func46, Tryz.ntmps46
  go_wp2_with fail
  refine (odd_any _ (HE.out.below ((Below.refl _ _).alloc (Nat.le_refl _) _)) _ n (H.out.below ((Below.refl _ _).alloc (Nat.le_refl _) _)) HS.out HNE.out).mono ?_
  rintro e w1 ⟨v, t, z, rfl, hv, ht2, hz, hbel⟩
  have hz1 := (two_le_pow hz hn0.out HS.out).1
  obtain ⟨bo, lb, cb, rfl⟩ := hv.shape
  have HV := Lib.hid hv
  have HT := Lib.hid ht2
  have HZ := Lib.hid hz
  have HB := Lib.hid hbel
  clear hv ht2 hz hbel
  have hsz1 : w.heap.size < w1.heap.size := by have := HB.out.size; simp at this; omega
  have HB1 : Hid (Below w.heap.size w w1) := Lib.hid (((Below.refl _ _).alloc (Nat.le_refl _) _).trans (HB.out.mono (by simp)))
  go_wp2_with fail
  refine (odd_any _ (HE.out.below HB1.out) _ d (H2.out.below HB1.out) HS2.out HNE2.out).mono ?_
  rintro e w2 ⟨v2, t2, y, rfl, hv2, ht22, hy, hbel2⟩
  have hy1 := (two_le_pow hy hn20.out HS2.out).1
  have hy2 := (two_le_pow hy hn20.out HS2.out).2.2
  obtain ⟨bo2, lb2, cb2, rfl⟩ := hv2.shape
  have HV2 := Lib.hid hv2
  have HT2 := Lib.hid ht22
  have HY := Lib.hid hy
  have HB2 := Lib.hid hbel2
  have HSy : Hid (t2 < big) := Lib.hid (by have := HS2.out; omega)
  have HVV : Hid (Nt w2 (.slice bo lb cb) t) := Lib.hid (HV.out.below HB2.out)
  have hc : ∀ o, w2.cell? ⟨w.heap.size, o, none⟩ = (w.alloc (.cells #[.bool false, .slice none 0 0, .slice none 0 0, .int .i64 0] 32)).cell? ⟨w.heap.size, o, none⟩ := fun o => by
    rw [HB2.out.cell (p := ⟨w.heap.size, o, none⟩) hsz1, HB.out.cell (p := ⟨w.heap.size, o, none⟩) (by simp)]
  have hf : ∀ o, w2.frozen? ⟨w.heap.size, o, none⟩ = (w.alloc (.cells #[.bool false, .slice none 0 0, .slice none 0 0, .int .i64 0] 32)).frozen? ⟨w.heap.size, o, none⟩ := fun o => by
    rw [HB2.out.frozen (p := ⟨w.heap.size, o, none⟩) hsz1, HB.out.frozen (p := ⟨w.heap.size, o, none⟩) (by simp)]
  have hsz2 : w.heap.size < w2.heap.size := by have := HB2.out.size; omega
  have hne : bo2 ≠ none := by
    rcases hv2 with ⟨_, h⟩ | ⟨_, _, _, _, h, _⟩
    · have := HT2.out; omega
    · injection h with h _ _; rw [h]; simp
  have HE2 : Hid (Below w.heap.size w w2) := Lib.hid (HB1.out.trans (HB2.out.mono (by have := HB1.out.size; omega)))
  clear hv2 ht22 hy hbel2 hy2
  have HNo : Hid (NoW w2 w.heap.size) := Lib.hid (by
      intro o x
      rw [hc]
      rcases o with _ | _ | _ | _ | o <;> simp [go_sem])
  have HF : Hid (∀ w' : World, Only w.heap.size w2 w' → Nt w' (.slice bo lb cb) t ∧ Nt w' (.slice bo2 lb2 cb2) t2 ∧ Below w.heap.size w w') := Lib.hid (fun w' ho => ⟨HVV.out.only ho HNo.out, HV2.out.only ho HNo.out, HE2.out.trans (ho.below HE2.out.size (Nat.le_refl _))⟩)
  obtain ⟨a2, rfl⟩ := Option.ne_none_iff_exists'.1 hne
  clear hne
  by_cases h1 : t2 = 1
  · have hd : decide (t2 = 1) = true := by simpa using h1
    go_wp2_with (go_at_call 77; refine (isOne_any _ _ t2 HV2.out HSy.out).mono ?_; rintro e w' ⟨rfl, rfl⟩)
    refine bodyPost_ret (v := .agg #[.bool neg, .slice bo lb cb, .slice none 0 0, .int .i64 (twos + z - y)]) (by simp [results, Tryz.results46, go_sem, hc, hsz2]) rfl ?_
    have hw := HF.out _ ((((((Only.refl w.heap.size w2).set 0 (Value.bool neg)).set 1 (Value.slice bo lb cb)).set 2 (Value.slice none 0 0)).set 3 (Value.int .i64 (twos + z - y))))
    exact ⟨_, _, t, t2, z, y, rfl, hw.1, HT.out, HZ.out, .inl ⟨h1, rfl⟩, HT2.out, HY.out, hw.2.2⟩
  · have hd : decide (t2 = 1) = false := by simpa using h1
    go_wp2_with (go_at_call 77; refine (isOne_any _ _ t2 HV2.out HSy.out).mono ?_; rintro e w' ⟨rfl, rfl⟩)
    refine bodyPost_ret (v := .agg #[.bool neg, .slice bo lb cb, .slice (some a2) lb2 cb2, .int .i64 (twos + z - y)]) (by simp [results, Tryz.results46, go_sem, hc, hsz2]) rfl ?_
    have hw := HF.out _ ((((((Only.refl w.heap.size w2).set 0 (Value.bool neg)).set 1 (Value.slice bo lb cb)).set 2 (Value.slice (some a2) lb2 cb2)).set 3 (Value.int .i64 (twos + z - y))))
    exact ⟨_, _, t, t2, z, y, rfl, hw.1, HT.out, HZ.out, .inr ⟨h1, hw.2.1⟩, HT2.out, HY.out, hw.2.2⟩
end Go.Proofs.YtebibadldcempaaGreatDoor
/-
  Contracts of package exact's numbers: the ones that only look at their fields.
-/
namespace Go.Proofs.YtebibadldcempaaGreatDoor
open Go.RowKit Go.Shelf
attribute [local go_sem] eqNil neqNil

/-- the fields of a number -/
structure Nm (w : World) (v : Value) (s : Bool) (t b e : Int) : Prop where
  ex : ∃ bo lb cb bo2 lb2 cb2, v = .agg #[.bool s, .slice bo lb cb, .slice bo2 lb2 cb2, .int .i64 e] ∧ Nt w (.slice bo lb cb) t ∧ Bt w (.slice bo2 lb2 cb2) b
theorem Nm.below {w w' : World} {v : Value} {s : Bool} {t b e : Int} (h : Nm w v s t b e) (hw : Below w.heap.size w w') : Nm w' v s t b e := by
  obtain ⟨bo, lb, cb, bo2, lb2, cb2, h1, h2, h3⟩ := h.ex
  exact ⟨bo, lb, cb, bo2, lb2, cb2, h1, h2.below hw, h3.below hw⟩
theorem Nt.isNone {w : World} {bo : Option Addr} {lb cb : Nat} {t : Int} (h : Nt w (.slice bo lb cb) t) : bo.isNone = decide (t = 0) := by
  rcases h with ⟨h, rfl⟩ | ⟨b, off, cap, zs, h, hN⟩
  · injection h with h1; subst h1; rfl
  · injection h with h1; subst h1
    have := hN.npos
    have : ¬ t = 0 := by omega
    simp [this]
theorem Bt.isNone {w : World} {bo : Option Addr} {lb cb : Nat} {t : Int} (h : Bt w (.slice bo lb cb) t) (h0 : t ≠ 0) : bo.isNone = decide (t = 1) := by
  rcases h with ⟨rfl, h⟩ | ⟨h1, h⟩
  · injection h with h1; subst h1; rfl
  · rw [h.isNone]; simp [h0, h1]

/-- what a number is boxed to -/
abbrev boxed (w : World) (v : Value) : World := match v with | .agg cs => w.alloc (.cells cs 32) | _ => w

def sgnI (s : Bool) (t : Int) : Int := if t = 0 then 0 else if s then -1 else 1

def SignPost (w : World) (x : Int) (e : Ending) (w' : World) : Prop := e = .returned (.int .i64 x) ∧ Below w.heap.size w w'

theorem sign_any (w : World) (v : Value) (s : Bool) (t b e : Int) (h : Nm w v s t b e) :
    Calls Tryz.prog 16 #[v] w (SignPost w (sgnI s t)) := by
  obtain ⟨bo, lb, cb, bo2, lb2, cb2, rfl, h1, h2⟩ := h.ex
  have hn := h1.isNone
  have hs : Hid (sgnI s t = if decide (t = 0) then 0 else if s then -1 else 1) := Lib.hid (by simp [sgnI])
  generalize decide (t = 0) = z at hn hs
  clear h h1 h2
  cases z
  · cases s
    all_goals
      go_enter Tryz.func16, Tryz.ntmps16
      go_wp2
      go_ret
      exact ⟨by rw [hs.out]; rfl, (Below.refl _ _).alloc (Nat.le_refl _) _⟩
  · go_enter Tryz.func16, Tryz.ntmps16
    go_wp2
    go_ret
    exact ⟨by rw [hs.out]; rfl, (Below.refl _ _).alloc (Nat.le_refl _) _⟩

def NmPost (w : World) (s : Bool) (t b e : Int) (en : Ending) (w' : World) : Prop := ∃ v, en = .returned v ∧ Nm w' v s t b e ∧ Below w.heap.size w w'

theorem abs_any (w : World) (v : Value) (s : Bool) (t b e : Int) (h : Nm w v s t b e) :
    Calls Tryz.prog 17 #[v] w (NmPost w false t b e) := by
  obtain ⟨bo, lb, cb, bo2, lb2, cb2, rfl, h1, h2⟩ := h.ex
  have H1 := Lib.hid h1
  have H2 := Lib.hid h2
  clear h h1 h2
  go_enter Tryz.func17, Tryz.ntmps17
  go_wp2
  refine bodyPost_ret (v := .agg #[.bool false, .slice bo lb cb, .slice bo2 lb2 cb2, .int .i64 e]) (by simp [results, Tryz.results17, go_sem]) rfl ?_
  have hb := ((Below.refl w.heap.size w).alloc (Nat.le_refl _) (.cells #[.bool false, .slice bo lb cb, .slice bo2 lb2 cb2, .int .i64 e] 32)).alloc (by simp) (.cells #[.bool false, .slice bo lb cb, .slice bo2 lb2 cb2, .int .i64 e] 32)
  exact ⟨_, rfl, ⟨_, _, _, _, _, _, rfl, H1.out.below hb, H2.out.below hb⟩, hb⟩

theorem neg_any (w : World) (v : Value) (s : Bool) (t b e : Int) (h : Nm w v s t b e) :
    Calls Tryz.prog 47 #[v] w (NmPost w (!s && !decide (t = 0)) t b e) := by
  obtain ⟨bo, lb, cb, bo2, lb2, cb2, rfl, h1, h2⟩ := h.ex
  have hn := h1.isNone
  generalize decide (t = 0) = z at hn ⊢
  have H1 := Lib.hid h1
  have H2 := Lib.hid h2
  clear h h1 h2
  have hb : ∀ q : Bool, Below w.heap.size w ((w.alloc (.cells #[.bool q, .slice bo lb cb, .slice bo2 lb2 cb2, .int .i64 e] 32)).alloc (.cells #[.bool q, .slice bo lb cb, .slice bo2 lb2 cb2, .int .i64 e] 32)) := fun q =>
    ((Below.refl w.heap.size w).alloc (Nat.le_refl _) (.cells #[.bool q, .slice bo lb cb, .slice bo2 lb2 cb2, .int .i64 e] 32)).alloc (by simp) (.cells #[.bool q, .slice bo lb cb, .slice bo2 lb2 cb2, .int .i64 e] 32)
  have HB := Lib.hid hb
  clear hb
  cases s <;> cases z
  all_goals
    go_enter Tryz.func47, Tryz.ntmps47
    go_wp2
  · refine bodyPost_ret (v := .agg #[.bool true, .slice bo lb cb, .slice bo2 lb2 cb2, .int .i64 e]) (by simp [results, Tryz.results47, go_sem]) rfl ?_
    exact ⟨_, rfl, ⟨_, _, _, _, _, _, rfl, H1.out.below (HB.out _), H2.out.below (HB.out _)⟩, HB.out _⟩
  all_goals
    refine bodyPost_ret (v := .agg #[.bool false, .slice bo lb cb, .slice bo2 lb2 cb2, .int .i64 e]) (by simp [results, Tryz.results47, go_sem]) rfl ?_
    exact ⟨_, rfl, ⟨_, _, _, _, _, _, rfl, H1.out.below (HB.out _), H2.out.below (HB.out _)⟩, HB.out _⟩

def BoolPost (w : World) (x : Bool) (e : Ending) (w' : World) : Prop := e = .returned (.bool x) ∧ Below w.heap.size w w'

theorem isInt_any (w : World) (v : Value) (s : Bool) (t b e : Int) (h : Nm w v s t b e) (hb : b ≠ 0) :
    Calls Tryz.prog 19 #[v] w (BoolPost w (decide (b = 1) && decide (0 ≤ e))) := by
  obtain ⟨bo, lb, cb, bo2, lb2, cb2, rfl, h1, h2⟩ := h.ex
  have hn := h2.isNone hb
  generalize decide (b = 1) = z at hn ⊢
  clear h h1 h2
  cases z
  all_goals
    go_enter Tryz.func19, Tryz.ntmps19
    go_wp2
    go_ret
    exact ⟨rfl, (Below.refl _ _).alloc (Nat.le_refl _) _⟩
end Go.Proofs.YtebibadldcempaaGreatDoor
/-
  Contracts of package exact's numbers: Shift, log, Log, whole, Int, and what a missing divisor makes short.
-/
namespace Go.Proofs.YtebibadldcempaaGreatDoor
open Go.RowKit Go.Shelf
attribute [local go_sem] eqNil neqNil

def NmErrPost (w : World) (s : Bool) (t b e : Int) (er : Int) (en : Ending) (w' : World) : Prop := ∃ v, en = .returned (.tuple #[v, .int .i64 er]) ∧ Nm w' v s t b e ∧ Below w.heap.size w w'

theorem shift_any (w : World) (v : Value) (s : Bool) (t b e k : Int) (h : Nm w v s t b e) (hk0 : -20000 ≤ k) (hk1 : k ≤ 20000) (he0 : -1000000 ≤ e) (he1 : e ≤ 1000000) :
    Calls Tryz.prog 167 #[v, .int .i64 k] w (NmErrPost w s t b (if t = 0 then e else e + k) 0) := by
  obtain ⟨bo, lb, cb, bo2, lb2, cb2, rfl, h1, h2⟩ := h.ex
  have hn := h1.isNone
  have hE0 : (if t = 0 then e else e + k) = if decide (t = 0) then e else e + k := by simp
  generalize (if t = 0 then e else e + k) = r at hE0 ⊢
  generalize decide (t = 0) = z at hn hE0
  have hE := Lib.hid hE0
  clear hE0
  have H1 := Lib.hid h1
  have H2 := Lib.hid h2
  clear h h1 h2
  have hb : ∀ q r : Int, Below w.heap.size w ((w.alloc (.cells #[.bool s, .slice bo lb cb, .slice bo2 lb2 cb2, .int .i64 q] 32)).alloc (.cells #[.bool s, .slice bo lb cb, .slice bo2 lb2 cb2, .int .i64 r] 32)) := fun q r =>
    ((Below.refl w.heap.size w).alloc (Nat.le_refl _) _).alloc (by simp) _
  have HB := Lib.hid hb
  clear hb
  cases z
  · go_enter Tryz.func167, Tryz.ntmps167
    go_wp2
    refine bodyPost_ret (v := .tuple #[.agg #[.bool s, .slice bo lb cb, .slice bo2 lb2 cb2, .int .i64 (e + k)], .int .i64 0]) (by simp [results, Tryz.results167, go_sem]) rfl ?_
    exact ⟨_, rfl, ⟨_, _, _, _, _, _, by rw [hE.out]; rfl, H1.out.below (HB.out _ _), H2.out.below (HB.out _ _)⟩, HB.out _ _⟩
  · go_enter Tryz.func167, Tryz.ntmps167
    go_wp2
    refine bodyPost_ret (v := .tuple #[.agg #[.bool s, .slice bo lb cb, .slice bo2 lb2 cb2, .int .i64 e], .int .i64 0]) (by simp [results, Tryz.results167, go_sem]) rfl ?_
    exact ⟨_, rfl, ⟨_, _, _, _, _, _, by rw [hE.out]; rfl, H1.out.below (HB.out _ _), H2.out.below (HB.out _ _)⟩, HB.out _ _⟩

def IntPost (w : World) (x : Int) (e : Ending) (w' : World) : Prop := e = .returned (.int .i64 x) ∧ Below w.heap.size w w'

theorem blen_big {n : Int} (h : n < big) : blen n ≤ 64000 := by
  by_cases h0 : n ≤ 0
  · unfold blen; rw [if_pos h0]; omega
  · obtain ⟨h1, _, h3⟩ := blen_spec (show 0 < n by omega)
    apply Classical.byContradiction
    intro hc
    have h4 : (2 : Int) ^ 64000 * 1 ≤ 2 ^ 64000 * 2 ^ (blen n - 1 - 64000) := Int.mul_le_mul_of_nonneg_left (show (1 : Int) ≤ 2 ^ (blen n - 1 - 64000) from p2pos _) (Int.le_of_lt (p2pos _))
    rw [← Int.pow_add, show 64000 + (blen n - 1 - 64000) = blen n - 1 by omega] at h4
    have h5 : big = 2 ^ 64000 := by unfold big; rw [pw_two]
    omega

theorem log_nil (w : World) (v : Value) (s : Bool) (t e : Int) (h : Nm w v s t 1 e) (ht : t < big) (h0 : 0 < t) (he0 : -1000000 ≤ e) (he1 : e ≤ 1000000) :
    Calls Tryz.prog 91 #[v] w (IntPost w (blen t - 1 + e)) := by
  obtain ⟨bo, lb, cb, bo2, lb2, cb2, rfl, h1, h2⟩ := h.ex
  obtain rfl : bo2 = none := by have := h2.isNone (by decide); simpa using this
  have hbl := blen_big ht
  obtain ⟨_, _, hb1⟩ := blen_spec h0
  generalize hL : blen t = L at hbl hb1 ⊢
  have HL := Lib.hid hL
  have H1 := Lib.hid h1
  have HT := Lib.hid ht
  clear h h1 h2 hL ht h0
  have HB : Hid (Below w.heap.size w (w.alloc (.cells #[.bool s, .slice bo lb cb, .slice none lb2 cb2, .int .i64 e] 32))) := Lib.hid ((Below.refl _ _).alloc (Nat.le_refl _) _)
  have hsz : ∀ wx, Below w.heap.size w wx → Calls Tryz.prog 92 #[.slice bo lb cb] wx fun en w' => en = .returned (.int .i64 L) ∧ w' = wx := fun wx hb => by
    refine (size_any wx _ t (H1.out.below hb) HT.out).mono ?_
    rintro en w' ⟨rfl, rfl⟩
    exact ⟨by rw [HL.out], rfl⟩
  have HS := Lib.hid hsz
  clear hsz
  have x1 : IntKind.i64.wrap ((L : Int) - 1) = (L : Int) - 1 := IntWalk.i64_in _ (by omega)
  have x2 : IntKind.i64.wrap ((L : Int) - 1 + e) = (L : Int) - 1 + e := IntWalk.i64_in _ (by omega)
  go_enter Tryz.func91, Tryz.ntmps91
  go_wp2_with fail
  go_quiet ((go_at_call 92; exact Calls.quiet_of_same (HS.out _ (HB.out.trans ((Drw.step _ _).below _)))))
  go_wp2_with fail
  go_ret
  exact ⟨rfl, HB.out.trans ((Drw.step _ _).below _)⟩
end Go.Proofs.YtebibadldcempaaGreatDoor
