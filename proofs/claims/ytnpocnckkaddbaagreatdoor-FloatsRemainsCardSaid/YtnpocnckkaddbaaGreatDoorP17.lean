/-
  Numbers with a divisor: K 2^k / D: what their fields are.
-/
import Derived.Test.YtnpocnckkaddbaaGreatDoorP11
import Derived.Test.YtnpocnckkaddbaaGreatDoorP10
set_option linter.unusedVariables false
set_option linter.unusedSimpArgs false
set_option linter.unusedSectionVars false
namespace Go.Proofs.YtnpocnckkaddbaaGreatDoor
open Go.RowKit Go.Shelf

/-- the fields of the number K 2^k / D -/
def Qr (s : Bool) (t b e K D k : Int) : Prop :=
  0 < D ∧ ((t = 0 ∧ s = false ∧ b = 1 ∧ e = 0 ∧ K = 0) ∨ (t % 2 = 1 ∧ 0 < t ∧ b % 2 = 1 ∧ 0 < b ∧ Int.gcd t b = 1 ∧ ∃ i j : Nat, e - i = k - j ∧ sg s t * 2 ^ i * D = K * 2 ^ j * b))

def Qn (w : World) (v : Value) (K D k : Int) : Prop := ∃ s t b e, Nm w v s t b e ∧ Qr s t b e K D k
theorem Qn.below {w w' : World} {v : Value} {K D k : Int} (h : Qn w v K D k) (hw : Below w.heap.size w w') : Qn w' v K D k := by
  obtain ⟨s, t, b, e, h1, h2⟩ := h
  exact ⟨s, t, b, e, h1.below hw, h2⟩
theorem Qn.shape {w : World} {v : Value} {K D k : Int} (h : Qn w v K D k) : ∃ s bo lb cb bo2 lb2 cb2 e, v = .agg #[.bool s, .slice bo lb cb, .slice bo2 lb2 cb2, .int .i64 e] := by
  obtain ⟨s, t, b, e, h1, _⟩ := h
  obtain ⟨bo, lb, cb, bo2, lb2, cb2, h1, _⟩ := h1.ex
  exact ⟨_, _, _, _, _, _, _, _, h1⟩
theorem Qn.only {w w' : World} {g : Nat} {v : Value} {K D k : Int} (h : Qn w v K D k) (ho : Only g w w') (hno : NoW w g) : Qn w' v K D k := by
  obtain ⟨s, t, b, e, h1, h2⟩ := h
  exact ⟨s, t, b, e, h1.only ho hno, h2⟩
def QnPost (w : World) (K D k : Int) (en : Ending) (w' : World) : Prop := ∃ v, en = .returned v ∧ Qn w' v K D k ∧ Below w.heap.size w w'
theorem Qr.neg {s : Bool} {t b e K D k : Int} (h : Qr s t b e K D k) : s = decide (K < 0) := by
  obtain ⟨hD, h⟩ := h
  rcases h with ⟨_, rfl, _, _, rfl⟩ | ⟨_, t0, _, pb, _, i, j, _, hk⟩
  · rfl
  · have hp : 0 < t * 2 ^ i * D := Int.mul_pos (Int.mul_pos t0 (p2pos i)) hD
    have hq : 0 < 2 ^ j * b := Int.mul_pos (p2pos j) pb
    rw [Int.mul_assoc K] at hk
    cases s
    · have e : sg false t = t := rfl
      rw [e] at hk
      have : ¬ K < 0 := fun h => by
        have := Int.mul_neg_of_neg_of_pos h hq
        omega
      simp [this]
    · have e : sg true t * 2 ^ i * D = -(t * 2 ^ i * D) := by
        show (-t) * 2 ^ i * D = _
        rw [Int.neg_mul, Int.neg_mul]
      rw [e] at hk
      have : K < 0 := by
        apply Classical.byContradiction
        intro h
        have := Int.mul_nonneg (show 0 ≤ K by omega) (Int.le_of_lt hq)
        omega
      simp [this]
end Go.Proofs.YtnpocnckkaddbaaGreatDoor
/-
  Contracts of package exact's naturals: products by a word, products by rows.
-/
namespace Go.Proofs.YtnpocnckkaddbaaGreatDoor
open Go.RowKit Go.Shelf

theorem mul64 (x y : Int) (hx : 0 ≤ x) (hx' : x < 18446744073709551616) (hy : 0 ≤ y) (hy' : y < 18446744073709551616) (w : World) :
    Calls Tryz.prog 254 #[.int .u64 x, .int .u64 y] w fun e w' => e = .returned (.tuple #[.int .u64 (x * y / 18446744073709551616), .int .u64 (x * y % 18446744073709551616)]) ∧ w' = w := by
  obtain ⟨x, rfl⟩ := Int.eq_ofNat_of_zero_le hx
  obtain ⟨y, rfl⟩ := Int.eq_ofNat_of_zero_le hy
  refine (Any.bits_Mul64 Tryz.lays264 x y (by omega) (by omega) w).mono ?_
  rintro e w' ⟨h1, h2⟩
  refine ⟨?_, h2⟩
  rw [h1, ← Int.natCast_mul]
  generalize x * y = p
  congr 5 <;> omega
/-- the halves of a product, by name -/
theorem mul64_halves (x y : Int) (hx : 0 ≤ x) (hx' : x < 18446744073709551616) (hy : 0 ≤ y) (hy' : y < 18446744073709551616) :
    ∃ hi lo : Int, 0 ≤ hi ∧ hi ≤ 18446744073709551614 ∧ 0 ≤ lo ∧ lo < 18446744073709551616 ∧ x * y = hi * 18446744073709551616 + lo ∧ x * y ≤ 18446744073709551615 * 18446744073709551615 ∧
    ∀ w : World, Calls Tryz.prog 254 #[.int .u64 x, .int .u64 y] w fun e w' => e = .returned (.tuple #[.int .u64 hi, .int .u64 lo]) ∧ w' = w := by
  have h0 : 0 ≤ x * y := Int.mul_nonneg hx hy
  have h1 : x * y ≤ 18446744073709551615 * y := Int.mul_le_mul_of_nonneg_right (by omega) hy
  refine ⟨x * y / 18446744073709551616, x * y % 18446744073709551616, by omega, by omega, by omega, by omega, by omega, by omega, fun w => mul64 x y hx hx' hy hy' w⟩

/-! scale -/
structure ScaleInv (g : Nat) (za : List Int) (f m : Int) (n i : Nat) (w : World) (c : Int) (L : List Int) : Prop where
  len : L.length = n
  wd : Wd L
  val : nv L + pw ^ i * c = nv (za.take i) * f + m
  high : ∀ j, i ≤ j → gd L j = 0
  blk : Blk w g L
theorem scale_start {g : Nat} {za : List Int} {f m : Int} {n : Nat} {w : World} (h : Blk w g (List.replicate n 0)) : ScaleInv g za f m n 0 w m (List.replicate n 0) :=
  ⟨List.length_replicate, Wd_replicate n, by rw [nv_replicate]; simp [nv], fun j _ => gd_zeros n j, h⟩
theorem scale_step {g : Nat} {za : List Int} {f m c hi lo : Int} {n i : Nat} {w w2 : World} {L : List Int} (hn : i < n) (h : ScaleInv g za f m n i w c L) (hp : gd za i * f = hi * 18446744073709551616 + lo)
    (hB : Blk w2 g (L.set i ((lo + c) % 18446744073709551616))) : ScaleInv g za f m n (i + 1) w2 (hi + (lo + c) / 18446744073709551616) (L.set i ((lo + c) % 18446744073709551616)) := by
  refine ⟨by simp [h.len], Wd_set h.wd ⟨Int.emod_nonneg _ (by omega), Int.emod_lt_of_pos _ (by omega)⟩, ?_, ?_, hB⟩
  · rw [nv_set _ _ _ (by rw [h.len]; exact hn), h.high i (Nat.le_refl _), nv_take_all, Int.pow_succ, show pw = 18446744073709551616 from rfl, Int.add_mul]
    have hv := h.val
    rw [show pw = 18446744073709551616 from rfl] at hv
    have e := Int.mul_ediv_add_emod (lo + c) 18446744073709551616
    generalize (lo + c) / 18446744073709551616 = q at *
    generalize (lo + c) % 18446744073709551616 = r at *
    have : r = lo + c - 18446744073709551616 * q := by omega
    rw [this, Int.mul_assoc (18446744073709551616 ^ i) (gd za i) f, hp]
    grind
  · intro j hj
    rw [gd_set_ne (by omega)]
    exact h.high j (by omega)
set_option maxRecDepth 100000 in
set_option maxHeartbeats 1000000 in
theorem scale_any (w : World) (b off cap : Nat) (za : List Int) (x f m : Int) (ha : Ns w b off cap za x) (hx : x < big) (f0 : 0 ≤ f) (f1 : f < 18446744073709551616) (m0 : 0 ≤ m) (m1 : m < 18446744073709551616) :
    Calls Tryz.prog 221 #[.slice (some ⟨b, off, none⟩) za.length cap, .int .u64 f, .int .u64 m] w (NewNt w (x * f + m)) := by
  have hl := ha.len hx
  have hcap := ha.cap
  have HLT := Lib.hid ha.lt
  have H := Lib.hid ha
  clear ha hx
  obtain ⟨l, hl'⟩ : ∃ l, za.length = l := ⟨_, rfl⟩
  have HL := Lib.hid hl'
  rw [hl'] at hl hcap ⊢
  clear hl'
  obtain ⟨i0, hi, hz0, hz1, hz2⟩ := info_parts infoU
  go_enter Tryz.func221, Tryz.ntmps221
  go_wp2_with (at_make; refine wpList_make_full w rfl (.tmp 15) (.tmp 15) 45 rfl w.heap.size 24 i0 (.int .u64 0) 1 Tryz.underlying45 hi hz0 hz1 .i64 .i64 _ _ (l + 1) rfl rfl (by omega) (by omega) (by rw [hz2]; omega) (by unfold maxLen; omega) (Nat.le_refl _) ?_; intro w1 hown hgrow; have hblk := Lib.hid (blk_made hown); have hbel := Lib.hid (below_made hgrow); clear hown hgrow hi hz0 hz1 hz2)
  generalize hg : w.heap.size = g at hblk hbel
  have HG := Lib.hid hg
  clear hg
  go_loopw [2, 19] (fun u v wr => ∃ (i : Nat) (c : Int), i ≤ l ∧ 0 ≤ c ∧ c < 18446744073709551616 ∧ u = .int .u64 c ∧ v = .int .i64 i ∧ Hid (Below g w wr ∧ ∃ L, ScaleInv g za f m (l + 1) i wr c L)) (fun _ v _ => l - (intOf v).toNat)
  case atStart => exact ⟨0, m, Nat.zero_le _, m0, m1, rfl, rfl, Lib.hid ⟨hbel.out, _, scale_start hblk.out⟩⟩
  case round =>
    obtain ⟨i, c, him, c0, c1, rfl, rfl, hr⟩ := hrel
    by_cases hlt : i < l
    · obtain ⟨hbw, L, hL⟩ := hr.out
      have cA := (hbw.cell (p := ⟨b, off + i, none⟩) (by have := HLT.out; have := HG.out; simp; omega)).trans (H.out.row i (by rw [HL.out]; omega))
      have cO := hL.blk.cell i (by rw [hL.len]; omega)
      have fO := hL.blk.frozen i
      have HI := Lib.hid hL
      have HBw := Lib.hid hbw
      obtain ⟨a0, a1⟩ := gd_bounds H.out.wd i
      obtain ⟨hi, lo, p0, p1, p2, p3, p4, p5, hc⟩ := mul64_halves (gd za i) f a0 a1 f0 f1
      have HC := Lib.hid hc
      have HP := Lib.hid p4
      have hw : hi + (lo + c) / 18446744073709551616 < 18446744073709551616 := by omega
      have HW : Hid (IntKind.u64.wrap (hi + (lo + c) / 18446744073709551616) = hi + (lo + c) / 18446744073709551616) := Lib.hid (by rw [IntKind.wrap_u64]; omega)
      have HA := Lib.hid (add64_0 lo c p2 c0)
      have HN : Hid (0 ≤ hi + (lo + c) / 18446744073709551616 ∧ hi + (lo + c) / 18446744073709551616 < 18446744073709551616) := Lib.hid ⟨by omega, hw⟩
      clear hr hL hbw hc p0 p1 p2 p3 p4 p5 hw a0 a1
      go_wp2_with (first | (go_at_call 254; refine (HC.out _).mono ?_; rintro e w' ⟨rfl, rfl⟩) | simp only [HA.out])
      go_roundw
      case rel =>
        refine ⟨i + 1, hi + (lo + c) / 18446744073709551616, by omega, HN.out.1, HN.out.2, by rw [HW.out], by go_num, Lib.hid ⟨below_set HBw.out (Nat.le_refl _) _ _, _, scale_step (by omega) HI.out HP.out (HI.out.blk.set _ _)⟩⟩
      case measure => simp [intOf] <;> omega
    · have hie : i = l := by omega
      subst hie
      clear hlt him
      obtain ⟨hbw, L, hL⟩ := hr.out
      have hLL := hL.len
      have cO := hL.blk.cell i (by rw [hL.len]; omega)
      have fO := hL.blk.frozen i
      have HH := Lib.hid hL
      have HBw := Lib.hid hbw
      clear hr hL hbw hLL
      have hval : nv (L.set i c) = x * f + m := by
        rw [nv_set _ _ _ (by rw [HH.out.len]; omega), HH.out.high i (Nat.le_refl _)]
        have hv := HH.out.val
        rw [show za.take i = za by rw [← HL.out, List.take_length], H.out.val] at hv
        rw [← hv, Int.sub_zero]
      have hwd : Wd (L.set i c) := Wd_set HH.out.wd ⟨c0, c1⟩
      have HV := Lib.hid (And.intro hval hwd)
      clear hval hwd
      have hcut : ∀ wr', Blk wr' g (L.set i c) → _ := fun wr' hb => cut_any g 0 (i + 1) (L.set i c) wr' (by simp [HH.out.len]; omega) (by simp [HH.out.len]) hb.row
      have hBs := HH.out.blk.set i c
      have hcut2 := hcut _ hBs
      rw [show (L.set i c).length = i + 1 by simp [HH.out.len]] at hcut2
      have HC := Lib.hid hcut2
      have HBs := Lib.hid hBs
      clear hcut hcut2 hBs
      go_wp2_with fail
      refine HC.out.mono ?_
      rintro e w' ⟨rfl, m', hm1, hm2, hm3, rfl⟩
      go_wp2_with fail
      go_ret
      refine ⟨_, rfl, ?_, below_set (by rw [HG.out]; exact HBw.out) (by rw [HG.out]; exact Nat.le_refl _) _ _⟩
      rw [← HV.out.1]
      exact nt_cut HBs.out.row HBs.out.lt HBs.out.ty HV.out.2 (by simp [HH.out.len]) m' hm1 hm2 hm3
end Go.Proofs.YtnpocnckkaddbaaGreatDoor
/-
  Contracts of package exact's naturals: a product by a word, added to words; products by rows.
-/
namespace Go.Proofs.YtnpocnckkaddbaaGreatDoor
open Go.RowKit Go.Shelf

structure ProdInv (g o : Nat) (M zb : List Int) (f : Int) (i : Nat) (w : World) (c : Int) (M' : List Int) : Prop where
  len : M'.length = M.length
  wd : Wd M'
  val : nv M' = nv M + pw ^ o * (nv (zb.take i) * f) - pw ^ (o + i) * c
  same : ∀ j, j < o ∨ o + i ≤ j → gd M' j = gd M j
  blk : Blk w g M'
theorem prod_start {g o : Nat} {M zb : List Int} {f : Int} {w : World} (h : Blk w g M) (hM : Wd M) : ProdInv g o M zb f 0 w 0 M :=
  ⟨rfl, hM, by simp [nv], fun j _ => rfl, h⟩
theorem prod_step {g o : Nat} {M zb M' : List Int} {f c hi lo : Int} {i : Nat} {w w2 : World} (hn : o + i < M.length) (h : ProdInv g o M zb f i w c M') (hp : gd zb i * f = hi * 18446744073709551616 + lo)
    (hB : Blk w2 g (M'.set (o + i) ((gd M' (o + i) + (lo + c) % 18446744073709551616) % 18446744073709551616))) :
    ProdInv g o M zb f (i + 1) w2 (hi + (lo + c) / 18446744073709551616 + (gd M' (o + i) + (lo + c) % 18446744073709551616) / 18446744073709551616) (M'.set (o + i) ((gd M' (o + i) + (lo + c) % 18446744073709551616) % 18446744073709551616)) := by
  refine ⟨by simp [h.len], Wd_set h.wd ⟨Int.emod_nonneg _ (by omega), Int.emod_lt_of_pos _ (by omega)⟩, ?_, ?_, hB⟩
  · rw [nv_set _ _ _ (by rw [h.len]; exact hn), h.val, nv_take_all, show o + (i + 1) = o + i + 1 by omega, Int.pow_succ, Int.pow_add, show pw = 18446744073709551616 from rfl, Int.add_mul, Int.mul_assoc (18446744073709551616 ^ i) (gd zb i) f, hp]
    have e1 := Int.mul_ediv_add_emod (lo + c) 18446744073709551616
    generalize (lo + c) / 18446744073709551616 = q at *
    generalize (lo + c) % 18446744073709551616 = r at *
    have e2 := Int.mul_ediv_add_emod (gd M' (o + i) + r) 18446744073709551616
    generalize (gd M' (o + i) + r) / 18446744073709551616 = q2 at *
    generalize (gd M' (o + i) + r) % 18446744073709551616 = r2 at *
    have h1 : r = lo + c - 18446744073709551616 * q := by omega
    have h2 : r2 = gd M' (o + i) + r - 18446744073709551616 * q2 := by omega
    rw [h2, h1]; grind
  · intro j hj
    rw [gd_set_ne (by omega)]
    exact h.same j (by omega)

/-- what addProduct leaves -/
def ProdPost (w : World) (g o n : Nat) (M : List Int) (y : Int) (e : Ending) (w' : World) : Prop :=
  ∃ (c : Int) (M' : List Int), 0 ≤ c ∧ c < 18446744073709551616 ∧ e = .returned (.int .u64 c) ∧ Only g w w' ∧ M'.length = M.length ∧ Wd M' ∧ nv M' = nv M + pw ^ o * y - pw ^ (o + n) * c ∧ (∀ j, j < o ∨ o + n ≤ j → gd M' j = gd M j) ∧ Blk w' g M'

set_option maxRecDepth 100000 in
set_option maxHeartbeats 1000000 in
theorem addProduct_any (w : World) (g o n cap : Nat) (M : List Int) (hB : Blk w g M) (hM : Wd M) (b off cap2 : Nat) (zb : List Int) (hon : o + zb.length ≤ M.length) (hMl : M.length ≤ 10000) (hl : zb.length ≤ n) (hcap : zb.length ≤ cap2)
    (hwd : Wd zb) (hr : Row w b off zb) (hne : b ≠ g) (f : Int) (f0 : 0 ≤ f) (f1 : f < 18446744073709551616) :
    Calls Tryz.prog 255 #[.slice (some ⟨g, o, none⟩) n cap, .slice (some ⟨b, off, none⟩) zb.length cap2, .int .u64 f] w (ProdPost w g o zb.length M (nv zb * f)) := by
  have HM := Lib.hid (And.intro hB hM)
  have HW := Lib.hid hwd
  have HR := Lib.hid hr
  clear hB hM hwd hr
  obtain ⟨m, hm⟩ : ∃ m, M.length = m := ⟨_, rfl⟩
  have Hm := Lib.hid hm
  rw [hm] at hon hMl
  clear hm
  obtain ⟨l, hl'⟩ : ∃ l, zb.length = l := ⟨_, rfl⟩
  have HL := Lib.hid hl'
  rw [hl'] at hl hcap hon ⊢
  clear hl'
  go_enter Tryz.func255, Tryz.ntmps255
  go_wp2_with fail
  go_loopw [7, 15] (fun u v wr => ∃ (i : Nat) (c : Int), i ≤ l ∧ 0 ≤ c ∧ c < 18446744073709551616 ∧ u = .int .u64 c ∧ v = .int .i64 i ∧ Hid (Only g w wr ∧ ∃ M', ProdInv g o M zb f i wr c M')) (fun _ v _ => l - (intOf v).toNat)
  case atStart => exact ⟨0, 0, Nat.zero_le _, by omega, by omega, rfl, rfl, Lib.hid ⟨Only.refl _ _, _, prod_start HM.out.1 HM.out.2⟩⟩
  case round =>
    obtain ⟨i, c, him, c0, c1, rfl, rfl, hr⟩ := hrel
    by_cases hlt : i < l
    · obtain ⟨hon', M', hI⟩ := hr.out
      have cA := hon'.cell (HR.out i (by rw [HL.out]; omega)) hne
      have cO := hI.blk.cell (o + i) (by rw [hI.len, Hm.out]; omega)
      have fO := hI.blk.frozen (o + i)
      have HI := Lib.hid hI
      have HO := Lib.hid hon'
      obtain ⟨a0, a1⟩ := gd_bounds hI.wd (o + i)
      obtain ⟨b0, b1⟩ := gd_bounds HW.out i
      obtain ⟨hi, lo, p0, p1, p2, p3, p4, p5, hc⟩ := mul64_halves (gd zb i) f b0 b1 f0 f1
      have HC := Lib.hid hc
      have HP := Lib.hid p4
      have q0 : 0 ≤ (lo + c) % 18446744073709551616 := Int.emod_nonneg _ (by decide)
      have HA := Lib.hid (add64_0 lo c p2 c0)
      have HA2 := Lib.hid (add64_0 (gd M' (o + i)) ((lo + c) % 18446744073709551616) a0 q0)
      have hw1 : hi + (lo + c) / 18446744073709551616 < 18446744073709551616 := by omega
      have hw2 : hi + (lo + c) / 18446744073709551616 + (gd M' (o + i) + (lo + c) % 18446744073709551616) / 18446744073709551616 < 18446744073709551616 := by omega
      have HN : Hid (0 ≤ hi + (lo + c) / 18446744073709551616 + (gd M' (o + i) + (lo + c) % 18446744073709551616) / 18446744073709551616 ∧ hi + (lo + c) / 18446744073709551616 + (gd M' (o + i) + (lo + c) % 18446744073709551616) / 18446744073709551616 < 18446744073709551616) := Lib.hid ⟨by omega, hw2⟩
      have HW1 : Hid (IntKind.u64.wrap (hi + (lo + c) / 18446744073709551616) = hi + (lo + c) / 18446744073709551616) := Lib.hid (by rw [IntKind.wrap_u64]; omega)
      have HW2 : Hid (IntKind.u64.wrap (hi + (lo + c) / 18446744073709551616 + (gd M' (o + i) + (lo + c) % 18446744073709551616) / 18446744073709551616) = hi + (lo + c) / 18446744073709551616 + (gd M' (o + i) + (lo + c) % 18446744073709551616) / 18446744073709551616) := Lib.hid (by rw [IntKind.wrap_u64]; omega)
      have HE : Hid ((gd M' (o + i) + (lo + c) % 18446744073709551616) % 18446744073709551616 = (gd M' (o + i) + (lo + c)) % 18446744073709551616) := Lib.hid (by omega)
      clear hr hI hon' hc p0 p1 p2 p3 p4 p5 q0 hw1 hw2 a0 a1 b0 b1
      go_wp2_with (first | (go_at_call 254; refine (HC.out _).mono ?_; rintro e w' ⟨rfl, rfl⟩) | simp only [HA.out] | simp only [HA2.out])
      go_roundw
      case rel => exact ⟨i + 1, _, by omega, HN.out.1, HN.out.2, by rw [HW1.out, HW2.out], by go_num, Lib.hid ⟨HO.out.set _ _, _, prod_step (by rw [Hm.out]; omega) HI.out HP.out (by rw [HE.out]; exact HI.out.blk.set _ _)⟩⟩
      case measure => simp [intOf] <;> omega
    · have hie : i = l := by omega
      subst hie
      clear hlt him
      go_wp2_with fail
      go_ret
      obtain ⟨h7, M', h8⟩ := hr.out
      refine ⟨c, M', c0, c1, rfl, h7, h8.len, h8.wd, ?_, h8.same, h8.blk⟩
      rw [h8.val, List.take_of_length_le (by rw [HL.out]; exact Nat.le_refl _)]
end Go.Proofs.YtnpocnckkaddbaaGreatDoor
/-
  Contracts of package exact's naturals: products by rows.
-/
namespace Go.Proofs.YtnpocnckkaddbaaGreatDoor
open Go.RowKit Go.Shelf

structure RowsInv (g la : Nat) (zb : List Int) (x : Int) (n i : Nat) (w : World) (L : List Int) : Prop where
  len : L.length = n
  wd : Wd L
  val : nv L = x * nv (zb.take i)
  high : ∀ j, i + la ≤ j → gd L j = 0
  blk : Blk w g L
theorem rows_start {g la : Nat} {zb : List Int} {x : Int} {n : Nat} {w : World} (h : Blk w g (List.replicate n 0)) : RowsInv g la zb x n 0 w (List.replicate n 0) :=
  ⟨List.length_replicate, Wd_replicate n, by rw [nv_replicate]; simp [nv], fun j _ => gd_zeros n j, h⟩
theorem rows_step {g la : Nat} {zb : List Int} {x c : Int} {n i : Nat} {w w2 : World} {L M' : List Int} (hn : i + la < n) (h : RowsInv g la zb x n i w L) (c0 : 0 ≤ c) (c1 : c < 18446744073709551616) (h2 : M'.length = L.length) (h3 : Wd M')
    (h4 : nv M' = nv L + pw ^ i * (x * gd zb i) - pw ^ (i + la) * c) (h5 : ∀ j, j < i ∨ i + la ≤ j → gd M' j = gd L j) (hB : Blk w2 g (M'.set (i + la) c)) : RowsInv g la zb x n (i + 1) w2 (M'.set (i + la) c) := by
  refine ⟨by simp [h2, h.len], Wd_set h3 ⟨c0, c1⟩, ?_, ?_, hB⟩
  · rw [nv_set _ _ _ (by rw [h2, h.len]; exact hn), h5 (i + la) (.inr (Nat.le_refl _)), h.high (i + la) (Nat.le_refl _), h4, h.val, nv_take_all]
    grind
  · intro j hj
    rw [gd_set_ne (by omega), h5 j (.inr (by omega))]
    exact h.high j (by omega)
set_option maxRecDepth 100000 in
set_option maxHeartbeats 1000000 in
theorem mulRows_any (w : World) (b off cap : Nat) (za : List Int) (x : Int) (b2 off2 cap2 : Nat) (zb : List Int) (y : Int) (ha : Ns w b off cap za x) (hb : Ns w b2 off2 cap2 zb y) (hx : x < big) (hy : y < big) :
    Calls Tryz.prog 222 #[.slice (some ⟨b, off, none⟩) za.length cap, .slice (some ⟨b2, off2, none⟩) zb.length cap2] w (NewNt w (x * y)) := by
  have hl := ha.len hx
  have hl2 := hb.len hy
  have hcap := ha.cap
  have hcap2 := hb.cap
  have hpos := ha.pos
  have hpos2 := hb.pos
  have HLT := Lib.hid ha.lt
  have HLT2 := Lib.hid hb.lt
  have H := Lib.hid ha
  have H2 := Lib.hid hb
  clear ha hb hx hy
  obtain ⟨l, hl'⟩ : ∃ l, za.length = l := ⟨_, rfl⟩
  obtain ⟨k, hk'⟩ : ∃ k, zb.length = k := ⟨_, rfl⟩
  have HL := Lib.hid hl'
  have HK := Lib.hid hk'
  rw [hl'] at hl hcap hpos ⊢
  rw [hk'] at hl2 hcap2 hpos2 ⊢
  clear hl' hk'
  obtain ⟨i0, hi, hz0, hz1, hz2⟩ := info_parts infoU
  go_enter Tryz.func222, Tryz.ntmps222
  go_wp2_with (at_make; refine wpList_make_full w rfl (.tmp 12) (.tmp 12) 45 rfl w.heap.size 24 i0 (.int .u64 0) 1 Tryz.underlying45 hi hz0 hz1 .i64 .i64 _ _ (l + k) rfl rfl (by omega) (by omega) (by rw [hz2]; omega) (by unfold maxLen; omega) (Nat.le_refl _) ?_; intro w1 hown hgrow; have hblk := Lib.hid (blk_made hown); have hbel := Lib.hid (below_made hgrow); clear hown hgrow hi hz0 hz1 hz2)
  generalize hg : w.heap.size = g at hblk hbel
  have HG := Lib.hid hg
  clear hg
  go_loopw [16] (fun v wr => ∃ (i : Nat), i ≤ k ∧ v = .int .i64 i ∧ Hid (Below g w wr ∧ ∃ L, RowsInv g l zb x (l + k) i wr L)) (fun v _ => k - (intOf v).toNat)
  case atStart => exact ⟨0, Nat.zero_le _, rfl, Lib.hid ⟨hbel.out, _, rows_start hblk.out⟩⟩
  case round =>
    obtain ⟨i, him, rfl, hr⟩ := hrel
    by_cases hlt : i < k
    · obtain ⟨hbw, L, hL⟩ := hr.out
      have cA := (hbw.cell (p := ⟨b2, off2 + i, none⟩) (by have := HLT2.out; have := HG.out; simp; omega)).trans (H2.out.row i (by rw [HK.out]; omega))
      have HI := Lib.hid hL
      have HBw := Lib.hid hbw
      have HA := Lib.hid (H.out.below (w' := wr) (by rw [HG.out]; exact hbw))
      obtain ⟨b0, b1⟩ := gd_bounds H2.out.wd i
      have HC : Hid (∀ cp : Nat, Calls Tryz.prog 255 #[.slice (some ⟨g, i, none⟩) l cp, .slice (some ⟨b, off, none⟩) l cap, .int .u64 (gd zb i)] wr (ProdPost wr g i l L (x * gd zb i))) := Lib.hid fun cp => by
        have h := addProduct_any wr g i l cp L HI.out.blk HI.out.wd b off cap za (by rw [HL.out, HI.out.len]; omega) (by rw [HI.out.len]; omega) (by rw [HL.out]; exact Nat.le_refl _) (by rw [HL.out]; exact hcap) HA.out.wd HA.out.row (by have := HLT.out; have := HG.out; omega) (gd zb i) b0 b1
        rw [HL.out, HA.out.val] at h
        exact h
      clear hr hL hbw b0 b1
      go_wp2_with (go_at_call 255; refine (HC.out _).mono ?_; rintro e w' ⟨c, M', c0, c1, rfl, h1, h2, h3, h4, h5, h6⟩; have cO := h6.cell (i + l) (by rw [h2, HI.out.len]; omega); have fO := h6.frozen (i + l); have HP := Lib.hid (And.intro c0 (And.intro c1 (And.intro h1 (And.intro h2 (And.intro h3 (And.intro h4 (And.intro h5 h6))))))); clear c0 c1 h1 h2 h3 h4 h5 h6)
      obtain ⟨c0, c1, h1, h2, h3, h4, h5, h6⟩ := HP.out
      go_roundw
      case rel => exact ⟨i + 1, by omega, by go_num, Lib.hid ⟨below_set (HBw.out.grown h1 (by have := HBw.out.size; have := HG.out; omega) (fun _ hk => by cases hk; exact Nat.le_refl _)) (Nat.le_refl _) _ _, _, rows_step (by omega) HI.out c0 c1 h2 h3 h4 h5 (h6.set _ _)⟩⟩
      case measure => simp [intOf] <;> omega
    · have hie : i = k := by omega
      subst hie
      clear hlt him
      obtain ⟨hbw, L, hL⟩ := hr.out
      have HH := Lib.hid hL
      have HBw := Lib.hid hbw
      clear hr hL hbw
      have hcut := cut_any g 0 (l + i) L wr (by rw [HH.out.len]; omega) (by rw [HH.out.len]; exact Nat.le_refl _) HH.out.blk.row
      rw [HH.out.len] at hcut
      have HC := Lib.hid hcut
      clear hcut
      go_wp2_with fail
      refine HC.out.mono ?_
      rintro e w' ⟨rfl, m', hm1, hm2, hm3, rfl⟩
      go_wp2_with fail
      go_ret
      refine ⟨_, rfl, ?_, by rw [HG.out]; exact HBw.out⟩
      have hv := HH.out.val
      rw [show zb.take i = zb by rw [← HK.out, List.take_length], H2.out.val] at hv
      rw [← hv]
      exact nt_cut HH.out.blk.row HH.out.blk.lt HH.out.blk.ty HH.out.wd (by rw [HH.out.len]; exact Nat.le_refl _) m' hm1 hm2 hm3
end Go.Proofs.YtnpocnckkaddbaaGreatDoor
/-
  Contracts of package exact's naturals: products, the shorter one with fewer than 40 words.
-/
namespace Go.Proofs.YtnpocnckkaddbaaGreatDoor
open Go.RowKit Go.Shelf

theorem Ns.one {w : World} {b off cap : Nat} {zs : List Int} {n : Int} (h : Ns w b off cap zs n) (h1 : zs.length = 1) : gd zs 0 = n := by
  have h2 := h.val
  match zs, h1 with
  | [z], _ =>
    simp only [nv] at h2
    simp [gd]
    omega

set_option maxRecDepth 100000 in
set_option maxHeartbeats 1000000 in
theorem mul_ge (w : World) (b off cap : Nat) (za : List Int) (x : Int) (b2 off2 cap2 : Nat) (zb : List Int) (y : Int) (ha : Ns w b off cap za x) (hb : Ns w b2 off2 cap2 zb y) (hx : x < big) (hy : y < big) (hl : zb.length ≤ za.length) (h40 : zb.length < 40) :
    Calls Tryz.prog 160 #[.slice (some ⟨b, off, none⟩) za.length cap, .slice (some ⟨b2, off2, none⟩) zb.length cap2] w (NewNt w (x * y)) := by
  have HR := Lib.hid (mulRows_any w b off cap za x b2 off2 cap2 zb y ha hb hx hy)
  have cB := hb.row 0 hb.pos
  have hla := ha.len hx
  have hpos := hb.pos
  have hcap := ha.cap
  have hcap2 := hb.cap
  obtain ⟨y0, y1⟩ := gd_bounds hb.wd 0
  have HS := Lib.hid (scale_any w b off cap za x (gd zb 0) 0 ha hx y0 y1 (Int.le_refl 0) (by decide))
  have H2 := Lib.hid hb
  rw [Nat.add_zero] at cB
  clear ha hb hx hy
  obtain ⟨l, hl'⟩ : ∃ l, za.length = l := ⟨_, rfl⟩
  obtain ⟨k, hk'⟩ : ∃ k, zb.length = k := ⟨_, rfl⟩
  have HK := Lib.hid hk'
  rw [hl'] at HR HS hla hcap hl ⊢
  rw [hk'] at HR hcap2 hpos hl h40 ⊢
  clear hl' hk' y0 y1
  by_cases h1 : k = 1
  · subst h1
    have hv : gd zb 0 = y := H2.out.one HK.out
    have HV := Lib.hid hv
    clear hv
    go_enter Tryz.func160, Tryz.ntmps160
    go_wp2_with (go_at_call 221; refine HS.out.mono ?_; rintro e w' ⟨v, rfl, hv, hb⟩; obtain ⟨bo, lb, cb, rfl⟩ := hv.shape)
    go_ret
    rw [HV.out, Int.add_zero] at hv
    exact ⟨_, rfl, hv, hb⟩
  · clear HS cB
    go_enter Tryz.func160, Tryz.ntmps160
    go_wp2_with (go_at_call 222; refine HR.out.mono ?_; rintro e w' ⟨v, rfl, hv, hb⟩; obtain ⟨bo, lb, cb, rfl⟩ := hv.shape)
    go_ret
    exact ⟨_, rfl, hv, hb⟩
set_option maxRecDepth 100000 in
set_option maxHeartbeats 1000000 in
theorem mul_lt (w : World) (b off cap : Nat) (za : List Int) (x : Int) (b2 off2 cap2 : Nat) (zb : List Int) (y : Int) (ha : Ns w b off cap za x) (hb : Ns w b2 off2 cap2 zb y) (hx : x < big) (hy : y < big) (hl : zb.length < za.length) (h40 : zb.length < 40) :
    Calls Tryz.prog 160 #[.slice (some ⟨b2, off2, none⟩) zb.length cap2, .slice (some ⟨b, off, none⟩) za.length cap] w (NewNt w (x * y)) := by
  have HR := Lib.hid (mulRows_any w b off cap za x b2 off2 cap2 zb y ha hb hx hy)
  have cB := hb.row 0 hb.pos
  have hla := ha.len hx
  have hpos := hb.pos
  have hcap := ha.cap
  have hcap2 := hb.cap
  obtain ⟨y0, y1⟩ := gd_bounds hb.wd 0
  have HS := Lib.hid (scale_any w b off cap za x (gd zb 0) 0 ha hx y0 y1 (Int.le_refl 0) (by decide))
  have H2 := Lib.hid hb
  rw [Nat.add_zero] at cB
  clear ha hb hx hy
  obtain ⟨l, hl'⟩ : ∃ l, za.length = l := ⟨_, rfl⟩
  obtain ⟨k, hk'⟩ : ∃ k, zb.length = k := ⟨_, rfl⟩
  have HK := Lib.hid hk'
  rw [hl'] at HR HS hla hcap hl ⊢
  rw [hk'] at HR hcap2 hpos hl h40 ⊢
  clear hl' hk' y0 y1
  by_cases h1 : k = 1
  · subst h1
    have hv : gd zb 0 = y := H2.out.one HK.out
    have HV := Lib.hid hv
    clear hv
    go_enter Tryz.func160, Tryz.ntmps160
    go_wp2_with (go_at_call 221; refine HS.out.mono ?_; rintro e w' ⟨v, rfl, hv, hb⟩; obtain ⟨bo, lb, cb, rfl⟩ := hv.shape)
    go_ret
    rw [HV.out, Int.add_zero] at hv
    exact ⟨_, rfl, hv, hb⟩
  · clear HS cB
    go_enter Tryz.func160, Tryz.ntmps160
    go_wp2_with (go_at_call 222; refine HR.out.mono ?_; rintro e w' ⟨v, rfl, hv, hb⟩; obtain ⟨bo, lb, cb, rfl⟩ := hv.shape)
    go_ret
    exact ⟨_, rfl, hv, hb⟩
/-- the product of two naturals above 0, the shorter one with fewer than 40 words -/
theorem mul_short (w : World) (b off cap : Nat) (za : List Int) (x : Int) (b2 off2 cap2 : Nat) (zb : List Int) (y : Int) (ha : Ns w b off cap za x) (hb : Ns w b2 off2 cap2 zb y) (hx : x < big) (hy : y < big) (h40 : za.length < 40 ∨ zb.length < 40) :
    Calls Tryz.prog 160 #[.slice (some ⟨b, off, none⟩) za.length cap, .slice (some ⟨b2, off2, none⟩) zb.length cap2] w (NewNt w (x * y)) := by
  by_cases hl : zb.length ≤ za.length
  · exact mul_ge w b off cap za x b2 off2 cap2 zb y ha hb hx hy hl (by omega)
  · have := mul_lt w b2 off2 cap2 zb y b off cap za x hb ha hy hx (by omega) (by omega)
    rwa [Int.mul_comm y x] at this
end Go.Proofs.YtnpocnckkaddbaaGreatDoor
