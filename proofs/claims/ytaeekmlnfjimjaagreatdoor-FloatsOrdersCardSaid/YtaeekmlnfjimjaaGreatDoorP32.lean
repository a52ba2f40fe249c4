/-
  The reference's words: integers, small, unsigned.
-/
import Derived.Test.YtaeekmlnfjimjaaGreatDoorP31
set_option linter.unusedVariables false
set_option linter.unusedSimpArgs false
set_option linter.unusedSectionVars false
namespace Go.Proofs.YtaeekmlnfjimjaaGreatDoor.R
open Go.RowKit Go.Shelf

theorem RqPost.to {w : World} {K D K' D' : Int} (h0 : 0 < D') (he : K * D' = K' * D) (e : Ending) (w' : World) (h : RqPost w K D e w') : RqPost w K' D' e w' := by
  obtain ⟨v, rfl, hv, hb⟩ := h
  exact ⟨v, rfl, hv.cross h0 he, hb⟩
/-- an integer that every call can take -/
def inI (x : Int) : Prop := (x.natAbs : Int) < pw ^ 980
theorem inI.r {x : Int} (h : inI x) : inR x 1 := ⟨h, Int.lt_of_lt_of_le (show (1 : Int) < pw ^ 1 by decide) (pow_mono (by omega))⟩
theorem inI_small {x : Int} (h : (x.natAbs : Int) < 1000000000000000000000000000000000000000000000000000000000000) : inI x := by
  have h3 : (1000000000000000000000000000000000000000000000000000000000000 : Int) < pw ^ 9 := by decide
  have h4 : pw ^ 9 ≤ pw ^ 980 := pow_mono (by omega)
  show (x.natAbs : Int) < _
  omega
theorem addI (w : World) (va vb : Value) (x y : Int) (h1 : Rq w va x 1) (h2 : Rq w vb y 1) (i1 : inI x) (i2 : inI y) : Calls Tryz.prog 77 #[va, vb] w (RqPost w (x + y) 1) :=
  (addR_any w va vb x 1 y 1 h1 h2 i1.r i2.r).mono (RqPost.to (by decide) (by omega))
theorem subI (w : World) (va vb : Value) (x y : Int) (h1 : Rq w va x 1) (h2 : Rq w vb y 1) (i1 : inI x) (i2 : inI y) : Calls Tryz.prog 49 #[va, vb] w (RqPost w (x - y) 1) :=
  (subR_any w va vb x 1 y 1 h1 h2 i1.r i2.r).mono (RqPost.to (by decide) (by omega))
theorem cmpIw (w : World) (va vb : Value) (x y : Int) (h1 : Rq w va x 1) (h2 : Rq w vb y 1) (i1 : inI x) (i2 : inI y) : Calls Tryz.prog 69 #[va, vb] w fun e w' => e = .returned (.int .i64 (cmpI x y)) ∧ Below w.heap.size w w' := by
  have := cmpR_any w va vb x 1 y 1 h1 h2 i1.r i2.r
  rwa [Int.mul_one, Int.mul_one] at this
theorem shlI (w : World) (v : Value) (x : Int) (k : Nat) (h : Rq w v x 1) (i : inI x) (hk : k ≤ 28000) : Calls Tryz.prog 93 #[v, .int .i64 k] w (RqPost w (x * 2 ^ k) 1) :=
  (shiftR_any w v x 1 k h i.r (by omega) (by omega)).mono (RqPost.to (by decide) (by
    rw [show ((k : Nat) : Int).toNat = k by omega, show (-((k : Nat) : Int)).toNat = 0 by omega, Int.pow_zero]; simp only [Int.mul_one]))
theorem shrI (w : World) (v : Value) (x : Int) (k : Nat) (j : Int) (hj : j = -(k : Int)) (h : Rq w v x 1) (i : inI x) (hk : k ≤ 28000) : Calls Tryz.prog 93 #[v, .int .i64 j] w (RqPost w x (2 ^ k)) := by
  subst hj
  exact (shiftR_any w v x 1 (-(k : Int)) h i.r (by omega) (by omega)).mono (RqPost.to (p2pos k) (by
    rw [show (-(k : Int)).toNat = 0 by omega, show (- -(k : Int)).toNat = k by omega, Int.pow_zero, Int.mul_one, Int.one_mul]))
theorem floorI (w : World) (v : Value) (x : Int) (k : Nat) (h : Rq w v x (2 ^ k)) (i : inI x) (hk : k ≤ 28000) : Calls Tryz.prog 111 #[v] w (RqPost w (x / 2 ^ k) 1) :=
  floorR_any w v x (2 ^ k) h ⟨i, p2_pw hk⟩
theorem int64I (w : World) (v : Value) (x : Int) (h : Rq w v x 1) (x0 : 0 ≤ x) (x1 : x < 4294967296) : Calls Tryz.prog 165 #[v] w fun e w' => e = .returned (.tuple #[.int .i64 x, .int .i64 0]) ∧ Below w.heap.size w w' := by
  obtain ⟨_, s, n, d, h1, h2⟩ := h
  obtain ⟨a1, l1, c1, a2, l2, c2, rfl, -, -⟩ := h1.flds
  exact int64_raw w s a1 a2 l1 c1 l2 c2 x n d h1 h2 x0 x1

set_option maxRecDepth 100000 in
set_option maxHeartbeats 1000000 in
theorem small_any (w : World) (v : Value) (x : Int) (h : Rq w v x 1) (x0 : 0 ≤ x) (x1 : x < 4294967296) : Calls Tryz.prog 91 #[v] w fun e w' => e = .returned (.int .u64 x) ∧ Below w.heap.size w w' := by
  obtain ⟨s1, a1, l1, c1, a2, l2, c2, rfl⟩ := h.shape
  have hb := (Below.refl w.heap.size w).alloc (Nat.le_refl _) (.cells #[.int .i64 s1, .slice a1 l1 c1, .slice a2 l2 c2] 65)
  have HI := Lib.hid (int64I _ _ x (h.below hb) x0 x1)
  have HX := Lib.hid hb
  have hw : IntKind.u64.wrap x = x := IntWalk.u64_in _ (by omega)
  clear h hb
  go_enter Tryz.func91, Tryz.ntmps91
  go_wp2_with fail
  refine HI.out.mono ?_
  rintro e w1 ⟨rfl, hb1⟩
  have HB := Lib.hid (HX.out.trans (hb1.mono HX.out.size))
  clear hb1
  go_wp2_with fail
  go_ret
  exact ⟨rfl, HB.out⟩

set_option maxRecDepth 100000 in
set_option maxHeartbeats 1000000 in
theorem unsigned_any (w : World) (n : Int) (n0 : 0 ≤ n) (n1 : n < 18446744073709551616) : Calls Tryz.prog 142 #[.int .u64 n] w (RqPost w n 1) := by
  have hX := (Below.refl w.heap.size w).alloc (Nat.le_refl _) (.cells zcells 65)
  have hB := Box.new w zcells 65
  have HX := Lib.hid hX
  have HB := Lib.hid hB
  clear hX hB
  have q1 : Int.tmod n 4294967296 = n % 4294967296 := Int.tmod_eq_emod_of_nonneg n0
  have q2 : IntKind.u64.wrap (n % 4294967296) = n % 4294967296 := IntWalk.u64_in _ (by omega)
  have q3 : IntKind.i64.wrap (n % 4294967296) = n % 4294967296 := IntWalk.i64_in _ (by omega)
  have q4 : IntKind.i64.wrap (n / 4294967296) = n / 4294967296 := IntWalk.i64_in _ (by omega)
  have q5 : IntKind.u64.wrap (n / 4294967296) = n / 4294967296 := IntWalk.u64_in _ (by omega)
  go_enter Tryz.func142, Tryz.ntmps142
  go_wp2_with fail
  refine (intR_any _ (n / 4294967296) (by omega) (by omega)).mono ?_
  rintro e w1 ⟨v1, rfl, hv, hb⟩
  have HS := Lib.hid (shlI w1 v1 _ 32 hv (inI_small (by omega)) (by decide))
  obtain ⟨s1, o1, l1, c1, p1, m1, k1, rfl⟩ := hv.shape
  have B1 := Lib.hid hb
  clear hv hb
  go_wp2_with fail
  refine HS.out.mono ?_
  rintro e w2 ⟨v2, rfl, hv, hb⟩
  obtain ⟨s2, o2, l2, c2, p2, m2, k2, rfl⟩ := hv.shape
  have V2 := Lib.hid hv
  have B2 := Lib.hid (B1.out.trans (hb.mono B1.out.size))
  clear hv hb HS
  go_wp2_with fail
  refine (intR_any _ (n % 4294967296) (by omega) (by omega)).mono ?_
  rintro e w3 ⟨v3, rfl, hv, hb⟩
  have HS := Lib.hid (addI w3 _ v3 _ _ (V2.out.below hb) hv (inI_small (by have : (2 : Int) ^ 32 = 4294967296 := (by decide); omega)) (inI_small (by omega)))
  obtain ⟨s3, o3, l3, c3, p3, m3, k3, rfl⟩ := hv.shape
  have B3 := Lib.hid (B2.out.trans (hb.mono B2.out.size))
  clear hv hb
  go_wp2_with fail
  refine HS.out.mono ?_
  rintro e w4 ⟨v4, rfl, hv, hb⟩
  obtain ⟨s4, o4, l4, c4, p4, m4, k4, rfl⟩ := hv.shape
  have B4 := Lib.hid (B3.out.trans (hb.mono B3.out.size))
  have V4 := Lib.hid hv
  have hC := HB.out.below B4.out
  have HC := Lib.hid hC
  have cC := hC.cell
  have fC := hC.free
  have lC := hC.lt
  clear hv hb hC HS
  go_wp2_with fail
  refine bodyPost_ret (v := .agg #[.int .i64 s4, .slice o4 l4 c4, .slice p4 m4 k4]) (by simp [results, Tryz.results142, go_sem, cC, lC]) rfl ?_
  have ho := stored_only w.heap.size w4 (.int .i64 s4) (.slice o4 l4 c4) (.slice p4 m4 k4)
  have hV := V4.out.only HC.out ho
  rw [show n / 4294967296 * 2 ^ 32 + n % 4294967296 = n by have : (2 : Int) ^ 32 = 4294967296 := (by decide); omega] at hV
  have hZ := HX.out.trans (B4.out.mono HX.out.size)
  exact ⟨_, rfl, hV, hZ.trans (ho.below hZ.size (Nat.le_refl _))⟩
end Go.Proofs.YtaeekmlnfjimjaaGreatDoor.R
/-
  The reference's formats: Least, Normal.
-/
namespace Go.Proofs.YtaeekmlnfjimjaaGreatDoor.R
open Go.RowKit Go.Shelf

set_option maxRecDepth 100000 in
set_option maxHeartbeats 2000000 in
theorem least_any (w : World) (E P : Int) (h : Fmt E P) : Calls Tryz.prog 74 #[.agg #[.int .i64 E, .int .i64 P]] w (RqPost w (2 ^ (2 - biasOf E - P).toNat) (2 ^ (-(2 - biasOf E - P)).toNat)) := by
  obtain ⟨f1, f2, f3, f4, f5⟩ := h
  obtain ⟨b0, b1⟩ := bias_range f1 f2
  have KB : Hid (∀ W, Below w.heap.size w W → Calls Tryz.prog 94 #[.agg #[.int .i64 E, .int .i64 P]] W fun e w' => e = .returned (.int .i64 (biasOf E)) ∧ Below W.heap.size W w') := Lib.hid fun W _ => bias_any W E P f1 f2
  have KT : Hid (∀ W, Below w.heap.size w W → Calls Tryz.prog 78 #[.int .i64 (2 - biasOf E - P)] W (RqPost W (2 ^ (2 - biasOf E - P).toNat) (2 ^ (-(2 - biasOf E - P)).toNat))) := Lib.hid fun W _ => twoR_any W _ (by omega) (by omega)
  have q1 : IntKind.i64.wrap (2 - biasOf E) = 2 - biasOf E := IntWalk.i64_in _ (by omega)
  have q2 : IntKind.i64.wrap (2 - biasOf E - P) = 2 - biasOf E - P := IntWalk.i64_in _ (by omega)
  clear f1 f2 f3 f4 f5 b0 b1
  go_enter Tryz.func74, Tryz.ntmps74
  go_wp2_with fail
  obtain ⟨hA, hB, hW0⟩ := boxes2' w #[.int .i64 E, .int .i64 P] zcells 23 65
  obtain ⟨g, hg⟩ : ∃ g, w.heap.size = g := ⟨_, rfl⟩
  have HT0 : Tha w _ w.heap.size _ _ := ⟨hW0, hA, hB⟩
  rw [hg] at HT0
  have HG := Lib.hid hg
  rw [hg] at ⊢
  clear hA hB hW0 hg
  generalize (w.alloc (.cells #[.int .i64 E, .int .i64 P] 23)).alloc (.cells zcells 65) = W0 at HT0 ⊢
  have hst : ∀ (U1 U2 : World), Hid (Tha w U1 g #[.int .i64 E, .int .i64 P] zcells) → Below U1.heap.size U1 U2 → Hid (Tha w U2 g #[.int .i64 E, .int .i64 P] zcells) ∧ U2.cell? ⟨g, 0, none⟩ = some (.int .i64 E) ∧ U2.cell? ⟨g, 1, none⟩ = some (.int .i64 P) := fun U1 U2 h hb =>
    have h2 := h.out.next hb
    ⟨Lib.hid h2, h2.a.cell 0, h2.a.cell 1⟩
  have HSt := Lib.hid hst
  clear hst
  have HT := Lib.hid HT0
  have hc0 := HT0.a.cell
  clear HT0
  obtain ⟨HA0, rA0_0, rA0_1⟩ := HSt.out _ _ HT (drew_below W0)
  go_region_held3 (fun w' => w'.cell? ⟨g, 0, none⟩ = some (.int .i64 E) ∧ w'.cell? ⟨g, 1, none⟩ = some (.int .i64 P)) (first | exact ⟨rA2_0, rA2_1⟩ | exact ⟨rA1_0, rA1_1⟩ | exact ⟨rA0_0, rA0_1⟩ | (simp [go_sem, *]; done) | go_keep)
    (first
      | (go_at_call 94; (with_reducible refine (KB.out _ HA0.out.bel).mono ?_); rintro en wA1 ⟨rfl, hb⟩; obtain ⟨HA1, rA1_0, rA1_1⟩ := HSt.out _ _ HA0 hb; clear hb)
      | (go_at_call 78; (with_reducible refine (KT.out _ HA1.out.bel).mono ?_); rintro en wA2 ⟨zA2, rfl, hv, hb⟩; obtain ⟨sA2, oA2, lA2, cA2, qA2, mA2, kA2, rfl⟩ := hv.shape; obtain ⟨HA2, rA2_0, rA2_1⟩ := HSt.out _ _ HA1 hb; have VA2 := Lib.hid hv; have cC := HA2.out.c.cell; have fC := HA2.out.c.free; have lC := HA2.out.c.lt; clear hv hb))
  clear rA0_0 rA0_1 rA1_0 rA1_1 rA2_0 rA2_1
  go_wp2_with fail
  refine bodyPost_ret (v := .agg #[.int .i64 sA2, .slice oA2 lA2 cA2, .slice qA2 mA2 kA2]) (by simp [results, Tryz.results74, go_sem, cC, lC]) rfl ?_
  have ho := stored_only (g + 1) wA2 (.int .i64 sA2) (.slice oA2 lA2 cA2) (.slice qA2 mA2 kA2)
  exact ⟨_, rfl, VA2.out.only HA2.out.c ho, HA2.out.bel.trans (ho.below HA2.out.bel.size (by have := HG.out; omega))⟩

set_option maxRecDepth 100000 in
set_option maxHeartbeats 1000000 in
theorem normal_any (w : World) (E P : Int) (h : Fmt E P) : Calls Tryz.prog 118 #[.agg #[.int .i64 E, .int .i64 P]] w (RqPost w (2 ^ (1 - biasOf E).toNat) (2 ^ (-(1 - biasOf E)).toNat)) := by
  obtain ⟨f1, f2, f3, f4, f5⟩ := h
  obtain ⟨b0, b1⟩ := bias_range f1 f2
  have KB : Hid (∀ W, Calls Tryz.prog 94 #[.agg #[.int .i64 E, .int .i64 P]] W fun e w' => e = .returned (.int .i64 (biasOf E)) ∧ Below W.heap.size W w') := Lib.hid fun W => bias_any W E P f1 f2
  have KT : Hid (∀ W, Calls Tryz.prog 78 #[.int .i64 (1 - biasOf E)] W (RqPost W (2 ^ (1 - biasOf E).toNat) (2 ^ (-(1 - biasOf E)).toNat))) := Lib.hid fun W => twoR_any W _ (by omega) (by omega)
  have q1 : IntKind.i64.wrap (1 - biasOf E) = 1 - biasOf E := IntWalk.i64_in _ (by omega)
  obtain ⟨hA, hB, hW0⟩ := boxes2' w #[.int .i64 E, .int .i64 P] zcells 23 65
  have HX := Lib.hid hW0
  have HB := Lib.hid hB
  clear f1 f2 f3 f4 f5 b0 b1 hA hB hW0
  go_enter Tryz.func118, Tryz.ntmps118
  go_wp2_with fail
  refine (KB.out _).mono ?_
  rintro e w1 ⟨rfl, hb⟩
  have B1 := Lib.hid hb
  clear hb
  go_wp2_with fail
  refine (KT.out _).mono ?_
  rintro e w3 ⟨v3, rfl, hv3, hb3⟩
  obtain ⟨s3, o3, l3, c3, q3', m3, k3, rfl⟩ := hv3.shape
  have B3 := Lib.hid (B1.out.trans (hb3.mono B1.out.size))
  have V3 := Lib.hid hv3
  have hC := HB.out.below B3.out
  have HC := Lib.hid hC
  have cC := hC.cell
  have fC := hC.free
  have lC := hC.lt
  clear hv3 hb3 hC KT KB
  go_wp2_with fail
  refine bodyPost_ret (v := .agg #[.int .i64 s3, .slice o3 l3 c3, .slice q3' m3 k3]) (by simp [results, Tryz.results118, go_sem, cC, lC]) rfl ?_
  have ho := stored_only (w.heap.size + 1) w3 (.int .i64 s3) (.slice o3 l3 c3) (.slice q3' m3 k3)
  have hZ := HX.out.trans (B3.out.mono HX.out.size)
  exact ⟨_, rfl, V3.out.only HC.out ho, hZ.trans (ho.below hZ.size (by omega))⟩
end Go.Proofs.YtaeekmlnfjimjaaGreatDoor.R
/-
  The reference's formats: below.
-/
namespace Go.Proofs.YtaeekmlnfjimjaaGreatDoor.R
open Go.RowKit Go.Shelf

set_option maxRecDepth 100000 in
set_option maxHeartbeats 2000000 in
theorem below_raw (w : World) (E P s1 : Int) (a1 a2 : Option Addr) (l1 c1 l2 c2 : Nat) (K D K2 D2 c : Int)
    (KA : Hid (∀ W, Below w.heap.size w W → Calls Tryz.prog 54 #[.agg #[.int .i64 s1, .slice a1 l1 c1, .slice a2 l2 c2]] W (RqPost W K D)))
    (KN : Hid (∀ W, Below w.heap.size w W → Calls Tryz.prog 118 #[.agg #[.int .i64 E, .int .i64 P]] W (RqPost W K2 D2)))
    (KC : Hid (∀ W u v, Below w.heap.size w W → Rq W u K D → Rq W v K2 D2 → Calls Tryz.prog 69 #[u, v] W fun e w' => e = .returned (.int .i64 c) ∧ Below W.heap.size W w')) :
    Calls Tryz.prog 102 #[.agg #[.int .i64 E, .int .i64 P], .agg #[.int .i64 s1, .slice a1 l1 c1, .slice a2 l2 c2]] w fun e w' => e = .returned (.bool (decide (c < 0))) ∧ Below w.heap.size w w' := by
  go_enter Tryz.func102, Tryz.ntmps102
  go_wp2_with fail
  obtain ⟨hA, hB, hW0⟩ := boxes2' w #[.int .i64 E, .int .i64 P] #[.int .i64 s1, .slice a1 l1 c1, .slice a2 l2 c2] 23 65
  obtain ⟨g, hg⟩ : ∃ g, w.heap.size = g := ⟨_, rfl⟩
  have HT0 : Thb w _ w.heap.size _ _ := ⟨hW0, hA, hB⟩
  rw [hg] at HT0
  rw [hg] at ⊢
  clear hA hB hW0 hg
  generalize (w.alloc (.cells #[.int .i64 E, .int .i64 P] 23)).alloc (.cells #[.int .i64 s1, .slice a1 l1 c1, .slice a2 l2 c2] 65) = W0 at HT0 ⊢
  have hst : ∀ (U1 U2 : World), Hid (Thb w U1 g #[.int .i64 E, .int .i64 P] #[.int .i64 s1, .slice a1 l1 c1, .slice a2 l2 c2]) → Below U1.heap.size U1 U2 → Hid (Thb w U2 g #[.int .i64 E, .int .i64 P] #[.int .i64 s1, .slice a1 l1 c1, .slice a2 l2 c2]) ∧ U2.cell? ⟨g, 0, none⟩ = some (.int .i64 E) ∧ U2.cell? ⟨g, 1, none⟩ = some (.int .i64 P) ∧ U2.cell? ⟨g + 1, 0, none⟩ = some (.int .i64 s1) ∧ U2.cell? ⟨g + 1, 1, none⟩ = some (.slice a1 l1 c1) ∧ U2.cell? ⟨g + 1, 2, none⟩ = some (.slice a2 l2 c2) := fun U1 U2 h hb =>
    have h2 := h.out.next hb
    ⟨Lib.hid h2, h2.a.cell 0, h2.a.cell 1, h2.b.cell 0, h2.b.cell 1, h2.b.cell 2⟩
  have HSt := Lib.hid hst
  clear hst
  have HT := Lib.hid HT0
  have hc0 := HT0.a.cell
  have hc1 := HT0.b.cell
  clear HT0
  obtain ⟨HA0, rA0_0, rA0_1, rA0_2, rA0_3, rA0_4⟩ := HSt.out _ _ HT (drew_below W0)
  go_region_held3 (fun w' => w'.cell? ⟨g, 0, none⟩ = some (.int .i64 E) ∧ w'.cell? ⟨g, 1, none⟩ = some (.int .i64 P) ∧ w'.cell? ⟨g + 1, 0, none⟩ = some (.int .i64 s1) ∧ w'.cell? ⟨g + 1, 1, none⟩ = some (.slice a1 l1 c1) ∧ w'.cell? ⟨g + 1, 2, none⟩ = some (.slice a2 l2 c2)) (first | exact ⟨rA3_0, rA3_1, rA3_2, rA3_3, rA3_4⟩ | exact ⟨rA2_0, rA2_1, rA2_2, rA2_3, rA2_4⟩ | exact ⟨rA1_0, rA1_1, rA1_2, rA1_3, rA1_4⟩ | exact ⟨rA0_0, rA0_1, rA0_2, rA0_3, rA0_4⟩)
    (first
      | (go_at_call 54; (with_reducible refine (KA.out _ HA0.out.bel).mono ?_); rintro en wA1 ⟨zA1, rfl, hv, hb⟩; obtain ⟨sA1, oA1, lA1, cA1, qA1, mA1, kA1, rfl⟩ := hv.shape; obtain ⟨HA1, rA1_0, rA1_1, rA1_2, rA1_3, rA1_4⟩ := HSt.out _ _ HA0 hb; have VA1 := Lib.hid hv; clear hv hb)
      | (go_at_call 118; (with_reducible refine (KN.out _ HA1.out.bel).mono ?_); rintro en wA2 ⟨zA2, rfl, hv, hb⟩; obtain ⟨sA2, oA2, lA2, cA2, qA2, mA2, kA2, rfl⟩ := hv.shape; obtain ⟨HA2, rA2_0, rA2_1, rA2_2, rA2_3, rA2_4⟩ := HSt.out _ _ HA1 hb; have VA2 := Lib.hid hv; have TAVA1_2 := Lib.hid (VA1.out.below hb); clear hv hb)
      | (go_at_call 69; (with_reducible refine (KC.out _ _ _ HA2.out.bel TAVA1_2.out VA2.out).mono ?_); rintro en wA3 ⟨rfl, hb⟩; obtain ⟨HA3, rA3_0, rA3_1, rA3_2, rA3_3, rA3_4⟩ := HSt.out _ _ HA2 hb; have TAVA1_3 := Lib.hid (TAVA1_2.out.below hb); have TAVA2_3 := Lib.hid (VA2.out.below hb); clear hb))
  clear rA0_0 rA0_1 rA0_2 rA0_3 rA0_4 rA1_0 rA1_1 rA1_2 rA1_3 rA1_4 rA2_0 rA2_1 rA2_2 rA2_3 rA2_4 rA3_0 rA3_1 rA3_2 rA3_3 rA3_4
  have NAVA1 := TAVA1_3
  have NAVA2 := TAVA2_3
  go_wp2_with fail
  go_ret
  exact ⟨rfl, HA3.out.bel⟩
theorem absR_any (w : World) (v : Value) (K D : Int) (h : Rq w v K D) : Calls Tryz.prog 54 #[v] w (RqPost w K.natAbs D) := by
  obtain ⟨h0, s, n, d, h1, h2⟩ := h
  refine (abs_any w v s n d h1).mono ?_
  rintro e w' ⟨v, rfl, hv, hb⟩
  refine ⟨v, rfl, ⟨h0, _, _, _, hv, ?_⟩, hb⟩
  have hp := h1.pos
  rcases hp.2.2 with ⟨rfl, rfl, rfl⟩ | ⟨rfl | rfl, hn⟩
  · have : K = 0 := by omega
    subst this; simp
  · have := Int.mul_pos hn h0
    rw [Int.one_mul] at h2
    have hK : 0 ≤ K := by
      apply Classical.byContradiction
      intro hc
      have := Int.mul_neg_of_neg_of_pos (show K < 0 by omega) hp.1
      omega
    rw [Int.natAbs_of_nonneg hK, Int.one_mul, Int.one_mul]
    exact h2
  · have := Int.mul_pos hn h0
    rw [show (-1 : Int) * n * D = -(n * D) by grind] at h2
    have hK : K ≤ 0 := by
      apply Classical.byContradiction
      intro hc
      have := Int.mul_pos (show 0 < K by omega) hp.1
      omega
    rw [show ((K.natAbs : Nat) : Int) = -K by omega, show (-1 : Int) * -1 = 1 by decide, Int.one_mul, Int.neg_mul]
    omega
theorem below_any (w : World) (v : Value) (E P K D : Int) (hf : Fmt E P) (h : Rq w v K D) (hi : inR K D) :
    Calls Tryz.prog 102 #[.agg #[.int .i64 E, .int .i64 P], v] w fun e w' => e = .returned (.bool (decide (cmpI (K.natAbs * 2 ^ (-(1 - biasOf E)).toNat) (2 ^ (1 - biasOf E).toNat * D) < 0))) ∧ Below w.heap.size w w' := by
  obtain ⟨s1, a1, l1, c1, a2, l2, c2, rfl⟩ := h.shape
  obtain ⟨b0, b1⟩ := bias_range hf.1 hf.2.1
  have p1 := p2_pw (show (1 - biasOf E).toNat ≤ 28000 by omega)
  have p2 := p2_pw (show (-(1 - biasOf E)).toNat ≤ 28000 by omega)
  have i1 := hi.1
  have i2 := hi.2
  exact below_raw w E P s1 a1 a2 l1 c1 l2 c2 K.natAbs D _ _ _
    (Lib.hid fun W hW => absR_any W _ K D (h.below hW))
    (Lib.hid fun W _ => normal_any W E P hf)
    (Lib.hid fun W u v _ hu hv => cmpR_any W u v _ _ _ _ hu hv ⟨by omega, i2⟩ ⟨by have := p2pos (1 - biasOf E).toNat; omega, p2⟩)
end Go.Proofs.YtaeekmlnfjimjaaGreatDoor.R
/-
  The reference's words: bits, part.
-/
namespace Go.Proofs.YtaeekmlnfjimjaaGreatDoor.R
open Go.RowKit Go.Shelf

/-- the box of a variable and that of the result -/
structure Thp (w W : World) (g : Nat) (A : Array Value) (c : Nat) : Prop where
  bel : Below w.heap.size w W
  a : Box W g A
  c : Box W c zcells
theorem Thp.next {w W W' : World} {g c : Nat} {A : Array Value} (h : Thp w W g A c) (hb : Below W.heap.size W W') : Thp w W' g A c :=
  ⟨h.bel.trans (hb.mono h.bel.size), h.a.below hb, h.c.below hb⟩

set_option maxRecDepth 100000 in
set_option maxHeartbeats 2000000 in
theorem bits_any (w : World) (hi lo : Int) (h0 : 0 ≤ hi) (h1 : hi < 18446744073709551616) (l0 : 0 ≤ lo) (l1 : lo < 18446744073709551616) :
    Calls Tryz.prog 76 #[.agg #[.int .u64 hi, .int .u64 lo]] w (RqPost w (hi * 18446744073709551616 + lo) 1) := by
  have e64 : (2 : Int) ^ 64 = 18446744073709551616 := by decide
  have K1 : Hid (∀ W, Below w.heap.size w W → Calls Tryz.prog 142 #[.int .u64 hi] W (RqPost W hi 1)) := Lib.hid fun W _ => unsigned_any W hi h0 h1
  have K3 : Hid (∀ W, Below w.heap.size w W → Calls Tryz.prog 142 #[.int .u64 lo] W (RqPost W lo 1)) := Lib.hid fun W _ => unsigned_any W lo l0 l1
  have K2 : Hid (∀ W v, Below w.heap.size w W → Rq W v hi 1 → Calls Tryz.prog 93 #[v, .int .i64 64] W (RqPost W (hi * 18446744073709551616) 1)) := Lib.hid fun W v _ hv => by
    have := shlI W v hi 64 hv (inI_small (by omega)) (by decide)
    rwa [e64] at this
  have K4 : Hid (∀ W va vb, Below w.heap.size w W → Rq W va (hi * 18446744073709551616) 1 → Rq W vb lo 1 → Calls Tryz.prog 77 #[va, vb] W (RqPost W (hi * 18446744073709551616 + lo) 1)) := Lib.hid fun W va vb _ q1 q2 => addI W va vb _ _ q1 q2 (inI_small (by omega)) (inI_small (by omega))
  clear h0 h1 l0 l1 e64
  go_enter Tryz.func76, Tryz.ntmps76
  go_wp2_with fail
  obtain ⟨hA, hB, hW0⟩ := boxes2' w #[.int .u64 hi, .int .u64 lo] zcells 26 65
  obtain ⟨g, hg⟩ : ∃ g, w.heap.size = g := ⟨_, rfl⟩
  have HT0 : Tha w _ w.heap.size _ _ := ⟨hW0, hA, hB⟩
  rw [hg] at HT0
  have HG := Lib.hid hg
  rw [hg] at ⊢
  clear hA hB hW0 hg
  generalize (w.alloc (.cells #[.int .u64 hi, .int .u64 lo] 26)).alloc (.cells zcells 65) = W0 at HT0 ⊢
  have hst : ∀ (U1 U2 : World), Hid (Tha w U1 g #[.int .u64 hi, .int .u64 lo] zcells) → Below U1.heap.size U1 U2 → Hid (Tha w U2 g #[.int .u64 hi, .int .u64 lo] zcells) ∧ U2.cell? ⟨g, 0, none⟩ = some (.int .u64 hi) ∧ U2.cell? ⟨g, 1, none⟩ = some (.int .u64 lo) := fun U1 U2 h hb =>
    have h2 := h.out.next hb
    ⟨Lib.hid h2, h2.a.cell 0, h2.a.cell 1⟩
  have HSt := Lib.hid hst
  clear hst
  have HT := Lib.hid HT0
  have hc0 := HT0.a.cell
  clear HT0
  obtain ⟨HA0, rA0_0, rA0_1⟩ := HSt.out _ _ HT (drew_below W0)
  go_region_held3 (fun w' => w'.cell? ⟨g, 0, none⟩ = some (.int .u64 hi) ∧ w'.cell? ⟨g, 1, none⟩ = some (.int .u64 lo)) (first | exact ⟨rA4_0, rA4_1⟩ | exact ⟨rA3_0, rA3_1⟩ | exact ⟨rA2_0, rA2_1⟩ | exact ⟨rA1_0, rA1_1⟩ | exact ⟨rA0_0, rA0_1⟩ | (simp [go_sem, *]; done) | go_keep)
    (first
      | (go_at_call 142; (with_reducible refine (K1.out _ HA0.out.bel).mono ?_); rintro en wA1 ⟨zA1, rfl, hv, hb⟩; obtain ⟨sA1, oA1, lA1, cA1, qA1, mA1, kA1, rfl⟩ := hv.shape; obtain ⟨HA1, rA1_0, rA1_1⟩ := HSt.out _ _ HA0 hb; have VA1 := Lib.hid hv; clear hv hb)
      | (go_at_call 93; (with_reducible refine (K2.out _ _ HA1.out.bel VA1.out).mono ?_); rintro en wA2 ⟨zA2, rfl, hv, hb⟩; obtain ⟨sA2, oA2, lA2, cA2, qA2, mA2, kA2, rfl⟩ := hv.shape; obtain ⟨HA2, rA2_0, rA2_1⟩ := HSt.out _ _ HA1 hb; have VA2 := Lib.hid hv; have TAVA1_2 := Lib.hid (VA1.out.below hb); clear hv hb)
      | (go_at_call 142; (with_reducible refine (K3.out _ HA2.out.bel).mono ?_); rintro en wA3 ⟨zA3, rfl, hv, hb⟩; obtain ⟨sA3, oA3, lA3, cA3, qA3, mA3, kA3, rfl⟩ := hv.shape; obtain ⟨HA3, rA3_0, rA3_1⟩ := HSt.out _ _ HA2 hb; have VA3 := Lib.hid hv; have TAVA1_3 := Lib.hid (TAVA1_2.out.below hb); have TAVA2_3 := Lib.hid (VA2.out.below hb); clear hv hb)
      | (go_at_call 77; (with_reducible refine (K4.out _ _ _ HA3.out.bel TAVA2_3.out VA3.out).mono ?_); rintro en wA4 ⟨zA4, rfl, hv, hb⟩; obtain ⟨sA4, oA4, lA4, cA4, qA4, mA4, kA4, rfl⟩ := hv.shape; obtain ⟨HA4, rA4_0, rA4_1⟩ := HSt.out _ _ HA3 hb; have VA4 := Lib.hid hv; have TAVA1_4 := Lib.hid (TAVA1_3.out.below hb); have TAVA2_4 := Lib.hid (TAVA2_3.out.below hb); have TAVA3_4 := Lib.hid (VA3.out.below hb); have cC := HA4.out.c.cell; have fC := HA4.out.c.free; have lC := HA4.out.c.lt; clear hv hb))
  clear rA0_0 rA0_1 rA1_0 rA1_1 rA2_0 rA2_1 rA3_0 rA3_1 rA4_0 rA4_1
  have NAVA1 := TAVA1_4
  have NAVA2 := TAVA2_4
  have NAVA3 := TAVA3_4
  go_wp2_with fail
  refine bodyPost_ret (v := .agg #[.int .i64 sA4, .slice oA4 lA4 cA4, .slice qA4 mA4 kA4]) (by simp [results, Tryz.results76, go_sem, cC, lC]) rfl ?_
  have ho := stored_only (g + 1) wA4 (.int .i64 sA4) (.slice oA4 lA4 cA4) (.slice qA4 mA4 kA4)
  exact ⟨_, rfl, VA4.out.only HA4.out.c ho, HA4.out.bel.trans (ho.below HA4.out.bel.size (by have := HG.out; omega))⟩

set_option maxRecDepth 100000 in
set_option maxHeartbeats 2000000 in
theorem part_any (w : World) (v : Value) (n : Int) (from_ bits : Nat) (h : Rq w v n 1) (n0 : 0 ≤ n) (n1 : n < 1000000000000000000000000000000000000000000000) (hf : from_ ≤ 200) (hb : bits ≤ 200) :
    Calls Tryz.prog 90 #[v, .int .i64 from_, .int .i64 bits] w (RqPost w (n / 2 ^ from_ % 2 ^ bits) 1) := by
  obtain ⟨s1, a1, l1, c1, a2, l2, c2, rfl⟩ := h.shape
  obtain ⟨hA, hB, hW0⟩ := boxes2 w #[.int .i64 s1, .slice a1 l1 c1, .slice a2 l2 c2] zcells 65
  have hin : inI n := inI_small (by omega)
  obtain ⟨q, hq⟩ : ∃ q, n / 2 ^ from_ = q := ⟨_, rfl⟩
  have q0 : 0 ≤ q := by rw [← hq]; exact Int.ediv_nonneg n0 (Int.le_of_lt (p2pos _))
  have q1 : q ≤ n := by rw [← hq]; exact Int.ediv_le_self _ n0
  obtain ⟨r, hr⟩ : ∃ r, q / 2 ^ bits = r := ⟨_, rfl⟩
  have r0 : 0 ≤ r := by rw [← hr]; exact Int.ediv_nonneg q0 (Int.le_of_lt (p2pos _))
  have r1 : r * 2 ^ bits ≤ q := by rw [← hr]; exact Int.ediv_mul_le _ (p2ne _)
  have r3 : 0 ≤ r * 2 ^ bits := Int.mul_nonneg r0 (Int.le_of_lt (p2pos _))
  have r2 : r ≤ q := by rw [← hr]; exact Int.ediv_le_self _ q0
  have K1 := Lib.hid (shrI _ _ n from_ (-(from_ : Int)) rfl (h.below hW0) hin (by omega))
  have K2 : Hid (∀ W v, Rq W v n (2 ^ from_) → Calls Tryz.prog 111 #[v] W (RqPost W q 1)) := Lib.hid fun W v hv => by
    have := floorI W v n from_ hv hin (by omega)
    rwa [hq] at this
  have K3 : Hid (∀ W v, Below w.heap.size w W → Rq W v q 1 → Calls Tryz.prog 93 #[v, .int .i64 (-(bits : Int))] W (RqPost W q (2 ^ bits))) := Lib.hid fun W v _ hv => shrI W v q bits _ rfl hv (inI_small (by omega)) (by omega)
  have K4 : Hid (∀ W v, Below w.heap.size w W → Rq W v q (2 ^ bits) → Calls Tryz.prog 111 #[v] W (RqPost W r 1)) := Lib.hid fun W v _ hv => by
    have := floorI W v q bits hv (inI_small (by omega)) (by omega)
    rwa [hr] at this
  have K5 : Hid (∀ W v, Below w.heap.size w W → Rq W v r 1 → Calls Tryz.prog 93 #[v, .int .i64 bits] W (RqPost W (r * 2 ^ bits) 1)) := Lib.hid fun W v _ hv => shlI W v r bits hv (inI_small (by omega)) (by omega)
  have K6 : Hid (∀ W va vb, Below w.heap.size w W → Rq W va q 1 → Rq W vb (r * 2 ^ bits) 1 → Calls Tryz.prog 49 #[va, vb] W (RqPost W (q % 2 ^ bits) 1)) := Lib.hid fun W va vb _ q1' q2' => by
    have := subI W va vb _ _ q1' q2' (inI_small (by omega)) (inI_small (by omega))
    have e := Int.mul_ediv_add_emod q (2 ^ bits)
    rw [hr] at e
    rwa [show q - r * 2 ^ bits = q % 2 ^ bits by rw [Int.mul_comm r]; omega] at this
  have w1 : IntKind.i64.wrap (-(from_ : Int)) = -(from_ : Int) := IntWalk.i64_in _ (by omega)
  have w2 : IntKind.i64.wrap (-(bits : Int)) = -(bits : Int) := IntWalk.i64_in _ (by omega)
  have HBx := Lib.hid (And.intro hW0 hB)
  rw [hq]
  clear h hA hB hW0 hin hq hr r0 r1 r2 r3 q0 q1 n0 n1
  go_enter Tryz.func90, Tryz.ntmps90
  go_wp2_with fail
  refine K1.out.mono ?_
  rintro e W1 ⟨v1, rfl, hv, hb⟩
  have K2' := Lib.hid (K2.out W1 v1 hv)
  obtain ⟨s4, o4, l4, c4, p4, m4, k4, rfl⟩ := hv.shape
  have B1 := Lib.hid (HBx.out.1.trans (hb.mono HBx.out.1.size))
  have Z1 := Lib.hid (HBx.out.2.below hb)
  clear hv hb K1 K2
  go_wp2_with fail
  refine K2'.out.mono ?_
  rintro e W2 ⟨v2, rfl, hv, hb⟩
  obtain ⟨s7, o7, l7, c7, p7, m7, k7, rfl⟩ := hv.shape
  have B2 := Lib.hid (B1.out.trans (hb.mono B1.out.size))
  have Z2 := Lib.hid (Z1.out.below hb)
  have V2 := Lib.hid hv
  clear hv hb K2'
  go_wp2_with fail
  have hX7 := (Below.refl W2.heap.size W2).alloc (Nat.le_refl _) (.cells #[.int .i64 s7, .slice o7 l7 c7, .slice p7 m7 k7] 65)
  have H7 : Hid (Thp w _ W2.heap.size #[.int .i64 s7, .slice o7 l7 c7, .slice p7 m7 k7] (w.heap.size + 1)) := Lib.hid ⟨B2.out.trans (hX7.mono B2.out.size), Box.new W2 #[.int .i64 s7, .slice o7 l7 c7, .slice p7 m7 k7] 65, Z2.out.below hX7⟩
  have VQ7 := Lib.hid (V2.out.below hX7)
  have hlt7 : w.heap.size + 1 < W2.heap.size := Z2.out.lt
  clear hX7 B1 Z1 B2 Z2 V2 HBx
  obtain ⟨g, hg⟩ : ∃ g, w.heap.size = g := ⟨_, rfl⟩
  have HG := Lib.hid hg
  rw [hg] at H7 hlt7 ⊢
  clear hg
  generalize W2.alloc (.cells #[.int .i64 s7, .slice o7 l7 c7, .slice p7 m7 k7] 65) = W7 at H7 VQ7 ⊢
  obtain ⟨g7, hg7⟩ : ∃ g, W2.heap.size = g := ⟨_, rfl⟩
  rw [hg7] at H7 hlt7 ⊢
  clear hg7
  have hne1 : ¬ g7 = g + 1 := by omega
  have hne2 : ¬ g + 1 = g7 := by omega
  have hst : ∀ (U1 U2 : World), Hid (Thp w U1 g7 #[.int .i64 s7, .slice o7 l7 c7, .slice p7 m7 k7] (g + 1)) → Below U1.heap.size U1 U2 → Hid (Thp w U2 g7 #[.int .i64 s7, .slice o7 l7 c7, .slice p7 m7 k7] (g + 1)) ∧ U2.cell? ⟨g7, 0, none⟩ = some (.int .i64 s7) ∧ U2.cell? ⟨g7, 1, none⟩ = some (.slice o7 l7 c7) ∧ U2.cell? ⟨g7, 2, none⟩ = some (.slice p7 m7 k7) := fun U1 U2 h hb =>
    have h2 := h.out.next hb
    ⟨Lib.hid h2, h2.a.cell 0, h2.a.cell 1, h2.a.cell 2⟩
  have HSt := Lib.hid hst
  clear hst
  have hc0 := H7.out.a.cell
  obtain ⟨HA0, rA0_0, rA0_1, rA0_2⟩ := HSt.out _ _ H7 (drew_below W7)
  have VQ7A0 := Lib.hid (VQ7.out.below (drew_below W7))
  go_region_held3 (fun w' => w'.cell? ⟨g7, 0, none⟩ = some (.int .i64 s7) ∧ w'.cell? ⟨g7, 1, none⟩ = some (.slice o7 l7 c7) ∧ w'.cell? ⟨g7, 2, none⟩ = some (.slice p7 m7 k7)) (first | exact ⟨rA4_0, rA4_1, rA4_2⟩ | exact ⟨rA3_0, rA3_1, rA3_2⟩ | exact ⟨rA2_0, rA2_1, rA2_2⟩ | exact ⟨rA1_0, rA1_1, rA1_2⟩ | exact ⟨rA0_0, rA0_1, rA0_2⟩ | (simp [go_sem, *]; done) | go_keep)
    (first
      | (go_at_call 93; (with_reducible refine (K3.out _ _ HA0.out.bel VQ7A0.out).mono ?_); rintro en wA1 ⟨zA1, rfl, hv, hb⟩; obtain ⟨sA1, oA1, lA1, cA1, qA1, mA1, kA1, rfl⟩ := hv.shape; obtain ⟨HA1, rA1_0, rA1_1, rA1_2⟩ := HSt.out _ _ HA0 hb; have VA1 := Lib.hid hv; have TAVQ7_1 := Lib.hid (VQ7A0.out.below hb); clear hv hb)
      | (go_at_call 111; (with_reducible refine (K4.out _ _ HA1.out.bel VA1.out).mono ?_); rintro en wA2 ⟨zA2, rfl, hv, hb⟩; obtain ⟨sA2, oA2, lA2, cA2, qA2, mA2, kA2, rfl⟩ := hv.shape; obtain ⟨HA2, rA2_0, rA2_1, rA2_2⟩ := HSt.out _ _ HA1 hb; have VA2 := Lib.hid hv; have TAVQ7_2 := Lib.hid (TAVQ7_1.out.below hb); have TAVA1_2 := Lib.hid (VA1.out.below hb); clear hv hb)
      | (go_at_call 93; (with_reducible refine (K5.out _ _ HA2.out.bel VA2.out).mono ?_); rintro en wA3 ⟨zA3, rfl, hv, hb⟩; obtain ⟨sA3, oA3, lA3, cA3, qA3, mA3, kA3, rfl⟩ := hv.shape; obtain ⟨HA3, rA3_0, rA3_1, rA3_2⟩ := HSt.out _ _ HA2 hb; have VA3 := Lib.hid hv; have TAVQ7_3 := Lib.hid (TAVQ7_2.out.below hb); have TAVA1_3 := Lib.hid (TAVA1_2.out.below hb); have TAVA2_3 := Lib.hid (VA2.out.below hb); clear hv hb)
      | (go_at_call 49; (with_reducible refine (K6.out _ _ _ HA3.out.bel TAVQ7_3.out VA3.out).mono ?_); rintro en wA4 ⟨zA4, rfl, hv, hb⟩; obtain ⟨sA4, oA4, lA4, cA4, qA4, mA4, kA4, rfl⟩ := hv.shape; obtain ⟨HA4, rA4_0, rA4_1, rA4_2⟩ := HSt.out _ _ HA3 hb; have VA4 := Lib.hid hv; have TAVQ7_4 := Lib.hid (TAVQ7_3.out.below hb); have TAVA1_4 := Lib.hid (TAVA1_3.out.below hb); have TAVA2_4 := Lib.hid (TAVA2_3.out.below hb); have TAVA3_4 := Lib.hid (VA3.out.below hb); have cC := HA4.out.c.cell; have fC := HA4.out.c.free; have lC := HA4.out.c.lt; clear hv hb))
  clear rA0_0 rA0_1 rA0_2 rA1_0 rA1_1 rA1_2 rA2_0 rA2_1 rA2_2 rA3_0 rA3_1 rA3_2 rA4_0 rA4_1 rA4_2
  have NAVQ7 := TAVQ7_4
  have NAVA1 := TAVA1_4
  have NAVA2 := TAVA2_4
  have NAVA3 := TAVA3_4
  go_wp2_with fail
  refine bodyPost_ret (v := .agg #[.int .i64 sA4, .slice oA4 lA4 cA4, .slice qA4 mA4 kA4]) (by simp [results, Tryz.results90, go_sem, cC, lC]) rfl ?_
  have ho := stored_only (g + 1) wA4 (.int .i64 sA4) (.slice oA4 lA4 cA4) (.slice qA4 mA4 kA4)
  exact ⟨_, rfl, VA4.out.only HA4.out.c ho, HA4.out.bel.trans (ho.below HA4.out.bel.size (by have := HG.out; omega))⟩

end Go.Proofs.YtaeekmlnfjimjaaGreatDoor.R
/-
  The reference's words: packed.
-/
namespace Go.Proofs.YtaeekmlnfjimjaaGreatDoor.R
open Go.RowKit Go.Shelf

abbrev wcells : Array Value := #[.int .u64 0, .int .u64 0]

set_option maxRecDepth 100000 in
set_option maxHeartbeats 4000000 in
theorem packed_raw (w : World) (s1 : Int) (a1 a2 : Option Addr) (l1 c1 l2 c2 : Nat) (x96 x64 x32 x0 : Int) (b1 : 0 ≤ x96 ∧ x96 < 4294967296) (b2 : 0 ≤ x64 ∧ x64 < 4294967296) (b3 : 0 ≤ x32 ∧ x32 < 4294967296) (b4 : 0 ≤ x0 ∧ x0 < 4294967296)
    (KP96 : Hid (∀ W, Below w.heap.size w W → Calls Tryz.prog 90 #[.agg #[.int .i64 s1, .slice a1 l1 c1, .slice a2 l2 c2], .int .i64 96, .int .i64 32] W (RqPost W x96 1)))
    (KS96 : Hid (∀ W v, Below w.heap.size w W → Rq W v x96 1 → Calls Tryz.prog 91 #[v] W fun e w' => e = .returned (.int .u64 x96) ∧ Below W.heap.size W w'))
    (KP64 : Hid (∀ W, Below w.heap.size w W → Calls Tryz.prog 90 #[.agg #[.int .i64 s1, .slice a1 l1 c1, .slice a2 l2 c2], .int .i64 64, .int .i64 32] W (RqPost W x64 1)))
    (KS64 : Hid (∀ W v, Below w.heap.size w W → Rq W v x64 1 → Calls Tryz.prog 91 #[v] W fun e w' => e = .returned (.int .u64 x64) ∧ Below W.heap.size W w'))
    (KP32 : Hid (∀ W, Below w.heap.size w W → Calls Tryz.prog 90 #[.agg #[.int .i64 s1, .slice a1 l1 c1, .slice a2 l2 c2], .int .i64 32, .int .i64 32] W (RqPost W x32 1)))
    (KS32 : Hid (∀ W v, Below w.heap.size w W → Rq W v x32 1 → Calls Tryz.prog 91 #[v] W fun e w' => e = .returned (.int .u64 x32) ∧ Below W.heap.size W w'))
    (KP0 : Hid (∀ W, Below w.heap.size w W → Calls Tryz.prog 90 #[.agg #[.int .i64 s1, .slice a1 l1 c1, .slice a2 l2 c2], .int .i64 0, .int .i64 32] W (RqPost W x0 1)))
    (KS0 : Hid (∀ W v, Below w.heap.size w W → Rq W v x0 1 → Calls Tryz.prog 91 #[v] W fun e w' => e = .returned (.int .u64 x0) ∧ Below W.heap.size W w'))
    : Calls Tryz.prog 75 #[.agg #[.int .i64 s1, .slice a1 l1 c1, .slice a2 l2 c2]] w fun e w' => e = .returned (.agg #[.int .u64 (x96 * 4294967296 + x64), .int .u64 (x32 * 4294967296 + x0)]) ∧ Below w.heap.size w w' := by
  have f1 : IntKind.u64.wrap (x96 * 4294967296) = x96 * 4294967296 := IntWalk.u64_in _ (by omega)
  have f2 : IntKind.u64.wrap (x32 * 4294967296) = x32 * 4294967296 := IntWalk.u64_in _ (by omega)
  have f3 : IntKind.u64.wrap (x96 * 4294967296 + x64) = x96 * 4294967296 + x64 := IntWalk.u64_in _ (by omega)
  have f4 : IntKind.u64.wrap (x32 * 4294967296 + x0) = x32 * 4294967296 + x0 := IntWalk.u64_in _ (by omega)
  clear b1 b2 b3 b4
  go_enter Tryz.func75, Tryz.ntmps75
  go_wp2_with fail
  obtain ⟨hA, hB, hW0⟩ := boxes2' w #[.int .i64 s1, .slice a1 l1 c1, .slice a2 l2 c2] wcells 65 26
  obtain ⟨g, hg⟩ : ∃ g, w.heap.size = g := ⟨_, rfl⟩
  have HT0 : Tha w _ w.heap.size _ _ := ⟨hW0, hA, hB⟩
  rw [hg] at HT0
  have HG := Lib.hid hg
  rw [hg] at ⊢
  clear hA hB hW0 hg
  generalize (w.alloc (.cells #[.int .i64 s1, .slice a1 l1 c1, .slice a2 l2 c2] 65)).alloc (.cells wcells 26) = W0 at HT0 ⊢
  have hst : ∀ (U1 U2 : World), Hid (Tha w U1 g #[.int .i64 s1, .slice a1 l1 c1, .slice a2 l2 c2] wcells) → Below U1.heap.size U1 U2 → Hid (Tha w U2 g #[.int .i64 s1, .slice a1 l1 c1, .slice a2 l2 c2] wcells) ∧ U2.cell? ⟨g, 0, none⟩ = some (.int .i64 s1) ∧ U2.cell? ⟨g, 1, none⟩ = some (.slice a1 l1 c1) ∧ U2.cell? ⟨g, 2, none⟩ = some (.slice a2 l2 c2) := fun U1 U2 h hb =>
    have h2 := h.out.next hb
    ⟨Lib.hid h2, h2.a.cell 0, h2.a.cell 1, h2.a.cell 2⟩
  have HSt := Lib.hid hst
  clear hst
  have HT := Lib.hid HT0
  have hc0 := HT0.a.cell
  clear HT0
  obtain ⟨HA0, rA0_0, rA0_1, rA0_2⟩ := HSt.out _ _ HT (drew_below W0)
  go_region_held3 (fun w' => w'.cell? ⟨g, 0, none⟩ = some (.int .i64 s1) ∧ w'.cell? ⟨g, 1, none⟩ = some (.slice a1 l1 c1) ∧ w'.cell? ⟨g, 2, none⟩ = some (.slice a2 l2 c2)) (first | exact ⟨rA8_0, rA8_1, rA8_2⟩ | exact ⟨rA7_0, rA7_1, rA7_2⟩ | exact ⟨rA6_0, rA6_1, rA6_2⟩ | exact ⟨rA5_0, rA5_1, rA5_2⟩ | exact ⟨rA4_0, rA4_1, rA4_2⟩ | exact ⟨rA3_0, rA3_1, rA3_2⟩ | exact ⟨rA2_0, rA2_1, rA2_2⟩ | exact ⟨rA1_0, rA1_1, rA1_2⟩ | exact ⟨rA0_0, rA0_1, rA0_2⟩ | (simp [go_sem, *]; done) | go_keep)
    (first
      | (go_at_call 90; (with_reducible refine (KP96.out _ HA0.out.bel).mono ?_); rintro en wA1 ⟨zA1, rfl, hv, hb⟩; obtain ⟨sA1, oA1, lA1, cA1, qA1, mA1, kA1, rfl⟩ := hv.shape; obtain ⟨HA1, rA1_0, rA1_1, rA1_2⟩ := HSt.out _ _ HA0 hb; have VA1 := Lib.hid hv; clear hv hb)
      | (go_at_call 91; (with_reducible refine (KS96.out _ _ HA1.out.bel VA1.out).mono ?_); rintro en wA2 ⟨rfl, hb⟩; obtain ⟨HA2, rA2_0, rA2_1, rA2_2⟩ := HSt.out _ _ HA1 hb; have TAVA1_2 := Lib.hid (VA1.out.below hb); clear hb)
      | (go_at_call 90; (with_reducible refine (KP64.out _ HA2.out.bel).mono ?_); rintro en wA3 ⟨zA3, rfl, hv, hb⟩; obtain ⟨sA3, oA3, lA3, cA3, qA3, mA3, kA3, rfl⟩ := hv.shape; obtain ⟨HA3, rA3_0, rA3_1, rA3_2⟩ := HSt.out _ _ HA2 hb; have VA3 := Lib.hid hv; have TAVA1_3 := Lib.hid (TAVA1_2.out.below hb); clear hv hb)
      | (go_at_call 91; (with_reducible refine (KS64.out _ _ HA3.out.bel VA3.out).mono ?_); rintro en wA4 ⟨rfl, hb⟩; obtain ⟨HA4, rA4_0, rA4_1, rA4_2⟩ := HSt.out _ _ HA3 hb; have TAVA1_4 := Lib.hid (TAVA1_3.out.below hb); have TAVA3_4 := Lib.hid (VA3.out.below hb); clear hb)
      | (go_at_call 90; (with_reducible refine (KP32.out _ HA4.out.bel).mono ?_); rintro en wA5 ⟨zA5, rfl, hv, hb⟩; obtain ⟨sA5, oA5, lA5, cA5, qA5, mA5, kA5, rfl⟩ := hv.shape; obtain ⟨HA5, rA5_0, rA5_1, rA5_2⟩ := HSt.out _ _ HA4 hb; have VA5 := Lib.hid hv; have TAVA1_5 := Lib.hid (TAVA1_4.out.below hb); have TAVA3_5 := Lib.hid (TAVA3_4.out.below hb); clear hv hb)
      | (go_at_call 91; (with_reducible refine (KS32.out _ _ HA5.out.bel VA5.out).mono ?_); rintro en wA6 ⟨rfl, hb⟩; obtain ⟨HA6, rA6_0, rA6_1, rA6_2⟩ := HSt.out _ _ HA5 hb; have TAVA1_6 := Lib.hid (TAVA1_5.out.below hb); have TAVA3_6 := Lib.hid (TAVA3_5.out.below hb); have TAVA5_6 := Lib.hid (VA5.out.below hb); clear hb)
      | (go_at_call 90; (with_reducible refine (KP0.out _ HA6.out.bel).mono ?_); rintro en wA7 ⟨zA7, rfl, hv, hb⟩; obtain ⟨sA7, oA7, lA7, cA7, qA7, mA7, kA7, rfl⟩ := hv.shape; obtain ⟨HA7, rA7_0, rA7_1, rA7_2⟩ := HSt.out _ _ HA6 hb; have VA7 := Lib.hid hv; have TAVA1_7 := Lib.hid (TAVA1_6.out.below hb); have TAVA3_7 := Lib.hid (TAVA3_6.out.below hb); have TAVA5_7 := Lib.hid (TAVA5_6.out.below hb); clear hv hb)
      | (go_at_call 91; (with_reducible refine (KS0.out _ _ HA7.out.bel VA7.out).mono ?_); rintro en wA8 ⟨rfl, hb⟩; obtain ⟨HA8, rA8_0, rA8_1, rA8_2⟩ := HSt.out _ _ HA7 hb; have TAVA1_8 := Lib.hid (TAVA1_7.out.below hb); have TAVA3_8 := Lib.hid (TAVA3_7.out.below hb); have TAVA5_8 := Lib.hid (TAVA5_7.out.below hb); have cC := HA8.out.c.cell; have fC := HA8.out.c.free; have lC := HA8.out.c.lt; have TAVA7_8 := Lib.hid (VA7.out.below hb); clear hb))
  clear rA0_0 rA0_1 rA0_2 rA1_0 rA1_1 rA1_2 rA2_0 rA2_1 rA2_2 rA3_0 rA3_1 rA3_2 rA4_0 rA4_1 rA4_2 rA5_0 rA5_1 rA5_2 rA6_0 rA6_1 rA6_2 rA7_0 rA7_1 rA7_2 rA8_0 rA8_1 rA8_2
  have NAVA1 := TAVA1_8
  have NAVA3 := TAVA3_8
  have NAVA5 := TAVA5_8
  have NAVA7 := TAVA7_8
  go_wp2_with fail
  refine bodyPost_ret (v := .agg #[.int .u64 (x96 * 4294967296 + x64), .int .u64 (x32 * 4294967296 + x0)]) (by simp [results, Tryz.results75, go_sem, cC, lC]) rfl ?_
  have ho := stored2 (g + 1) wA8 (.int .u64 (x96 * 4294967296 + x64)) (.int .u64 (x32 * 4294967296 + x0))
  exact ⟨rfl, HA8.out.bel.trans (ho.below HA8.out.bel.size (by have := HG.out; omega))⟩
theorem packed_any (w : World) (v : Value) (n : Int) (h : Rq w v n 1) (n0 : 0 ≤ n) (n1 : n < 340282366920938463463374607431768211456) :
    Calls Tryz.prog 75 #[v] w fun e w' => e = .returned (.agg #[.int .u64 (n / 18446744073709551616), .int .u64 (n % 18446744073709551616)]) ∧ Below w.heap.size w w' := by
  obtain ⟨s1, a1, l1, c1, a2, l2, c2, rfl⟩ := h.shape
  have e32 : (2 : Int) ^ 32 = 4294967296 := by decide
  have e64 : (2 : Int) ^ 64 = 18446744073709551616 := by decide
  have e96 : (2 : Int) ^ 96 = 79228162514264337593543950336 := by decide
  have e0 : (2 : Int) ^ 0 = 1 := by decide
  have hp : ∀ (b : Nat), b ≤ 200 → ∀ W, Below w.heap.size w W → Calls Tryz.prog 90 #[.agg #[.int .i64 s1, .slice a1 l1 c1, .slice a2 l2 c2], .int .i64 b, .int .i64 32] W (RqPost W (n / 2 ^ b % 4294967296) 1) := fun b hb W hW => by
    have := part_any W _ n b 32 (h.below hW) n0 (by omega) hb (by decide)
    rwa [e32] at this
  have q0 : ∀ x : Int, 0 ≤ x % 4294967296 ∧ x % 4294967296 < 4294967296 := fun x => by omega
  have hs : ∀ x : Int, ∀ W v, Below w.heap.size w W → Rq W v (x % 4294967296) 1 → Calls Tryz.prog 91 #[v] W fun e w' => e = .returned (.int .u64 (x % 4294967296)) ∧ Below W.heap.size W w' := fun x W v _ hv => small_any W v _ hv (q0 x).1 (q0 x).2
  refine (packed_raw w s1 a1 a2 l1 c1 l2 c2 (n / 2 ^ 96 % 4294967296) (n / 2 ^ 64 % 4294967296) (n / 2 ^ 32 % 4294967296) (n / 2 ^ 0 % 4294967296) (q0 _) (q0 _) (q0 _) (q0 _)
    (Lib.hid (hp 96 (by decide))) (Lib.hid (hs _)) (Lib.hid (hp 64 (by decide))) (Lib.hid (hs _)) (Lib.hid (hp 32 (by decide))) (Lib.hid (hs _)) (Lib.hid (hp 0 (by decide))) (Lib.hid (hs _))).mono ?_
  rintro e w' ⟨rfl, hb⟩
  refine ⟨?_, hb⟩
  rw [e32, e64, e96, e0]
  rw [show n / 79228162514264337593543950336 % 4294967296 * 4294967296 + n / 18446744073709551616 % 4294967296 = n / 18446744073709551616 by omega, show n / 4294967296 % 4294967296 * 4294967296 + n / 1 % 4294967296 = n % 18446744073709551616 by omega]
end Go.Proofs.YtaeekmlnfjimjaaGreatDoor.R
/-
  The reference's words: Flip.
-/
namespace Go.Proofs.YtaeekmlnfjimjaaGreatDoor.R
open Go.RowKit Go.Shelf

/-- a word as an integer, its sign bit turned -/
def flipN (k : Nat) (n : Int) : Int := if 2 ^ k ≤ n then n - 2 ^ k else n + 2 ^ k
theorem flipN_range {k : Nat} {n : Int} (hk : k ≤ 127) (n0 : 0 ≤ n) (n1 : n < 340282366920938463463374607431768211456) : 0 ≤ flipN k n ∧ flipN k n < 340282366920938463463374607431768211456 := by
  have h1 := p2_le hk
  have h2 := p2pos k
  have h3 : (2 : Int) ^ 127 = 170141183460469231731687303715884105728 := by decide
  unfold flipN
  split <;> omega
def FlipPost (w : World) (n : Int) (e : Ending) (w' : World) : Prop := e = .returned (.agg #[.int .u64 (n / 18446744073709551616), .int .u64 (n % 18446744073709551616)]) ∧ Below w.heap.size w w'

set_option maxRecDepth 100000 in
set_option maxHeartbeats 2000000 in
theorem flip_any (w : World) (E P hi lo : Int) (k : Nat) (hk : E + P - 1 = k) (k1 : k ≤ 127) (e0 : 0 ≤ E) (p0 : 0 ≤ P) (h0 : 0 ≤ hi) (h1 : hi < 18446744073709551616) (l0 : 0 ≤ lo) (l1 : lo < 18446744073709551616) :
    Calls Tryz.prog 27 #[.agg #[.int .i64 E, .int .i64 P], .agg #[.int .u64 hi, .int .u64 lo]] w (FlipPost w (flipN k (hi * 18446744073709551616 + lo))) := by
  obtain ⟨n, hn⟩ : ∃ n, hi * 18446744073709551616 + lo = n := ⟨_, rfl⟩
  have n0 : 0 ≤ n := by omega
  have n1 : n < 340282366920938463463374607431768211456 := by omega
  have hf := flipN_range k1 n0 n1
  have hp2 : (2 : Int) ^ k ≤ 170141183460469231731687303715884105728 := by have := p2_le k1; have h3 : (2 : Int) ^ 127 = 170141183460469231731687303715884105728 := (by decide); omega
  have hpp := p2pos k
  have i1 : inI n := inI_small (by omega)
  have i2 : inI (2 ^ k) := inI_small (by omega)
  have KT : Hid (∀ W, Calls Tryz.prog 78 #[.int .i64 k] W (RqPost W (2 ^ k) 1)) := Lib.hid fun W => by
    have := twoR_any W k (by omega) (by omega)
    rwa [show ((k : Nat) : Int).toNat = k by omega, show (-((k : Nat) : Int)).toNat = 0 by omega, Int.pow_zero] at this
  have KB : Hid (∀ W, Calls Tryz.prog 76 #[.agg #[.int .u64 hi, .int .u64 lo]] W (RqPost W n 1)) := Lib.hid fun W => by
    have := bits_any W hi lo h0 h1 l0 l1
    rwa [hn] at this
  have KC : Hid (∀ W va vb, Rq W va n 1 → Rq W vb (2 ^ k) 1 → Calls Tryz.prog 69 #[va, vb] W fun e w' => e = .returned (.int .i64 (cmpI n (2 ^ k))) ∧ Below W.heap.size W w') := Lib.hid fun W va vb q1 q2 => cmpIw W va vb _ _ q1 q2 i1 i2
  have KS : Hid (∀ W va vb, Rq W va n 1 → Rq W vb (2 ^ k) 1 → Calls Tryz.prog 49 #[va, vb] W (RqPost W (n - 2 ^ k) 1)) := Lib.hid fun W va vb q1 q2 => subI W va vb _ _ q1 q2 i1 i2
  have KA : Hid (∀ W va vb, Rq W va n 1 → Rq W vb (2 ^ k) 1 → Calls Tryz.prog 77 #[va, vb] W (RqPost W (n + 2 ^ k) 1)) := Lib.hid fun W va vb q1 q2 => addI W va vb _ _ q1 q2 i1 i2
  have KP : Hid (∀ W v, Rq W v (flipN k n) 1 → Calls Tryz.prog 75 #[v] W (FlipPost W (flipN k n))) := Lib.hid fun W v q => packed_any W v _ q hf.1 hf.2
  have w1 : IntKind.i64.wrap (E + P) = E + P := IntWalk.i64_in _ (by omega)
  have w2 : IntKind.i64.wrap (E + P - 1) = k := by rw [hk]; exact IntWalk.i64_in _ (by omega)
  rw [hn]
  have hX := (((Below.refl w.heap.size w).alloc (Nat.le_refl _) (.cells #[.int .i64 E, .int .i64 P] 23)).alloc (by simp) (.cells #[.int .u64 hi, .int .u64 lo] 26)).alloc (by simp; omega) (.cells wcells 26)
  have hB := Box.new ((w.alloc (.cells #[.int .i64 E, .int .i64 P] 23)).alloc (.cells #[.int .u64 hi, .int .u64 lo] 26)) wcells 26
  have hA := (Box.new (w.alloc (.cells #[.int .i64 E, .int .i64 P] 23)) #[.int .u64 hi, .int .u64 lo] 26).alloc (.cells wcells 26)
  rw [World.size_alloc, World.size_alloc] at hB
  rw [World.size_alloc] at hA
  have HX := Lib.hid hX
  have HB := Lib.hid hB
  have HA := Lib.hid hA
  clear hn n0 n1 hf hp2 hpp i1 i2 h0 h1 l0 l1 hX hB hA hk k1 e0 p0
  go_enter Tryz.func27, Tryz.ntmps27
  go_wp2_with fail
  refine (KT.out _).mono ?_
  rintro e W1 ⟨v1, rfl, hv, hb⟩
  obtain ⟨s4, o4, l4, c4, p4, m4, k4, rfl⟩ := hv.shape
  have hX7 := (Below.refl W1.heap.size W1).alloc (Nat.le_refl _) (.cells #[.int .i64 s4, .slice o4 l4 c4, .slice p4 m4 k4] 65)
  have B1 := Lib.hid (HX.out.trans ((hb.trans (hX7.mono hb.size)).mono HX.out.size))
  have A1 := Lib.hid ((HA.out.below hb).below hX7)
  have R1 := Lib.hid ((HB.out.below hb).below hX7)
  have T1 := Lib.hid (Box.new W1 #[.int .i64 s4, .slice o4 l4 c4, .slice p4 m4 k4] 65)
  have V1 := Lib.hid (hv.below hX7)
  have cA := A1.out.cell
  clear hv hb hX7 KT
  go_wp2_with fail
  refine (KB.out _).mono ?_
  rintro e W2 ⟨v2, rfl, hv, hb⟩
  obtain ⟨s5, o5, l5, c5, p5, m5, k5, rfl⟩ := hv.shape
  have hX7 := (Below.refl W2.heap.size W2).alloc (Nat.le_refl _) (.cells #[.int .i64 s5, .slice o5 l5 c5, .slice p5 m5 k5] 65)
  have B2 := Lib.hid (B1.out.trans ((hb.trans (hX7.mono hb.size)).mono B1.out.size))
  have R2 := Lib.hid ((R1.out.below hb).below hX7)
  have T2 := Lib.hid ((T1.out.below hb).below hX7)
  have N2 := Lib.hid (Box.new W2 #[.int .i64 s5, .slice o5 l5 c5, .slice p5 m5 k5] 65)
  have V2 := Lib.hid ((V1.out.below hb).below hX7)
  have V3 := Lib.hid (hv.below hX7)
  have cT := T2.out.cell
  clear hv hb hX7 KB cA
  go_wp2_with fail
  refine (KC.out _ _ _ V3.out V2.out).mono ?_
  rintro e W3 ⟨rfl, hb⟩
  have B3 := Lib.hid (B2.out.trans (hb.mono B2.out.size))
  have R3 := Lib.hid (R2.out.below hb)
  have T3 := Lib.hid (T2.out.below hb)
  have N3 := Lib.hid (N2.out.below hb)
  have V4 := Lib.hid (V3.out.below hb)
  have V5 := Lib.hid (V2.out.below hb)
  have cN := N3.out.cell
  clear hb KC cT
  have cT := T3.out.cell
  by_cases hlt : 2 ^ k ≤ n
  · have hcm : ¬ cmpI n (2 ^ k) < 0 := by unfold cmpI; rw [if_neg (by omega)]; split <;> omega
    have HFl : Hid (flipN k n = n - 2 ^ k) := Lib.hid (by unfold flipN; rw [if_pos hlt])
    clear hlt
    go_wp2_with fail
    refine (KS.out _ _ _ V4.out V5.out).mono ?_
    rintro e W4 ⟨v4, rfl, hv, hb⟩
    obtain ⟨s8, o8, l8, c8, p8, m8, k8, rfl⟩ := hv.shape
    have B4 := Lib.hid (B3.out.trans (hb.mono B3.out.size))
    have R4 := Lib.hid (R3.out.below hb)
    have HPk := Lib.hid (KP.out W4 _ (by rw [HFl.out]; exact hv))
    clear hv hb cT cN
    go_wp2_with fail
    refine HPk.out.mono ?_
    rintro e W5 ⟨rfl, hb⟩
    have B5 := Lib.hid (B4.out.trans (hb.mono B4.out.size))
    have hR := R4.out.below hb
    have cC := hR.cell
    have fC := hR.free
    have lC := hR.lt
    clear hb HPk hR
    go_wp2_with fail
    refine bodyPost_ret (v := .agg #[.int .u64 (flipN k n / 18446744073709551616), .int .u64 (flipN k n % 18446744073709551616)]) (by simp [results, Tryz.results27, go_sem, cC, lC]) rfl ?_
    have ho := stored2 (w.heap.size + 1 + 1) W5 (.int .u64 (flipN k n / 18446744073709551616)) (.int .u64 (flipN k n % 18446744073709551616))
    exact ⟨rfl, B5.out.trans (ho.below B5.out.size (by omega))⟩
  · have hcm : cmpI n (2 ^ k) = -1 := cmpI_lt (by omega)
    have HFl : Hid (flipN k n = n + 2 ^ k) := Lib.hid (by unfold flipN; rw [if_neg hlt])
    clear hlt
    rw [hcm]
    go_wp2_with fail
    refine (KA.out _ _ _ V4.out V5.out).mono ?_
    rintro e W4 ⟨v4, rfl, hv, hb⟩
    obtain ⟨s8, o8, l8, c8, p8, m8, k8, rfl⟩ := hv.shape
    have B4 := Lib.hid (B3.out.trans (hb.mono B3.out.size))
    have R4 := Lib.hid (R3.out.below hb)
    have HPk := Lib.hid (KP.out W4 _ (by rw [HFl.out]; exact hv))
    clear hv hb cT cN
    go_wp2_with fail
    refine HPk.out.mono ?_
    rintro e W5 ⟨rfl, hb⟩
    have B5 := Lib.hid (B4.out.trans (hb.mono B4.out.size))
    have hR := R4.out.below hb
    have cC := hR.cell
    have fC := hR.free
    have lC := hR.lt
    clear hb HPk hR
    go_wp2_with fail
    refine bodyPost_ret (v := .agg #[.int .u64 (flipN k n / 18446744073709551616), .int .u64 (flipN k n % 18446744073709551616)]) (by simp [results, Tryz.results27, go_sem, cC, lC]) rfl ?_
    have ho := stored2 (w.heap.size + 1 + 1) W5 (.int .u64 (flipN k n / 18446744073709551616)) (.int .u64 (flipN k n % 18446744073709551616))
    exact ⟨rfl, B5.out.trans (ho.below B5.out.size (by omega))⟩
end Go.Proofs.YtaeekmlnfjimjaaGreatDoor.R
