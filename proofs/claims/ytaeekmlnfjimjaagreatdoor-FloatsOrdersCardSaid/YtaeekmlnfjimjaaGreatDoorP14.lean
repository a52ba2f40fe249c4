/-
  Contract of package floats's toNum.
-/
import Derived.Test.YtaeekmlnfjimjaaGreatDoorP13
import Derived.Test.YtaeekmlnfjimjaaGreatDoorP10
set_option linter.unusedVariables false
set_option linter.unusedSimpArgs false
set_option linter.unusedSectionVars false
namespace Go.Proofs.YtaeekmlnfjimjaaGreatDoor
open Go.RowKit Go.Shelf
attribute [local go_sem] eqNil neqNil

theorem fieldLo (w : World) (a b : Int) : (Instr.field 26 (.agg #[.int .u64 a, .int .u64 b]) 1).run Tryz.prog w = .ok (.int .u64 b) w := by kernel_rfl
attribute [local go_sem] fieldLo

theorem and_mask (x : Int) (h0 : 0 ≤ x) (h1 : x < 18446744073709551616) : bits .and .u64 x 4611686018427387903 = x % 4611686018427387904 := by
  obtain ⟨x, rfl⟩ := Int.eq_ofNat_of_zero_le h0
  have h := bits_and_u64_nat x 4611686018427387903 (by omega) (by omega)
  have e : x &&& 4611686018427387903 = x % 4611686018427387904 := Nat.and_two_pow_sub_one_eq_mod x 62
  rw [e] at h
  exact h

theorem lo62 {h l X : Int} (a : Wn h l X) (hX : X < 2 ^ 124) : Wn h l X ∧ 0 ≤ X / 2 ^ 62 ∧ X / 2 ^ 62 < 2 ^ 62 ∧ X = X / 2 ^ 62 * 2 ^ 62 + l % 4611686018427387904 := by
  have b := a
  obtain ⟨a1, a2, a3, a4, rfl⟩ := a
  have e : (2 : Int) ^ 62 = 4611686018427387904 := rfl
  have e2 : (2 : Int) ^ 124 = 4611686018427387904 * 4611686018427387904 := rfl
  rw [e2] at hX
  rw [e]
  exact ⟨b, by omega, by omega, by omega⟩

theorem sml62 : (2 : Int) ^ 130 < sml := by
  unfold sml
  rw [show 60000 = 130 + (1 + 59869) from rfl, Int.pow_add, Int.pow_add]
  have h1 := p2pos 130
  have h2 := Int.mul_le_mul_of_nonneg_left (show (1 : Int) ≤ 2 ^ 59869 from p2pos _) (show (0 : Int) ≤ 2 ^ 1 by decide)
  have h3 := Int.mul_le_mul_of_nonneg_left (show (2 : Int) ≤ 2 ^ 1 * 2 ^ 59869 by omega) (Int.le_of_lt h1)
  omega

set_option maxRecDepth 100000 in
set_option maxHeartbeats 1000000 in
theorem toNum_low (w : World) (hE : Env w) (h l X : Int) (a : Wn h l X) (hX : X < 4611686018427387904) : Calls Tryz.prog 197 #[.agg #[.int .u64 h, .int .u64 l]] w (DnPost w X 0) := by
  have HE := Lib.hid hE
  have HWn := Lib.hid a
  obtain ⟨a1, a2, a3, a4, a5⟩ := a
  have hm := and_mask l a3 a4
  have hlX : Hid (l % 4611686018427387904 = X) := Lib.hid (by omega)
  rw [hlX.out] at hm
  have c1 : IntKind.i64.wrap X = X := IntWalk.i64_in _ (by omega)
  have HX : Hid (0 ≤ X ∧ X < 4611686018427387904) := Lib.hid (by omega)
  have hr : Hid (∀ W1, Calls Tryz.prog 127 #[.agg #[.int .u64 h, .int .u64 l], .int .i64 62] W1 (WPost W1 0)) := Lib.hid (fun W1 => by
    have := wright_any W1 h l X HWn.out 62 (by omega)
    rwa [show X / 2 ^ 62 = 0 from Int.ediv_eq_zero_of_lt HX.out.1 HX.out.2] at this)
  clear hE a5 hX
  go_enter Tryz.func197, Tryz.ntmps197
  go_wp2_with fail
  have HT := boxes2n w #[.int .u64 h, .int .u64 l] #[.bool false, .slice none 0 0, .slice none 0 0, .int .i64 0] 26 49
  refine (int_any _ (HE.out.below HT.out.1) X (by have := HX.out; omega) (by have := HX.out; omega)).mono ?_
  rintro en w1 ⟨v1, rfl, hv, hb⟩
  obtain ⟨s, o, lx, c, o2, l2, c2, q, rfl⟩ := hv.shape
  have HT1 := Lib.hid (HT.out.next hb)
  have HV := Lib.hid hv
  clear hb hv
  have cA := HT1.out.2.1.cell
  have lA := HT1.out.2.1.lt
  go_wp2_with fail
  refine (hr.out _).mono ?_
  rintro en w2 ⟨h3, l3, rfl, W3, hb⟩
  have HT2 := Lib.hid ((HT1.out.next ((Below.refl _ _).alloc (Nat.le_refl _) _)).next hb)
  have HS2 := Lib.hid ((Box.new w1 #[.bool s, .slice o lx c, .slice o2 l2 c2, .int .i64 q] 49).below hb)
  have HV2 := Lib.hid ((HV.out.below ((Below.refl _ _).alloc (Nat.le_refl _) _)).below hb)
  obtain ⟨q1, q2, q3, q4, q5⟩ := W3
  obtain rfl : l3 = 0 := by omega
  clear hb cA lA q1 q2 q3 q4 q5
  have cS := HS2.out.cell
  have cC := HT2.out.2.2.cell
  have fC := HT2.out.2.2.free
  have lC := HT2.out.2.2.lt
  generalize hg : w.heap.size = g at *
  have HG := Lib.hid hg
  clear hg
  go_wp2_with fail
  refine bodyPost_ret (v := .agg #[.bool s, .slice o lx c, .slice o2 l2 c2, .int .i64 q]) (by simp [results, Tryz.results197, go_sem, cC, lC]) rfl ?_
  have ho := Stored.only (g + 1) w2 s o lx c o2 l2 c2 q
  exact ⟨_, rfl, HV2.out.only ho HT2.out.2.2.noW, HT2.out.1.trans (ho.below HT2.out.1.size (by have := HG.out; omega))⟩


set_option maxRecDepth 100000 in
set_option maxHeartbeats 400000 in
theorem toNum_high (w : World) (hE : Env w) (h l X : Int) (a : Wn h l X) (hX : X < 2 ^ 124) (hX0 : 4611686018427387904 ≤ X) : Calls Tryz.prog 197 #[.agg #[.int .u64 h, .int .u64 l]] w (DnPost w X 0) := by
  have HE := Lib.hid hE
  have HWn := Lib.hid a
  obtain ⟨_, y0, y1, y2⟩ := lo62 a hX
  obtain ⟨a1, a2, a3, a4, a5⟩ := a
  have hm := and_mask l a3 a4
  obtain ⟨lo, hlo⟩ : ∃ r, l % 4611686018427387904 = r := ⟨_, rfl⟩
  obtain ⟨Y, hY⟩ : ∃ r, X / 2 ^ 62 = r := ⟨_, rfl⟩
  rw [hlo] at hm y2
  rw [hY] at y0 y1 y2
  have hlo0 : 0 ≤ lo ∧ lo < 4611686018427387904 := by omega
  rw [show (2 : Int) ^ 62 = 4611686018427387904 from rfl] at y1 y2
  have HX : Hid (0 ≤ lo ∧ lo < 4611686018427387904 ∧ 0 < Y ∧ Y < 4611686018427387904 ∧ X = Y * 4611686018427387904 + lo) := Lib.hid ⟨hlo0.1, hlo0.2, by omega, y1, y2⟩
  have hr : Hid (∀ W1, Calls Tryz.prog 127 #[.agg #[.int .u64 h, .int .u64 l], .int .i64 62] W1 (WPost W1 Y)) := Lib.hid (fun W1 => by
    have := wright_any W1 h l X HWn.out 62 (by omega)
    rwa [hY] at this)
  have c1 : IntKind.i64.wrap lo = lo := IntWalk.i64_in _ (by omega)
  have c2 : IntKind.i64.wrap Y = Y := IntWalk.i64_in _ (by omega)
  have hne : (Y == 0) = false := by simp; have := HX.out; omega
  clear hE a5 hX hX0 hlo hY y0 y1 y2 hlo0
  go_enter Tryz.func197, Tryz.ntmps197
  go_wp2_with fail
  have HT := boxes2n w #[.int .u64 h, .int .u64 l] #[.bool false, .slice none 0 0, .slice none 0 0, .int .i64 0] 26 49
  refine (int_any _ (HE.out.below HT.out.1) lo (by have := HX.out; omega) (by have := HX.out; omega)).mono ?_
  rintro en w1 ⟨v1, rfl, hv, hb⟩
  obtain ⟨s, o, lx, c, o2, l2, c2', q, rfl⟩ := hv.shape
  have HT1 := Lib.hid (HT.out.next hb)
  have HV := Lib.hid hv
  clear hb hv
  have cA := HT1.out.2.1.cell
  have lA := HT1.out.2.1.lt
  go_wp2_with fail
  refine (hr.out _).mono ?_
  rintro en w2 ⟨h3, l3, rfl, W3, hb⟩
  have HT2 := Lib.hid ((HT1.out.next ((Below.refl _ _).alloc (Nat.le_refl _) _)).next hb)
  have HS2 := Lib.hid ((Box.new w1 #[.bool s, .slice o lx c, .slice o2 l2 c2', .int .i64 q] 49).below hb)
  have HV2 := Lib.hid ((HV.out.below ((Below.refl _ _).alloc (Nat.le_refl _) _)).below hb)
  obtain ⟨q1, q2, q3, q4, q5⟩ := W3
  obtain rfl : Y = l3 := by have := HX.out; omega
  clear hb cA lA q1 q2 q3 q4 q5
  generalize hg : w.heap.size = g at *
  have HG := Lib.hid hg
  clear hg
  have hne1 : ¬ g + 1 = w1.heap.size := by have := HT1.out.2.2.lt; omega
  have hne2 : ¬ w1.heap.size = g + 1 := by omega
  generalize hgs : w1.heap.size = gs at *
  clear hgs
  go_wp2_with fail
  have d0 : w2.cell? ⟨gs, 0, none⟩ = some (.bool s) := HS2.out.cell 0
  have d1 : w2.cell? ⟨gs, 1, none⟩ = some (.slice o lx c) := HS2.out.cell 1
  have d2 : w2.cell? ⟨gs, 2, none⟩ = some (.slice o2 l2 c2') := HS2.out.cell 2
  have d3 : w2.cell? ⟨gs, 3, none⟩ = some (.int .i64 q) := HS2.out.cell 3
  have H0 : Hid (Two w w2.drew g #[.int .u64 h, .int .u64 l] #[.bool false, .slice none 0 0, .slice none 0 0, .int .i64 0] ∧ Box w2.drew gs #[.bool s, .slice o lx c, .slice o2 l2 c2', .int .i64 q] ∧ Dn w2.drew (.agg #[.bool s, .slice o lx c, .slice o2 l2 c2', .int .i64 q]) lo 0) := Lib.hid ⟨HT2.out.next ((Drw.step w2 1).below _), HS2.out.below ((Drw.step w2 1).below _), HV2.out.below ((Drw.step w2 1).below _)⟩
  have step : ∀ (W1 W2 : World), Hid (Two w W1 g #[.int .u64 h, .int .u64 l] #[.bool false, .slice none 0 0, .slice none 0 0, .int .i64 0] ∧ Box W1 gs #[.bool s, .slice o lx c, .slice o2 l2 c2', .int .i64 q] ∧ Dn W1 (.agg #[.bool s, .slice o lx c, .slice o2 l2 c2', .int .i64 q]) lo 0) → Below W1.heap.size W1 W2 → Hid (Two w W2 g #[.int .u64 h, .int .u64 l] #[.bool false, .slice none 0 0, .slice none 0 0, .int .i64 0] ∧ Box W2 gs #[.bool s, .slice o lx c, .slice o2 l2 c2', .int .i64 q] ∧ Dn W2 (.agg #[.bool s, .slice o lx c, .slice o2 l2 c2', .int .i64 q]) lo 0) ∧ W2.cell? ⟨gs, 0, none⟩ = some (.bool s) ∧ W2.cell? ⟨gs, 1, none⟩ = some (.slice o lx c) ∧ W2.cell? ⟨gs, 2, none⟩ = some (.slice o2 l2 c2') ∧ W2.cell? ⟨gs, 3, none⟩ = some (.int .i64 q) := fun W1 W2 a b =>
    ⟨Lib.hid ⟨a.out.1.next b, a.out.2.1.below b, a.out.2.2.below b⟩, (a.out.2.1.below b).cell 0, (a.out.2.1.below b).cell 1, (a.out.2.1.below b).cell 2, (a.out.2.1.below b).cell 3⟩
  have HSt := Lib.hid step
  clear step HT2 HS2 HV2
  have hY : Hid (-sml < Y ∧ Y < sml ∧ -sml < Y * 4611686018427387904 ∧ Y * 4611686018427387904 < sml ∧ -sml < lo ∧ lo < sml) := Lib.hid (by
    have h1 := sml62
    rw [show (2 : Int) ^ 130 = 1361129467683753853853498429727072845824 from rfl] at h1
    have := HX.out
    omega)
  have KS : Hid (∀ (W1 : World) (v : Value), Hid (Dn W1 v Y 0) → Calls Tryz.prog 182 #[v, .int .i64 62] W1 (DnPost W1 (Y * 4611686018427387904) 0)) := Lib.hid (fun W1 v hv => by
    refine (shifted_any W1 v Y 0 62 hv.out ⟨hY.out.1, hY.out.2.1⟩ (by omega) (by omega)).mono ?_
    rintro en w' ⟨v', rfl, hv', hb⟩
    have hv2 := hv'.scale 62
    rw [show (0 : Int) + 62 - ((62 : Nat) : Int) = 0 by omega, show (2 : Int) ^ 62 = 4611686018427387904 from rfl] at hv2
    exact ⟨v', rfl, hv2, hb⟩)
  have KA : Hid (∀ (W1 : World) (v : Value), Hid (Dn W1 v (Y * 4611686018427387904) 0) → Hid (Two w W1 g #[.int .u64 h, .int .u64 l] #[.bool false, .slice none 0 0, .slice none 0 0, .int .i64 0] ∧ Box W1 gs #[.bool s, .slice o lx c, .slice o2 l2 c2', .int .i64 q] ∧ Dn W1 (.agg #[.bool s, .slice o lx c, .slice o2 l2 c2', .int .i64 q]) lo 0) → Calls Tryz.prog 86 #[v, .agg #[.bool s, .slice o lx c, .slice o2 l2 c2', .int .i64 q]] W1 (DnPost W1 X 0)) := Lib.hid (fun W1 v hv hH => by
    have := add_any W1 (HE.out.below hH.out.1.1) v _ (Y * 4611686018427387904) lo 0 hv.out hH.out.2.2 ⟨hY.out.2.2.1, hY.out.2.2.2.1⟩ ⟨hY.out.2.2.2.2.1, hY.out.2.2.2.2.2⟩ (by omega)
    rwa [← HX.out.2.2.2.2] at this)
  go_region_held3 (fun w' => w'.cell? ⟨gs, 0, none⟩ = some (.bool s) ∧ w'.cell? ⟨gs, 1, none⟩ = some (.slice o lx c) ∧ w'.cell? ⟨gs, 2, none⟩ = some (.slice o2 l2 c2') ∧ w'.cell? ⟨gs, 3, none⟩ = some (.int .i64 q)) (first | (simp [go_sem, hne1, hne2, e30, e31, e32, e33]; done) | exact ⟨e30, e31, e32, e33⟩ | exact ⟨e20, e21, e22, e23⟩ | exact ⟨e10, e11, e12, e13⟩ | exact ⟨d0, d1, d2, d3⟩)
    (first
      | (go_at_call 121; refine (int_any _ (HE.out.below H0.out.1.1) Y (by have := HX.out; omega) (by have := HX.out; omega)).mono ?_; rintro en w3 ⟨v3, rfl, hv, hb⟩; obtain ⟨s3, o3, l3', c3, o32, l32, c32, q3, rfl⟩ := hv.shape; obtain ⟨H1, e10, e11, e12, e13⟩ := HSt.out _ _ H0 hb; have V1 := Lib.hid hv; clear hv hb)
      | (go_at_call 182; (with_reducible refine (KS.out _ _ V1).mono ?_); rintro en w4 ⟨v4, rfl, hv, hb⟩; obtain ⟨s4, o4, l4, c4, o42, l42, c42, q4, rfl⟩ := hv.shape; obtain ⟨H2, e20, e21, e22, e23⟩ := HSt.out _ _ H1 hb; have V2 := Lib.hid hv; clear hv hb)
      | (go_at_call 86; (with_reducible refine (KA.out _ _ V2 H2).mono ?_); rintro en w5 ⟨v5, rfl, hv, hb⟩; obtain ⟨s5, o5, l5, c5, o52, l52, c52, q5, rfl⟩ := hv.shape; obtain ⟨H3, e30, e31, e32, e33⟩ := HSt.out _ _ H2 hb; have cC := H3.out.1.2.2.cell; have fC := H3.out.1.2.2.free; have V3 := Lib.hid hv; clear hv hb))
  have lC := H3.out.1.2.2.lt
  clear e10 e11 e12 e13 e20 e21 e22 e23 e30 e31 e32 e33
  go_wp2_with fail
  refine bodyPost_ret (v := .agg #[.bool s5, .slice o5 l5 c5, .slice o52 l52 c52, .int .i64 q5]) (by simp [results, Tryz.results197, go_sem, cC, lC]) rfl ?_
  have ho := Stored.only (g + 1) w5 s5 o5 l5 c5 o52 l52 c52 q5
  have hn := V3.out.only ho H3.out.1.2.2.noW
  exact ⟨_, rfl, hn, H3.out.1.1.trans (ho.below H3.out.1.1.size (by have := HG.out; omega))⟩

theorem toNum_any (w : World) (hE : Env w) (h l X : Int) (a : Wn h l X) (hX : X < 2 ^ 124) : Calls Tryz.prog 197 #[.agg #[.int .u64 h, .int .u64 l]] w (DnPost w X 0) := by
  by_cases h0 : X < 4611686018427387904
  · exact toNum_low w hE h l X a h0
  · exact toNum_high w hE h l X a hX (by omega)
end Go.Proofs.YtaeekmlnfjimjaaGreatDoor
/-
  Contract of package floats's toWord.
-/
namespace Go.Proofs.YtaeekmlnfjimjaaGreatDoor
open Go.RowKit Go.Shelf
attribute [local go_sem] eqNil neqNil

end Go.Proofs.YtaeekmlnfjimjaaGreatDoor
/-
  Contract of package floats's toWord, from 2^63.
-/
namespace Go.Proofs.YtaeekmlnfjimjaaGreatDoor
open Go.RowKit Go.Shelf
attribute [local go_sem] eqNil neqNil

end Go.Proofs.YtaeekmlnfjimjaaGreatDoor
/-
  Numbers with a divisor: K 2^k / D: what their fields are.
-/
namespace Go.Proofs.YtaeekmlnfjimjaaGreatDoor
open Go.RowKit Go.Shelf

/-- the fields of the number K 2^k / D -/
def Qr (s : Bool) (t b e K D k : Int) : Prop :=
  0 < D ∧ ((t = 0 ∧ s = false ∧ b = 1 ∧ e = 0 ∧ K = 0) ∨ (t % 2 = 1 ∧ 0 < t ∧ b % 2 = 1 ∧ 0 < b ∧ Int.gcd t b = 1 ∧ ∃ i j : Nat, e - i = k - j ∧ sg s t * 2 ^ i * D = K * 2 ^ j * b))

def Qn (w : World) (v : Value) (K D k : Int) : Prop := ∃ s t b e, Nm w v s t b e ∧ Qr s t b e K D k
theorem Qr.neg {s : Bool} {t b e K D k : Int} (h : Qr s t b e K D k) : s = decide (K < 0) := by
  obtain ⟨hD, h⟩ := h
  rcases h with ⟨_, rfl, _, _, rfl⟩ | ⟨_, t0, _, pb, _, i, j, _, hk⟩
  · rfl
  · have hp : 0 < t * 2 ^ i * D := Int.mul_pos (Int.mul_pos t0 (p2pos i)) hD
    have hq : 0 < 2 ^ j * b := Int.mul_pos (p2pos j) pb
    rw [Int.mul_assoc K] at hk
    cases s
    · have e : sg false t = t := rfl
      rw [e] at hk
      have : ¬ K < 0 := fun h => by
        have := Int.mul_neg_of_neg_of_pos h hq
        omega
      simp [this]
    · have e : sg true t * 2 ^ i * D = -(t * 2 ^ i * D) := by
        show (-t) * 2 ^ i * D = _
        rw [Int.neg_mul, Int.neg_mul]
      rw [e] at hk
      have : K < 0 := by
        apply Classical.byContradiction
        intro h
        have := Int.mul_nonneg (show 0 ≤ K by omega) (Int.le_of_lt hq)
        omega
      simp [this]
end Go.Proofs.YtaeekmlnfjimjaaGreatDoor
