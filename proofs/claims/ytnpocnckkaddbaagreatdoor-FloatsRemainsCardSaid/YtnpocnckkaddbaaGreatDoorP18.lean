/-
  Contract of math/bits' Div64: the quotient of two words by one, of which the upper one is less than the divisor.
-/
import Derived.Test.YtnpocnckkaddbaaGreatDoorP17
import Derived.Test.YtnpocnckkaddbaaGreatDoorP12
set_option linter.unusedVariables false
set_option linter.unusedSimpArgs false
set_option linter.unusedSectionVars false
namespace Go.Proofs.YtnpocnckkaddbaaGreatDoor
open Go.RowKit Go.Shelf

/-! one digit of a quotient -/
/-- the search for a digit: q is it, or more; r is the rest by the divisor's upper half -/
structure DigInv (u c h l q r : Int) : Prop where
  eq : q * h + r = u
  q0 : 0 ≤ q
  q1 : q ≤ 4294967297
  r0 : 0 ≤ r
  r1 : r < 4294967296
  up : u * 4294967296 + c < (q + 1) * (h * 4294967296 + l)
structure DigArgs (u c h l : Int) : Prop where
  h0 : 2147483648 ≤ h
  h1 : h < 4294967296
  l0 : 0 ≤ l
  l1 : l < 4294967296
  c0 : 0 ≤ c
  c1 : c < 4294967296
  u0 : 0 ≤ u
  u1 : u < h * 4294967296 + l
def DigEnd (u c h l q : Int) : Prop := 0 ≤ q ∧ q < 4294967296 ∧ q * (h * 4294967296 + l) ≤ u * 4294967296 + c ∧ u * 4294967296 + c < (q + 1) * (h * 4294967296 + l)
theorem dig_start {u c h l : Int} (A : DigArgs u c h l) : DigInv u c h l (u / h) (u - u / h * h) := by
  obtain ⟨h0, h1, l0, l1, c0, c1, u0, u1⟩ := A
  have e := Int.mul_ediv_add_emod u h
  have r0 := Int.emod_nonneg u (show h ≠ 0 by omega)
  have r1 := Int.emod_lt_of_pos u (show 0 < h by omega)
  have q0 : 0 ≤ u / h := Int.ediv_nonneg u0 (by omega)
  rw [Int.mul_comm] at e
  generalize u / h = q at *
  generalize u % h = r at *
  refine ⟨by omega, q0, ?_, by omega, by omega, ?_⟩
  · apply Classical.byContradiction
    intro hc
    have := Int.mul_le_mul_of_nonneg_right (show 4294967298 ≤ q by omega) (show 0 ≤ h by omega)
    omega
  · have e1 : (q + 1) * (h * 4294967296 + l) = (q * h + h) * 4294967296 + (q + 1) * l := by grind
    have e2 : 0 ≤ (q + 1) * l := Int.mul_nonneg (by omega) l0
    rw [e1]; omega
/-- the digit is too great -/
theorem dig_less {u c h l q r : Int} (A : DigArgs u c h l) (I : DigInv u c h l q r) (hc : 4294967296 ≤ q ∨ r * 4294967296 + c < q * l) : 1 ≤ q ∧ u * 4294967296 + c < q * (h * 4294967296 + l) := by
  obtain ⟨h0, h1, l0, l1, c0, c1, u0, u1⟩ := A
  obtain ⟨eq, q0, q1, r0, r1, up⟩ := I
  have hlt : u * 4294967296 + c < q * (h * 4294967296 + l) := by
    rcases hc with hc | hc
    · have := Int.mul_le_mul_of_nonneg_right hc (show 0 ≤ h * 4294967296 + l by omega)
      omega
    · have e1 : q * (h * 4294967296 + l) = q * h * 4294967296 + q * l := by grind
      rw [e1]; omega
  refine ⟨?_, hlt⟩
  apply Classical.byContradiction
  intro hq
  have hz : q = 0 := by omega
  rw [hz, Int.zero_mul] at hlt
  omega
theorem dig_step {u c h l q r : Int} (A : DigArgs u c h l) (I : DigInv u c h l q r) (hc : 4294967296 ≤ q ∨ r * 4294967296 + c < q * l) (hr : r + h < 4294967296) : DigInv u c h l (q - 1) (r + h) := by
  obtain ⟨g0, g1⟩ := dig_less A I hc
  have h0 := A.h0
  obtain ⟨eq, q0, q1, r0, r1, up⟩ := I
  refine ⟨?_, by omega, by omega, by omega, hr, by rw [show q - 1 + 1 = q by omega]; exact g1⟩
  rw [Int.sub_mul, Int.one_mul]; omega
theorem dig_end {u c h l q : Int} (A : DigArgs u c h l) (q0 : 0 ≤ q) (h1 : q * (h * 4294967296 + l) ≤ u * 4294967296 + c) (h2 : u * 4294967296 + c < (q + 1) * (h * 4294967296 + l)) : DigEnd u c h l q := by
  refine ⟨q0, ?_, h1, h2⟩
  apply Classical.byContradiction
  intro hc
  have := Int.mul_le_mul_of_nonneg_right (show 4294967296 ≤ q by omega) (show 0 ≤ h * 4294967296 + l by have := A.h0; have := A.l0; omega)
  have := A.u1; have := A.c1
  omega
theorem dig_break {u c h l q r : Int} (A : DigArgs u c h l) (I : DigInv u c h l q r) (hc : 4294967296 ≤ q ∨ r * 4294967296 + c < q * l) (hr : 4294967296 ≤ r + h) : DigEnd u c h l (q - 1) := by
  obtain ⟨g0, g1⟩ := dig_less A I hc
  refine dig_end A (by omega) ?_ (by rw [show q - 1 + 1 = q by omega]; exact g1)
  obtain ⟨h0, h1, l0, l1, c0, c1, u0, u1⟩ := A
  obtain ⟨eq, q0, q1, r0, r1, up⟩ := I
  have e1 : (q - 1) * (h * 4294967296 + l) = q * h * 4294967296 - h * 4294967296 + (q - 1) * l := by grind
  have e2 : (q - 1) * l ≤ 4294967296 * l := Int.mul_le_mul_of_nonneg_right (by omega) l0
  rw [e1]; omega
theorem dig_exit {u c h l q r : Int} (A : DigArgs u c h l) (I : DigInv u c h l q r) (hc : q * l ≤ r * 4294967296 + c) : DigEnd u c h l q := by
  refine dig_end A I.q0 ?_ I.up
  have e1 : q * (h * 4294967296 + l) = q * h * 4294967296 + q * l := by grind
  have := I.eq
  rw [e1]; omega
theorem dig_next {u c h l q : Int} (E : DigEnd u c h l q) : 0 ≤ u * 4294967296 + c - q * (h * 4294967296 + l) ∧ u * 4294967296 + c - q * (h * 4294967296 + l) < h * 4294967296 + l := by
  obtain ⟨_, _, h1, h2⟩ := E
  rw [Int.add_mul, Int.one_mul] at h2
  omega
/-- both digits: the quotient, the rest, of numbers that were shifted -/
theorem dig_both {n y u c d h l q1 q0 : Int} {s : Nat} (hn : n * 2 ^ s = (u * 4294967296 + c) * 4294967296 + d) (hy : y * 2 ^ s = h * 4294967296 + l) (y0 : 0 < y)
    (E1 : DigEnd u c h l q1) (E0 : DigEnd (u * 4294967296 + c - q1 * (h * 4294967296 + l)) d h l q0) :
    n / y = q1 * 4294967296 + q0 ∧ n % y = ((u * 4294967296 + c - q1 * (h * 4294967296 + l)) * 4294967296 + d - q0 * (h * 4294967296 + l)) / 2 ^ s := by
  have hp := p2pos s
  obtain ⟨a0, a1, a2, a3⟩ := E1
  obtain ⟨b0, b1, b2, b3⟩ := E0
  rw [← hy] at *
  generalize hr : (u * 4294967296 + c - q1 * (y * 2 ^ s)) * 4294967296 + d - q0 * (y * 2 ^ s) = r at *
  have hr0 : 0 ≤ r := by omega
  have hr1 : r < y * 2 ^ s := by rw [Int.add_mul, Int.one_mul] at b3; omega
  -- the rest is a multiple of 2^s
  have e : n * 2 ^ s = (q1 * 4294967296 + q0) * (y * 2 ^ s) + r := by rw [hn, ← hr]; grind
  have e2 : r = (n - (q1 * 4294967296 + q0) * y) * 2 ^ s := by
    rw [Int.sub_mul, e, Int.mul_assoc]; omega
  have e3 : r / 2 ^ s = n - (q1 * 4294967296 + q0) * y := by rw [e2, Int.mul_ediv_cancel _ (Int.ne_of_gt hp)]
  rw [e3]
  generalize q1 * 4294967296 + q0 = q at *
  have h0 : 0 ≤ n - q * y := by
    apply Classical.byContradiction
    intro hc
    have := Int.mul_neg_of_neg_of_pos (show n - q * y < 0 by omega) hp
    omega
  have h1 : n - q * y < y := Int.lt_of_mul_lt_mul_right (by rw [← e2]; exact hr1) (Int.le_of_lt hp)
  have hq : n / y = q := by
    have : n = (n - q * y) + q * y := by omega
    rw [this, Int.add_mul_ediv_right _ _ (Int.ne_of_gt y0), Int.ediv_eq_zero_of_lt h0 h1, Int.zero_add]
  refine ⟨hq, ?_⟩
  have := Int.mul_ediv_add_emod n y
  rw [hq, Int.mul_comm] at this
  omega

theorem and_low32 (x : Int) (h0 : 0 ≤ x) (h1 : x < 18446744073709551616) : bits BinOp.and IntKind.u64 x 4294967295 = x % 4294967296 := by
  obtain ⟨x, rfl⟩ := Int.eq_ofNat_of_zero_le h0
  have h := bits_and_u64_nat x 4294967295 (by omega) (by omega)
  have e : x &&& 4294967295 = x % 4294967296 := Nat.and_two_pow_sub_one_eq_mod x 32
  rw [e] at h
  rw [show ((4294967295 : Nat) : Int) = 4294967295 from rfl] at h
  rw [h]
  omega
theorem wrapU {x : Int} (h0 : 0 ≤ x) (h1 : x < 18446744073709551616) : IntKind.u64.wrap x = x := by rw [IntKind.wrap_u64]; omega
/-- what is shifted -/
theorem div_shift {hi lo y : Int} {bl : Nat} (hi0 : 0 < hi) (hy : hi < y) (lo0 : 0 ≤ lo) (lo1 : lo < 18446744073709551616) (yW : y < 18446744073709551616) (b1 : 1 ≤ bl) (b2 : bl ≤ 64) (y0 : 2 ^ (bl - 1) ≤ y) (y1 : y < 2 ^ bl) :
    ∃ Y U T : Int, IntKind.u64.wrap (y * 2 ^ (64 - bl)) = Y ∧ bits BinOp.or IntKind.u64 (IntKind.u64.wrap (hi * 2 ^ (64 - bl))) (lo / 2 ^ (64 - (64 - bl))) = U ∧ IntKind.u64.wrap (lo * 2 ^ (64 - bl)) = T ∧
      y * 2 ^ (64 - bl) = Y ∧ 9223372036854775808 ≤ Y ∧ Y < 18446744073709551616 ∧ 0 ≤ U ∧ U < Y ∧ 0 ≤ T ∧ T < 18446744073709551616 ∧ (hi * 18446744073709551616 + lo) * 2 ^ (64 - bl) = U * 18446744073709551616 + T := by
  obtain ⟨s, hs⟩ : ∃ s, 64 - bl = s := ⟨_, rfl⟩
  obtain rfl : bl = 64 - s := by omega
  have hs63 : s ≤ 63 := by omega
  rw [show 64 - (64 - s) = s by omega] at *
  have hp := p2pos s
  have e64 : (2 : Int) ^ (64 - s) * 2 ^ s = 18446744073709551616 := by rw [← Int.pow_add, show 64 - s + s = 64 by omega]; rfl
  have e63 : (2 : Int) ^ (64 - s - 1) * 2 ^ s = 9223372036854775808 := by rw [← Int.pow_add, show 64 - s - 1 + s = 63 by omega]; rfl
  have k1 : y * 2 ^ s < 2 ^ (64 - s) * 2 ^ s := Int.mul_lt_mul_of_pos_right y1 hp
  have k2 : (2 : Int) ^ (64 - s - 1) * 2 ^ s ≤ y * 2 ^ s := Int.mul_le_mul_of_nonneg_right y0 (Int.le_of_lt hp)
  have k3 : hi * 2 ^ s < y * 2 ^ s := Int.mul_lt_mul_of_pos_right hy hp
  have k4 : 0 ≤ hi * 2 ^ s := Int.mul_nonneg (by omega) (Int.le_of_lt hp)
  have hx := div_lt_p2 lo s hs63 lo1
  have hx0 : 0 ≤ lo / 2 ^ (64 - s) := Int.ediv_nonneg lo0 (Int.le_of_lt (p2pos _))
  have hor := or_high (lo / 2 ^ (64 - s)) hi s hs63 hx0 hx (by omega) (by omega)
  rw [Int.emod_eq_of_lt k4 (by omega)] at hor
  -- what the lower word gives to the upper one
  have q1 := Int.mul_ediv_add_emod lo (2 ^ (64 - s))
  have q2 := Int.emod_nonneg lo (Int.ne_of_gt (p2pos (64 - s)))
  have q3 := Int.emod_lt_of_pos lo (p2pos (64 - s))
  have q4 : lo * 2 ^ s = (lo / 2 ^ (64 - s)) * 18446744073709551616 + (lo % 2 ^ (64 - s)) * 2 ^ s := by rw [← e64, ← Int.mul_assoc, ← Int.add_mul]; congr 1; rw [Int.mul_comm]; omega
  have q5 : (lo % 2 ^ (64 - s)) * 2 ^ s < 2 ^ (64 - s) * 2 ^ s := Int.mul_lt_mul_of_pos_right q3 hp
  have q6 : 0 ≤ (lo % 2 ^ (64 - s)) * 2 ^ s := Int.mul_nonneg q2 (Int.le_of_lt hp)
  have hT : IntKind.u64.wrap (lo * 2 ^ s) = (lo % 2 ^ (64 - s)) * 2 ^ s := by rw [IntKind.wrap_u64, q4]; omega
  have hUY : hi * 2 ^ s + lo / 2 ^ (64 - s) < y * 2 ^ s := by
    have := Int.mul_le_mul_of_nonneg_right (show hi + 1 ≤ y by omega) (Int.le_of_lt hp)
    rw [Int.add_mul, Int.one_mul] at this
    omega
  refine ⟨y * 2 ^ s, _, _, wrapU (by omega) (by omega), hor, hT, rfl, by omega, by omega, by omega, hUY, q6, by omega, ?_⟩
  rw [Int.add_mul, q4]
  grind
/-! the walk -/
theorem div_mid {U c q1 Y h l V : Int} (hY : Y = h * 4294967296 + l) (hV : U * 4294967296 + c - q1 * (h * 4294967296 + l) = V) (V0 : 0 ≤ V) (V1 : V < 18446744073709551616) :
    IntKind.u64.wrap (IntKind.u64.wrap (IntKind.u64.wrap (U * 4294967296) + c) - IntKind.u64.wrap (q1 * Y)) = V := by
  rw [IntKind.wrap_u64, IntKind.wrap_u64, IntKind.wrap_u64, IntKind.wrap_u64]
  rw [← hY] at hV
  generalize q1 * Y = p at *
  omega
theorem div_fin {w : World} {n y U c d h l V Y q1 q0 : Int} {s : Nat} (hn : n * 2 ^ s = (U * 4294967296 + c) * 4294967296 + d) (hy : y * 2 ^ s = h * 4294967296 + l) (hV : U * 4294967296 + c - q1 * (h * 4294967296 + l) = V)
    (E1 : DigEnd U c h l q1) (E0 : DigEnd V d h l q0) (y0 : 0 < y) (hY : Y = h * 4294967296 + l) (Y1 : Y < 18446744073709551616) :
    DrewPost w (.tuple #[.int .u64 (n / y), .int .u64 (n % y)]) (.returned (.tuple #[.int .u64 (q1 * 4294967296 + q0), .int .u64 (IntKind.u64.wrap (IntKind.u64.wrap (IntKind.u64.wrap (V * 4294967296) + d) - IntKind.u64.wrap (q0 * Y)) / 2 ^ s)])) w := by
  have E0' := E0
  rw [← hV] at E0'
  obtain ⟨z1, z2⟩ := dig_both hn hy y0 E1 E0'
  obtain ⟨v0, v1⟩ := dig_next E0
  rw [hV] at z2
  have k2 := div_mid (q1 := q0) hY rfl v0 (by omega)
  rw [k2, z1, z2]
  exact ⟨rfl, Drw.refl _⟩
set_option maxRecDepth 100000 in
set_option maxHeartbeats 4000000 in
theorem div64_big (w : World) (hi lo y : Int) (hi0 : 0 < hi) (hy : hi < y) (lo0 : 0 ≤ lo) (lo1 : lo < 18446744073709551616) (y1 : y < 18446744073709551616) :
    Calls Tryz.prog 251 #[.int .u64 hi, .int .u64 lo, .int .u64 y] w (DrewPost w (.tuple #[.int .u64 ((hi * 18446744073709551616 + lo) / y), .int .u64 ((hi * 18446744073709551616 + lo) % y)])) := by
  obtain ⟨s1, s2, s3⟩ := blen_spec (show 0 < y by omega)
  have hbl := blen_le64 y1
  obtain ⟨Y, U, T, fY, fU, fT, eY, Y0, Y1, U0, U1, T0, T1, eN⟩ := div_shift hi0 hy lo0 lo1 y1 s3 hbl s1 s2
  have HLd := Lib.hid (fun w => lead_any y w (by omega) y1)
  have fl := and_low32 Y (by omega) Y1
  have fd := and_low32 T T0 T1
  generalize blen y = bl at *
  obtain ⟨h, fh⟩ : ∃ h, Y / 4294967296 = h := ⟨_, rfl⟩
  obtain ⟨l, hl⟩ : ∃ l, Y % 4294967296 = l := ⟨_, rfl⟩
  obtain ⟨c, fc⟩ : ∃ c, T / 4294967296 = c := ⟨_, rfl⟩
  obtain ⟨d, hd⟩ : ∃ d, T % 4294967296 = d := ⟨_, rfl⟩
  rw [hl] at fl
  rw [hd] at fd
  have h0 : 2147483648 ≤ h := by omega
  have h1 : h < 4294967296 := by omega
  have l0 : 0 ≤ l := by omega
  have l1 : l < 4294967296 := by omega
  have c0 : 0 ≤ c := by omega
  have c1 : c < 4294967296 := by omega
  have d0 : 0 ≤ d := by omega
  have d1 : d < 4294967296 := by omega
  have HY2 : Hid (Y = h * 4294967296 + l) := Lib.hid (by omega)
  have HY : Hid (y * 2 ^ (64 - bl) = h * 4294967296 + l) := Lib.hid (by omega)
  have HN : Hid ((hi * 18446744073709551616 + lo) * 2 ^ (64 - bl) = (U * 4294967296 + c) * 4294967296 + d) := Lib.hid (by omega)
  have HA : Hid (DigArgs U c h l) := Lib.hid ⟨h0, h1, l0, l1, c0, c1, U0, by omega⟩
  have i1 := dig_start HA.out
  obtain ⟨q, hq⟩ : ∃ q, U / h = q := ⟨_, rfl⟩
  rw [hq] at i1
  have m0 : 0 ≤ q * h := Int.mul_nonneg i1.q0 (by omega)
  have m1 := i1.r0
  have HI1 := Lib.hid i1
  have HQ1 := Lib.hid hq
  have y0 : 0 < y := by omega
  clear i1 eY eN s1 s2 hl hd
  go_enter Tryz.func251, Tryz.ntmps251
  go_wp2_with (go_at_call 228; refine (HLd.out _).mono ?_; rintro en w' ⟨rfl, rfl⟩)
  clear HLd fY fU fT fl fd fh fc hq m0 m1
  go_loopw [15, 16] (fun x z wr => ∃ a b : Int, x = .int .u64 a ∧ z = .int .u64 b ∧ Hid (wr = w) ∧ Hid (DigInv U c h l a b)) (fun x _ _ => (intOf x).toNat)
  case atStart => exact ⟨q, _, by first | rfl | exact congrArg (Value.int .u64) HQ1.out, rfl, by first | exact Lib.hid rfl | exact Lib.hid trivial, HI1⟩
  case round =>
    clear HI1 HQ1
    obtain ⟨a1, b1, rfl, rfl, hwr, hI1⟩ := hrel
    have hwq := hwr.out
    clear hwr
    subst wr
    have i1a := hI1.out.q0
    have i1b := hI1.out.q1
    have i1c := hI1.out.r0
    have i1d := hI1.out.r1
    by_cases ca1 : 4294967296 ≤ a1
    · by_cases cb1 : 4294967296 ≤ b1 + h
      · have HE1 : Hid (DigEnd U c h l (a1 - 1)) := Lib.hid (dig_break HA.out hI1.out (.inl ca1) cb1)
        clear hI1
        obtain ⟨V0, V1⟩ := dig_next HE1.out
        obtain ⟨V, hV⟩ : ∃ V, U * 4294967296 + c - (a1 - 1) * (h * 4294967296 + l) = V := ⟨_, rfl⟩
        rw [hV] at V0 V1
        have HV := Lib.hid hV
        have G := Lib.hid (div_mid HY2.out hV V0 (by omega))
        have HA2 : Hid (DigArgs V d h l) := Lib.hid ⟨h0, h1, l0, l1, d0, d1, V0, V1⟩
        have i2 := dig_start HA2.out
        obtain ⟨q2, hq2⟩ : ∃ q2, V / h = q2 := ⟨_, rfl⟩
        rw [hq2] at i2
        have m0 : 0 ≤ q2 * h := Int.mul_nonneg i2.q0 (by omega)
        have m1 := i2.r0
        have HI2 := Lib.hid i2
        have HQ2 := Lib.hid hq2
        clear i2 hV
        go_wp2_with (simp only [G.out])
        clear G hq2 m0 m1
        go_loopw [18, 16] (fun x z wr => ∃ a b : Int, x = .int .u64 a ∧ z = .int .u64 b ∧ Hid (wr = w) ∧ Hid (DigInv V d h l a b)) (fun x _ _ => (intOf x).toNat)
        case atStart => exact ⟨q2, _, by first | rfl | exact congrArg (Value.int .u64) HQ2.out, rfl, by first | exact Lib.hid rfl | exact Lib.hid trivial, HI2⟩
        case round =>
          clear HI2 HQ2
          obtain ⟨a0, b0, rfl, rfl, hwr, hI0⟩ := hrel
          have hwq := hwr.out
          clear hwr
          subst wr
          have i0a := hI0.out.q0
          have i0b := hI0.out.q1
          have i0c := hI0.out.r0
          have i0d := hI0.out.r1
          by_cases ca0 : 4294967296 ≤ a0
          · by_cases cb0 : 4294967296 ≤ b0 + h
            · have HE0 : Hid (DigEnd V d h l (a0 - 1)) := Lib.hid (dig_break HA2.out hI0.out (.inl ca0) cb0)
              clear hI0
              obtain ⟨f0, f1, _, _⟩ := HE0.out
              obtain ⟨f2, f3, _, _⟩ := HE1.out
              go_wp2_with fail
              go_ret2
              exact div_fin HN.out HY.out HV.out HE1.out HE0.out y0 HY2.out Y1
            · have HI : Hid (DigInv V d h l (a0 - 1) (b0 + h)) := Lib.hid (dig_step HA2.out hI0.out (.inl ca0) (by omega))
              clear hI0
              go_wp2_with fail
              go_roundw
              case rel => exact ⟨_, _, rfl, rfl, by first | exact Lib.hid rfl | exact Lib.hid trivial, HI⟩
              case measure => simp [intOf] <;> omega
          · have p0a : 0 ≤ a0 * l := Int.mul_nonneg i0a l0
            have p0b : a0 * l ≤ 4294967295 * l := Int.mul_le_mul_of_nonneg_right (by omega) l0
            by_cases cc0 : 4294967296 * b0 + d < a0 * l
            · have cd0 : 1 ≤ a0 := (dig_less HA2.out hI0.out (.inr (by omega))).1
              by_cases cb0 : 4294967296 ≤ b0 + h
              · have HE0 : Hid (DigEnd V d h l (a0 - 1)) := Lib.hid (dig_break HA2.out hI0.out (.inr (by omega)) cb0)
                clear hI0
                obtain ⟨f0, f1, _, _⟩ := HE0.out
                obtain ⟨f2, f3, _, _⟩ := HE1.out
                go_wp2_with fail
                go_ret2
                exact div_fin HN.out HY.out HV.out HE1.out HE0.out y0 HY2.out Y1
              · have HI : Hid (DigInv V d h l (a0 - 1) (b0 + h)) := Lib.hid (dig_step HA2.out hI0.out (.inr (by omega)) (by omega))
                clear hI0
                go_wp2_with fail
                go_roundw
                case rel => exact ⟨_, _, rfl, rfl, by first | exact Lib.hid rfl | exact Lib.hid trivial, HI⟩
                case measure => simp [intOf] <;> omega
            · have HE0 : Hid (DigEnd V d h l a0) := Lib.hid (dig_exit HA2.out hI0.out (by omega))
              clear hI0
              obtain ⟨f0, f1, _, _⟩ := HE0.out
              obtain ⟨f2, f3, _, _⟩ := HE1.out
              go_wp2_with fail
              go_ret2
              exact div_fin HN.out HY.out HV.out HE1.out HE0.out y0 HY2.out Y1
      · have HI : Hid (DigInv U c h l (a1 - 1) (b1 + h)) := Lib.hid (dig_step HA.out hI1.out (.inl ca1) (by omega))
        clear hI1
        go_wp2_with fail
        go_roundw
        case rel => exact ⟨_, _, rfl, rfl, by first | exact Lib.hid rfl | exact Lib.hid trivial, HI⟩
        case measure => simp [intOf] <;> omega
    · have p1a : 0 ≤ a1 * l := Int.mul_nonneg i1a l0
      have p1b : a1 * l ≤ 4294967295 * l := Int.mul_le_mul_of_nonneg_right (by omega) l0
      by_cases cc1 : 4294967296 * b1 + c < a1 * l
      · have cd1 : 1 ≤ a1 := (dig_less HA.out hI1.out (.inr (by omega))).1
        by_cases cb1 : 4294967296 ≤ b1 + h
        · have HE1 : Hid (DigEnd U c h l (a1 - 1)) := Lib.hid (dig_break HA.out hI1.out (.inr (by omega)) cb1)
          clear hI1
          obtain ⟨V0, V1⟩ := dig_next HE1.out
          obtain ⟨V, hV⟩ : ∃ V, U * 4294967296 + c - (a1 - 1) * (h * 4294967296 + l) = V := ⟨_, rfl⟩
          rw [hV] at V0 V1
          have HV := Lib.hid hV
          have G := Lib.hid (div_mid HY2.out hV V0 (by omega))
          have HA2 : Hid (DigArgs V d h l) := Lib.hid ⟨h0, h1, l0, l1, d0, d1, V0, V1⟩
          have i2 := dig_start HA2.out
          obtain ⟨q2, hq2⟩ : ∃ q2, V / h = q2 := ⟨_, rfl⟩
          rw [hq2] at i2
          have m0 : 0 ≤ q2 * h := Int.mul_nonneg i2.q0 (by omega)
          have m1 := i2.r0
          have HI2 := Lib.hid i2
          have HQ2 := Lib.hid hq2
          clear i2 hV
          go_wp2_with (simp only [G.out])
          clear G hq2 m0 m1
          go_loopw [18, 16] (fun x z wr => ∃ a b : Int, x = .int .u64 a ∧ z = .int .u64 b ∧ Hid (wr = w) ∧ Hid (DigInv V d h l a b)) (fun x _ _ => (intOf x).toNat)
          case atStart => exact ⟨q2, _, by first | rfl | exact congrArg (Value.int .u64) HQ2.out, rfl, by first | exact Lib.hid rfl | exact Lib.hid trivial, HI2⟩
          case round =>
            clear HI2 HQ2
            obtain ⟨a0, b0, rfl, rfl, hwr, hI0⟩ := hrel
            have hwq := hwr.out
            clear hwr
            subst wr
            have i0a := hI0.out.q0
            have i0b := hI0.out.q1
            have i0c := hI0.out.r0
            have i0d := hI0.out.r1
            by_cases ca0 : 4294967296 ≤ a0
            · by_cases cb0 : 4294967296 ≤ b0 + h
              · have HE0 : Hid (DigEnd V d h l (a0 - 1)) := Lib.hid (dig_break HA2.out hI0.out (.inl ca0) cb0)
                clear hI0
                obtain ⟨f0, f1, _, _⟩ := HE0.out
                obtain ⟨f2, f3, _, _⟩ := HE1.out
                go_wp2_with fail
                go_ret2
                exact div_fin HN.out HY.out HV.out HE1.out HE0.out y0 HY2.out Y1
              · have HI : Hid (DigInv V d h l (a0 - 1) (b0 + h)) := Lib.hid (dig_step HA2.out hI0.out (.inl ca0) (by omega))
                clear hI0
                go_wp2_with fail
                go_roundw
                case rel => exact ⟨_, _, rfl, rfl, by first | exact Lib.hid rfl | exact Lib.hid trivial, HI⟩
                case measure => simp [intOf] <;> omega
            · have p0a : 0 ≤ a0 * l := Int.mul_nonneg i0a l0
              have p0b : a0 * l ≤ 4294967295 * l := Int.mul_le_mul_of_nonneg_right (by omega) l0
              by_cases cc0 : 4294967296 * b0 + d < a0 * l
              · have cd0 : 1 ≤ a0 := (dig_less HA2.out hI0.out (.inr (by omega))).1
                by_cases cb0 : 4294967296 ≤ b0 + h
                · have HE0 : Hid (DigEnd V d h l (a0 - 1)) := Lib.hid (dig_break HA2.out hI0.out (.inr (by omega)) cb0)
                  clear hI0
                  obtain ⟨f0, f1, _, _⟩ := HE0.out
                  obtain ⟨f2, f3, _, _⟩ := HE1.out
                  go_wp2_with fail
                  go_ret2
                  exact div_fin HN.out HY.out HV.out HE1.out HE0.out y0 HY2.out Y1
                · have HI : Hid (DigInv V d h l (a0 - 1) (b0 + h)) := Lib.hid (dig_step HA2.out hI0.out (.inr (by omega)) (by omega))
                  clear hI0
                  go_wp2_with fail
                  go_roundw
                  case rel => exact ⟨_, _, rfl, rfl, by first | exact Lib.hid rfl | exact Lib.hid trivial, HI⟩
                  case measure => simp [intOf] <;> omega
              · have HE0 : Hid (DigEnd V d h l a0) := Lib.hid (dig_exit HA2.out hI0.out (by omega))
                clear hI0
                obtain ⟨f0, f1, _, _⟩ := HE0.out
                obtain ⟨f2, f3, _, _⟩ := HE1.out
                go_wp2_with fail
                go_ret2
                exact div_fin HN.out HY.out HV.out HE1.out HE0.out y0 HY2.out Y1
        · have HI : Hid (DigInv U c h l (a1 - 1) (b1 + h)) := Lib.hid (dig_step HA.out hI1.out (.inr (by omega)) (by omega))
          clear hI1
          go_wp2_with fail
          go_roundw
          case rel => exact ⟨_, _, rfl, rfl, by first | exact Lib.hid rfl | exact Lib.hid trivial, HI⟩
          case measure => simp [intOf] <;> omega
      · have HE1 : Hid (DigEnd U c h l a1) := Lib.hid (dig_exit HA.out hI1.out (by omega))
        clear hI1
        obtain ⟨V0, V1⟩ := dig_next HE1.out
        obtain ⟨V, hV⟩ : ∃ V, U * 4294967296 + c - a1 * (h * 4294967296 + l) = V := ⟨_, rfl⟩
        rw [hV] at V0 V1
        have HV := Lib.hid hV
        have G := Lib.hid (div_mid HY2.out hV V0 (by omega))
        have HA2 : Hid (DigArgs V d h l) := Lib.hid ⟨h0, h1, l0, l1, d0, d1, V0, V1⟩
        have i2 := dig_start HA2.out
        obtain ⟨q2, hq2⟩ : ∃ q2, V / h = q2 := ⟨_, rfl⟩
        rw [hq2] at i2
        have m0 : 0 ≤ q2 * h := Int.mul_nonneg i2.q0 (by omega)
        have m1 := i2.r0
        have HI2 := Lib.hid i2
        have HQ2 := Lib.hid hq2
        clear i2 hV
        go_wp2_with (simp only [G.out])
        clear G hq2 m0 m1
        go_loopw [18, 16] (fun x z wr => ∃ a b : Int, x = .int .u64 a ∧ z = .int .u64 b ∧ Hid (wr = w) ∧ Hid (DigInv V d h l a b)) (fun x _ _ => (intOf x).toNat)
        case atStart => exact ⟨q2, _, by first | rfl | exact congrArg (Value.int .u64) HQ2.out, rfl, by first | exact Lib.hid rfl | exact Lib.hid trivial, HI2⟩
        case round =>
          clear HI2 HQ2
          obtain ⟨a0, b0, rfl, rfl, hwr, hI0⟩ := hrel
          have hwq := hwr.out
          clear hwr
          subst wr
          have i0a := hI0.out.q0
          have i0b := hI0.out.q1
          have i0c := hI0.out.r0
          have i0d := hI0.out.r1
          by_cases ca0 : 4294967296 ≤ a0
          · by_cases cb0 : 4294967296 ≤ b0 + h
            · have HE0 : Hid (DigEnd V d h l (a0 - 1)) := Lib.hid (dig_break HA2.out hI0.out (.inl ca0) cb0)
              clear hI0
              obtain ⟨f0, f1, _, _⟩ := HE0.out
              obtain ⟨f2, f3, _, _⟩ := HE1.out
              go_wp2_with fail
              go_ret2
              exact div_fin HN.out HY.out HV.out HE1.out HE0.out y0 HY2.out Y1
            · have HI : Hid (DigInv V d h l (a0 - 1) (b0 + h)) := Lib.hid (dig_step HA2.out hI0.out (.inl ca0) (by omega))
              clear hI0
              go_wp2_with fail
              go_roundw
              case rel => exact ⟨_, _, rfl, rfl, by first | exact Lib.hid rfl | exact Lib.hid trivial, HI⟩
              case measure => simp [intOf] <;> omega
          · have p0a : 0 ≤ a0 * l := Int.mul_nonneg i0a l0
            have p0b : a0 * l ≤ 4294967295 * l := Int.mul_le_mul_of_nonneg_right (by omega) l0
            by_cases cc0 : 4294967296 * b0 + d < a0 * l
            · have cd0 : 1 ≤ a0 := (dig_less HA2.out hI0.out (.inr (by omega))).1
              by_cases cb0 : 4294967296 ≤ b0 + h
              · have HE0 : Hid (DigEnd V d h l (a0 - 1)) := Lib.hid (dig_break HA2.out hI0.out (.inr (by omega)) cb0)
                clear hI0
                obtain ⟨f0, f1, _, _⟩ := HE0.out
                obtain ⟨f2, f3, _, _⟩ := HE1.out
                go_wp2_with fail
                go_ret2
                exact div_fin HN.out HY.out HV.out HE1.out HE0.out y0 HY2.out Y1
              · have HI : Hid (DigInv V d h l (a0 - 1) (b0 + h)) := Lib.hid (dig_step HA2.out hI0.out (.inr (by omega)) (by omega))
                clear hI0
                go_wp2_with fail
                go_roundw
                case rel => exact ⟨_, _, rfl, rfl, by first | exact Lib.hid rfl | exact Lib.hid trivial, HI⟩
                case measure => simp [intOf] <;> omega
            · have HE0 : Hid (DigEnd V d h l a0) := Lib.hid (dig_exit HA2.out hI0.out (by omega))
              clear hI0
              obtain ⟨f0, f1, _, _⟩ := HE0.out
              obtain ⟨f2, f3, _, _⟩ := HE1.out
              go_wp2_with fail
              go_ret2
              exact div_fin HN.out HY.out HV.out HE1.out HE0.out y0 HY2.out Y1
end Go.Proofs.YtnpocnckkaddbaaGreatDoor
