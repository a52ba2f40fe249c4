/-
  Contracts of package floats's shifts of words.
-/
import Derived.Test.YtebibadldcempaaGreatDoorP16
import Derived.Deep.RegionHeld3
set_option linter.unusedVariables false
set_option linter.unusedSimpArgs false
set_option linter.unusedSectionVars false
namespace Go.Proofs.YtebibadldcempaaGreatDoor
open Go.RowKit Go.Shelf

theorem or_zero (x : Int) (h0 : 0 ≤ x) (h1 : x < 18446744073709551616) : bits BinOp.or IntKind.u64 x 0 = x := by
  obtain ⟨x, rfl⟩ := Int.eq_ofNat_of_zero_le h0
  have := bits_or_u64_nat x 0 (by omega) (by omega)
  simpa using this
theorem zero_or (x : Int) (h0 : 0 ≤ x) (h1 : x < 18446744073709551616) : bits BinOp.or IntKind.u64 0 x = x := by
  obtain ⟨x, rfl⟩ := Int.eq_ofNat_of_zero_le h0
  have := bits_or_u64_nat 0 x (by omega) (by omega)
  simpa using this
theorem or_self (x : Int) (h0 : 0 ≤ x) (h1 : x < 18446744073709551616) : bits BinOp.or IntKind.u64 x x = x := by
  obtain ⟨x, rfl⟩ := Int.eq_ofNat_of_zero_le h0
  have := bits_or_u64_nat x x (by omega) (by omega)
  simpa using this
theorem wrap_big (x : Int) (n : Nat) (h : 64 ≤ n) : IntKind.u64.wrap (x * 2 ^ n) = 0 := by
  rw [IntKind.wrap_u64]
  obtain ⟨d, rfl⟩ := Nat.exists_eq_add_of_le h
  rw [Int.pow_add, show (2 : Int) ^ 64 = 18446744073709551616 from rfl, ← Int.mul_assoc, Int.mul_comm x, Int.mul_assoc]
  exact Int.mul_emod_right _ _
theorem div_big (x : Int) (n : Nat) (h : 64 ≤ n) (h0 : 0 ≤ x) (h1 : x < 18446744073709551616) : x / 2 ^ n = 0 := by
  refine Int.ediv_eq_zero_of_lt h0 ?_
  obtain ⟨d, rfl⟩ := Nat.exists_eq_add_of_le h
  rw [Int.pow_add, show (2 : Int) ^ 64 = 18446744073709551616 from rfl]
  have := Int.mul_le_mul_of_nonneg_left (show (1 : Int) ≤ 2 ^ d from p2pos d) (show (0 : Int) ≤ 18446744073709551616 by omega)
  omega

theorem below2 (w : World) (a b : Obj) : Below w.heap.size w ((w.alloc a).alloc b) := ((Below.refl _ _).alloc (Nat.le_refl _) _).alloc (by simp) _

theorem left_low {h l X : Int} (k : Nat) (hk : k < 64) (a : Wn h l X) : Wn (h * 2 ^ k % 18446744073709551616 + l / 2 ^ (64 - k)) (l * 2 ^ k % 18446744073709551616) (X * 2 ^ k % two128) := by
  obtain ⟨a1, a2, a3, a4, rfl⟩ := a
  have s1 := split_word h k (by omega)
  have s2 := split_word l k (by omega)
  have q0 : 0 ≤ l / 2 ^ (64 - k) := Int.ediv_nonneg a3 (Int.le_of_lt (p2pos _))
  have q1 := div_lt_p2 l k (by omega) a4
  have hw := hw_word (zs := [l, h]) (fun z hz => by
    simp at hz
    rcases hz with rfl | rfl
    · exact ⟨a3, a4⟩
    · exact ⟨a1, a2⟩) k (by omega) 1
  simp only [hw_succ, gd_cons_succ, gd_cons_zero] at hw
  have hw' : 0 ≤ h * 2 ^ k % 18446744073709551616 + l / 2 ^ (64 - k) ∧ h * 2 ^ k % 18446744073709551616 + l / 2 ^ (64 - k) < 18446744073709551616 := hw
  have l0 : 0 ≤ l * 2 ^ k % 18446744073709551616 := Int.emod_nonneg _ (by omega)
  have l1 : l * 2 ^ k % 18446744073709551616 < 18446744073709551616 := Int.emod_lt_of_pos _ (by omega)
  refine ⟨hw'.1, hw'.2, l0, l1, ?_⟩
  have e : (h * 18446744073709551616 + l) * 2 ^ k = (h * 2 ^ k) * 18446744073709551616 + l * 2 ^ k := by grind
  rw [e, two128_eq]
  generalize h * 2 ^ k = H at *
  generalize l * 2 ^ k = L at *
  generalize h / 2 ^ (64 - k) = q at *
  generalize l / 2 ^ (64 - k) = r at *
  omega

theorem left_high {h l X : Int} (j : Nat) (hj : j < 64) (a : Wn h l X) : Wn (l * 2 ^ j % 18446744073709551616) 0 (X * 2 ^ (64 + j) % two128) := by
  obtain ⟨a1, a2, a3, a4, rfl⟩ := a
  have l0 : 0 ≤ l * 2 ^ j % 18446744073709551616 := Int.emod_nonneg _ (by omega)
  have l1 : l * 2 ^ j % 18446744073709551616 < 18446744073709551616 := Int.emod_lt_of_pos _ (by omega)
  refine ⟨l0, l1, by omega, by omega, ?_⟩
  have e : (h * 18446744073709551616 + l) * 2 ^ (64 + j) = (h * 2 ^ j) * 340282366920938463463374607431768211456 + (l * 2 ^ j) * 18446744073709551616 := by
    rw [Int.pow_add, show (2 : Int) ^ 64 = 18446744073709551616 from rfl]; grind
  rw [e, two128_eq]
  generalize h * 2 ^ j = H at *
  generalize l * 2 ^ j = L at *
  omega

set_option maxRecDepth 100000 in
theorem wleft_any (w : World) (h l X : Int) (a : Wn h l X) (k : Nat) (hk : k ≤ 127) :
    Calls Tryz.prog 134 #[.agg #[.int .u64 h, .int .u64 l], .int .i64 k] w (WPost w (X * 2 ^ k % two128)) := by
  have A := Lib.hid a
  obtain ⟨a1, a2, a3, a4, a5⟩ := a
  have xk : IntKind.u64.wrap (k : Int) = k := by rw [IntKind.wrap_u64]; omega
  obtain ⟨m1, hm1⟩ : ∃ m, IntKind.u64.wrap (64 - (k : Int)) = m := ⟨_, rfl⟩
  obtain ⟨m2, hm2⟩ : ∃ m, IntKind.u64.wrap ((k : Int) - 64) = m := ⟨_, rfl⟩
  have hm1' := hm1
  have hm2' := hm2
  rw [IntKind.wrap_u64] at hm1' hm2'
  by_cases hk64 : k < 64
  · have HW := Lib.hid (left_low k hk64 A.out)
    have f1 := or_high (l / 2 ^ (64 - k)) h k (by omega) (Int.ediv_nonneg a3 (Int.le_of_lt (p2pos _))) (div_lt_p2 l k (by omega) a4) a1 a2
    obtain ⟨c2, hc2⟩ : ∃ c, min m2.toNat 64 = c := ⟨_, rfl⟩
    have f2 : IntKind.u64.wrap (l * 2 ^ c2) = 0 := wrap_big l _ (by omega)
    have f3 := or_zero _ HW.out.1 HW.out.2.1
    have f4 : IntKind.u64.wrap (l * 2 ^ k) = l * 2 ^ k % 18446744073709551616 := IntKind.wrap_u64 _
    have mt : m1.toNat = 64 - k := by omega
    have hmb : 0 ≤ m1 ∧ 0 ≤ m2 := by omega
    obtain ⟨hmb1, hmb2⟩ := hmb
    generalize X * 2 ^ k % two128 = Z at HW ⊢
    generalize h * 2 ^ k % 18446744073709551616 + l / 2 ^ (64 - k) = hi at HW f1 f3
    generalize l * 2 ^ k % 18446744073709551616 = lo at HW f4
    clear hm1' hm2' a5 A
    go_enter Tryz.func134, Tryz.ntmps134
    go_wp2
    refine bodyPost_ret (v := .agg #[.int .u64 hi, .int .u64 lo]) (by simp [results, Tryz.results134, go_sem]) rfl ?_
    exact ⟨hi, lo, rfl, HW.out, below2 _ _ _⟩
  · obtain ⟨j, hj'⟩ : ∃ j, k = 64 + j := ⟨k - 64, by omega⟩
    have HW := Lib.hid (left_high j (by omega) A.out)
    rw [← hj'] at HW
    obtain ⟨c0, hc0⟩ : ∃ c, min k 64 = c := ⟨_, rfl⟩
    obtain ⟨c1, hc1⟩ : ∃ c, min m1.toNat 64 = c := ⟨_, rfl⟩
    have g1 : IntKind.u64.wrap (h * 2 ^ c0) = 0 := wrap_big h _ (by omega)
    have g2 : IntKind.u64.wrap (l * 2 ^ c0) = 0 := wrap_big l _ (by omega)
    have g3 : IntKind.u64.wrap (l * 2 ^ j) = l * 2 ^ j % 18446744073709551616 := IntKind.wrap_u64 _
    have mt : m2.toNat = j := by omega
    have hmb : 0 ≤ m1 ∧ 0 ≤ m2 ∧ m2 < 64 := by omega
    obtain ⟨hmb1, hmb2, hmb3⟩ := hmb
    rcases Nat.eq_zero_or_pos j with rfl | hj
    · have hx : Hid (l * 2 ^ 0 % 18446744073709551616 = l) := Lib.hid (by simp; omega)
      have g4 : l / 2 ^ c1 = l := by rw [show c1 = 0 by omega]; simp
      rw [hx.out] at HW g3
      have g5 := zero_or l a3 a4
      have g6 := or_self l a3 a4
      generalize X * 2 ^ k % two128 = Z at HW ⊢
      clear hm1' hm2' a5 A hj'
      go_enter Tryz.func134, Tryz.ntmps134
      go_wp2
      refine bodyPost_ret (v := .agg #[.int .u64 l, .int .u64 0]) (by simp [results, Tryz.results134, go_sem]) rfl ?_
      exact ⟨l, 0, rfl, HW.out, below2 _ _ _⟩
    · have g4 : l / 2 ^ c1 = 0 := div_big l _ (by omega) a3 a4
      have g5 := zero_or 0 (by omega) (by omega)
      have g6 := zero_or _ HW.out.1 HW.out.2.1
      generalize X * 2 ^ k % two128 = Z at HW ⊢
      generalize l * 2 ^ j % 18446744073709551616 = hi at HW g3 g6
      clear hm1' hm2' a5 A hj'
      go_enter Tryz.func134, Tryz.ntmps134
      go_wp2
      refine bodyPost_ret (v := .agg #[.int .u64 hi, .int .u64 0]) (by simp [results, Tryz.results134, go_sem]) rfl ?_
      exact ⟨hi, 0, rfl, HW.out, below2 _ _ _⟩

theorem right_low {h l X : Int} (k : Nat) (hk : k < 64) (a : Wn h l X) : Wn (h / 2 ^ k) ((l + 18446744073709551616 * h) / 2 ^ k % 18446744073709551616) (X / 2 ^ k) := by
  obtain ⟨a1, a2, a3, a4, rfl⟩ := a
  have h0 : 0 ≤ h / 2 ^ k := Int.ediv_nonneg a1 (Int.le_of_lt (p2pos _))
  have h1 : h / 2 ^ k ≤ h := Int.ediv_le_self _ a1
  refine ⟨h0, by omega, Int.emod_nonneg _ (by omega), Int.emod_lt_of_pos _ (by omega), ?_⟩
  have := word_div l h h k (by omega) a3 a4 ⟨0, by omega⟩
  rw [show h * 18446744073709551616 + l = l + 18446744073709551616 * h by omega, ← this]
  omega
theorem right_high {h l X : Int} (j : Nat) (a : Wn h l X) : Wn 0 (h / 2 ^ j) (X / 2 ^ (64 + j)) := by
  obtain ⟨a1, a2, a3, a4, rfl⟩ := a
  have h0 : 0 ≤ h / 2 ^ j := Int.ediv_nonneg a1 (Int.le_of_lt (p2pos _))
  have h1 : h / 2 ^ j ≤ h := Int.ediv_le_self _ a1
  refine ⟨by omega, by omega, h0, by omega, ?_⟩
  rw [Int.pow_add, ← Int.ediv_ediv_of_nonneg (Int.le_of_lt (p2pos 64)), show (2 : Int) ^ 64 = 18446744073709551616 from rfl]
  rw [show (h * 18446744073709551616 + l) / 18446744073709551616 = h by omega]
  omega

set_option maxRecDepth 100000 in
theorem wright_any (w : World) (h l X : Int) (a : Wn h l X) (k : Nat) (hk : k ≤ 127) :
    Calls Tryz.prog 110 #[.agg #[.int .u64 h, .int .u64 l], .int .i64 k] w (WPost w (X / 2 ^ k)) := by
  have A := Lib.hid a
  obtain ⟨a1, a2, a3, a4, a5⟩ := a
  have xk : IntKind.u64.wrap (k : Int) = k := by rw [IntKind.wrap_u64]; omega
  obtain ⟨m1, hm1⟩ : ∃ m, IntKind.u64.wrap (64 - (k : Int)) = m := ⟨_, rfl⟩
  obtain ⟨m2, hm2⟩ : ∃ m, IntKind.u64.wrap ((k : Int) - 64) = m := ⟨_, rfl⟩
  have hm1' := hm1
  have hm2' := hm2
  rw [IntKind.wrap_u64] at hm1' hm2'
  by_cases hk64 : k < 64
  · have HW := Lib.hid (right_low k hk64 A.out)
    obtain ⟨c2, hc2⟩ : ∃ c, min m2.toNat 64 = c := ⟨_, rfl⟩
    have f2 : h / 2 ^ c2 = 0 := div_big h _ (by omega) a1 a2
    have hmb : 0 ≤ m1 ∧ 0 ≤ m2 := by omega
    obtain ⟨hmb1, hmb2⟩ := hmb
    rcases Nat.eq_zero_or_pos k with rfl | hk0
    · have hx : Hid ((l + 18446744073709551616 * h) / 2 ^ 0 % 18446744073709551616 = l) := Lib.hid (by simp; omega)
      have hy : Hid (h / 2 ^ 0 = h) := Lib.hid (by simp)
      rw [hx.out, hy.out] at HW
      have g1 : IntKind.u64.wrap (h * 18446744073709551616) = 0 := wrap_big h 64 (by omega)
      have g3 : IntKind.u64.wrap (-64) = m2 := by rw [← hm2]; rfl
      have g2 := or_zero l a3 a4
      generalize X / 2 ^ 0 = Z at HW ⊢
      clear hm1' hm2' a5 A
      go_enter Tryz.func110, Tryz.ntmps110
      go_wp2
      refine bodyPost_ret (v := .agg #[.int .u64 h, .int .u64 l]) (by simp [results, Tryz.results110, go_sem]) rfl ?_
      exact ⟨h, l, rfl, HW.out, below2 _ _ _⟩
    · have mt : m1.toNat = 64 - k := by omega
      have hm64 : m1 < 64 := by omega
      have f1 := or_shift l h k (by omega) a3 a4 a1 a2
      have f3 := or_zero _ HW.out.2.2.1 HW.out.2.2.2.1
      generalize X / 2 ^ k = Z at HW ⊢
      generalize (l + 18446744073709551616 * h) / 2 ^ k % 18446744073709551616 = lo at HW f1 f3
      clear hm1' hm2' a5 A
      go_enter Tryz.func110, Tryz.ntmps110
      go_wp2
      refine bodyPost_ret (v := .agg #[.int .u64 (h / 2 ^ k), .int .u64 lo]) (by simp [results, Tryz.results110, go_sem]) rfl ?_
      exact ⟨_, lo, rfl, HW.out, below2 _ _ _⟩
  · obtain ⟨j, hj'⟩ : ∃ j, k = 64 + j := ⟨k - 64, by omega⟩
    have HW := Lib.hid (right_high j A.out)
    rw [← hj'] at HW
    obtain ⟨c0, hc0⟩ : ∃ c, min k 64 = c := ⟨_, rfl⟩
    obtain ⟨c1, hc1⟩ : ∃ c, min m1.toNat 64 = c := ⟨_, rfl⟩
    have g1 : h / 2 ^ c0 = 0 := div_big h _ (by omega) a1 a2
    have g2 : l / 2 ^ c0 = 0 := div_big l _ (by omega) a3 a4
    have mt : m2.toNat = j := by omega
    have hmb : 0 ≤ m1 ∧ 0 ≤ m2 ∧ m2 < 64 := by omega
    obtain ⟨hmb1, hmb2, hmb3⟩ := hmb
    rcases Nat.eq_zero_or_pos j with rfl | hj
    · have hx : Hid (h / 2 ^ 0 = h) := Lib.hid (by simp)
      have g4 : IntKind.u64.wrap (h * 2 ^ c1) = h := by rw [show c1 = 0 by omega, IntKind.wrap_u64]; simp; omega
      rw [hx.out] at HW
      have g5 := zero_or h a1 a2
      have g6 := or_self h a1 a2
      generalize X / 2 ^ k = Z at HW ⊢
      clear hm1' hm2' a5 A hj'
      go_enter Tryz.func110, Tryz.ntmps110
      go_wp2
      refine bodyPost_ret (v := .agg #[.int .u64 0, .int .u64 h]) (by simp [results, Tryz.results110, go_sem]) rfl ?_
      exact ⟨0, h, rfl, HW.out, below2 _ _ _⟩
    · have g4 : IntKind.u64.wrap (h * 2 ^ c1) = 0 := wrap_big h _ (by omega)
      have g5 := zero_or 0 (by omega) (by omega)
      have g6 := zero_or _ HW.out.2.2.1 HW.out.2.2.2.1
      generalize X / 2 ^ k = Z at HW ⊢
      clear hm1' hm2' a5 A hj'
      go_enter Tryz.func110, Tryz.ntmps110
      go_wp2
      refine bodyPost_ret (v := .agg #[.int .u64 0, .int .u64 (h / 2 ^ j)]) (by simp [results, Tryz.results110, go_sem]) rfl ?_
      exact ⟨0, _, rfl, HW.out, below2 _ _ _⟩
end Go.Proofs.YtebibadldcempaaGreatDoor
/-
  Contracts of package floats's machine: formats, exponents, powers of two.
-/
namespace Go.Proofs.YtebibadldcempaaGreatDoor
open Go.RowKit Go.Shelf
attribute [local go_sem] eqNil neqNil

theorem one_any (w : World) : Calls Tryz.prog 136 #[] w fun e w' => e = .returned (.agg #[.int .u64 0, .int .u64 1]) ∧ Below w.heap.size w w' := by
  go_enter Tryz.func136, Tryz.ntmps136
  go_wp2
  refine bodyPost_ret (v := .agg #[.int .u64 0, .int .u64 1]) (by simp [results, Tryz.results136, go_sem]) rfl ?_
  exact ⟨rfl, (Below.refl _ _).alloc (Nat.le_refl _) _⟩

/-- two values stored in block g -/
theorem stored2 (g : Nat) (w : World) (a b : Value) : Only g w ((w.setCell ⟨g, 0, none⟩ a).setCell ⟨g, 1, none⟩ b) := ((Only.refl g w).set _ _).set _ _

theorem bit_any (w : World) (k : Int) (h0 : 0 ≤ k) (h1 : k ≤ 127) : Calls Tryz.prog 125 #[.int .i64 k] w (WPost w (2 ^ k.toNat)) := by
  obtain ⟨k, rfl⟩ := Int.eq_ofNat_of_zero_le h0
  rw [Int.toNat_natCast]
  have hX : Hid ((1 : Int) * 2 ^ k % two128 = 2 ^ k) := Lib.hid (by
    rw [Int.one_mul]
    refine Int.emod_eq_of_lt (Int.le_of_lt (p2pos k)) ?_
    unfold two128
    obtain ⟨d, hd⟩ : ∃ d, 128 = k + (d + 1) := ⟨127 - k, by omega⟩
    rw [hd, Int.pow_add, Int.pow_succ]
    have h2 := Int.mul_le_mul_of_nonneg_left (show (1 : Int) ≤ 2 ^ d from p2pos d) (Int.le_of_lt (p2pos k))
    have h3 : (2 : Int) ^ k * (2 ^ d * 2) = 2 ^ k * 2 ^ d * 2 := by grind
    have := p2pos k
    omega)
  have HB0 : Hid (Below w.heap.size w (w.alloc (.cells #[.int .u64 0, .int .u64 0] 26))) := Lib.hid ((Below.refl _ _).alloc (Nat.le_refl _) _)
  have hl := fun W => wleft_any W 0 1 1 ⟨by omega, by omega, by omega, by omega, by omega⟩ k (by omega)
  have HL := Lib.hid hl
  clear hl
  go_enter Tryz.func125, Tryz.ntmps125
  go_wp2_with fail
  refine (one_any _).mono ?_
  rintro en w1 ⟨rfl, hb⟩
  have HB1 := Lib.hid hb
  clear hb
  go_wp2_with fail
  refine (HL.out w1).mono ?_
  rintro en w2 ⟨h, l, rfl, hw, hb⟩
  obtain ⟨hc, hf, hz, hbw⟩ := laid_facts (HB1.out.trans (hb.mono HB1.out.size))
  have HB2 := Lib.hid hbw
  have HW := Lib.hid (hX.out ▸ hw)
  clear hb hbw hw
  go_wp2_with fail
  refine bodyPost_ret (v := .agg #[.int .u64 h, .int .u64 l]) (by simp [results, Tryz.results125, go_sem, hc, hz]) rfl ?_
  have ho := stored2 w.heap.size w2 (.int .u64 h) (.int .u64 l)
  exact ⟨h, l, rfl, HW.out, HB2.out.trans (ho.below HB2.out.size (Nat.le_refl _))⟩

theorem boxes2' (w : World) (A B : Array Value) (T U : TypeId) : Box ((w.alloc (.cells A T)).alloc (.cells B U)) w.heap.size A ∧ Box ((w.alloc (.cells A T)).alloc (.cells B U)) (w.heap.size + 1) B ∧
    Below w.heap.size w ((w.alloc (.cells A T)).alloc (.cells B U)) := by
  refine ⟨(Box.new w A T).alloc _, ?_, ((Below.refl _ _).alloc (Nat.le_refl _) _).alloc (by simp) _⟩
  have := Box.new (w.alloc (.cells A T)) B U
  rwa [World.size_alloc] at this

/-- a format -/
def Fmt (E P : Int) : Prop := 2 ≤ E ∧ E ≤ 11 ∧ 2 ≤ P ∧ P ≤ 113 ∧ 5 ≤ E + P

theorem check_yes (w : World) (E P : Int) (h : Fmt E P) : Calls Tryz.prog 31 #[.agg #[.int .i64 E, .int .i64 P]] w (IntPost w 0) := by
  obtain ⟨h1, h2, h3, h4, h5⟩ := h
  go_enter Tryz.func31, Tryz.ntmps31
  go_wp2
  go_ret
  exact ⟨rfl, (Below.refl _ _).alloc (Nat.le_refl _) _⟩
theorem check_no (w : World) (E P : Int) (h : ¬ Fmt E P) : Calls Tryz.prog 31 #[.agg #[.int .i64 E, .int .i64 P]] w (IntPost w 2) := by
  unfold Fmt at h
  rcases (show E < 2 ∨ (2 ≤ E ∧ 11 < E) ∨ (2 ≤ E ∧ E ≤ 11 ∧ P < 2) ∨ (2 ≤ E ∧ E ≤ 11 ∧ 2 ≤ P ∧ 113 < P) ∨ (2 ≤ E ∧ E ≤ 11 ∧ 2 ≤ P ∧ P ≤ 113 ∧ E + P < 5) by omega) with h | ⟨h1, h2⟩ | ⟨h1, h2, h3⟩ | ⟨h1, h2, h3, h4⟩ | ⟨h1, h2, h3, h4, h5⟩
  all_goals
    go_enter Tryz.func31, Tryz.ntmps31
    go_wp2
    go_ret
    exact ⟨rfl, (Below.refl _ _).alloc (Nat.le_refl _) _⟩

def MachPost (w : World) (E P m er : Int) (e : Ending) (w' : World) : Prop := e = .returned (.tuple #[.agg #[.int .i64 E, .int .i64 P, .int .i64 m], .int .i64 er]) ∧ Below w.heap.size w w'

theorem stored3 (g : Nat) (w : World) (a b c : Value) : Only g w (((w.setCell ⟨g, 0, none⟩ a).setCell ⟨g, 1, none⟩ b).setCell ⟨g, 2, none⟩ c) := (((Only.refl g w).set _ _).set _ _).set _ _

set_option maxRecDepth 100000 in
theorem newMachine_yes (w : World) (E P m : Int) (h : Fmt E P) (h0 : 0 ≤ m) (h1 : m ≤ 4) :
    Calls Tryz.prog 62 #[.agg #[.int .i64 E, .int .i64 P], .int .i64 m] w (MachPost w E P m 0) := by
  have H := Lib.hid h
  clear h
  go_enter Tryz.func62, Tryz.ntmps62
  go_wp2_with fail
  obtain ⟨hA, hB, hW0⟩ := boxes2' w #[.int .i64 E, .int .i64 P] #[.int .i64 0, .int .i64 0, .int .i64 0] 23 73
  have HT : Hid (Two w _ w.heap.size _ _) := Lib.hid ⟨hW0, hA, hB⟩
  clear hA hB hW0
  refine (check_yes _ E P H.out).mono ?_
  rintro en w1 ⟨rfl, hb⟩
  have HT1 := Lib.hid (HT.out.next hb)
  clear hb
  have cA := HT1.out.2.1.cell
  have cB := HT1.out.2.2.cell
  have fB := HT1.out.2.2.free
  have lB := HT1.out.2.2.lt
  go_wp2_with fail
  refine bodyPost_ret (v := .tuple #[.agg #[.int .i64 E, .int .i64 P, .int .i64 m], .int .i64 0]) (by simp [results, Tryz.results62, go_sem, cB, lB]) rfl ?_
  exact ⟨rfl, HT1.out.1.trans ((stored3 _ _ _ _ _).below HT1.out.1.size (by omega))⟩

set_option maxRecDepth 100000 in
theorem newMachine_no (w : World) (E P m : Int) (h : ¬ (Fmt E P ∧ 0 ≤ m ∧ m ≤ 4)) :
    Calls Tryz.prog 62 #[.agg #[.int .i64 E, .int .i64 P], .int .i64 m] w (MachPost w 0 0 0 2) := by
  by_cases hF : Fmt E P
  · have H := Lib.hid hF
    rcases (show m < 0 ∨ (0 ≤ m ∧ 4 < m) by
      apply Classical.byContradiction
      intro hc
      exact h ⟨hF, by omega, by omega⟩) with hm | ⟨hm, hm2⟩
    all_goals
      clear h hF
      go_enter Tryz.func62, Tryz.ntmps62
      go_wp2_with fail
      obtain ⟨hA, hB, hW0⟩ := boxes2' w #[.int .i64 E, .int .i64 P] #[.int .i64 0, .int .i64 0, .int .i64 0] 23 73
      have HT : Hid (Two w _ w.heap.size _ _) := Lib.hid ⟨hW0, hA, hB⟩
      clear hA hB hW0
      refine (check_yes _ E P H.out).mono ?_
      rintro en w1 ⟨rfl, hb⟩
      have HT1 := Lib.hid (HT.out.next hb)
      clear hb
      have cA := HT1.out.2.1.cell
      have cB := HT1.out.2.2.cell
      have fB := HT1.out.2.2.free
      have lB := HT1.out.2.2.lt
      go_wp2_with fail
      refine bodyPost_ret (v := .tuple #[.agg #[.int .i64 0, .int .i64 0, .int .i64 0], .int .i64 2]) (by simp [results, Tryz.results62, go_sem, cB, lB]) rfl ?_
      exact ⟨rfl, HT1.out.1.trans ((stored3 _ _ _ _ _).below HT1.out.1.size (by omega))⟩
  · have H := Lib.hid hF
    clear h hF
    go_enter Tryz.func62, Tryz.ntmps62
    go_wp2_with fail
    obtain ⟨hA, hB, hW0⟩ := boxes2' w #[.int .i64 E, .int .i64 P] #[.int .i64 0, .int .i64 0, .int .i64 0] 23 73
    have HT : Hid (Two w _ w.heap.size _ _) := Lib.hid ⟨hW0, hA, hB⟩
    clear hA hB hW0
    refine (check_no _ E P H.out).mono ?_
    rintro en w1 ⟨rfl, hb⟩
    have HT1 := Lib.hid (HT.out.next hb)
    clear hb
    have cA := HT1.out.2.1.cell
    have cB := HT1.out.2.2.cell
    have fB := HT1.out.2.2.free
    have lB := HT1.out.2.2.lt
    go_wp2_with fail
    refine bodyPost_ret (v := .tuple #[.agg #[.int .i64 0, .int .i64 0, .int .i64 0], .int .i64 2]) (by simp [results, Tryz.results62, go_sem, cB, lB]) rfl ?_
    exact ⟨rfl, HT1.out.1.trans ((stored3 _ _ _ _ _).below HT1.out.1.size (by omega))⟩
end Go.Proofs.YtebibadldcempaaGreatDoor
/-
  Contracts of package floats's machine: exponents, powers of two.
-/
namespace Go.Proofs.YtebibadldcempaaGreatDoor
open Go.RowKit Go.Shelf
attribute [local go_sem] eqNil neqNil

theorem plain_yes (w : World) (E P : Int) (h : Fmt E P) : Calls Tryz.prog 66 #[.agg #[.int .i64 E, .int .i64 P]] w (MachPost w E P 0 0) := by
  have H := Lib.hid h
  clear h
  go_enter Tryz.func66, Tryz.ntmps66
  go_wp2_with fail
  obtain ⟨hA, hB, hW0⟩ := boxes2' w #[.int .i64 E, .int .i64 P] #[.int .i64 0, .int .i64 0, .int .i64 0] 23 73
  have HT : Hid (Two w _ w.heap.size _ _) := Lib.hid ⟨hW0, hA, hB⟩
  clear hA hB hW0
  refine (newMachine_yes _ E P 0 H.out (by omega) (by omega)).mono ?_
  rintro en w1 ⟨rfl, hb⟩
  have HT1 := Lib.hid (HT.out.next hb)
  clear hb
  have cB := HT1.out.2.2.cell
  have fB := HT1.out.2.2.free
  have lB := HT1.out.2.2.lt
  go_wp2_with fail
  refine bodyPost_ret (v := .tuple #[.agg #[.int .i64 E, .int .i64 P, .int .i64 0], .int .i64 0]) (by simp [results, Tryz.results66, go_sem, cB, lB]) rfl ?_
  exact ⟨rfl, HT1.out.1.trans ((stored3 _ _ _ _ _).below HT1.out.1.size (by omega))⟩
theorem plain_no (w : World) (E P : Int) (h : ¬ Fmt E P) : Calls Tryz.prog 66 #[.agg #[.int .i64 E, .int .i64 P]] w (MachPost w 0 0 0 2) := by
  have H := Lib.hid h
  clear h
  go_enter Tryz.func66, Tryz.ntmps66
  go_wp2_with fail
  obtain ⟨hA, hB, hW0⟩ := boxes2' w #[.int .i64 E, .int .i64 P] #[.int .i64 0, .int .i64 0, .int .i64 0] 23 73
  have HT : Hid (Two w _ w.heap.size _ _) := Lib.hid ⟨hW0, hA, hB⟩
  clear hA hB hW0
  refine (newMachine_no _ E P 0 (fun h => H.out h.1)).mono ?_
  rintro en w1 ⟨rfl, hb⟩
  have HT1 := Lib.hid (HT.out.next hb)
  clear hb
  have cB := HT1.out.2.2.cell
  have fB := HT1.out.2.2.free
  have lB := HT1.out.2.2.lt
  go_wp2_with fail
  refine bodyPost_ret (v := .tuple #[.agg #[.int .i64 0, .int .i64 0, .int .i64 0], .int .i64 2]) (by simp [results, Tryz.results66, go_sem, cB, lB]) rfl ?_
  exact ⟨rfl, HT1.out.1.trans ((stored3 _ _ _ _ _).below HT1.out.1.size (by omega))⟩

/-- the exponent of the greatest value -/
def biasOf (E : Int) : Int := 2 ^ (E - 1).toNat - 1
theorem bias_range {E : Int} (h0 : 2 ≤ E) (h1 : E ≤ 11) : 1 ≤ biasOf E ∧ biasOf E ≤ 1023 := by
  unfold biasOf
  rcases (show E = 2 ∨ E = 3 ∨ E = 4 ∨ E = 5 ∨ E = 6 ∨ E = 7 ∨ E = 8 ∨ E = 9 ∨ E = 10 ∨ E = 11 by omega) with rfl | rfl | rfl | rfl | rfl | rfl | rfl | rfl | rfl | rfl <;> decide

theorem bias_any (w : World) (E P m : Int) (h0 : 2 ≤ E) (h1 : E ≤ 11) : Calls Tryz.prog 116 #[.agg #[.int .i64 E, .int .i64 P, .int .i64 m]] w fun e w' => e = .returned (.int .i64 (biasOf E)) ∧ w' = w.alloc (.cells #[.int .i64 E, .int .i64 P, .int .i64 m] 73) := by
  rcases (show E = 2 ∨ E = 3 ∨ E = 4 ∨ E = 5 ∨ E = 6 ∨ E = 7 ∨ E = 8 ∨ E = 9 ∨ E = 10 ∨ E = 11 by omega) with rfl | rfl | rfl | rfl | rfl | rfl | rfl | rfl | rfl | rfl
  all_goals
    go_enter Tryz.func116, Tryz.ntmps116
    go_wp2
    go_ret
    exact ⟨rfl, rfl⟩

theorem lowest_any (w : World) (E P m : Int) (h0 : 2 ≤ E) (h1 : E ≤ 11) : Calls Tryz.prog 115 #[.agg #[.int .i64 E, .int .i64 P, .int .i64 m]] w (IntPost w (1 - biasOf E)) := by
  have hb := bias_range h0 h1
  have hc := fun W => bias_any W E P m h0 h1
  generalize biasOf E = q at hb hc ⊢
  obtain ⟨hb1, hb2⟩ := hb
  have HC := Lib.hid hc
  clear hc
  go_enter Tryz.func115, Tryz.ntmps115
  go_wp2_with (go_at_call 116; refine (HC.out _).mono ?_; rintro en w' ⟨rfl, rfl⟩)
  go_ret
  exact ⟨rfl, below2 _ _ _⟩

theorem lowest_range {E : Int} (h0 : 2 ≤ E) (h1 : E ≤ 11) : -1022 ≤ 1 - biasOf E ∧ 1 - biasOf E ≤ 0 := by have := bias_range h0 h1; omega

set_option maxHeartbeats 1000000 in
theorem finest_any (w : World) (E P m : Int) (h0 : 2 ≤ E) (h1 : E ≤ 11) (h2 : 2 ≤ P) (h3 : P ≤ 113) : Calls Tryz.prog 68 #[.agg #[.int .i64 E, .int .i64 P, .int .i64 m]] w (IntPost w (1 - biasOf E - P + 1)) := by
  have hb := lowest_range h0 h1
  have hc : ∀ W, Below w.heap.size w W ∧ Box W w.heap.size #[.int .i64 E, .int .i64 P, .int .i64 m] → Calls Tryz.prog 115 #[.agg #[.int .i64 E, .int .i64 P, .int .i64 m]] W fun en w' => en = .returned (.int .i64 (1 - biasOf E)) ∧ Hid (Below w.heap.size w w') ∧ (∀ q, w'.cell? ⟨w.heap.size, q, none⟩ = (#[.int .i64 E, .int .i64 P, .int .i64 m] : Array Value)[q]?) := fun W hW => by
    refine (lowest_any W E P m h0 h1).mono ?_
    rintro en w' ⟨rfl, hb⟩
    exact ⟨rfl, Lib.hid (hW.1.trans (hb.mono hW.1.size)), (hW.2.below hb).cell⟩
  generalize 1 - biasOf E = q at hb hc ⊢
  obtain ⟨hb1, hb2⟩ := hb
  have HC := Lib.hid hc
  clear hc
  have x1 : IntKind.i64.wrap (q - P) = q - P := IntWalk.i64_in _ (by omega)
  have x2 : IntKind.i64.wrap (q - P + 1) = q - P + 1 := IntWalk.i64_in _ (by omega)
  go_enter Tryz.func68, Tryz.ntmps68
  go_wp2_with fail
  have hA := Box.new w #[.int .i64 E, .int .i64 P, .int .i64 m] 73
  have hW0 : Below w.heap.size w (w.alloc (.cells #[.int .i64 E, .int .i64 P, .int .i64 m] 73)) := (Below.refl _ _).alloc (Nat.le_refl _) _
  generalize hW : w.alloc (.cells #[.int .i64 E, .int .i64 P, .int .i64 m] 73) = W at hA hW0 ⊢
  clear hW
  have cA := hA.cell
  have HD : Hid (Below w.heap.size w W.drew ∧ Box W.drew w.heap.size #[.int .i64 E, .int .i64 P, .int .i64 m]) := Lib.hid ⟨hW0.trans ((Drw.step W 1).below _), hA.below ((Drw.step W 1).below _)⟩
  clear hA hW0
  generalize hg : w.heap.size = g at *
  have HG := Lib.hid hg
  clear hg
  go_region_with (go_at_call 115; refine (HC.out _ HD.out).mono ?_; rintro en w1 ⟨rfl, H1, cA1⟩)
  all_goals
    go_wp2_with fail
    go_ret
    exact ⟨rfl, by rw [HG.out]; exact H1.out⟩

/-- the boxes of a call that goes on: a number among them -/
theorem boxes2n (w : World) (A B : Array Value) (T U : TypeId) : Hid (Two w ((w.alloc (.cells A T)).alloc (.cells B U)) w.heap.size A B) := Lib.hid (by
  obtain ⟨a, b, c⟩ := boxes2' w A B T U
  exact ⟨c, a, b⟩)

set_option maxRecDepth 100000 in
set_option maxHeartbeats 1000000 in
theorem shifted_any (w : World) (v : Value) (K k d : Int) (h : Dn w v K k) (hK : -sml < K ∧ K < sml) (hk : -50000 ≤ k ∧ k ≤ 50000) (hd : -20000 ≤ d ∧ d ≤ 20000) :
    Calls Tryz.prog 114 #[v, .int .i64 d] w (DnPost w K (k + d)) := by
  obtain ⟨s, t, e, h1, h2⟩ := h
  obtain ⟨b0, b1, b2⟩ := h2.bounds hK hk
  have n0 := h1
  obtain ⟨bo, la, ca, rfl, ht⟩ := h1.nilb
  have h3 : Dr s t (if t = 0 then e else e + d) K (k + d) := by
    rcases h2 with ⟨rfl, rfl, rfl, rfl⟩ | ⟨x1, hp, j, rfl, rfl⟩
    · exact .inl ⟨rfl, rfl, rfl, rfl⟩
    · rw [if_neg (by omega)]
      exact .inr ⟨x1, hp, j, by omega, rfl⟩
  have HS : Hid (∀ W, Below w.heap.size w W → Calls Tryz.prog 167 #[.agg #[.bool s, .slice bo la ca, .slice none 0 0, .int .i64 e], .int .i64 d] W (NmErrPost W s t 1 (if t = 0 then e else e + d) 0)) := Lib.hid (fun W hb => shift_any W _ s t 1 e d (n0.below hb) hd.1 hd.2 b0 b1)
  generalize (if t = 0 then e else e + d) = q at HS h3
  have H3 := Lib.hid h3
  clear h1 h2 h3 n0 ht b0 b1 b2 hK hk hd
  go_enter Tryz.func114, Tryz.ntmps114
  go_wp2_with fail
  have HT := boxes2n w #[.bool s, .slice bo la ca, .slice none 0 0, .int .i64 e] #[.bool false, .slice none 0 0, .slice none 0 0, .int .i64 0] 32 32
  refine (HS.out _ HT.out.1).mono ?_
  rintro en w1 ⟨v1, rfl, hv, hb⟩
  obtain ⟨o, l, c, o2, l2, c2, rfl, hv1, hv2⟩ := hv.ex
  have HV := Lib.hid hv
  have HT1 := Lib.hid (HT.out.next hb)
  clear hb hv hv1 hv2
  have cB := HT1.out.2.2.cell
  have fB := HT1.out.2.2.free
  have lB := HT1.out.2.2.lt
  go_wp2_with fail
  refine bodyPost_ret (v := .agg #[.bool s, .slice o l c, .slice o2 l2 c2, .int .i64 q]) (by simp [results, Tryz.results114, go_sem, cB, lB]) rfl ?_
  have ho := Stored.only (w.heap.size + 1) w1 s o l c o2 l2 c2 q
  have hn := HV.out.only ho HT1.out.2.2.noW
  have hb1 : Below w.heap.size w (Stored (w.heap.size + 1) w1 s o l c o2 l2 c2 q) := HT1.out.1.trans (ho.below HT1.out.1.size (by omega))
  exact ⟨_, rfl, ⟨s, t, q, hn.below ((Below.refl _ _).alloc (Nat.le_refl _) _), H3.out⟩, hb1.alloc hb1.size _⟩

set_option maxRecDepth 100000 in
set_option maxHeartbeats 1000000 in
theorem power_any (w : World) (hE : Env w) (d : Int) (hd : -20000 ≤ d ∧ d ≤ 20000) :
    Calls Tryz.prog 67 #[.int .i64 d] w (DnPost w 1 d) := by
  have HE := Lib.hid hE
  have HD := Lib.hid hd
  clear hE hd
  have hs : (1 : Int) < sml := by unfold sml; exact Int.lt_of_lt_of_le (show (1 : Int) < 2 ^ 1 by decide) (by
    rw [show 60000 = 1 + 59999 from rfl, Int.pow_add]
    have := Int.mul_le_mul_of_nonneg_left (show (1 : Int) ≤ 2 ^ 59999 from p2pos _) (show (0 : Int) ≤ 2 ^ 1 by decide)
    omega)
  have HS := Lib.hid hs
  clear hs
  have HB0 : Hid (Below w.heap.size w (w.alloc (.cells #[.bool false, .slice none 0 0, .slice none 0 0, .int .i64 0] 32))) := Lib.hid ((Below.refl _ _).alloc (Nat.le_refl _) _)
  go_enter Tryz.func67, Tryz.ntmps67
  go_wp2_with fail
  refine (int_any _ (HE.out.below HB0.out) 1 (by omega) (by omega)).mono ?_
  rintro en w1 ⟨v1, rfl, hv, hb⟩
  have HV := Lib.hid hv
  have HB1 := Lib.hid hb
  clear hv hb
  go_wp2_with fail
  refine (shifted_any w1 v1 1 0 d HV.out ⟨by have := HS.out; omega, HS.out⟩ (by omega) HD.out).mono ?_
  rintro en w2 ⟨v2, rfl, hv, hb⟩
  rw [Int.zero_add] at hv
  obtain ⟨s, o, l, c, o2, l2, c2, q, rfl⟩ := hv.shape
  obtain ⟨hc, hf, hz, hbw⟩ := laid_facts (HB1.out.trans (hb.mono HB1.out.size))
  have HN := Lib.hid (noW_num hc)
  have HV2 := Lib.hid hv
  have HB2 := Lib.hid hbw
  clear hv hb hbw
  go_wp2_with fail
  refine bodyPost_ret (v := .agg #[.bool s, .slice o l c, .slice o2 l2 c2, .int .i64 q]) (by simp [results, Tryz.results67, go_sem, hc, hz]) rfl ?_
  have ho := Stored.only w.heap.size w2 s o l c o2 l2 c2 q
  exact ⟨_, rfl, HV2.out.only ho HN.out, HB2.out.trans (ho.below HB2.out.size (Nat.le_refl _))⟩
end Go.Proofs.YtebibadldcempaaGreatDoor
/-
  Contracts of package floats's machine: the words of infinity and of the quiet NaN, signs.
-/
namespace Go.Proofs.YtebibadldcempaaGreatDoor
open Go.RowKit Go.Shelf
attribute [local go_sem] eqNil neqNil

/-- below the heap of a call, and with its box -/
def Beneath (w W : World) (g : Nat) (A : Array Value) : Prop := Below w.heap.size w W ∧ Box W g A
theorem Beneath.next {w W W' : World} {g : Nat} {A : Array Value} (h : Beneath w W g A) (hb : Below W.heap.size W W') : Beneath w W' g A := ⟨h.1.trans (hb.mono h.1.size), h.2.below hb⟩

theorem p2_mod {k : Nat} (h : k ≤ 127) : (2 : Int) ^ k % two128 = 2 ^ k := by
  refine Int.emod_eq_of_lt (Int.le_of_lt (p2pos k)) ?_
  unfold two128
  obtain ⟨d, hd⟩ : ∃ d, 128 = k + (d + 1) := ⟨127 - k, by omega⟩
  rw [hd, Int.pow_add, Int.pow_succ]
  have h2 := Int.mul_le_mul_of_nonneg_left (show (1 : Int) ≤ 2 ^ d from p2pos d) (Int.le_of_lt (p2pos k))
  have h3 : (2 : Int) ^ k * (2 ^ d * 2) = 2 ^ k * 2 ^ d * 2 := by grind
  have := p2pos k
  omega
theorem p2_le {a b : Nat} (h : a ≤ b) : (2 : Int) ^ a ≤ 2 ^ b := by
  obtain ⟨d, rfl⟩ := Nat.exists_eq_add_of_le h
  rw [Int.pow_add]
  have := Int.mul_le_mul_of_nonneg_left (show (1 : Int) ≤ 2 ^ d from p2pos d) (Int.le_of_lt (p2pos a))
  omega
theorem p2_lt128 {k : Nat} (h : k ≤ 127) : (2 : Int) ^ k < two128 := by rw [← p2_mod h]; exact Int.emod_lt_of_pos _ (by rw [two128_eq]; omega)

/-- the word of infinity -/
def infOf (E P : Int) : Int := 2 ^ (E + P - 1).toNat - 2 ^ (P - 1).toNat
theorem inf_range {E P : Int} (h : Fmt E P) : 0 < infOf E P ∧ infOf E P < 2 ^ (E + P - 1).toNat ∧ infOf E P < two128 := by
  obtain ⟨h1, h2, h3, h4, h5⟩ := h
  unfold infOf
  have a := p2_lt128 (k := (E + P - 1).toNat) (by omega)
  have b := p2pos (P - 1).toNat
  have c := p2_le (a := (P - 1).toNat + 1) (b := (E + P - 1).toNat) (by omega)
  rw [Int.pow_succ] at c
  omega

set_option maxRecDepth 100000 in
set_option maxHeartbeats 1000000 in
theorem infinity_any (w : World) (E P m : Int) (h : Fmt E P) : Calls Tryz.prog 109 #[.agg #[.int .i64 E, .int .i64 P, .int .i64 m]] w (WPost w (infOf E P)) := by
  have HX : Hid ((2 ^ (E + P - 1).toNat - 2 ^ (P - 1).toNat) % two128 = infOf E P) := Lib.hid (by
    have := inf_range h
    exact Int.emod_eq_of_lt (by unfold infOf at this; omega) this.2.2)
  obtain ⟨h1, h2, h3, h4, h5⟩ := h
  have x1 : IntKind.i64.wrap (E + P) = E + P := IntWalk.i64_in _ (by omega)
  have x2 : IntKind.i64.wrap (E + P - 1) = E + P - 1 := IntWalk.i64_in _ (by omega)
  have x3 : IntKind.i64.wrap (P - 1) = P - 1 := IntWalk.i64_in _ (by omega)
  go_enter Tryz.func109, Tryz.ntmps109
  go_wp2_with fail
  obtain ⟨hA, hB, hW0⟩ := boxes2' w #[.int .i64 E, .int .i64 P, .int .i64 m] #[.int .u64 0, .int .u64 0] 73 26
  generalize hW : (w.alloc (.cells #[.int .i64 E, .int .i64 P, .int .i64 m] 73)).alloc (.cells #[.int .u64 0, .int .u64 0] 26) = W at hA hB hW0 ⊢
  clear hW
  have H0 : Hid (Two w W.drew w.heap.size #[.int .i64 E, .int .i64 P, .int .i64 m] #[.int .u64 0, .int .u64 0]) := Lib.hid ⟨hW0.trans ((Drw.step W 1).below _), hA.below ((Drw.step W 1).below _), hB.below ((Drw.step W 1).below _)⟩
  have c0 : W.cell? ⟨w.heap.size, 0, none⟩ = some (.int .i64 E) := hA.cell 0
  have c1 : W.cell? ⟨w.heap.size, 1, none⟩ = some (.int .i64 P) := hA.cell 1
  clear hA hB hW0
  generalize hg : w.heap.size = g at *
  have HG := Lib.hid hg
  clear hg
  have step : ∀ (W1 W2 : World), Two w W1 g #[.int .i64 E, .int .i64 P, .int .i64 m] #[.int .u64 0, .int .u64 0] → Below W1.heap.size W1 W2 → Hid (Two w W2 g #[.int .i64 E, .int .i64 P, .int .i64 m] #[.int .u64 0, .int .u64 0]) ∧ W2.cell? ⟨g, 0, none⟩ = some (.int .i64 E) ∧ W2.cell? ⟨g, 1, none⟩ = some (.int .i64 P) := fun W1 W2 a b =>
    ⟨Lib.hid (a.next b), (a.next b).2.1.cell 0, (a.next b).2.1.cell 1⟩
  have HSt := Lib.hid step
  have K1 : Hid (∀ W1, Calls Tryz.prog 125 #[.int .i64 (E + P - 1)] W1 (WPost W1 (2 ^ (E + P - 1).toNat))) := Lib.hid fun W1 => bit_any W1 _ (by omega) (by omega)
  have K2 : Hid (∀ W1, Calls Tryz.prog 125 #[.int .i64 (P - 1)] W1 (WPost W1 (2 ^ (P - 1).toNat))) := Lib.hid fun W1 => bit_any W1 _ (by omega) (by omega)
  clear step
  go_region_held3 (fun w' => w'.cell? ⟨g, 0, none⟩ = some (.int .i64 E) ∧ w'.cell? ⟨g, 1, none⟩ = some (.int .i64 P)) (first | go_keep | exact ⟨by assumption, by assumption⟩)
    (first
      | (go_at_call 125; (with_reducible refine (K1.out _).mono ?_); rintro en w1 ⟨a1, b1, rfl, W1, hb1⟩; obtain ⟨H1, d10, d11⟩ := HSt.out _ _ H0.out hb1; clear hb1)
      | (go_at_call 125; (with_reducible refine (K2.out _).mono ?_); rintro en w2 ⟨a2, b2, rfl, W2, hb2⟩; obtain ⟨H2, d20, d21⟩ := HSt.out _ _ H1.out hb2; clear hb2)
      | (go_at_call 164; refine (minus_any _ _ _ _ _ _ _ W1 W2).mono ?_; rintro en w3 ⟨a3, b3, rfl, W3, hb3⟩; obtain ⟨H3, d30, d31⟩ := HSt.out _ _ H2.out hb3; have cB := H3.out.2.2.cell; have fB := H3.out.2.2.free; clear hb3))
  have lB := H3.out.2.2.lt
  have W4 := Lib.hid (HX.out ▸ W3)
  clear W1 W2 W3 d10 d11 d20 d21 d30 d31
  go_wp2_with fail
  refine bodyPost_ret (v := .agg #[.int .u64 a3, .int .u64 b3]) (by simp [results, Tryz.results109, go_sem, cB, lB]) rfl ?_
  have ho := stored2 (g + 1) w3 (.int .u64 a3) (.int .u64 b3)
  exact ⟨a3, b3, rfl, W4.out, H3.out.1.trans (ho.below H3.out.1.size (by have := HG.out; omega))⟩

/-- the word of the quiet NaN with the payload 0 -/
def quietOf (E P : Int) : Int := infOf E P + 2 ^ (P - 2).toNat
theorem quiet_range {E P : Int} (h : Fmt E P) : infOf E P < quietOf E P ∧ quietOf E P < 2 ^ (E + P - 1).toNat ∧ quietOf E P < two128 := by
  have hi := inf_range h
  obtain ⟨h1, h2, h3, h4, h5⟩ := h
  unfold quietOf
  have b := p2pos (P - 2).toNat
  have c := p2_le (a := (P - 2).toNat + 1) (b := (P - 1).toNat) (by omega)
  rw [Int.pow_succ] at c
  have a := p2_lt128 (k := (E + P - 1).toNat) (by omega)
  unfold infOf at *
  omega

set_option maxRecDepth 100000 in
set_option maxHeartbeats 1000000 in
theorem quiet_any (w : World) (E P m : Int) (h : Fmt E P) : Calls Tryz.prog 113 #[.agg #[.int .i64 E, .int .i64 P, .int .i64 m]] w (WPost w (quietOf E P)) := by
  have HX : Hid ((infOf E P + 2 ^ (P - 2).toNat) % two128 = quietOf E P) := Lib.hid (by
    have := quiet_range h
    have := inf_range h
    have := p2pos (P - 2).toNat
    exact Int.emod_eq_of_lt (by omega) (by unfold quietOf at *; omega))
  have K1 : Hid (∀ W1, Calls Tryz.prog 109 #[.agg #[.int .i64 E, .int .i64 P, .int .i64 m]] W1 (WPost W1 (infOf E P))) := Lib.hid fun W1 => infinity_any W1 E P m h
  obtain ⟨h1, h2, h3, h4, h5⟩ := h
  have x3 : IntKind.i64.wrap (P - 2) = P - 2 := IntWalk.i64_in _ (by omega)
  go_enter Tryz.func113, Tryz.ntmps113
  go_wp2_with fail
  obtain ⟨hA, hB, hW0⟩ := boxes2' w #[.int .i64 E, .int .i64 P, .int .i64 m] #[.int .u64 0, .int .u64 0] 73 26
  generalize hW : (w.alloc (.cells #[.int .i64 E, .int .i64 P, .int .i64 m] 73)).alloc (.cells #[.int .u64 0, .int .u64 0] 26) = W at hA hB hW0 ⊢
  clear hW
  have H0 : Hid (Two w W.drew w.heap.size #[.int .i64 E, .int .i64 P, .int .i64 m] #[.int .u64 0, .int .u64 0]) := Lib.hid ⟨hW0.trans ((Drw.step W 1).below _), hA.below ((Drw.step W 1).below _), hB.below ((Drw.step W 1).below _)⟩
  have c0 : W.cell? ⟨w.heap.size, 0, none⟩ = some (.int .i64 E) := hA.cell 0
  have c1 : W.cell? ⟨w.heap.size, 1, none⟩ = some (.int .i64 P) := hA.cell 1
  have c2 : W.cell? ⟨w.heap.size, 2, none⟩ = some (.int .i64 m) := hA.cell 2
  clear hA hB hW0
  generalize hg : w.heap.size = g at *
  have HG := Lib.hid hg
  clear hg
  have step : ∀ (W1 W2 : World), Two w W1 g #[.int .i64 E, .int .i64 P, .int .i64 m] #[.int .u64 0, .int .u64 0] → Below W1.heap.size W1 W2 → Hid (Two w W2 g #[.int .i64 E, .int .i64 P, .int .i64 m] #[.int .u64 0, .int .u64 0]) ∧ W2.cell? ⟨g, 0, none⟩ = some (.int .i64 E) ∧ W2.cell? ⟨g, 1, none⟩ = some (.int .i64 P) ∧ W2.cell? ⟨g, 2, none⟩ = some (.int .i64 m) := fun W1 W2 a b =>
    ⟨Lib.hid (a.next b), (a.next b).2.1.cell 0, (a.next b).2.1.cell 1, (a.next b).2.1.cell 2⟩
  have HSt := Lib.hid step
  have K2 : Hid (∀ W1, Calls Tryz.prog 125 #[.int .i64 (P - 2)] W1 (WPost W1 (2 ^ (P - 2).toNat))) := Lib.hid fun W1 => bit_any W1 _ (by omega) (by omega)
  clear step
  go_region_held3 (fun w' => w'.cell? ⟨g, 0, none⟩ = some (.int .i64 E) ∧ w'.cell? ⟨g, 1, none⟩ = some (.int .i64 P) ∧ w'.cell? ⟨g, 2, none⟩ = some (.int .i64 m)) (first | go_keep | exact ⟨by assumption, by assumption, by assumption⟩)
    (first
      | (go_at_call 109; refine (K1.out _).mono ?_; rintro en w1 ⟨a1, b1, rfl, W1, hb1⟩; obtain ⟨H1, d10, d11, d12⟩ := HSt.out _ _ H0.out hb1; clear hb1)
      | (go_at_call 125; refine (K2.out _).mono ?_; rintro en w2 ⟨a2, b2, rfl, W2, hb2⟩; obtain ⟨H2, d20, d21, d22⟩ := HSt.out _ _ H1.out hb2; clear hb2)
      | (go_at_call 124; refine (plus_any _ _ _ _ _ _ _ W1 W2).mono ?_; rintro en w3 ⟨a3, b3, rfl, W3, hb3⟩; obtain ⟨H3, d30, d31, d32⟩ := HSt.out _ _ H2.out hb3; have cB := H3.out.2.2.cell; have fB := H3.out.2.2.free; clear hb3))
  have lB := H3.out.2.2.lt
  have W4 := Lib.hid (HX.out ▸ W3)
  clear W1 W2 W3 d10 d11 d12 d20 d21 d22 d30 d31 d32
  go_wp2_with fail
  refine bodyPost_ret (v := .agg #[.int .u64 a3, .int .u64 b3]) (by simp [results, Tryz.results113, go_sem, cB, lB]) rfl ?_
  have ho := stored2 (g + 1) w3 (.int .u64 a3) (.int .u64 b3)
  exact ⟨a3, b3, rfl, W4.out, H3.out.1.trans (ho.below H3.out.1.size (by have := HG.out; omega))⟩
end Go.Proofs.YtebibadldcempaaGreatDoor
