/-
  Contract of package exact's Cmp, for dyadic numbers.
-/
import Derived.Test.YtaeekmlnfjimjaaGreatDoorP12
import Derived.Deep.RegionHeld3
set_option linter.unusedVariables false
set_option linter.unusedSimpArgs false
set_option linter.unusedSectionVars false
namespace Go.Proofs.YtaeekmlnfjimjaaGreatDoor
open Go.RowKit Go.Shelf
attribute [local go_sem] eqNil neqNil

/-- both boxes, and what lies beneath -/
def Two (w W : World) (g : Nat) (A B : Array Value) : Prop := Below w.heap.size w W ∧ Box W g A ∧ Box W (g + 1) B
theorem Two.next {w W W' : World} {g : Nat} {A B : Array Value} (h : Two w W g A B) (hb : Below W.heap.size W W') : Two w W' g A B := ⟨h.1.trans (hb.mono h.1.size), h.2.1.below hb, h.2.2.below hb⟩

set_option maxRecDepth 100000 in
set_option maxHeartbeats 1000000 in
theorem cmpRaw (w : World) (sx sy : Bool) (bo : Option Addr) (la ca : Nat) (bo2 : Option Addr) (lb cb : Nat) (ex ey : Int) (S1 S2 R Q : Int)
    (h1 : ∀ W, Below w.heap.size w W → Calls Tryz.prog 29 #[.agg #[.bool sx, .slice bo la ca, .slice none 0 0, .int .i64 ex]] W (SignPost W S1))
    (h2 : ∀ W, Below w.heap.size w W → Calls Tryz.prog 29 #[.agg #[.bool sy, .slice bo2 lb cb, .slice none 0 0, .int .i64 ey]] W (SignPost W S2))
    (h3 : S1 = S2 → S1 ≠ 0 → ∀ W, Below w.heap.size w W → Calls Tryz.prog 130 #[.agg #[.bool sx, .slice bo la ca, .slice none 0 0, .int .i64 ex], .agg #[.bool sy, .slice bo2 lb cb, .slice none 0 0, .int .i64 ey]] W (IntPost W Q))
    (hQ : -1 ≤ Q ∧ Q ≤ 1) (hS : -1 ≤ S1 ∧ S1 ≤ 1) (hS2 : -1 ≤ S2 ∧ S2 ≤ 1) (r1 : S1 ≠ S2 → R = cmpI S1 S2) (r2 : S1 = S2 → S1 = 0 → R = 0) (r3 : S1 = S2 → S1 ≠ 0 → R = S1 * Q) :
    Calls Tryz.prog 68 #[.agg #[.bool sx, .slice bo la ca, .slice none 0 0, .int .i64 ex], .agg #[.bool sy, .slice bo2 lb cb, .slice none 0 0, .int .i64 ey]] w (IntPost w R) := by
  have H1 := Lib.hid h1
  have H2 := Lib.hid h2
  clear h1 h2
  obtain ⟨q1, q2⟩ := hQ
  obtain ⟨s1, s2⟩ := hS
  obtain ⟨t1, t2⟩ := hS2
  by_cases he : S1 = S2
  · subst he
    have hne : (S1 != S1) = false := by simp
    clear r1
    by_cases h0 : S1 = 0
    · have HR := Lib.hid (r2 rfl h0)
      subst h0
      clear r2 r3 h3
      go_enter Tryz.func68, Tryz.ntmps68
      go_wp2_with fail
      obtain ⟨hA, hB, hW0⟩ := boxes2 w #[.bool sx, .slice bo la ca, .slice none 0 0, .int .i64 ex] #[.bool sy, .slice bo2 lb cb, .slice none 0 0, .int .i64 ey] 49
      have HT : Hid (Two w _ w.heap.size _ _) := Lib.hid ⟨hW0, hA, hB⟩
      clear hA hB hW0
      refine (H1.out _ HT.out.1).mono ?_
      rintro en w1 ⟨rfl, hb⟩
      have HT1 := Lib.hid (HT.out.next hb)
      clear hb
      have cA := HT1.out.2.1.cell
      have cB := HT1.out.2.2.cell
      go_wp2_with fail
      refine (H2.out _ HT1.out.1).mono ?_
      rintro en w2 ⟨rfl, hb⟩
      have HT2 := Lib.hid (HT1.out.next hb)
      clear hb cA cB
      go_wp2_with fail
      go_ret
      exact ⟨by rw [HR.out]; rfl, HT2.out.1⟩
    · have HR := Lib.hid (r3 rfl h0)
      have H3 := Lib.hid (h3 rfl h0)
      have hb0 : (S1 == 0) = false := by simpa using h0
      have x1 : IntKind.i64.wrap (S1 * Q) = S1 * Q := IntWalk.i64_in _ (by
        rcases (show S1 = -1 ∨ S1 = 1 by omega) with rfl | rfl <;> omega)
      clear r2 r3 h3 h0
      go_enter Tryz.func68, Tryz.ntmps68
      go_wp2_with fail
      obtain ⟨hA, hB, hW0⟩ := boxes2 w #[.bool sx, .slice bo la ca, .slice none 0 0, .int .i64 ex] #[.bool sy, .slice bo2 lb cb, .slice none 0 0, .int .i64 ey] 49
      have HT : Hid (Two w _ w.heap.size _ _) := Lib.hid ⟨hW0, hA, hB⟩
      clear hA hB hW0
      refine (H1.out _ HT.out.1).mono ?_
      rintro en w1 ⟨rfl, hb⟩
      have HT1 := Lib.hid (HT.out.next hb)
      clear hb
      have cA := HT1.out.2.1.cell
      have cB := HT1.out.2.2.cell
      go_wp2_with fail
      refine (H2.out _ HT1.out.1).mono ?_
      rintro en w2 ⟨rfl, hb⟩
      have HT2 := Lib.hid (HT1.out.next hb)
      clear hb cA cB
      have cA := HT2.out.2.1.cell
      have cB := HT2.out.2.2.cell
      go_wp2_with fail
      refine (H3.out _ HT2.out.1).mono ?_
      rintro en w3 ⟨rfl, hb⟩
      have HT3 := Lib.hid (HT2.out.next hb)
      clear hb cA cB
      go_wp2_with fail
      go_ret
      exact ⟨by rw [HR.out]; rfl, HT3.out.1⟩
  · have hne : (S1 != S2) = true := by simpa using he
    have HR := Lib.hid (r1 he)
    clear r1 r2 r3 h3 he
    go_enter Tryz.func68, Tryz.ntmps68
    go_wp2_with fail
    obtain ⟨hA, hB, hW0⟩ := boxes2 w #[.bool sx, .slice bo la ca, .slice none 0 0, .int .i64 ex] #[.bool sy, .slice bo2 lb cb, .slice none 0 0, .int .i64 ey] 49
    have HT : Hid (Two w _ w.heap.size _ _) := Lib.hid ⟨hW0, hA, hB⟩
    clear hA hB hW0
    refine (H1.out _ HT.out.1).mono ?_
    rintro en w1 ⟨rfl, hb⟩
    have HT1 := Lib.hid (HT.out.next hb)
    clear hb
    have cA := HT1.out.2.1.cell
    have cB := HT1.out.2.2.cell
    go_wp2_with fail
    refine (H2.out _ HT1.out.1).mono ?_
    rintro en w2 ⟨rfl, hb⟩
    have HT2 := Lib.hid (HT1.out.next hb)
    clear hb cA cB
    have cA := HT2.out.2.1.cell
    have cB := HT2.out.2.2.cell
    go_wp2_with fail
    refine (H2.out _ HT2.out.1).mono ?_
    rintro en w3 ⟨rfl, hb⟩
    have HT3 := Lib.hid (HT2.out.next hb)
    clear hb cA cB
    go_wp2_with (go_at_call 66; refine (cmpInt_any _ _ _).mono ?_; rintro en w' ⟨rfl, rfl⟩)
    go_ret
    exact ⟨by rw [HR.out]; rfl, HT3.out.1⟩

theorem cmpI_neg (a b : Int) : cmpI (-a) (-b) = -1 * cmpI a b := by
  unfold cmpI
  rcases Int.lt_trichotomy a b with h | h | h
  · rw [if_neg (by omega), if_pos (by omega), if_pos h]; rfl
  · subst h; rw [if_neg (by omega), if_neg (by omega), if_neg (by omega), if_neg (by omega)]; rfl
  · rw [if_pos (by omega), if_neg (by omega), if_pos h]; rfl
theorem cmpI_range (a b : Int) : -1 ≤ cmpI a b ∧ cmpI a b ≤ 1 := by unfold cmpI; split <;> (try split) <;> omega
theorem sgnI_range (s : Bool) (t : Int) : -1 ≤ sgnI s t ∧ sgnI s t ≤ 1 := by unfold sgnI; split <;> (try split) <;> omega

theorem cmp_any (w : World) (vx vy : Value) (K L k : Int) (hx : Dn w vx K k) (hy : Dn w vy L k) (hK : -sml < K ∧ K < sml) (hL : -sml < L ∧ L < sml) (hk : -50000 ≤ k ∧ k ≤ 50000) :
    Calls Tryz.prog 68 #[vx, vy] w (IntPost w (cmpI K L)) := by
  obtain ⟨sx, tx, ex, nx, dx⟩ := hx
  obtain ⟨sy, ty, ey, ny, dy⟩ := hy
  have nx0 := nx
  have ny0 := ny
  obtain ⟨bo, la, ca, rfl, tx1⟩ := nx.nilb
  obtain ⟨bo2, lb, cb, rfl, ty1⟩ := ny.nilb
  have h2 := sml_big
  have mx : ∀ (s : Bool) (t : Int) (j : Nat), sg s t * 2 ^ j = sg s (t * 2 ^ j) := by
    intro s t j; cases s
    · rfl
    · exact Int.neg_mul _ _
  have sK : ∀ {s : Bool} {t e K : Int}, Dr s t e K k → (K < 0 ∧ sgnI s t = -1) ∨ (K = 0 ∧ sgnI s t = 0) ∨ (0 < K ∧ sgnI s t = 1) := by
    intro s t e K h
    rcases h with ⟨rfl, rfl, rfl, rfl⟩ | ⟨_, hp, j, _, rfl⟩
    · exact .inr (.inl ⟨rfl, rfl⟩)
    · have := Int.mul_pos hp (p2pos j)
      rw [mx]
      generalize t * 2 ^ j = x at this
      cases s
      · refine .inr (.inr ⟨this, ?_⟩); unfold sgnI; rw [if_neg (by omega)]; rfl
      · refine .inl ⟨by simp [sg]; omega, ?_⟩; unfold sgnI; rw [if_neg (by omega)]; rfl
  have a1 := sK dx
  have a2 := sK dy
  have e3 : ∀ {s : Bool} {t : Int}, 0 < t → (sgnI s t = if s then -1 else 1) := by intro s t h; unfold sgnI; rw [if_neg (by omega)]
  rcases dx with ⟨rfl, rfl, rfl, rfl⟩ | ⟨ox, px, jx, rfl, rfl⟩
  · refine cmpRaw w _ _ _ _ _ _ _ _ _ _ (sgnI false 0) (sgnI sy ty) _ 0 (fun W hb => sign_any W _ _ _ _ _ (nx0.below hb)) (fun W hb => sign_any W _ _ _ _ _ (ny0.below hb)) (fun _ h => absurd rfl h) (by omega) (sgnI_range _ _) (sgnI_range _ _) ?_ ?_ (fun _ h => absurd rfl h)
    · intro hne
      have : sgnI false 0 = 0 := rfl
      rw [this] at hne ⊢
      rcases a2 with ⟨b1, b2⟩ | ⟨b1, b2⟩ | ⟨b1, b2⟩
      · rw [b2, cmpI_gt b1, cmpI_gt (by omega)]
      · omega
      · rw [b2, cmpI_lt b1, cmpI_lt (by omega)]
    · intro he _
      have : sgnI false 0 = 0 := rfl
      rw [this] at he
      rcases a2 with ⟨b1, b2⟩ | ⟨b1, b2⟩ | ⟨b1, b2⟩
      · omega
      · rw [b1, cmpI_eq]
      · omega
  · obtain ⟨a, rfl⟩ : ∃ a, bo = some a := by
      cases bo with
      | none => have := tx1.isNone; simp at this; omega
      | some a => exact ⟨a, rfl⟩
    rcases dy with ⟨rfl, rfl, rfl, rfl⟩ | ⟨oy, py, jy, rfl, rfl⟩
    · refine cmpRaw w _ _ _ _ _ _ _ _ _ _ (sgnI sx tx) (sgnI false 0) _ 0 (fun W hb => sign_any W _ _ _ _ _ (nx0.below hb)) (fun W hb => sign_any W _ _ _ _ _ (ny0.below hb)) (fun h h' => absurd (h.trans rfl) h') (by omega) (sgnI_range _ _) (sgnI_range _ _) ?_ (fun h h' => by
          rcases a1 with ⟨b1, b2⟩ | ⟨b1, b2⟩ | ⟨b1, b2⟩
          · omega
          · rw [b1, cmpI_eq]
          · omega) (fun h h' => absurd (h.trans rfl) h')
      intro hne
      have : sgnI false 0 = 0 := rfl
      rw [this] at hne ⊢
      rcases a1 with ⟨b1, b2⟩ | ⟨b1, b2⟩ | ⟨b1, b2⟩
      · rw [b2, cmpI_lt b1, cmpI_lt (by omega)]
      · omega
      · rw [b2, cmpI_gt b1, cmpI_gt (by omega)]
    · obtain ⟨a2', rfl⟩ : ∃ a, bo2 = some a := by
        cases bo2 with
        | none => have := ty1.isNone; simp at this; omega
        | some a => exact ⟨a, rfl⟩
      rw [mx] at hK hL a1 a2
      rw [mx, mx]
      have qx := (abs_sg (Int.le_of_lt (Int.mul_pos px (p2pos jx)))).1 hK
      have qy := (abs_sg (Int.le_of_lt (Int.mul_pos py (p2pos jy)))).1 hL
      have ix := exp_lt px qx
      have iy := exp_lt py qy
      have bx : tx < big := lt_of_pow (j := jx) px (by omega)
      have by' : ty < big := lt_of_pow (j := jy) py (by omega)
      refine cmpRaw w _ _ _ _ _ _ _ _ _ _ (sgnI sx tx) (sgnI sy ty) _ (cmpI (tx * 2 ^ jx) (ty * 2 ^ jy)) (fun W hb => sign_any W _ _ _ _ _ (nx0.below hb)) (fun W hb => sign_any W _ _ _ _ _ (ny0.below hb)) ?_ (cmpI_range _ _) (sgnI_range _ _) (sgnI_range _ _) ?_ ?_ ?_
      · intro _ _ W hb
        refine cmpSizesRaw W sx sy a la ca a2' lb cb tx ty (k + jx) (k + jy) (tx1.below hb) (ty1.below hb) px py bx by' (by omega) (by omega) _ ?_ ?_ ?_
        · intro h; exact cmpI_lt (cmp_logs px py (by omega))
        · intro h; exact cmpI_gt (cmp_logs py px (by omega))
        · intro h n h1 h2; exact cmpI_shift (by omega)
      · intro hne
        rcases a1 with ⟨b1, b2⟩ | ⟨b1, b2⟩ | ⟨b1, b2⟩ <;> rcases a2 with ⟨c1, c2⟩ | ⟨c1, c2⟩ | ⟨c1, c2⟩ <;> rw [b2, c2] at hne ⊢
        all_goals first
          | exact absurd rfl hne
          | (rw [cmpI_lt (show (_ : Int) < _ by omega), cmpI_lt (by omega)])
          | (rw [cmpI_gt (show (_ : Int) < _ by omega), cmpI_gt (by omega)])
      · intro h h0
        rw [e3 px] at h0
        cases sx <;> simp at h0
      · intro h h0
        rw [e3 px, e3 py] at h
        rw [e3 px]
        cases sx <;> cases sy <;> simp at h
        · show cmpI (tx * 2 ^ jx) (ty * 2 ^ jy) = 1 * _; rw [Int.one_mul]
        · show cmpI (-(tx * 2 ^ jx)) (-(ty * 2 ^ jy)) = _; rw [cmpI_neg]; rfl
end Go.Proofs.YtaeekmlnfjimjaaGreatDoor
/-
  Contracts of package exact's scaled and Floor, for dyadic numbers.
-/
namespace Go.Proofs.YtaeekmlnfjimjaaGreatDoor
open Go.RowKit Go.Shelf
attribute [local go_sem] eqNil neqNil

end Go.Proofs.YtaeekmlnfjimjaaGreatDoor
/-
  Contract of package exact's Int64, for numbers that are integers and not below 0.
-/
namespace Go.Proofs.YtaeekmlnfjimjaaGreatDoor
open Go.RowKit Go.Shelf
attribute [local go_sem] eqNil neqNil

/-- what a dyadic number's fields are bounded by -/
theorem Dr.bounds {s : Bool} {t e K k : Int} (h : Dr s t e K k) (hK : -sml < K ∧ K < sml) (hk : -50000 ≤ k ∧ k ≤ 50000) : -1000000 ≤ e ∧ e ≤ 1000000 ∧ t < big := by
  have h2 := sml_big
  rcases h with ⟨rfl, rfl, rfl, rfl⟩ | ⟨_, hp, j, rfl, rfl⟩
  · exact ⟨by omega, by omega, by unfold big; exact ppos _⟩
  · have e1 : sg s t * 2 ^ j = sg s (t * 2 ^ j) := by
      cases s
      · rfl
      · exact Int.neg_mul _ _
    rw [e1] at hK
    have q := (abs_sg (Int.le_of_lt (Int.mul_pos hp (p2pos j)))).1 hK
    have := exp_lt hp q
    exact ⟨by omega, by omega, lt_of_pow (j := j) hp (by omega)⟩

end Go.Proofs.YtaeekmlnfjimjaaGreatDoor
/-
  Contracts of package floats's arithmetic of words: 128 bits, as two words of 64.
-/
namespace Go.Proofs.YtaeekmlnfjimjaaGreatDoor
open Go.RowKit Go.Shelf

/-- the words h, l stand for X -/
def Wn (h l X : Int) : Prop := 0 ≤ h ∧ h < 18446744073709551616 ∧ 0 ≤ l ∧ l < 18446744073709551616 ∧ X = h * 18446744073709551616 + l
def WPost (w : World) (X : Int) (e : Ending) (w' : World) : Prop := ∃ h l, e = .returned (.agg #[.int .u64 h, .int .u64 l]) ∧ Wn h l X ∧ Below w.heap.size w w'
def two128 : Int := 2 ^ 128
theorem two128_eq : two128 = 340282366920938463463374607431768211456 := by decide
theorem Wn.range {h l X : Int} (w : Wn h l X) : 0 ≤ X ∧ X < two128 := by
  rw [two128_eq]
  obtain ⟨a, b, c, d, rfl⟩ := w
  omega
theorem below3 (w : World) (a b c : Obj) : Below w.heap.size w (((w.alloc a).alloc b).alloc c) := (((Below.refl _ _).alloc (Nat.le_refl _) _).alloc (by simp) _).alloc (by simp; omega) _

theorem plus_any (w : World) (h1 l1 X h2 l2 Y : Int) (a : Wn h1 l1 X) (b : Wn h2 l2 Y) :
    Calls Tryz.prog 138 #[.agg #[.int .u64 h1, .int .u64 l1], .agg #[.int .u64 h2, .int .u64 l2]] w (WPost w ((X + Y) % two128)) := by
  obtain ⟨a1, a2, a3, a4, a5⟩ := a
  obtain ⟨b1, b2, b3, b4, b5⟩ := b
  obtain ⟨c, hc⟩ : ∃ c, (l1 + l2) / 18446744073709551616 = c := ⟨_, rfl⟩
  have c0 : 0 ≤ c ∧ c ≤ 1 := by omega
  have HW : Hid (Wn ((h1 + h2 + c) % 18446744073709551616) ((l1 + l2) % 18446744073709551616) ((X + Y) % two128)) := Lib.hid (by
    rw [two128_eq]
    refine ⟨by omega, by omega, by omega, by omega, ?_⟩
    omega)
  generalize (X + Y) % two128 = Z at HW ⊢
  obtain ⟨c1, c2⟩ := c0
  have k1 := fun w => add64_0 l1 l2 a3 b3 w
  have k2 := fun w => add64 h1 h2 c a1 b1 c1 c2 w
  rw [hc] at k1
  generalize hl : (l1 + l2) % 18446744073709551616 = lo at k1 HW
  generalize hh : (h1 + h2 + c) % 18446744073709551616 = hi at k2 HW
  clear hc hl hh a5 b5
  go_enter Tryz.func138, Tryz.ntmps138
  go_wp2_with (first | simp only [k1] | simp only [k2])
  refine bodyPost_ret (v := .agg #[.int .u64 hi, .int .u64 lo]) (by simp [results, Tryz.results138, go_sem]) rfl ?_
  exact ⟨hi, lo, rfl, HW.out, below3 _ _ _ _⟩

theorem minus_any (w : World) (h1 l1 X h2 l2 Y : Int) (a : Wn h1 l1 X) (b : Wn h2 l2 Y) :
    Calls Tryz.prog 137 #[.agg #[.int .u64 h1, .int .u64 l1], .agg #[.int .u64 h2, .int .u64 l2]] w (WPost w ((X - Y) % two128)) := by
  obtain ⟨a1, a2, a3, a4, a5⟩ := a
  obtain ⟨b1, b2, b3, b4, b5⟩ := b
  obtain ⟨c, hc⟩ : ∃ c, bor l1 l2 = c := ⟨_, rfl⟩
  have c0 : 0 ≤ c ∧ c ≤ 1 := hc ▸ bor_01 l1 l2
  have HW : Hid (Wn ((h1 - h2 - c) % 18446744073709551616) ((l1 - l2) % 18446744073709551616) ((X - Y) % two128)) := Lib.hid (by
    have := bor_eq l1 l2 a3 a4 b3 (by omega)
    rw [hc] at this
    rw [two128_eq]
    refine ⟨by omega, by omega, by omega, by omega, ?_⟩
    omega)
  generalize (X - Y) % two128 = Z at HW ⊢
  obtain ⟨c1, c2⟩ := c0
  have k1 := fun w => sub64_0 l1 l2 a3 b3 b4 w
  have k2 := fun w => sub64 h1 h2 c a1 b1 b2 c1 c2 w
  rw [hc] at k1
  generalize hl : (l1 - l2) % 18446744073709551616 = lo at k1 HW
  generalize hh : (h1 - h2 - c) % 18446744073709551616 = hi at k2 HW
  clear hc hl hh a5 b5
  go_enter Tryz.func137, Tryz.ntmps137
  go_wp2_with (first | simp only [k1] | simp only [k2])
  refine bodyPost_ret (v := .agg #[.int .u64 hi, .int .u64 lo]) (by simp [results, Tryz.results137, go_sem]) rfl ?_
  exact ⟨hi, lo, rfl, HW.out, below3 _ _ _ _⟩

theorem less_any (w : World) (h1 l1 X h2 l2 Y : Int) (a : Wn h1 l1 X) (b : Wn h2 l2 Y) :
    Calls Tryz.prog 163 #[.agg #[.int .u64 h1, .int .u64 l1], .agg #[.int .u64 h2, .int .u64 l2]] w (BoolPost w (decide (X < Y))) := by
  obtain ⟨a1, a2, a3, a4, a5⟩ := a
  obtain ⟨b1, b2, b3, b4, b5⟩ := b
  have hb2 : Below w.heap.size w ((w.alloc (.cells #[.int .u64 h1, .int .u64 l1] 26)).alloc (.cells #[.int .u64 h2, .int .u64 l2] 26)) := ((Below.refl _ _).alloc (Nat.le_refl _) _).alloc (by simp) _
  have HB := Lib.hid hb2
  clear hb2
  rcases Int.lt_trichotomy h1 h2 with h | h | h
  · have HR : Hid (decide (X < Y) = true) := Lib.hid (by simp; omega)
    generalize decide (X < Y) = r at HR ⊢
    have hd : decide (h1 < h2) = true := by simpa using h
    clear a5 b5
    go_enter Tryz.func163, Tryz.ntmps163
    go_wp2
    go_ret
    exact ⟨by rw [HR.out]; rfl, HB.out⟩
  · subst h
    have HR : Hid (decide (X < Y) = decide (l1 < l2)) := Lib.hid (by
      by_cases q : l1 < l2
      · simp [q]; omega
      · simp [q]; omega)
    generalize decide (X < Y) = r at HR ⊢
    have hd : decide (h1 < h1) = false := by simp
    have he : (h1 == h1) = true := by simp
    clear a5 b5
    go_enter Tryz.func163, Tryz.ntmps163
    go_wp2
    go_ret
    exact ⟨by rw [HR.out]; rfl, HB.out⟩
  · have HR : Hid (decide (X < Y) = false) := Lib.hid (by simp; omega)
    generalize decide (X < Y) = r at HR ⊢
    have hd : decide (h1 < h2) = false := by simp; omega
    have he : (h1 == h2) = false := by simp; omega
    clear a5 b5
    go_enter Tryz.func163, Tryz.ntmps163
    go_wp2
    go_ret
    exact ⟨by rw [HR.out]; rfl, HB.out⟩
end Go.Proofs.YtaeekmlnfjimjaaGreatDoor
/-
  Contracts of package floats's shifts of words.
-/
namespace Go.Proofs.YtaeekmlnfjimjaaGreatDoor
open Go.RowKit Go.Shelf

theorem or_zero (x : Int) (h0 : 0 ≤ x) (h1 : x < 18446744073709551616) : bits BinOp.or IntKind.u64 x 0 = x := by
  obtain ⟨x, rfl⟩ := Int.eq_ofNat_of_zero_le h0
  have := bits_or_u64_nat x 0 (by omega) (by omega)
  simpa using this
theorem zero_or (x : Int) (h0 : 0 ≤ x) (h1 : x < 18446744073709551616) : bits BinOp.or IntKind.u64 0 x = x := by
  obtain ⟨x, rfl⟩ := Int.eq_ofNat_of_zero_le h0
  have := bits_or_u64_nat 0 x (by omega) (by omega)
  simpa using this
theorem or_self (x : Int) (h0 : 0 ≤ x) (h1 : x < 18446744073709551616) : bits BinOp.or IntKind.u64 x x = x := by
  obtain ⟨x, rfl⟩ := Int.eq_ofNat_of_zero_le h0
  have := bits_or_u64_nat x x (by omega) (by omega)
  simpa using this
theorem wrap_big (x : Int) (n : Nat) (h : 64 ≤ n) : IntKind.u64.wrap (x * 2 ^ n) = 0 := by
  rw [IntKind.wrap_u64]
  obtain ⟨d, rfl⟩ := Nat.exists_eq_add_of_le h
  rw [Int.pow_add, show (2 : Int) ^ 64 = 18446744073709551616 from rfl, ← Int.mul_assoc, Int.mul_comm x, Int.mul_assoc]
  exact Int.mul_emod_right _ _
theorem div_big (x : Int) (n : Nat) (h : 64 ≤ n) (h0 : 0 ≤ x) (h1 : x < 18446744073709551616) : x / 2 ^ n = 0 := by
  refine Int.ediv_eq_zero_of_lt h0 ?_
  obtain ⟨d, rfl⟩ := Nat.exists_eq_add_of_le h
  rw [Int.pow_add, show (2 : Int) ^ 64 = 18446744073709551616 from rfl]
  have := Int.mul_le_mul_of_nonneg_left (show (1 : Int) ≤ 2 ^ d from p2pos d) (show (0 : Int) ≤ 18446744073709551616 by omega)
  omega

theorem below2 (w : World) (a b : Obj) : Below w.heap.size w ((w.alloc a).alloc b) := ((Below.refl _ _).alloc (Nat.le_refl _) _).alloc (by simp) _

theorem left_low {h l X : Int} (k : Nat) (hk : k < 64) (a : Wn h l X) : Wn (h * 2 ^ k % 18446744073709551616 + l / 2 ^ (64 - k)) (l * 2 ^ k % 18446744073709551616) (X * 2 ^ k % two128) := by
  obtain ⟨a1, a2, a3, a4, rfl⟩ := a
  have s1 := split_word h k (by omega)
  have s2 := split_word l k (by omega)
  have q0 : 0 ≤ l / 2 ^ (64 - k) := Int.ediv_nonneg a3 (Int.le_of_lt (p2pos _))
  have q1 := div_lt_p2 l k (by omega) a4
  have hw := hw_word (zs := [l, h]) (fun z hz => by
    simp at hz
    rcases hz with rfl | rfl
    · exact ⟨a3, a4⟩
    · exact ⟨a1, a2⟩) k (by omega) 1
  simp only [hw_succ, gd_cons_succ, gd_cons_zero] at hw
  have hw' : 0 ≤ h * 2 ^ k % 18446744073709551616 + l / 2 ^ (64 - k) ∧ h * 2 ^ k % 18446744073709551616 + l / 2 ^ (64 - k) < 18446744073709551616 := hw
  have l0 : 0 ≤ l * 2 ^ k % 18446744073709551616 := Int.emod_nonneg _ (by omega)
  have l1 : l * 2 ^ k % 18446744073709551616 < 18446744073709551616 := Int.emod_lt_of_pos _ (by omega)
  refine ⟨hw'.1, hw'.2, l0, l1, ?_⟩
  have e : (h * 18446744073709551616 + l) * 2 ^ k = (h * 2 ^ k) * 18446744073709551616 + l * 2 ^ k := by grind
  rw [e, two128_eq]
  generalize h * 2 ^ k = H at *
  generalize l * 2 ^ k = L at *
  generalize h / 2 ^ (64 - k) = q at *
  generalize l / 2 ^ (64 - k) = r at *
  omega

theorem left_high {h l X : Int} (j : Nat) (hj : j < 64) (a : Wn h l X) : Wn (l * 2 ^ j % 18446744073709551616) 0 (X * 2 ^ (64 + j) % two128) := by
  obtain ⟨a1, a2, a3, a4, rfl⟩ := a
  have l0 : 0 ≤ l * 2 ^ j % 18446744073709551616 := Int.emod_nonneg _ (by omega)
  have l1 : l * 2 ^ j % 18446744073709551616 < 18446744073709551616 := Int.emod_lt_of_pos _ (by omega)
  refine ⟨l0, l1, by omega, by omega, ?_⟩
  have e : (h * 18446744073709551616 + l) * 2 ^ (64 + j) = (h * 2 ^ j) * 340282366920938463463374607431768211456 + (l * 2 ^ j) * 18446744073709551616 := by
    rw [Int.pow_add, show (2 : Int) ^ 64 = 18446744073709551616 from rfl]; grind
  rw [e, two128_eq]
  generalize h * 2 ^ j = H at *
  generalize l * 2 ^ j = L at *
  omega

set_option maxRecDepth 100000 in
theorem wleft_any (w : World) (h l X : Int) (a : Wn h l X) (k : Nat) (hk : k ≤ 127) :
    Calls Tryz.prog 160 #[.agg #[.int .u64 h, .int .u64 l], .int .i64 k] w (WPost w (X * 2 ^ k % two128)) := by
  have A := Lib.hid a
  obtain ⟨a1, a2, a3, a4, a5⟩ := a
  have xk : IntKind.u64.wrap (k : Int) = k := by rw [IntKind.wrap_u64]; omega
  obtain ⟨m1, hm1⟩ : ∃ m, IntKind.u64.wrap (64 - (k : Int)) = m := ⟨_, rfl⟩
  obtain ⟨m2, hm2⟩ : ∃ m, IntKind.u64.wrap ((k : Int) - 64) = m := ⟨_, rfl⟩
  have hm1' := hm1
  have hm2' := hm2
  rw [IntKind.wrap_u64] at hm1' hm2'
  by_cases hk64 : k < 64
  · have HW := Lib.hid (left_low k hk64 A.out)
    have f1 := or_high (l / 2 ^ (64 - k)) h k (by omega) (Int.ediv_nonneg a3 (Int.le_of_lt (p2pos _))) (div_lt_p2 l k (by omega) a4) a1 a2
    obtain ⟨c2, hc2⟩ : ∃ c, min m2.toNat 64 = c := ⟨_, rfl⟩
    have f2 : IntKind.u64.wrap (l * 2 ^ c2) = 0 := wrap_big l _ (by omega)
    have f3 := or_zero _ HW.out.1 HW.out.2.1
    have f4 : IntKind.u64.wrap (l * 2 ^ k) = l * 2 ^ k % 18446744073709551616 := IntKind.wrap_u64 _
    have mt : m1.toNat = 64 - k := by omega
    have hmb : 0 ≤ m1 ∧ 0 ≤ m2 := by omega
    obtain ⟨hmb1, hmb2⟩ := hmb
    generalize X * 2 ^ k % two128 = Z at HW ⊢
    generalize h * 2 ^ k % 18446744073709551616 + l / 2 ^ (64 - k) = hi at HW f1 f3
    generalize l * 2 ^ k % 18446744073709551616 = lo at HW f4
    clear hm1' hm2' a5 A
    go_enter Tryz.func160, Tryz.ntmps160
    go_wp2
    refine bodyPost_ret (v := .agg #[.int .u64 hi, .int .u64 lo]) (by simp [results, Tryz.results160, go_sem]) rfl ?_
    exact ⟨hi, lo, rfl, HW.out, below2 _ _ _⟩
  · obtain ⟨j, hj'⟩ : ∃ j, k = 64 + j := ⟨k - 64, by omega⟩
    have HW := Lib.hid (left_high j (by omega) A.out)
    rw [← hj'] at HW
    obtain ⟨c0, hc0⟩ : ∃ c, min k 64 = c := ⟨_, rfl⟩
    obtain ⟨c1, hc1⟩ : ∃ c, min m1.toNat 64 = c := ⟨_, rfl⟩
    have g1 : IntKind.u64.wrap (h * 2 ^ c0) = 0 := wrap_big h _ (by omega)
    have g2 : IntKind.u64.wrap (l * 2 ^ c0) = 0 := wrap_big l _ (by omega)
    have g3 : IntKind.u64.wrap (l * 2 ^ j) = l * 2 ^ j % 18446744073709551616 := IntKind.wrap_u64 _
    have mt : m2.toNat = j := by omega
    have hmb : 0 ≤ m1 ∧ 0 ≤ m2 ∧ m2 < 64 := by omega
    obtain ⟨hmb1, hmb2, hmb3⟩ := hmb
    rcases Nat.eq_zero_or_pos j with rfl | hj
    · have hx : Hid (l * 2 ^ 0 % 18446744073709551616 = l) := Lib.hid (by simp; omega)
      have g4 : l / 2 ^ c1 = l := by rw [show c1 = 0 by omega]; simp
      rw [hx.out] at HW g3
      have g5 := zero_or l a3 a4
      have g6 := or_self l a3 a4
      generalize X * 2 ^ k % two128 = Z at HW ⊢
      clear hm1' hm2' a5 A hj'
      go_enter Tryz.func160, Tryz.ntmps160
      go_wp2
      refine bodyPost_ret (v := .agg #[.int .u64 l, .int .u64 0]) (by simp [results, Tryz.results160, go_sem]) rfl ?_
      exact ⟨l, 0, rfl, HW.out, below2 _ _ _⟩
    · have g4 : l / 2 ^ c1 = 0 := div_big l _ (by omega) a3 a4
      have g5 := zero_or 0 (by omega) (by omega)
      have g6 := zero_or _ HW.out.1 HW.out.2.1
      generalize X * 2 ^ k % two128 = Z at HW ⊢
      generalize l * 2 ^ j % 18446744073709551616 = hi at HW g3 g6
      clear hm1' hm2' a5 A hj'
      go_enter Tryz.func160, Tryz.ntmps160
      go_wp2
      refine bodyPost_ret (v := .agg #[.int .u64 hi, .int .u64 0]) (by simp [results, Tryz.results160, go_sem]) rfl ?_
      exact ⟨hi, 0, rfl, HW.out, below2 _ _ _⟩

theorem right_low {h l X : Int} (k : Nat) (hk : k < 64) (a : Wn h l X) : Wn (h / 2 ^ k) ((l + 18446744073709551616 * h) / 2 ^ k % 18446744073709551616) (X / 2 ^ k) := by
  obtain ⟨a1, a2, a3, a4, rfl⟩ := a
  have h0 : 0 ≤ h / 2 ^ k := Int.ediv_nonneg a1 (Int.le_of_lt (p2pos _))
  have h1 : h / 2 ^ k ≤ h := Int.ediv_le_self _ a1
  refine ⟨h0, by omega, Int.emod_nonneg _ (by omega), Int.emod_lt_of_pos _ (by omega), ?_⟩
  have := word_div l h h k (by omega) a3 a4 ⟨0, by omega⟩
  rw [show h * 18446744073709551616 + l = l + 18446744073709551616 * h by omega, ← this]
  omega
theorem right_high {h l X : Int} (j : Nat) (a : Wn h l X) : Wn 0 (h / 2 ^ j) (X / 2 ^ (64 + j)) := by
  obtain ⟨a1, a2, a3, a4, rfl⟩ := a
  have h0 : 0 ≤ h / 2 ^ j := Int.ediv_nonneg a1 (Int.le_of_lt (p2pos _))
  have h1 : h / 2 ^ j ≤ h := Int.ediv_le_self _ a1
  refine ⟨by omega, by omega, h0, by omega, ?_⟩
  rw [Int.pow_add, ← Int.ediv_ediv_of_nonneg (Int.le_of_lt (p2pos 64)), show (2 : Int) ^ 64 = 18446744073709551616 from rfl]
  rw [show (h * 18446744073709551616 + l) / 18446744073709551616 = h by omega]
  omega

set_option maxRecDepth 100000 in
theorem wright_any (w : World) (h l X : Int) (a : Wn h l X) (k : Nat) (hk : k ≤ 127) :
    Calls Tryz.prog 127 #[.agg #[.int .u64 h, .int .u64 l], .int .i64 k] w (WPost w (X / 2 ^ k)) := by
  have A := Lib.hid a
  obtain ⟨a1, a2, a3, a4, a5⟩ := a
  have xk : IntKind.u64.wrap (k : Int) = k := by rw [IntKind.wrap_u64]; omega
  obtain ⟨m1, hm1⟩ : ∃ m, IntKind.u64.wrap (64 - (k : Int)) = m := ⟨_, rfl⟩
  obtain ⟨m2, hm2⟩ : ∃ m, IntKind.u64.wrap ((k : Int) - 64) = m := ⟨_, rfl⟩
  have hm1' := hm1
  have hm2' := hm2
  rw [IntKind.wrap_u64] at hm1' hm2'
  by_cases hk64 : k < 64
  · have HW := Lib.hid (right_low k hk64 A.out)
    obtain ⟨c2, hc2⟩ : ∃ c, min m2.toNat 64 = c := ⟨_, rfl⟩
    have f2 : h / 2 ^ c2 = 0 := div_big h _ (by omega) a1 a2
    have hmb : 0 ≤ m1 ∧ 0 ≤ m2 := by omega
    obtain ⟨hmb1, hmb2⟩ := hmb
    rcases Nat.eq_zero_or_pos k with rfl | hk0
    · have hx : Hid ((l + 18446744073709551616 * h) / 2 ^ 0 % 18446744073709551616 = l) := Lib.hid (by simp; omega)
      have hy : Hid (h / 2 ^ 0 = h) := Lib.hid (by simp)
      rw [hx.out, hy.out] at HW
      have g1 : IntKind.u64.wrap (h * 18446744073709551616) = 0 := wrap_big h 64 (by omega)
      have g3 : IntKind.u64.wrap (-64) = m2 := by rw [← hm2]; rfl
      have g2 := or_zero l a3 a4
      generalize X / 2 ^ 0 = Z at HW ⊢
      clear hm1' hm2' a5 A
      go_enter Tryz.func127, Tryz.ntmps127
      go_wp2
      refine bodyPost_ret (v := .agg #[.int .u64 h, .int .u64 l]) (by simp [results, Tryz.results127, go_sem]) rfl ?_
      exact ⟨h, l, rfl, HW.out, below2 _ _ _⟩
    · have mt : m1.toNat = 64 - k := by omega
      have hm64 : m1 < 64 := by omega
      have f1 := or_shift l h k (by omega) a3 a4 a1 a2
      have f3 := or_zero _ HW.out.2.2.1 HW.out.2.2.2.1
      generalize X / 2 ^ k = Z at HW ⊢
      generalize (l + 18446744073709551616 * h) / 2 ^ k % 18446744073709551616 = lo at HW f1 f3
      clear hm1' hm2' a5 A
      go_enter Tryz.func127, Tryz.ntmps127
      go_wp2
      refine bodyPost_ret (v := .agg #[.int .u64 (h / 2 ^ k), .int .u64 lo]) (by simp [results, Tryz.results127, go_sem]) rfl ?_
      exact ⟨_, lo, rfl, HW.out, below2 _ _ _⟩
  · obtain ⟨j, hj'⟩ : ∃ j, k = 64 + j := ⟨k - 64, by omega⟩
    have HW := Lib.hid (right_high j A.out)
    rw [← hj'] at HW
    obtain ⟨c0, hc0⟩ : ∃ c, min k 64 = c := ⟨_, rfl⟩
    obtain ⟨c1, hc1⟩ : ∃ c, min m1.toNat 64 = c := ⟨_, rfl⟩
    have g1 : h / 2 ^ c0 = 0 := div_big h _ (by omega) a1 a2
    have g2 : l / 2 ^ c0 = 0 := div_big l _ (by omega) a3 a4
    have mt : m2.toNat = j := by omega
    have hmb : 0 ≤ m1 ∧ 0 ≤ m2 ∧ m2 < 64 := by omega
    obtain ⟨hmb1, hmb2, hmb3⟩ := hmb
    rcases Nat.eq_zero_or_pos j with rfl | hj
    · have hx : Hid (h / 2 ^ 0 = h) := Lib.hid (by simp)
      have g4 : IntKind.u64.wrap (h * 2 ^ c1) = h := by rw [show c1 = 0 by omega, IntKind.wrap_u64]; simp; omega
      rw [hx.out] at HW
      have g5 := zero_or h a1 a2
      have g6 := or_self h a1 a2
      generalize X / 2 ^ k = Z at HW ⊢
      clear hm1' hm2' a5 A hj'
      go_enter Tryz.func127, Tryz.ntmps127
      go_wp2
      refine bodyPost_ret (v := .agg #[.int .u64 0, .int .u64 h]) (by simp [results, Tryz.results127, go_sem]) rfl ?_
      exact ⟨0, h, rfl, HW.out, below2 _ _ _⟩
    · have g4 : IntKind.u64.wrap (h * 2 ^ c1) = 0 := wrap_big h _ (by omega)
      have g5 := zero_or 0 (by omega) (by omega)
      have g6 := zero_or _ HW.out.2.2.1 HW.out.2.2.2.1
      generalize X / 2 ^ k = Z at HW ⊢
      clear hm1' hm2' a5 A hj'
      go_enter Tryz.func127, Tryz.ntmps127
      go_wp2
      refine bodyPost_ret (v := .agg #[.int .u64 0, .int .u64 (h / 2 ^ j)]) (by simp [results, Tryz.results127, go_sem]) rfl ?_
      exact ⟨0, _, rfl, HW.out, below2 _ _ _⟩
end Go.Proofs.YtaeekmlnfjimjaaGreatDoor
/-
  Contracts of package floats's machine: formats, exponents, powers of two.
-/
namespace Go.Proofs.YtaeekmlnfjimjaaGreatDoor
open Go.RowKit Go.Shelf
attribute [local go_sem] eqNil neqNil

theorem one_any (w : World) : Calls Tryz.prog 136 #[] w fun e w' => e = .returned (.agg #[.int .u64 0, .int .u64 1]) ∧ Below w.heap.size w w' := by
  go_enter Tryz.func136, Tryz.ntmps136
  go_wp2
  refine bodyPost_ret (v := .agg #[.int .u64 0, .int .u64 1]) (by simp [results, Tryz.results136, go_sem]) rfl ?_
  exact ⟨rfl, (Below.refl _ _).alloc (Nat.le_refl _) _⟩

/-- two values stored in block g -/
theorem stored2 (g : Nat) (w : World) (a b : Value) : Only g w ((w.setCell ⟨g, 0, none⟩ a).setCell ⟨g, 1, none⟩ b) := ((Only.refl g w).set _ _).set _ _

theorem bit_any (w : World) (k : Int) (h0 : 0 ≤ k) (h1 : k ≤ 127) : Calls Tryz.prog 171 #[.int .i64 k] w (WPost w (2 ^ k.toNat)) := by
  obtain ⟨k, rfl⟩ := Int.eq_ofNat_of_zero_le h0
  rw [Int.toNat_natCast]
  have hX : Hid ((1 : Int) * 2 ^ k % two128 = 2 ^ k) := Lib.hid (by
    rw [Int.one_mul]
    refine Int.emod_eq_of_lt (Int.le_of_lt (p2pos k)) ?_
    unfold two128
    obtain ⟨d, hd⟩ : ∃ d, 128 = k + (d + 1) := ⟨127 - k, by omega⟩
    rw [hd, Int.pow_add, Int.pow_succ]
    have h2 := Int.mul_le_mul_of_nonneg_left (show (1 : Int) ≤ 2 ^ d from p2pos d) (Int.le_of_lt (p2pos k))
    have h3 : (2 : Int) ^ k * (2 ^ d * 2) = 2 ^ k * 2 ^ d * 2 := by grind
    have := p2pos k
    omega)
  have HB0 : Hid (Below w.heap.size w (w.alloc (.cells #[.int .u64 0, .int .u64 0] 26))) := Lib.hid ((Below.refl _ _).alloc (Nat.le_refl _) _)
  have hl := fun W => wleft_any W 0 1 1 ⟨by omega, by omega, by omega, by omega, by omega⟩ k (by omega)
  have HL := Lib.hid hl
  clear hl
  go_enter Tryz.func171, Tryz.ntmps171
  go_wp2_with fail
  refine (one_any _).mono ?_
  rintro en w1 ⟨rfl, hb⟩
  have HB1 := Lib.hid hb
  clear hb
  go_wp2_with fail
  refine (HL.out w1).mono ?_
  rintro en w2 ⟨h, l, rfl, hw, hb⟩
  obtain ⟨hc, hf, hz, hbw⟩ := laid_facts (HB1.out.trans (hb.mono HB1.out.size))
  have HB2 := Lib.hid hbw
  have HW := Lib.hid (hX.out ▸ hw)
  clear hb hbw hw
  go_wp2_with fail
  refine bodyPost_ret (v := .agg #[.int .u64 h, .int .u64 l]) (by simp [results, Tryz.results171, go_sem, hc, hz]) rfl ?_
  have ho := stored2 w.heap.size w2 (.int .u64 h) (.int .u64 l)
  exact ⟨h, l, rfl, HW.out, HB2.out.trans (ho.below HB2.out.size (Nat.le_refl _))⟩

theorem boxes2' (w : World) (A B : Array Value) (T U : TypeId) : Box ((w.alloc (.cells A T)).alloc (.cells B U)) w.heap.size A ∧ Box ((w.alloc (.cells A T)).alloc (.cells B U)) (w.heap.size + 1) B ∧
    Below w.heap.size w ((w.alloc (.cells A T)).alloc (.cells B U)) := by
  refine ⟨(Box.new w A T).alloc _, ?_, ((Below.refl _ _).alloc (Nat.le_refl _) _).alloc (by simp) _⟩
  have := Box.new (w.alloc (.cells A T)) B U
  rwa [World.size_alloc] at this

/-- a format -/
def Fmt (E P : Int) : Prop := 2 ≤ E ∧ E ≤ 11 ∧ 2 ≤ P ∧ P ≤ 113 ∧ 5 ≤ E + P

theorem check_yes (w : World) (E P : Int) (h : Fmt E P) : Calls Tryz.prog 145 #[.agg #[.int .i64 E, .int .i64 P]] w (IntPost w 0) := by
  obtain ⟨h1, h2, h3, h4, h5⟩ := h
  go_enter Tryz.func145, Tryz.ntmps145
  go_wp2
  go_ret
  exact ⟨rfl, (Below.refl _ _).alloc (Nat.le_refl _) _⟩
theorem check_no (w : World) (E P : Int) (h : ¬ Fmt E P) : Calls Tryz.prog 145 #[.agg #[.int .i64 E, .int .i64 P]] w (IntPost w 2) := by
  unfold Fmt at h
  rcases (show E < 2 ∨ (2 ≤ E ∧ 11 < E) ∨ (2 ≤ E ∧ E ≤ 11 ∧ P < 2) ∨ (2 ≤ E ∧ E ≤ 11 ∧ 2 ≤ P ∧ 113 < P) ∨ (2 ≤ E ∧ E ≤ 11 ∧ 2 ≤ P ∧ P ≤ 113 ∧ E + P < 5) by omega) with h | ⟨h1, h2⟩ | ⟨h1, h2, h3⟩ | ⟨h1, h2, h3, h4⟩ | ⟨h1, h2, h3, h4, h5⟩
  all_goals
    go_enter Tryz.func145, Tryz.ntmps145
    go_wp2
    go_ret
    exact ⟨rfl, (Below.refl _ _).alloc (Nat.le_refl _) _⟩

end Go.Proofs.YtaeekmlnfjimjaaGreatDoor
/-
  Contracts of package floats's machine: exponents, powers of two.
-/
namespace Go.Proofs.YtaeekmlnfjimjaaGreatDoor
open Go.RowKit Go.Shelf
attribute [local go_sem] eqNil neqNil

/-- the exponent of the greatest value -/
def biasOf (E : Int) : Int := 2 ^ (E - 1).toNat - 1
theorem bias_range {E : Int} (h0 : 2 ≤ E) (h1 : E ≤ 11) : 1 ≤ biasOf E ∧ biasOf E ≤ 1023 := by
  unfold biasOf
  rcases (show E = 2 ∨ E = 3 ∨ E = 4 ∨ E = 5 ∨ E = 6 ∨ E = 7 ∨ E = 8 ∨ E = 9 ∨ E = 10 ∨ E = 11 by omega) with rfl | rfl | rfl | rfl | rfl | rfl | rfl | rfl | rfl | rfl <;> decide

theorem bias_any (w : World) (E P m : Int) (h0 : 2 ≤ E) (h1 : E ≤ 11) : Calls Tryz.prog 156 #[.agg #[.int .i64 E, .int .i64 P, .int .i64 m]] w fun e w' => e = .returned (.int .i64 (biasOf E)) ∧ w' = w.alloc (.cells #[.int .i64 E, .int .i64 P, .int .i64 m] 60) := by
  rcases (show E = 2 ∨ E = 3 ∨ E = 4 ∨ E = 5 ∨ E = 6 ∨ E = 7 ∨ E = 8 ∨ E = 9 ∨ E = 10 ∨ E = 11 by omega) with rfl | rfl | rfl | rfl | rfl | rfl | rfl | rfl | rfl | rfl
  all_goals
    go_enter Tryz.func156, Tryz.ntmps156
    go_wp2
    go_ret
    exact ⟨rfl, rfl⟩

theorem lowest_any (w : World) (E P m : Int) (h0 : 2 ≤ E) (h1 : E ≤ 11) : Calls Tryz.prog 161 #[.agg #[.int .i64 E, .int .i64 P, .int .i64 m]] w (IntPost w (1 - biasOf E)) := by
  have hb := bias_range h0 h1
  have hc := fun W => bias_any W E P m h0 h1
  generalize biasOf E = q at hb hc ⊢
  obtain ⟨hb1, hb2⟩ := hb
  have HC := Lib.hid hc
  clear hc
  go_enter Tryz.func161, Tryz.ntmps161
  go_wp2_with (go_at_call 156; refine (HC.out _).mono ?_; rintro en w' ⟨rfl, rfl⟩)
  go_ret
  exact ⟨rfl, below2 _ _ _⟩

theorem lowest_range {E : Int} (h0 : 2 ≤ E) (h1 : E ≤ 11) : -1022 ≤ 1 - biasOf E ∧ 1 - biasOf E ≤ 0 := by have := bias_range h0 h1; omega

set_option maxHeartbeats 1000000 in
theorem finest_any (w : World) (E P m : Int) (h0 : 2 ≤ E) (h1 : E ≤ 11) (h2 : 2 ≤ P) (h3 : P ≤ 113) : Calls Tryz.prog 214 #[.agg #[.int .i64 E, .int .i64 P, .int .i64 m]] w (IntPost w (1 - biasOf E - P + 1)) := by
  have hb := lowest_range h0 h1
  have hc : ∀ W, Below w.heap.size w W ∧ Box W w.heap.size #[.int .i64 E, .int .i64 P, .int .i64 m] → Calls Tryz.prog 161 #[.agg #[.int .i64 E, .int .i64 P, .int .i64 m]] W fun en w' => en = .returned (.int .i64 (1 - biasOf E)) ∧ Hid (Below w.heap.size w w') ∧ (∀ q, w'.cell? ⟨w.heap.size, q, none⟩ = (#[.int .i64 E, .int .i64 P, .int .i64 m] : Array Value)[q]?) := fun W hW => by
    refine (lowest_any W E P m h0 h1).mono ?_
    rintro en w' ⟨rfl, hb⟩
    exact ⟨rfl, Lib.hid (hW.1.trans (hb.mono hW.1.size)), (hW.2.below hb).cell⟩
  generalize 1 - biasOf E = q at hb hc ⊢
  obtain ⟨hb1, hb2⟩ := hb
  have HC := Lib.hid hc
  clear hc
  have x1 : IntKind.i64.wrap (q - P) = q - P := IntWalk.i64_in _ (by omega)
  have x2 : IntKind.i64.wrap (q - P + 1) = q - P + 1 := IntWalk.i64_in _ (by omega)
  go_enter Tryz.func214, Tryz.ntmps214
  go_wp2_with fail
  have hA := Box.new w #[.int .i64 E, .int .i64 P, .int .i64 m] 60
  have hW0 : Below w.heap.size w (w.alloc (.cells #[.int .i64 E, .int .i64 P, .int .i64 m] 60)) := (Below.refl _ _).alloc (Nat.le_refl _) _
  generalize hW : w.alloc (.cells #[.int .i64 E, .int .i64 P, .int .i64 m] 60) = W at hA hW0 ⊢
  clear hW
  have cA := hA.cell
  have HD : Hid (Below w.heap.size w W.drew ∧ Box W.drew w.heap.size #[.int .i64 E, .int .i64 P, .int .i64 m]) := Lib.hid ⟨hW0.trans ((Drw.step W 1).below _), hA.below ((Drw.step W 1).below _)⟩
  clear hA hW0
  generalize hg : w.heap.size = g at *
  have HG := Lib.hid hg
  clear hg
  go_region_with (go_at_call 161; refine (HC.out _ HD.out).mono ?_; rintro en w1 ⟨rfl, H1, cA1⟩)
  all_goals
    go_wp2_with fail
    go_ret
    exact ⟨rfl, by rw [HG.out]; exact H1.out⟩

/-- the boxes of a call that goes on: a number among them -/
theorem boxes2n (w : World) (A B : Array Value) (T U : TypeId) : Hid (Two w ((w.alloc (.cells A T)).alloc (.cells B U)) w.heap.size A B) := Lib.hid (by
  obtain ⟨a, b, c⟩ := boxes2' w A B T U
  exact ⟨c, a, b⟩)

set_option maxRecDepth 100000 in
set_option maxHeartbeats 1000000 in
theorem shifted_any (w : World) (v : Value) (K k d : Int) (h : Dn w v K k) (hK : -sml < K ∧ K < sml) (hk : -50000 ≤ k ∧ k ≤ 50000) (hd : -20000 ≤ d ∧ d ≤ 20000) :
    Calls Tryz.prog 182 #[v, .int .i64 d] w (DnPost w K (k + d)) := by
  obtain ⟨s, t, e, h1, h2⟩ := h
  obtain ⟨b0, b1, b2⟩ := h2.bounds hK hk
  have n0 := h1
  obtain ⟨bo, la, ca, rfl, ht⟩ := h1.nilb
  have h3 : Dr s t (if t = 0 then e else e + d) K (k + d) := by
    rcases h2 with ⟨rfl, rfl, rfl, rfl⟩ | ⟨x1, hp, j, rfl, rfl⟩
    · exact .inl ⟨rfl, rfl, rfl, rfl⟩
    · rw [if_neg (by omega)]
      exact .inr ⟨x1, hp, j, by omega, rfl⟩
  have HS : Hid (∀ W, Below w.heap.size w W → Calls Tryz.prog 219 #[.agg #[.bool s, .slice bo la ca, .slice none 0 0, .int .i64 e], .int .i64 d] W (NmErrPost W s t 1 (if t = 0 then e else e + d) 0)) := Lib.hid (fun W hb => shift_any W _ s t 1 e d (n0.below hb) hd.1 hd.2 b0 b1)
  generalize (if t = 0 then e else e + d) = q at HS h3
  have H3 := Lib.hid h3
  clear h1 h2 h3 n0 ht b0 b1 b2 hK hk hd
  go_enter Tryz.func182, Tryz.ntmps182
  go_wp2_with fail
  have HT := boxes2n w #[.bool s, .slice bo la ca, .slice none 0 0, .int .i64 e] #[.bool false, .slice none 0 0, .slice none 0 0, .int .i64 0] 49 49
  refine (HS.out _ HT.out.1).mono ?_
  rintro en w1 ⟨v1, rfl, hv, hb⟩
  obtain ⟨o, l, c, o2, l2, c2, rfl, hv1, hv2⟩ := hv.ex
  have HV := Lib.hid hv
  have HT1 := Lib.hid (HT.out.next hb)
  clear hb hv hv1 hv2
  have cB := HT1.out.2.2.cell
  have fB := HT1.out.2.2.free
  have lB := HT1.out.2.2.lt
  go_wp2_with fail
  refine bodyPost_ret (v := .agg #[.bool s, .slice o l c, .slice o2 l2 c2, .int .i64 q]) (by simp [results, Tryz.results182, go_sem, cB, lB]) rfl ?_
  have ho := Stored.only (w.heap.size + 1) w1 s o l c o2 l2 c2 q
  have hn := HV.out.only ho HT1.out.2.2.noW
  have hb1 : Below w.heap.size w (Stored (w.heap.size + 1) w1 s o l c o2 l2 c2 q) := HT1.out.1.trans (ho.below HT1.out.1.size (by omega))
  exact ⟨_, rfl, ⟨s, t, q, hn.below ((Below.refl _ _).alloc (Nat.le_refl _) _), H3.out⟩, hb1.alloc hb1.size _⟩

end Go.Proofs.YtaeekmlnfjimjaaGreatDoor
/-
  Contracts of package floats's machine: the words of infinity and of the quiet NaN, signs.
-/
namespace Go.Proofs.YtaeekmlnfjimjaaGreatDoor
open Go.RowKit Go.Shelf
attribute [local go_sem] eqNil neqNil

theorem p2_mod {k : Nat} (h : k ≤ 127) : (2 : Int) ^ k % two128 = 2 ^ k := by
  refine Int.emod_eq_of_lt (Int.le_of_lt (p2pos k)) ?_
  unfold two128
  obtain ⟨d, hd⟩ : ∃ d, 128 = k + (d + 1) := ⟨127 - k, by omega⟩
  rw [hd, Int.pow_add, Int.pow_succ]
  have h2 := Int.mul_le_mul_of_nonneg_left (show (1 : Int) ≤ 2 ^ d from p2pos d) (Int.le_of_lt (p2pos k))
  have h3 : (2 : Int) ^ k * (2 ^ d * 2) = 2 ^ k * 2 ^ d * 2 := by grind
  have := p2pos k
  omega
theorem p2_le {a b : Nat} (h : a ≤ b) : (2 : Int) ^ a ≤ 2 ^ b := by
  obtain ⟨d, rfl⟩ := Nat.exists_eq_add_of_le h
  rw [Int.pow_add]
  have := Int.mul_le_mul_of_nonneg_left (show (1 : Int) ≤ 2 ^ d from p2pos d) (Int.le_of_lt (p2pos a))
  omega
theorem p2_lt128 {k : Nat} (h : k ≤ 127) : (2 : Int) ^ k < two128 := by rw [← p2_mod h]; exact Int.emod_lt_of_pos _ (by rw [two128_eq]; omega)

/-- the word of infinity -/
def infOf (E P : Int) : Int := 2 ^ (E + P - 1).toNat - 2 ^ (P - 1).toNat
theorem inf_range {E P : Int} (h : Fmt E P) : 0 < infOf E P ∧ infOf E P < 2 ^ (E + P - 1).toNat ∧ infOf E P < two128 := by
  obtain ⟨h1, h2, h3, h4, h5⟩ := h
  unfold infOf
  have a := p2_lt128 (k := (E + P - 1).toNat) (by omega)
  have b := p2pos (P - 1).toNat
  have c := p2_le (a := (P - 1).toNat + 1) (b := (E + P - 1).toNat) (by omega)
  rw [Int.pow_succ] at c
  omega

set_option maxRecDepth 100000 in
set_option maxHeartbeats 1000000 in
theorem infinity_any (w : World) (E P m : Int) (h : Fmt E P) : Calls Tryz.prog 104 #[.agg #[.int .i64 E, .int .i64 P, .int .i64 m]] w (WPost w (infOf E P)) := by
  have HX : Hid ((2 ^ (E + P - 1).toNat - 2 ^ (P - 1).toNat) % two128 = infOf E P) := Lib.hid (by
    have := inf_range h
    exact Int.emod_eq_of_lt (by unfold infOf at this; omega) this.2.2)
  obtain ⟨h1, h2, h3, h4, h5⟩ := h
  have x1 : IntKind.i64.wrap (E + P) = E + P := IntWalk.i64_in _ (by omega)
  have x2 : IntKind.i64.wrap (E + P - 1) = E + P - 1 := IntWalk.i64_in _ (by omega)
  have x3 : IntKind.i64.wrap (P - 1) = P - 1 := IntWalk.i64_in _ (by omega)
  go_enter Tryz.func104, Tryz.ntmps104
  go_wp2_with fail
  obtain ⟨hA, hB, hW0⟩ := boxes2' w #[.int .i64 E, .int .i64 P, .int .i64 m] #[.int .u64 0, .int .u64 0] 60 26
  generalize hW : (w.alloc (.cells #[.int .i64 E, .int .i64 P, .int .i64 m] 60)).alloc (.cells #[.int .u64 0, .int .u64 0] 26) = W at hA hB hW0 ⊢
  clear hW
  have H0 : Hid (Two w W.drew w.heap.size #[.int .i64 E, .int .i64 P, .int .i64 m] #[.int .u64 0, .int .u64 0]) := Lib.hid ⟨hW0.trans ((Drw.step W 1).below _), hA.below ((Drw.step W 1).below _), hB.below ((Drw.step W 1).below _)⟩
  have c0 : W.cell? ⟨w.heap.size, 0, none⟩ = some (.int .i64 E) := hA.cell 0
  have c1 : W.cell? ⟨w.heap.size, 1, none⟩ = some (.int .i64 P) := hA.cell 1
  clear hA hB hW0
  generalize hg : w.heap.size = g at *
  have HG := Lib.hid hg
  clear hg
  have step : ∀ (W1 W2 : World), Two w W1 g #[.int .i64 E, .int .i64 P, .int .i64 m] #[.int .u64 0, .int .u64 0] → Below W1.heap.size W1 W2 → Hid (Two w W2 g #[.int .i64 E, .int .i64 P, .int .i64 m] #[.int .u64 0, .int .u64 0]) ∧ W2.cell? ⟨g, 0, none⟩ = some (.int .i64 E) ∧ W2.cell? ⟨g, 1, none⟩ = some (.int .i64 P) := fun W1 W2 a b =>
    ⟨Lib.hid (a.next b), (a.next b).2.1.cell 0, (a.next b).2.1.cell 1⟩
  have HSt := Lib.hid step
  have K1 : Hid (∀ W1, Calls Tryz.prog 171 #[.int .i64 (E + P - 1)] W1 (WPost W1 (2 ^ (E + P - 1).toNat))) := Lib.hid fun W1 => bit_any W1 _ (by omega) (by omega)
  have K2 : Hid (∀ W1, Calls Tryz.prog 171 #[.int .i64 (P - 1)] W1 (WPost W1 (2 ^ (P - 1).toNat))) := Lib.hid fun W1 => bit_any W1 _ (by omega) (by omega)
  clear step
  go_region_held3 (fun w' => w'.cell? ⟨g, 0, none⟩ = some (.int .i64 E) ∧ w'.cell? ⟨g, 1, none⟩ = some (.int .i64 P)) (first | go_keep | exact ⟨by assumption, by assumption⟩)
    (first
      | (go_at_call 171; (with_reducible refine (K1.out _).mono ?_); rintro en w1 ⟨a1, b1, rfl, W1, hb1⟩; obtain ⟨H1, d10, d11⟩ := HSt.out _ _ H0.out hb1; clear hb1)
      | (go_at_call 171; (with_reducible refine (K2.out _).mono ?_); rintro en w2 ⟨a2, b2, rfl, W2, hb2⟩; obtain ⟨H2, d20, d21⟩ := HSt.out _ _ H1.out hb2; clear hb2)
      | (go_at_call 137; refine (minus_any _ _ _ _ _ _ _ W1 W2).mono ?_; rintro en w3 ⟨a3, b3, rfl, W3, hb3⟩; obtain ⟨H3, d30, d31⟩ := HSt.out _ _ H2.out hb3; have cB := H3.out.2.2.cell; have fB := H3.out.2.2.free; clear hb3))
  have lB := H3.out.2.2.lt
  have W4 := Lib.hid (HX.out ▸ W3)
  clear W1 W2 W3 d10 d11 d20 d21 d30 d31
  go_wp2_with fail
  refine bodyPost_ret (v := .agg #[.int .u64 a3, .int .u64 b3]) (by simp [results, Tryz.results104, go_sem, cB, lB]) rfl ?_
  have ho := stored2 (g + 1) w3 (.int .u64 a3) (.int .u64 b3)
  exact ⟨a3, b3, rfl, W4.out, H3.out.1.trans (ho.below H3.out.1.size (by have := HG.out; omega))⟩

/-- the word of the quiet NaN with the payload 0 -/
def quietOf (E P : Int) : Int := infOf E P + 2 ^ (P - 2).toNat
theorem quiet_range {E P : Int} (h : Fmt E P) : infOf E P < quietOf E P ∧ quietOf E P < 2 ^ (E + P - 1).toNat ∧ quietOf E P < two128 := by
  have hi := inf_range h
  obtain ⟨h1, h2, h3, h4, h5⟩ := h
  unfold quietOf
  have b := p2pos (P - 2).toNat
  have c := p2_le (a := (P - 2).toNat + 1) (b := (P - 1).toNat) (by omega)
  rw [Int.pow_succ] at c
  have a := p2_lt128 (k := (E + P - 1).toNat) (by omega)
  unfold infOf at *
  omega

set_option maxRecDepth 100000 in
set_option maxHeartbeats 1000000 in
theorem quiet_any (w : World) (E P m : Int) (h : Fmt E P) : Calls Tryz.prog 146 #[.agg #[.int .i64 E, .int .i64 P, .int .i64 m]] w (WPost w (quietOf E P)) := by
  have HX : Hid ((infOf E P + 2 ^ (P - 2).toNat) % two128 = quietOf E P) := Lib.hid (by
    have := quiet_range h
    have := inf_range h
    have := p2pos (P - 2).toNat
    exact Int.emod_eq_of_lt (by omega) (by unfold quietOf at *; omega))
  have K1 : Hid (∀ W1, Calls Tryz.prog 104 #[.agg #[.int .i64 E, .int .i64 P, .int .i64 m]] W1 (WPost W1 (infOf E P))) := Lib.hid fun W1 => infinity_any W1 E P m h
  obtain ⟨h1, h2, h3, h4, h5⟩ := h
  have x3 : IntKind.i64.wrap (P - 2) = P - 2 := IntWalk.i64_in _ (by omega)
  go_enter Tryz.func146, Tryz.ntmps146
  go_wp2_with fail
  obtain ⟨hA, hB, hW0⟩ := boxes2' w #[.int .i64 E, .int .i64 P, .int .i64 m] #[.int .u64 0, .int .u64 0] 60 26
  generalize hW : (w.alloc (.cells #[.int .i64 E, .int .i64 P, .int .i64 m] 60)).alloc (.cells #[.int .u64 0, .int .u64 0] 26) = W at hA hB hW0 ⊢
  clear hW
  have H0 : Hid (Two w W.drew w.heap.size #[.int .i64 E, .int .i64 P, .int .i64 m] #[.int .u64 0, .int .u64 0]) := Lib.hid ⟨hW0.trans ((Drw.step W 1).below _), hA.below ((Drw.step W 1).below _), hB.below ((Drw.step W 1).below _)⟩
  have c0 : W.cell? ⟨w.heap.size, 0, none⟩ = some (.int .i64 E) := hA.cell 0
  have c1 : W.cell? ⟨w.heap.size, 1, none⟩ = some (.int .i64 P) := hA.cell 1
  have c2 : W.cell? ⟨w.heap.size, 2, none⟩ = some (.int .i64 m) := hA.cell 2
  clear hA hB hW0
  generalize hg : w.heap.size = g at *
  have HG := Lib.hid hg
  clear hg
  have step : ∀ (W1 W2 : World), Two w W1 g #[.int .i64 E, .int .i64 P, .int .i64 m] #[.int .u64 0, .int .u64 0] → Below W1.heap.size W1 W2 → Hid (Two w W2 g #[.int .i64 E, .int .i64 P, .int .i64 m] #[.int .u64 0, .int .u64 0]) ∧ W2.cell? ⟨g, 0, none⟩ = some (.int .i64 E) ∧ W2.cell? ⟨g, 1, none⟩ = some (.int .i64 P) ∧ W2.cell? ⟨g, 2, none⟩ = some (.int .i64 m) := fun W1 W2 a b =>
    ⟨Lib.hid (a.next b), (a.next b).2.1.cell 0, (a.next b).2.1.cell 1, (a.next b).2.1.cell 2⟩
  have HSt := Lib.hid step
  have K2 : Hid (∀ W1, Calls Tryz.prog 171 #[.int .i64 (P - 2)] W1 (WPost W1 (2 ^ (P - 2).toNat))) := Lib.hid fun W1 => bit_any W1 _ (by omega) (by omega)
  clear step
  go_region_held3 (fun w' => w'.cell? ⟨g, 0, none⟩ = some (.int .i64 E) ∧ w'.cell? ⟨g, 1, none⟩ = some (.int .i64 P) ∧ w'.cell? ⟨g, 2, none⟩ = some (.int .i64 m)) (first | go_keep | exact ⟨by assumption, by assumption, by assumption⟩)
    (first
      | (go_at_call 104; refine (K1.out _).mono ?_; rintro en w1 ⟨a1, b1, rfl, W1, hb1⟩; obtain ⟨H1, d10, d11, d12⟩ := HSt.out _ _ H0.out hb1; clear hb1)
      | (go_at_call 171; refine (K2.out _).mono ?_; rintro en w2 ⟨a2, b2, rfl, W2, hb2⟩; obtain ⟨H2, d20, d21, d22⟩ := HSt.out _ _ H1.out hb2; clear hb2)
      | (go_at_call 138; refine (plus_any _ _ _ _ _ _ _ W1 W2).mono ?_; rintro en w3 ⟨a3, b3, rfl, W3, hb3⟩; obtain ⟨H3, d30, d31, d32⟩ := HSt.out _ _ H2.out hb3; have cB := H3.out.2.2.cell; have fB := H3.out.2.2.free; clear hb3))
  have lB := H3.out.2.2.lt
  have W4 := Lib.hid (HX.out ▸ W3)
  clear W1 W2 W3 d10 d11 d12 d20 d21 d22 d30 d31 d32
  go_wp2_with fail
  refine bodyPost_ret (v := .agg #[.int .u64 a3, .int .u64 b3]) (by simp [results, Tryz.results146, go_sem, cB, lB]) rfl ?_
  have ho := stored2 (g + 1) w3 (.int .u64 a3) (.int .u64 b3)
  exact ⟨a3, b3, rfl, W4.out, H3.out.1.trans (ho.below H3.out.1.size (by have := HG.out; omega))⟩
end Go.Proofs.YtaeekmlnfjimjaaGreatDoor
/-
  Contracts of package floats's machine: signed, unsigned.
-/
namespace Go.Proofs.YtaeekmlnfjimjaaGreatDoor
open Go.RowKit Go.Shelf
attribute [local go_sem] eqNil neqNil

/-- three boxes -/
def Three (w W : World) (g : Nat) (A B C : Array Value) : Prop := Below w.heap.size w W ∧ Box W g A ∧ Box W (g + 1) B ∧ Box W (g + 1 + 1) C
theorem Three.next {w W W' : World} {g : Nat} {A B C : Array Value} (h : Three w W g A B C) (hb : Below W.heap.size W W') : Three w W' g A B C := ⟨h.1.trans (hb.mono h.1.size), h.2.1.below hb, h.2.2.1.below hb, h.2.2.2.below hb⟩
theorem boxes3' (w : World) (A B C : Array Value) (T U V : TypeId) : Three w (((w.alloc (.cells A T)).alloc (.cells B U)).alloc (.cells C V)) w.heap.size A B C := by
  refine ⟨(((Below.refl _ _).alloc (Nat.le_refl _) _).alloc (by simp) _).alloc (by simp; omega) _, ((Box.new w A T).alloc _).alloc _, ?_, ?_⟩
  · have := (Box.new (w.alloc (.cells A T)) B U).alloc (.cells C V)
    rwa [World.size_alloc] at this
  · have := Box.new ((w.alloc (.cells A T)).alloc (.cells B U)) C V
    rwa [World.size_alloc, World.size_alloc] at this

/-- the bit of the sign -/
def signOf (E P : Int) : Int := 2 ^ (E + P - 1).toNat
theorem sign_range {E P : Int} (h : Fmt E P) : 0 < signOf E P ∧ 2 * signOf E P < two128 := by
  obtain ⟨h1, h2, h3, h4, h5⟩ := h
  unfold signOf
  have a := p2_lt128 (k := (E + P - 1).toNat + 1) (by omega)
  rw [Int.pow_succ] at a
  have := p2pos (E + P - 1).toNat
  omega

set_option maxRecDepth 100000 in
theorem signed_no (w : World) (E P m h l : Int) :
    Calls Tryz.prog 103 #[.agg #[.int .i64 E, .int .i64 P, .int .i64 m], .bool false, .agg #[.int .u64 h, .int .u64 l]] w fun e w' => e = .returned (.agg #[.int .u64 h, .int .u64 l]) ∧ Below w.heap.size w w' := by
  go_enter Tryz.func103, Tryz.ntmps103
  go_wp2
  refine bodyPost_ret (v := .agg #[.int .u64 h, .int .u64 l]) (by simp [results, Tryz.results103, go_sem]) rfl ?_
  exact ⟨rfl, below3 _ _ _ _⟩

set_option maxRecDepth 100000 in
set_option maxHeartbeats 1000000 in
theorem signed_yes (w : World) (E P m h l X : Int) (hf : Fmt E P) (hw : Wn h l X) (hX : X < signOf E P) :
    Calls Tryz.prog 103 #[.agg #[.int .i64 E, .int .i64 P, .int .i64 m], .bool true, .agg #[.int .u64 h, .int .u64 l]] w (WPost w (X + signOf E P)) := by
  have HX : Hid ((X + 2 ^ (E + P - 1).toNat) % two128 = X + signOf E P) := Lib.hid (by
    have := sign_range hf
    have := hw.range
    exact Int.emod_eq_of_lt (by unfold signOf at *; omega) (by unfold signOf at *; omega))
  obtain ⟨h1, h2, h3, h4, h5⟩ := hf
  have HWn := Lib.hid hw
  clear hw hX
  have x1 : IntKind.i64.wrap (E + P) = E + P := IntWalk.i64_in _ (by omega)
  have x2 : IntKind.i64.wrap (E + P - 1) = E + P - 1 := IntWalk.i64_in _ (by omega)
  go_enter Tryz.func103, Tryz.ntmps103
  go_wp2_with fail
  have hT := boxes3' w #[.int .i64 E, .int .i64 P, .int .i64 m] #[.int .u64 h, .int .u64 l] #[.int .u64 0, .int .u64 0] 60 26 26
  generalize hW : ((w.alloc (.cells #[.int .i64 E, .int .i64 P, .int .i64 m] 60)).alloc (.cells #[.int .u64 h, .int .u64 l] 26)).alloc (.cells #[.int .u64 0, .int .u64 0] 26) = W at hT ⊢
  clear hW
  have H0 : Hid (Three w W.drew w.heap.size #[.int .i64 E, .int .i64 P, .int .i64 m] #[.int .u64 h, .int .u64 l] #[.int .u64 0, .int .u64 0]) := Lib.hid (hT.next ((Drw.step W 1).below _))
  have c0 : W.cell? ⟨w.heap.size, 0, none⟩ = some (.int .i64 E) := hT.2.1.cell 0
  have c1 : W.cell? ⟨w.heap.size, 1, none⟩ = some (.int .i64 P) := hT.2.1.cell 1
  have c2 : W.cell? ⟨w.heap.size + 1, 0, none⟩ = some (.int .u64 h) := hT.2.2.1.cell 0
  have c3 : W.cell? ⟨w.heap.size + 1, 1, none⟩ = some (.int .u64 l) := hT.2.2.1.cell 1
  clear hT
  generalize hg : w.heap.size = g at *
  have HG := Lib.hid hg
  clear hg
  have step : ∀ (W1 W2 : World), Three w W1 g #[.int .i64 E, .int .i64 P, .int .i64 m] #[.int .u64 h, .int .u64 l] #[.int .u64 0, .int .u64 0] → Below W1.heap.size W1 W2 → Hid (Three w W2 g #[.int .i64 E, .int .i64 P, .int .i64 m] #[.int .u64 h, .int .u64 l] #[.int .u64 0, .int .u64 0]) ∧ W2.cell? ⟨g, 0, none⟩ = some (.int .i64 E) ∧ W2.cell? ⟨g, 1, none⟩ = some (.int .i64 P) ∧ W2.cell? ⟨g + 1, 0, none⟩ = some (.int .u64 h) ∧ W2.cell? ⟨g + 1, 1, none⟩ = some (.int .u64 l) := fun W1 W2 a b =>
    ⟨Lib.hid (a.next b), (a.next b).2.1.cell 0, (a.next b).2.1.cell 1, (a.next b).2.2.1.cell 0, (a.next b).2.2.1.cell 1⟩
  have HSt := Lib.hid step
  have K1 : Hid (∀ W1, Calls Tryz.prog 171 #[.int .i64 (E + P - 1)] W1 (WPost W1 (2 ^ (E + P - 1).toNat))) := Lib.hid fun W1 => bit_any W1 _ (by omega) (by omega)
  clear step
  go_region_held3 (fun w' => w'.cell? ⟨g, 0, none⟩ = some (.int .i64 E) ∧ w'.cell? ⟨g, 1, none⟩ = some (.int .i64 P) ∧ w'.cell? ⟨g + 1, 0, none⟩ = some (.int .u64 h) ∧ w'.cell? ⟨g + 1, 1, none⟩ = some (.int .u64 l)) (first | exact ⟨by assumption, by assumption, by assumption, by assumption⟩ | (simp [go_sem, *]; done) | go_keep)
    (first
      | (go_at_call 171; refine (K1.out _).mono ?_; rintro en w1 ⟨a1, b1, rfl, W1, hb1⟩; obtain ⟨H1, d10, d11, d12, d13⟩ := HSt.out _ _ H0.out hb1; clear hb1)
      | (go_at_call 138; refine (plus_any _ _ _ _ _ _ _ HWn.out W1).mono ?_; rintro en w3 ⟨a3, b3, rfl, W3, hb3⟩; obtain ⟨H3, d30, d31, d32, d33⟩ := HSt.out _ _ H1.out hb3; have cB := H3.out.2.2.2.cell; have fB := H3.out.2.2.2.free; clear hb3))
  have lB := H3.out.2.2.2.lt
  have W4 := Lib.hid (HX.out ▸ W3)
  clear W1 W3 d10 d11 d12 d13 d30 d31 d32 d33
  go_wp2_with fail
  refine bodyPost_ret (v := .agg #[.int .u64 a3, .int .u64 b3]) (by simp [results, Tryz.results103, go_sem, cB, lB]) rfl ?_
  have ho := stored2 (g + 1 + 1) w3 (.int .u64 a3) (.int .u64 b3)
  exact ⟨a3, b3, rfl, W4.out, H3.out.1.trans (ho.below H3.out.1.size (by have := HG.out; omega))⟩

def UnPost (w : World) (neg : Bool) (X : Int) (e : Ending) (w' : World) : Prop := ∃ h l, e = .returned (.tuple #[.bool neg, .agg #[.int .u64 h, .int .u64 l]]) ∧ Wn h l X ∧ Below w.heap.size w w'

set_option maxRecDepth 100000 in
set_option maxHeartbeats 1000000 in
theorem unsigned_pos (w : World) (E P m h l X : Int) (hf : Fmt E P) (hw : Wn h l X) (hX : X < signOf E P) :
    Calls Tryz.prog 135 #[.agg #[.int .i64 E, .int .i64 P, .int .i64 m], .agg #[.int .u64 h, .int .u64 l]] w (UnPost w false X) := by
  have HWn := Lib.hid hw
  have hd : decide (X < signOf E P) = true := by simpa using hX
  have HDc := Lib.hid hd
  obtain ⟨h1, h2, h3, h4, h5⟩ := hf
  have K1 : Hid (∀ W1, Calls Tryz.prog 171 #[.int .i64 (E + P - 1)] W1 (WPost W1 (signOf E P))) := Lib.hid fun W1 => bit_any W1 _ (by omega) (by omega)
  clear hw hX hd
  have x1 : IntKind.i64.wrap (E + P) = E + P := IntWalk.i64_in _ (by omega)
  have x2 : IntKind.i64.wrap (E + P - 1) = E + P - 1 := IntWalk.i64_in _ (by omega)
  go_enter Tryz.func135, Tryz.ntmps135
  go_wp2_with fail
  have HT : Hid (Three w _ w.heap.size _ _ _) := Lib.hid (boxes3' w #[.int .i64 E, .int .i64 P, .int .i64 m] #[.int .u64 h, .int .u64 l] #[.int .u64 0, .int .u64 0] 60 26 26)
  refine (K1.out _).mono ?_
  rintro en w1 ⟨a1, b1, rfl, W1, hb⟩
  have HT1 := Lib.hid (HT.out.next hb)
  have HW1 := Lib.hid W1
  clear hb W1
  have cA := HT1.out.2.2.1.cell
  have lA := HT1.out.2.2.1.lt
  go_wp2_with fail
  have hl := less_any (w1.alloc (.cells #[.int .u64 a1, .int .u64 b1] 26)) h l X a1 b1 (signOf E P) HWn.out HW1.out
  rw [HDc.out] at hl
  refine hl.mono ?_
  rintro en w2 ⟨rfl, hb⟩
  have HT2 := Lib.hid ((HT1.out.next ((Below.refl _ _).alloc (Nat.le_refl _) _)).next hb)
  clear hl hb cA lA
  have cA := HT2.out.2.2.1.cell
  have cC := HT2.out.2.2.2.cell
  have fC := HT2.out.2.2.2.free
  have lC := HT2.out.2.2.2.lt
  generalize hg : w.heap.size = g at *
  have HG := Lib.hid hg
  clear hg
  go_wp2_with fail
  go_region
  go_wp2_with fail
  refine bodyPost_ret (v := .tuple #[.bool false, .agg #[.int .u64 h, .int .u64 l]]) (by simp [results, Tryz.results135, go_sem, cC, lC]) rfl ?_
  have ho := stored2 (g + 1 + 1) w2.drew (.int .u64 h) (.int .u64 l)
  have hbb : Below w.heap.size w w2.drew := HT2.out.1.trans ((Drw.step w2 1).below _)
  exact ⟨h, l, rfl, HWn.out, hbb.trans (ho.below hbb.size (by have := HG.out; omega))⟩

set_option maxRecDepth 100000 in
set_option maxHeartbeats 1000000 in
theorem unsigned_neg (w : World) (E P m h l X : Int) (hf : Fmt E P) (hw : Wn h l X) (hX : signOf E P ≤ X) :
    Calls Tryz.prog 135 #[.agg #[.int .i64 E, .int .i64 P, .int .i64 m], .agg #[.int .u64 h, .int .u64 l]] w (UnPost w true (X - signOf E P)) := by
  have HWn := Lib.hid hw
  have hd : decide (X < signOf E P) = false := by simp; omega
  have HDc := Lib.hid hd
  have HX : Hid ((X - signOf E P) % two128 = X - signOf E P) := Lib.hid (by
    have := sign_range hf
    have := hw.range
    exact Int.emod_eq_of_lt (by omega) (by omega))
  obtain ⟨h1, h2, h3, h4, h5⟩ := hf
  have K1 : Hid (∀ W1, Calls Tryz.prog 171 #[.int .i64 (E + P - 1)] W1 (WPost W1 (signOf E P))) := Lib.hid fun W1 => bit_any W1 _ (by omega) (by omega)
  clear hw hX hd
  have x1 : IntKind.i64.wrap (E + P) = E + P := IntWalk.i64_in _ (by omega)
  have x2 : IntKind.i64.wrap (E + P - 1) = E + P - 1 := IntWalk.i64_in _ (by omega)
  go_enter Tryz.func135, Tryz.ntmps135
  go_wp2_with fail
  have HT : Hid (Three w _ w.heap.size _ _ _) := Lib.hid (boxes3' w #[.int .i64 E, .int .i64 P, .int .i64 m] #[.int .u64 h, .int .u64 l] #[.int .u64 0, .int .u64 0] 60 26 26)
  refine (K1.out _).mono ?_
  rintro en w1 ⟨a1, b1, rfl, W1, hb⟩
  have HT1 := Lib.hid (HT.out.next hb)
  have HW1 := Lib.hid W1
  clear hb W1
  have cA := HT1.out.2.2.1.cell
  have lA := HT1.out.2.2.1.lt
  go_wp2_with fail
  have hl := less_any (w1.alloc (.cells #[.int .u64 a1, .int .u64 b1] 26)) h l X a1 b1 (signOf E P) HWn.out HW1.out
  rw [HDc.out] at hl
  refine hl.mono ?_
  rintro en w2 ⟨rfl, hb⟩
  have HT2 := Lib.hid ((HT1.out.next ((Below.refl _ _).alloc (Nat.le_refl _) _)).next hb)
  have HS2 := Lib.hid ((Box.new w1 #[.int .u64 a1, .int .u64 b1] 26).below hb)
  clear hl hb cA lA
  have cA := HT2.out.2.2.1.cell
  have cS := HS2.out.cell
  go_wp2_with fail
  refine (minus_any w2 h l X a1 b1 (signOf E P) HWn.out HW1.out).mono ?_
  rintro en w3 ⟨a3, b3, rfl, W3, hb⟩
  have HT3 := Lib.hid (HT2.out.next hb)
  have HW3 := Lib.hid (HX.out ▸ W3)
  clear hb W3 cA cS
  have cC := HT3.out.2.2.2.cell
  have fC := HT3.out.2.2.2.free
  have lC := HT3.out.2.2.2.lt
  generalize hg : w.heap.size = g at *
  have HG := Lib.hid hg
  clear hg
  go_wp2_with fail
  refine bodyPost_ret (v := .tuple #[.bool true, .agg #[.int .u64 a3, .int .u64 b3]]) (by simp [results, Tryz.results135, go_sem, cC, lC]) rfl ?_
  have ho := stored2 (g + 1 + 1) w3 (.int .u64 a3) (.int .u64 b3)
  exact ⟨a3, b3, rfl, HW3.out, HT3.out.1.trans (ho.below HT3.out.1.size (by have := HG.out; omega))⟩
end Go.Proofs.YtaeekmlnfjimjaaGreatDoor
