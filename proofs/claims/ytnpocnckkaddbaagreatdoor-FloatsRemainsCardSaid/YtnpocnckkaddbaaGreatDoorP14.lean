/-
  Contract of package exact's Cmp, for dyadic numbers.
-/
import Derived.Test.YtnpocnckkaddbaaGreatDoorP13
set_option linter.unusedVariables false
set_option linter.unusedSimpArgs false
set_option linter.unusedSectionVars false
namespace Go.Proofs.YtnpocnckkaddbaaGreatDoor
open Go.RowKit Go.Shelf
attribute [local go_sem] eqNil neqNil

/-- both boxes, and what lies beneath -/
def Two (w W : World) (g : Nat) (A B : Array Value) : Prop := Below w.heap.size w W ∧ Box W g A ∧ Box W (g + 1) B
theorem Two.next {w W W' : World} {g : Nat} {A B : Array Value} (h : Two w W g A B) (hb : Below W.heap.size W W') : Two w W' g A B := ⟨h.1.trans (hb.mono h.1.size), h.2.1.below hb, h.2.2.below hb⟩

set_option maxRecDepth 100000 in
set_option maxHeartbeats 1000000 in
theorem cmpRaw (w : World) (sx sy : Bool) (bo : Option Addr) (la ca : Nat) (bo2 : Option Addr) (lb cb : Nat) (ex ey : Int) (S1 S2 R Q : Int)
    (h1 : ∀ W, Below w.heap.size w W → Calls Tryz.prog 29 #[.agg #[.bool sx, .slice bo la ca, .slice none 0 0, .int .i64 ex]] W (SignPost W S1))
    (h2 : ∀ W, Below w.heap.size w W → Calls Tryz.prog 29 #[.agg #[.bool sy, .slice bo2 lb cb, .slice none 0 0, .int .i64 ey]] W (SignPost W S2))
    (h3 : S1 = S2 → S1 ≠ 0 → ∀ W, Below w.heap.size w W → Calls Tryz.prog 93 #[.agg #[.bool sx, .slice bo la ca, .slice none 0 0, .int .i64 ex], .agg #[.bool sy, .slice bo2 lb cb, .slice none 0 0, .int .i64 ey]] W (IntPost W Q))
    (hQ : -1 ≤ Q ∧ Q ≤ 1) (hS : -1 ≤ S1 ∧ S1 ≤ 1) (hS2 : -1 ≤ S2 ∧ S2 ≤ 1) (r1 : S1 ≠ S2 → R = cmpI S1 S2) (r2 : S1 = S2 → S1 = 0 → R = 0) (r3 : S1 = S2 → S1 ≠ 0 → R = S1 * Q) :
    Calls Tryz.prog 32 #[.agg #[.bool sx, .slice bo la ca, .slice none 0 0, .int .i64 ex], .agg #[.bool sy, .slice bo2 lb cb, .slice none 0 0, .int .i64 ey]] w (IntPost w R) := by
  have H1 := Lib.hid h1
  have H2 := Lib.hid h2
  clear h1 h2
  obtain ⟨q1, q2⟩ := hQ
  obtain ⟨s1, s2⟩ := hS
  obtain ⟨t1, t2⟩ := hS2
  by_cases he : S1 = S2
  · subst he
    have hne : (S1 != S1) = false := by simp
    clear r1
    by_cases h0 : S1 = 0
    · have HR := Lib.hid (r2 rfl h0)
      subst h0
      clear r2 r3 h3
      go_enter Tryz.func32, Tryz.ntmps32
      go_wp2_with fail
      obtain ⟨hA, hB, hW0⟩ := boxes2 w #[.bool sx, .slice bo la ca, .slice none 0 0, .int .i64 ex] #[.bool sy, .slice bo2 lb cb, .slice none 0 0, .int .i64 ey] 47
      have HT : Hid (Two w _ w.heap.size _ _) := Lib.hid ⟨hW0, hA, hB⟩
      clear hA hB hW0
      refine (H1.out _ HT.out.1).mono ?_
      rintro en w1 ⟨rfl, hb⟩
      have HT1 := Lib.hid (HT.out.next hb)
      clear hb
      have cA := HT1.out.2.1.cell
      have cB := HT1.out.2.2.cell
      go_wp2_with fail
      refine (H2.out _ HT1.out.1).mono ?_
      rintro en w2 ⟨rfl, hb⟩
      have HT2 := Lib.hid (HT1.out.next hb)
      clear hb cA cB
      go_wp2_with fail
      go_ret
      exact ⟨by rw [HR.out]; rfl, HT2.out.1⟩
    · have HR := Lib.hid (r3 rfl h0)
      have H3 := Lib.hid (h3 rfl h0)
      have hb0 : (S1 == 0) = false := by simpa using h0
      have x1 : IntKind.i64.wrap (S1 * Q) = S1 * Q := IntWalk.i64_in _ (by
        rcases (show S1 = -1 ∨ S1 = 1 by omega) with rfl | rfl <;> omega)
      clear r2 r3 h3 h0
      go_enter Tryz.func32, Tryz.ntmps32
      go_wp2_with fail
      obtain ⟨hA, hB, hW0⟩ := boxes2 w #[.bool sx, .slice bo la ca, .slice none 0 0, .int .i64 ex] #[.bool sy, .slice bo2 lb cb, .slice none 0 0, .int .i64 ey] 47
      have HT : Hid (Two w _ w.heap.size _ _) := Lib.hid ⟨hW0, hA, hB⟩
      clear hA hB hW0
      refine (H1.out _ HT.out.1).mono ?_
      rintro en w1 ⟨rfl, hb⟩
      have HT1 := Lib.hid (HT.out.next hb)
      clear hb
      have cA := HT1.out.2.1.cell
      have cB := HT1.out.2.2.cell
      go_wp2_with fail
      refine (H2.out _ HT1.out.1).mono ?_
      rintro en w2 ⟨rfl, hb⟩
      have HT2 := Lib.hid (HT1.out.next hb)
      clear hb cA cB
      have cA := HT2.out.2.1.cell
      have cB := HT2.out.2.2.cell
      go_wp2_with fail
      refine (H3.out _ HT2.out.1).mono ?_
      rintro en w3 ⟨rfl, hb⟩
      have HT3 := Lib.hid (HT2.out.next hb)
      clear hb cA cB
      go_wp2_with fail
      go_ret
      exact ⟨by rw [HR.out]; rfl, HT3.out.1⟩
  · have hne : (S1 != S2) = true := by simpa using he
    have HR := Lib.hid (r1 he)
    clear r1 r2 r3 h3 he
    go_enter Tryz.func32, Tryz.ntmps32
    go_wp2_with fail
    obtain ⟨hA, hB, hW0⟩ := boxes2 w #[.bool sx, .slice bo la ca, .slice none 0 0, .int .i64 ex] #[.bool sy, .slice bo2 lb cb, .slice none 0 0, .int .i64 ey] 47
    have HT : Hid (Two w _ w.heap.size _ _) := Lib.hid ⟨hW0, hA, hB⟩
    clear hA hB hW0
    refine (H1.out _ HT.out.1).mono ?_
    rintro en w1 ⟨rfl, hb⟩
    have HT1 := Lib.hid (HT.out.next hb)
    clear hb
    have cA := HT1.out.2.1.cell
    have cB := HT1.out.2.2.cell
    go_wp2_with fail
    refine (H2.out _ HT1.out.1).mono ?_
    rintro en w2 ⟨rfl, hb⟩
    have HT2 := Lib.hid (HT1.out.next hb)
    clear hb cA cB
    have cA := HT2.out.2.1.cell
    have cB := HT2.out.2.2.cell
    go_wp2_with fail
    refine (H2.out _ HT2.out.1).mono ?_
    rintro en w3 ⟨rfl, hb⟩
    have HT3 := Lib.hid (HT2.out.next hb)
    clear hb cA cB
    go_wp2_with (go_at_call 74; refine (cmpInt_any _ _ _).mono ?_; rintro en w' ⟨rfl, rfl⟩)
    go_ret
    exact ⟨by rw [HR.out]; rfl, HT3.out.1⟩

theorem cmpI_neg (a b : Int) : cmpI (-a) (-b) = -1 * cmpI a b := by
  unfold cmpI
  rcases Int.lt_trichotomy a b with h | h | h
  · rw [if_neg (by omega), if_pos (by omega), if_pos h]; rfl
  · subst h; rw [if_neg (by omega), if_neg (by omega), if_neg (by omega), if_neg (by omega)]; rfl
  · rw [if_pos (by omega), if_neg (by omega), if_pos h]; rfl
theorem cmpI_range (a b : Int) : -1 ≤ cmpI a b ∧ cmpI a b ≤ 1 := by unfold cmpI; split <;> (try split) <;> omega
theorem sgnI_range (s : Bool) (t : Int) : -1 ≤ sgnI s t ∧ sgnI s t ≤ 1 := by unfold sgnI; split <;> (try split) <;> omega

theorem cmp_any (w : World) (vx vy : Value) (K L k : Int) (hx : Dn w vx K k) (hy : Dn w vy L k) (hK : -sml < K ∧ K < sml) (hL : -sml < L ∧ L < sml) (hk : -50000 ≤ k ∧ k ≤ 50000) :
    Calls Tryz.prog 32 #[vx, vy] w (IntPost w (cmpI K L)) := by
  obtain ⟨sx, tx, ex, nx, dx⟩ := hx
  obtain ⟨sy, ty, ey, ny, dy⟩ := hy
  have nx0 := nx
  have ny0 := ny
  obtain ⟨bo, la, ca, rfl, tx1⟩ := nx.nilb
  obtain ⟨bo2, lb, cb, rfl, ty1⟩ := ny.nilb
  have h2 := sml_big
  have mx : ∀ (s : Bool) (t : Int) (j : Nat), sg s t * 2 ^ j = sg s (t * 2 ^ j) := by
    intro s t j; cases s
    · rfl
    · exact Int.neg_mul _ _
  have sK : ∀ {s : Bool} {t e K : Int}, Dr s t e K k → (K < 0 ∧ sgnI s t = -1) ∨ (K = 0 ∧ sgnI s t = 0) ∨ (0 < K ∧ sgnI s t = 1) := by
    intro s t e K h
    rcases h with ⟨rfl, rfl, rfl, rfl⟩ | ⟨_, hp, j, _, rfl⟩
    · exact .inr (.inl ⟨rfl, rfl⟩)
    · have := Int.mul_pos hp (p2pos j)
      rw [mx]
      generalize t * 2 ^ j = x at this
      cases s
      · refine .inr (.inr ⟨this, ?_⟩); unfold sgnI; rw [if_neg (by omega)]; rfl
      · refine .inl ⟨by simp [sg]; omega, ?_⟩; unfold sgnI; rw [if_neg (by omega)]; rfl
  have a1 := sK dx
  have a2 := sK dy
  have e3 : ∀ {s : Bool} {t : Int}, 0 < t → (sgnI s t = if s then -1 else 1) := by intro s t h; unfold sgnI; rw [if_neg (by omega)]
  rcases dx with ⟨rfl, rfl, rfl, rfl⟩ | ⟨ox, px, jx, rfl, rfl⟩
  · refine cmpRaw w _ _ _ _ _ _ _ _ _ _ (sgnI false 0) (sgnI sy ty) _ 0 (fun W hb => sign_any W _ _ _ _ _ (nx0.below hb)) (fun W hb => sign_any W _ _ _ _ _ (ny0.below hb)) (fun _ h => absurd rfl h) (by omega) (sgnI_range _ _) (sgnI_range _ _) ?_ ?_ (fun _ h => absurd rfl h)
    · intro hne
      have : sgnI false 0 = 0 := rfl
      rw [this] at hne ⊢
      rcases a2 with ⟨b1, b2⟩ | ⟨b1, b2⟩ | ⟨b1, b2⟩
      · rw [b2, cmpI_gt b1, cmpI_gt (by omega)]
      · omega
      · rw [b2, cmpI_lt b1, cmpI_lt (by omega)]
    · intro he _
      have : sgnI false 0 = 0 := rfl
      rw [this] at he
      rcases a2 with ⟨b1, b2⟩ | ⟨b1, b2⟩ | ⟨b1, b2⟩
      · omega
      · rw [b1, cmpI_eq]
      · omega
  · obtain ⟨a, rfl⟩ : ∃ a, bo = some a := by
      cases bo with
      | none => have := tx1.isNone; simp at this; omega
      | some a => exact ⟨a, rfl⟩
    rcases dy with ⟨rfl, rfl, rfl, rfl⟩ | ⟨oy, py, jy, rfl, rfl⟩
    · refine cmpRaw w _ _ _ _ _ _ _ _ _ _ (sgnI sx tx) (sgnI false 0) _ 0 (fun W hb => sign_any W _ _ _ _ _ (nx0.below hb)) (fun W hb => sign_any W _ _ _ _ _ (ny0.below hb)) (fun h h' => absurd (h.trans rfl) h') (by omega) (sgnI_range _ _) (sgnI_range _ _) ?_ (fun h h' => by
          rcases a1 with ⟨b1, b2⟩ | ⟨b1, b2⟩ | ⟨b1, b2⟩
          · omega
          · rw [b1, cmpI_eq]
          · omega) (fun h h' => absurd (h.trans rfl) h')
      intro hne
      have : sgnI false 0 = 0 := rfl
      rw [this] at hne ⊢
      rcases a1 with ⟨b1, b2⟩ | ⟨b1, b2⟩ | ⟨b1, b2⟩
      · rw [b2, cmpI_lt b1, cmpI_lt (by omega)]
      · omega
      · rw [b2, cmpI_gt b1, cmpI_gt (by omega)]
    · obtain ⟨a2', rfl⟩ : ∃ a, bo2 = some a := by
        cases bo2 with
        | none => have := ty1.isNone; simp at this; omega
        | some a => exact ⟨a, rfl⟩
      rw [mx] at hK hL a1 a2
      rw [mx, mx]
      have qx := (abs_sg (Int.le_of_lt (Int.mul_pos px (p2pos jx)))).1 hK
      have qy := (abs_sg (Int.le_of_lt (Int.mul_pos py (p2pos jy)))).1 hL
      have ix := exp_lt px qx
      have iy := exp_lt py qy
      have bx : tx < big := lt_of_pow (j := jx) px (by omega)
      have by' : ty < big := lt_of_pow (j := jy) py (by omega)
      refine cmpRaw w _ _ _ _ _ _ _ _ _ _ (sgnI sx tx) (sgnI sy ty) _ (cmpI (tx * 2 ^ jx) (ty * 2 ^ jy)) (fun W hb => sign_any W _ _ _ _ _ (nx0.below hb)) (fun W hb => sign_any W _ _ _ _ _ (ny0.below hb)) ?_ (cmpI_range _ _) (sgnI_range _ _) (sgnI_range _ _) ?_ ?_ ?_
      · intro _ _ W hb
        refine cmpSizesRaw W sx sy a la ca a2' lb cb tx ty (k + jx) (k + jy) (tx1.below hb) (ty1.below hb) px py bx by' (by omega) (by omega) _ ?_ ?_ ?_
        · intro h; exact cmpI_lt (cmp_logs px py (by omega))
        · intro h; exact cmpI_gt (cmp_logs py px (by omega))
        · intro h n h1 h2; exact cmpI_shift (by omega)
      · intro hne
        rcases a1 with ⟨b1, b2⟩ | ⟨b1, b2⟩ | ⟨b1, b2⟩ <;> rcases a2 with ⟨c1, c2⟩ | ⟨c1, c2⟩ | ⟨c1, c2⟩ <;> rw [b2, c2] at hne ⊢
        all_goals first
          | exact absurd rfl hne
          | (rw [cmpI_lt (show (_ : Int) < _ by omega), cmpI_lt (by omega)])
          | (rw [cmpI_gt (show (_ : Int) < _ by omega), cmpI_gt (by omega)])
      · intro h h0
        rw [e3 px] at h0
        cases sx <;> simp at h0
      · intro h h0
        rw [e3 px, e3 py] at h
        rw [e3 px]
        cases sx <;> cases sy <;> simp at h
        · show cmpI (tx * 2 ^ jx) (ty * 2 ^ jy) = 1 * _; rw [Int.one_mul]
        · show cmpI (-(tx * 2 ^ jx)) (-(ty * 2 ^ jy)) = _; rw [cmpI_neg]; rfl
end Go.Proofs.YtnpocnckkaddbaaGreatDoor
/-
  Contracts of package exact's scaled and Floor, for dyadic numbers.
-/
namespace Go.Proofs.YtnpocnckkaddbaaGreatDoor
open Go.RowKit Go.Shelf
attribute [local go_sem] eqNil neqNil

theorem natAdd_zero (w : World) (vb : Value) (y : Int) (hb : Nt w vb y) (hy : y < big) (h1 : 0 < y) :
    Calls Tryz.prog 162 #[.slice none 0 0, vb] w (NewNt w (0 + y)) := by
  obtain ⟨b2, off2, cap2, zb, rfl, hB⟩ := hb.pos (by omega)
  have := add_lt w b2 off2 cap2 zb none 0 0 y 0 hB (Nt.zero w) hy hB.pos (by have := ppos zb.length; omega)
  rwa [Int.add_comm] at this

theorem increase2 (w : World) (v : Value) (n : Int) (h : Nt w v n) (hs : n < big) :
    Calls Tryz.prog 234 #[v] w (NewNt w (n + 1)) := by
  by_cases h0 : 0 < n
  · exact increase_any w v n h hs h0
  · obtain rfl : n = 0 := by have := h.nonneg; omega
    obtain rfl := h.nil
    have HB : Hid (Below w.heap.size w (w.alloc (.cells #[.int .u64 1] 24))) := Lib.hid ((Below.refl _ _).alloc (Nat.le_refl _) _)
    have HO := Lib.hid (natOne w)
    clear h hs h0
    go_enter Tryz.func234, Tryz.ntmps234
    go_wp2_with fail
    refine (natAdd_zero _ _ 1 HO.out (by decide +kernel) (by omega)).mono ?_
    rintro e w' ⟨v', rfl, h1, h2⟩
    have H1 := Lib.hid h1
    have H2 := Lib.hid h2
    clear h1 h2
    go_wp2_with fail
    go_ret
    exact ⟨_, rfl, H1.out, HB.out.trans (H2.out.mono HB.out.size)⟩

set_option maxRecDepth 100000 in
set_option maxHeartbeats 1000000 in
theorem scaled_raw (w : World) (s : Bool) (bo : Option Addr) (la ca : Nat) (t e k q : Int) (h : Nt w (.slice bo la ca) t) (he : -1000000 ≤ e ∧ e ≤ 1000000) (hk : -1000000 ≤ k ∧ k ≤ 1000000) (hq : q = k + e) (ht : t * 2 ^ q.toNat < big) :
    Calls Tryz.prog 233 #[.agg #[.bool s, .slice bo la ca, .slice none 0 0, .int .i64 e], .int .i64 k] w (NewNt w (t * 2 ^ q.toNat / 2 ^ (-q).toNat)) := by
  have hb : t < big := by
    have := h.nonneg
    have h2 := Int.mul_le_mul_of_nonneg_left (show (1 : Int) ≤ 2 ^ q.toNat from p2pos _) this
    omega
  have H := Lib.hid (And.intro h (And.intro hb ht))
  obtain ⟨e0, e1⟩ := he
  obtain ⟨k0, k1⟩ := hk
  have HQ := Lib.hid hq
  obtain ⟨m1, hm1⟩ : ∃ m, max q 0 = m := ⟨_, rfl⟩
  obtain ⟨m2, hm2⟩ : ∃ m, max (-q) 0 = m := ⟨_, rfl⟩
  have hm1' := hm1
  have hm2' := hm2
  rw [hq] at hm1 hm2
  have HM : Hid (0 ≤ m1 ∧ m1 < 3000000 ∧ 0 ≤ m2 ∧ m2 < 3000000 ∧ m1.toNat = q.toNat ∧ m2.toNat = (-q).toNat) := Lib.hid (by omega)
  clear h hb ht hq hm1' hm2'
  go_enter Tryz.func233, Tryz.ntmps233
  go_wp2_with fail
  have HB : Hid (Below w.heap.size w (w.alloc (.cells #[.bool s, .slice bo la ca, .slice none 0 0, .int .i64 e] 47))) := Lib.hid ((Below.refl _ _).alloc (Nat.le_refl _) _)
  refine (left_any _ _ t (H.out.1.below HB.out) H.out.2.1 m1 HM.out.1 (by have := HM.out.2.1; omega)).mono ?_
  rintro en w1 ⟨v1, rfl, hv, hb⟩
  rw [HM.out.2.2.2.2.1] at hv
  obtain ⟨hc, hf, hz, hbw⟩ := laid_facts hb
  have HV := Lib.hid hv
  have HBl := Lib.hid hb
  have HB1 := Lib.hid hbw
  clear hv hb hbw hf
  go_wp2_with fail
  refine (right_any w1 _ _ HV.out H.out.2.2 m2 HM.out.2.2.1 (by have := HM.out.2.2.2.1; omega)).mono ?_
  rintro en w2 ⟨v2, rfl, hv2, hb2⟩
  rw [HM.out.2.2.2.2.2] at hv2
  obtain ⟨hc2, hf2, hz2, hbw2⟩ := laid_facts (HBl.out.trans (hb2.mono HBl.out.size))
  have HV2 := Lib.hid hv2
  have HB2 := Lib.hid hbw2
  clear hv2 hb2 hbw2 hf2 hc hz
  go_wp2_with fail
  go_ret
  exact ⟨_, rfl, HV2.out, HB2.out⟩

/-- K 2^k, rounded down -/
theorem Dn.isInt {w : World} {v : Value} {K : Int} {m : Nat} (h : Dn w v K (-(m : Int))) : ∃ s t e, Nm w v s t 1 e ∧ Dr s t e K (-(m : Int)) ∧
    ((0 ≤ e ∧ Dr s t e (K / 2 ^ m) 0) ∨ (e < 0 ∧ 0 < t ∧ K / 2 ^ m = if s then -(t / 2 ^ (-e).toNat + 1) else t / 2 ^ (-e).toNat)) := by
  obtain ⟨s, t, e, h1, h2⟩ := h
  refine ⟨s, t, e, h1, h2, ?_⟩
  rcases h2 with ⟨rfl, rfl, rfl, rfl⟩ | ⟨ht, hp, j, rfl, rfl⟩
  · exact .inl ⟨by omega, .inl ⟨rfl, rfl, rfl, by simp⟩⟩
  · by_cases he : 0 ≤ -(m : Int) + j
    · refine .inl ⟨he, .inr ⟨ht, hp, j - m, by omega, ?_⟩⟩
      rw [show j = (j - m) + m by omega, Int.pow_add, ← Int.mul_assoc, Int.mul_ediv_cancel _ (p2ne m)]
      simp
    · refine .inr ⟨by omega, hp, ?_⟩
      rw [show (-(-(m : Int) + j)).toNat = m - j by omega]
      have e1 : (2 : Int) ^ m = 2 ^ (m - j) * 2 ^ j := by rw [← Int.pow_add]; congr 1; omega
      rw [e1, Int.mul_ediv_mul_of_pos_left _ _ (p2pos j)]
      cases s
      · rfl
      · show (-t) / 2 ^ (m - j) = -(t / 2 ^ (m - j) + 1)
        have hd := Int.mul_ediv_add_emod t (2 ^ (m - j))
        have hr0 := Int.emod_nonneg t (p2ne (m - j))
        have hr1 := Int.emod_lt_of_pos t (p2pos (m - j))
        have hne : t % 2 ^ (m - j) ≠ 0 := by
          intro h0
          have e2 : (2 : Int) ^ (m - j) = 2 * 2 ^ (m - j - 1) := by rw [← Int.pow_succ']; congr 1; omega
          rw [h0, e2, Int.mul_assoc] at hd
          omega
        generalize t / 2 ^ (m - j) = q at *
        generalize t % 2 ^ (m - j) = r at *
        have e3 : -t = (2 ^ (m - j) - r) + 2 ^ (m - j) * (-(q + 1)) := by rw [← hd]; grind
        rw [e3, Int.add_mul_ediv_left _ _ (p2ne _), Int.ediv_eq_zero_of_lt (by omega) (by omega)]
        omega

set_option maxRecDepth 100000 in
set_option maxHeartbeats 1000000 in
theorem floor_any (w : World) (hE : Env w) (v : Value) (K : Int) (m : Nat) (h : Dn w v K (-(m : Int))) (hK : -sml < K ∧ K < sml) (hm : m ≤ 50000) :
    Calls Tryz.prog 190 #[v] w (DnPost w (K / 2 ^ m) 0) := by
  obtain ⟨s, t, e, h1, h2, h3⟩ := h.isInt
  have n0 := h1
  obtain ⟨bo, la, ca, rfl, ht⟩ := h1.nilb
  have hb : -1000000 ≤ e ∧ e ≤ 1000000 ∧ t < big := by
    have := sml_big
    rcases h2 with ⟨rfl, rfl, rfl, rfl⟩ | ⟨_, hp, j, rfl, rfl⟩
    · exact ⟨by omega, by omega, by unfold big; exact ppos _⟩
    · have e1 : sg s t * 2 ^ j = sg s (t * 2 ^ j) := by
        cases s
        · rfl
        · exact Int.neg_mul _ _
      rw [e1] at hK
      have q := (abs_sg (Int.le_of_lt (Int.mul_pos hp (p2pos j)))).1 hK
      have := exp_lt hp q
      exact ⟨by omega, by omega, lt_of_pow (j := j) hp (by omega)⟩
  obtain ⟨e0, e1, hbig⟩ := hb
  have HE := Lib.hid hE
  have HT := Lib.hid (And.intro ht hbig)
  have HN := Lib.hid n0
  clear h h1 n0 hE h2 hK ht hbig
  generalize hR : K / 2 ^ m = R at h3 ⊢
  clear hR
  rcases h3 with ⟨he, hd⟩ | ⟨he, hp, hd⟩
  · have HD := Lib.hid hd
    clear hd
    have hq : decide (0 ≤ e) = true := by simpa using he
    have hall : Hid (∀ W, Below w.heap.size w W → Calls Tryz.prog 35 #[.agg #[.bool s, .slice bo la ca, .slice none 0 0, .int .i64 e]] W (BoolPost W true)) := Lib.hid (fun W hb => by
      have := isInt_any W _ s t 1 e (HN.out.below hb) (by omega)
      rwa [hq] at this)
    go_enter Tryz.func190, Tryz.ntmps190
    go_wp2_with fail
    obtain ⟨hA, hB, hW0⟩ := boxes2 w #[.bool s, .slice bo la ca, .slice none 0 0, .int .i64 e] #[.bool false, .slice none 0 0, .slice none 0 0, .int .i64 0] 47
    have HT2 : Hid (Two w _ w.heap.size _ _) := Lib.hid ⟨hW0, hA, hB⟩
    clear hA hB hW0
    refine (hall.out _ HT2.out.1).mono ?_
    rintro en w1 ⟨rfl, hb⟩
    have HT3 := Lib.hid (HT2.out.next hb)
    clear hb
    have cA := HT3.out.2.1.cell
    have cB := HT3.out.2.2.cell
    have fB := HT3.out.2.2.free
    have lB := HT3.out.2.2.lt
    go_wp2_with fail
    refine bodyPost_ret (v := .agg #[.bool s, .slice bo la ca, .slice none 0 0, .int .i64 e]) (by simp [results, Tryz.results190, go_sem, cB, lB]) rfl ?_
    have ho := Stored.only (w.heap.size + 1) w1 s bo la ca none 0 0 e
    have hn := (HN.out.below HT3.out.1).only ho HT3.out.2.2.noW
    exact ⟨_, rfl, ⟨s, t, e, hn, HD.out⟩, HT3.out.1.trans (ho.below HT3.out.1.size (by omega))⟩
  · have hq : decide (0 ≤ e) = false := by simp; omega
    have hall : Hid (∀ W, Below w.heap.size w W → Calls Tryz.prog 35 #[.agg #[.bool s, .slice bo la ca, .slice none 0 0, .int .i64 e]] W (BoolPost W false)) := Lib.hid (fun W hb => by
      have := isInt_any W _ s t 1 e (HN.out.below hb) (by omega)
      rwa [hq] at this)
    have hsc : Hid (∀ W, Below w.heap.size w W → Calls Tryz.prog 233 #[.agg #[.bool s, .slice bo la ca, .slice none 0 0, .int .i64 e], .int .i64 0] W (NewNt W (t / 2 ^ (-e).toNat))) := Lib.hid (fun W hb => by
      have := scaled_raw W s bo la ca t e 0 e (HT.out.1.below hb) ⟨e0, e1⟩ (by omega) (by omega) (by rw [show e.toNat = 0 by omega]; simpa using HT.out.2)
      rwa [show e.toNat = 0 by omega, Int.pow_zero, Int.mul_one] at this)
    have hlt : Hid (t / 2 ^ (-e).toNat + 1 < big ∧ t / 2 ^ (-e).toNat < big) := Lib.hid (by
      have h1 : t / 2 ^ (-e).toNat < t := by
        rw [Int.ediv_lt_iff_lt_mul (p2pos _)]
        have e2 : (2 : Int) ^ (-e).toNat = 2 * 2 ^ ((-e).toNat - 1) := by rw [← Int.pow_succ']; congr 1; omega
        rw [e2]
        have := Int.mul_le_mul_of_nonneg_left (show (1 : Int) ≤ 2 ^ ((-e).toNat - 1) from p2pos _) (Int.le_of_lt hp)
        have e3 : t * (2 * 2 ^ ((-e).toNat - 1)) = 2 * (t * 2 ^ ((-e).toNat - 1)) := by grind
        omega
      have := HT.out.2
      omega)
    generalize hu : t / 2 ^ (-e).toNat = u at hd hsc hlt
    have HD := Lib.hid hd
    clear hd hu hp
    cases s
    · go_enter Tryz.func190, Tryz.ntmps190
      go_wp2_with fail
      obtain ⟨hA, hB, hW0⟩ := boxes2 w #[.bool false, .slice bo la ca, .slice none 0 0, .int .i64 e] #[.bool false, .slice none 0 0, .slice none 0 0, .int .i64 0] 47
      have HT2 : Hid (Two w _ w.heap.size _ _) := Lib.hid ⟨hW0, hA, hB⟩
      clear hA hB hW0
      refine (hall.out _ HT2.out.1).mono ?_
      rintro en w1 ⟨rfl, hb⟩
      have HT3 := Lib.hid (HT2.out.next hb)
      clear hb
      have cA := HT3.out.2.1.cell
      go_wp2_with fail
      refine (hsc.out _ HT3.out.1).mono ?_
      rintro en w2 ⟨v2, rfl, hv, hb⟩
      have HT4 := Lib.hid (HT3.out.next hb)
      have HV := Lib.hid hv
      clear hb hv cA
      go_wp2_with fail
      refine (whole_any w2 (HE.out.below HT4.out.1) false v2 u HV.out hlt.out.2).mono ?_
      rintro en w3 ⟨v3, rfl, hv, hb⟩
      obtain ⟨s3, o3, l3, c3, o32, l32, c32, x3, rfl⟩ := hv.shape
      have HT5 := Lib.hid (HT4.out.next hb)
      have HV3 := Lib.hid hv
      clear hb hv
      have cB := HT5.out.2.2.cell
      have fB := HT5.out.2.2.free
      have lB := HT5.out.2.2.lt
      go_wp2_with fail
      refine bodyPost_ret (v := .agg #[.bool s3, .slice o3 l3 c3, .slice o32 l32 c32, .int .i64 x3]) (by simp [results, Tryz.results190, go_sem, cB, lB]) rfl ?_
      have ho := Stored.only (w.heap.size + 1) w3 s3 o3 l3 c3 o32 l32 c32 x3
      have hn := HV3.out.only ho HT5.out.2.2.noW
      have hh : R = sg false u := HD.out
      rw [← hh] at hn
      exact ⟨_, rfl, hn, HT5.out.1.trans (ho.below HT5.out.1.size (by omega))⟩
    · go_enter Tryz.func190, Tryz.ntmps190
      go_wp2_with fail
      obtain ⟨hA, hB, hW0⟩ := boxes2 w #[.bool true, .slice bo la ca, .slice none 0 0, .int .i64 e] #[.bool false, .slice none 0 0, .slice none 0 0, .int .i64 0] 47
      have HT2 : Hid (Two w _ w.heap.size _ _) := Lib.hid ⟨hW0, hA, hB⟩
      clear hA hB hW0
      refine (hall.out _ HT2.out.1).mono ?_
      rintro en w1 ⟨rfl, hb⟩
      have HT3 := Lib.hid (HT2.out.next hb)
      clear hb
      have cA := HT3.out.2.1.cell
      go_wp2_with fail
      refine (hsc.out _ HT3.out.1).mono ?_
      rintro en w2 ⟨v2, rfl, hv, hb⟩
      have HT4 := Lib.hid (HT3.out.next hb)
      have HV := Lib.hid hv
      clear hb hv cA
      go_wp2_with fail
      refine (increase2 w2 v2 u HV.out hlt.out.2).mono ?_
      rintro en w2' ⟨v2', rfl, hv, hb⟩
      have HT4' := Lib.hid (HT4.out.next hb)
      have HV' := Lib.hid hv
      clear hb hv
      go_wp2_with fail
      refine (whole_any w2' (HE.out.below HT4'.out.1) true v2' (u + 1) HV'.out hlt.out.1).mono ?_
      rintro en w3 ⟨v3, rfl, hv, hb⟩
      obtain ⟨s3, o3, l3, c3, o32, l32, c32, x3, rfl⟩ := hv.shape
      have HT5 := Lib.hid (HT4'.out.next hb)
      have HV3 := Lib.hid hv
      clear hb hv
      have cB := HT5.out.2.2.cell
      have fB := HT5.out.2.2.free
      have lB := HT5.out.2.2.lt
      go_wp2_with fail
      refine bodyPost_ret (v := .agg #[.bool s3, .slice o3 l3 c3, .slice o32 l32 c32, .int .i64 x3]) (by simp [results, Tryz.results190, go_sem, cB, lB]) rfl ?_
      have ho := Stored.only (w.heap.size + 1) w3 s3 o3 l3 c3 o32 l32 c32 x3
      have hn := HV3.out.only ho HT5.out.2.2.noW
      have hh : R = sg true (u + 1) := HD.out
      rw [← hh] at hn
      exact ⟨_, rfl, hn, HT5.out.1.trans (ho.below HT5.out.1.size (by omega))⟩
end Go.Proofs.YtnpocnckkaddbaaGreatDoor
/-
  Contract of package exact's Int64, for numbers that are integers and not below 0.
-/
namespace Go.Proofs.YtnpocnckkaddbaaGreatDoor
open Go.RowKit Go.Shelf
attribute [local go_sem] eqNil neqNil

def TwoPost (w : World) (x y : Int) (e : Ending) (w' : World) : Prop := e = .returned (.tuple #[.int .i64 x, .int .i64 y]) ∧ Below w.heap.size w w'

theorem word0 {w : World} {v : Value} {t : Int} (h : Nt w v t) (ht : t < 18446744073709551616) : ∀ W, Below w.heap.size w W → Calls Tryz.prog 226 #[v, .int .i64 0] W fun e w' => e = .returned (.int .u64 t) ∧ w' = W := by
  intro W hb
  rcases h with ⟨rfl, rfl⟩ | ⟨b, off, cap, zs, rfl, h⟩
  · exact (word_nil W 0 (by omega) (by omega)).mono fun _ _ h => ⟨h.1, h.2.symm⟩
  · have e1 : pw ^ 1 = 18446744073709551616 := by decide
    have hl : zs.length ≤ 1 := len_of_lt h.wd h.can h.val (k := 1) (by omega)
    have hp := h.pos
    have hz : gd zs 0 = t := by
      have hv := h.val
      match zs, hl, hp with
      | [z], _, _ => simp [nv] at hv; simp [gd]; exact hv
    refine (word_any W _ t b off cap zs rfl (h.below hb) (word_big ht) 0 (by omega) (by omega)).mono ?_
    rintro e w' ⟨rfl, rfl⟩
    exact ⟨by rw [show (0 : Int).toNat = 0 from rfl, hz], rfl⟩

theorem blen_mul {t : Int} (h : 0 < t) (j : Nat) : blen (t * 2 ^ j) = blen t + j := by
  obtain ⟨a1, a2, a3⟩ := blen_spec h
  obtain ⟨c, hc⟩ : ∃ c, blen t = c + 1 := ⟨blen t - 1, by omega⟩
  rw [hc] at a1 a2 ⊢
  simp only [Nat.add_sub_cancel] at a1
  rw [show c + 1 + j = (c + j) + 1 by omega]
  refine blen_unique ?_ ?_
  · rw [Int.pow_add]; exact Int.mul_le_mul_of_nonneg_right a1 (Int.le_of_lt (p2pos j))
  · rw [show c + j + 1 = (c + 1) + j by omega, Int.pow_add]; exact Int.mul_lt_mul_of_pos_right a2 (p2pos j)

theorem blen_lt {x : Int} {k : Nat} (h0 : 0 ≤ x) : blen x ≤ k ↔ x < 2 ^ k := by
  by_cases hx : x = 0
  · subst hx; simp [blen]; exact p2pos k
  · obtain ⟨a1, a2, a3⟩ := blen_spec (show 0 < x by omega)
    constructor
    · intro h
      obtain ⟨d, rfl⟩ := Nat.exists_eq_add_of_le h
      rw [Int.pow_add]
      have := Int.mul_le_mul_of_nonneg_left (show (1 : Int) ≤ 2 ^ d from p2pos d) (Int.le_of_lt (p2pos (blen x)))
      omega
    · intro h
      apply Classical.byContradiction
      intro hc
      obtain ⟨d, hd⟩ : ∃ d, blen x - 1 = k + d := ⟨blen x - 1 - k, by omega⟩
      rw [hd, Int.pow_add] at a1
      have := Int.mul_le_mul_of_nonneg_left (show (1 : Int) ≤ 2 ^ d from p2pos d) (Int.le_of_lt (p2pos k))
      omega

set_option maxRecDepth 100000 in
set_option maxHeartbeats 1000000 in
theorem int64_raw (w : World) (bo : Option Addr) (la ca : Nat) (t e K : Int) (h : Nt w (.slice bo la ca) t) (e0 : 0 ≤ e) (e1 : e ≤ 1000000) (ht : t < big) (hK : K = t * 2 ^ e.toNat) (hz : t = 0 → e = 0) :
    (K < 9223372036854775808 → Calls Tryz.prog 258 #[.agg #[.bool false, .slice bo la ca, .slice none 0 0, .int .i64 e]] w (TwoPost w K 0)) ∧
    (9223372036854775808 ≤ K → Calls Tryz.prog 258 #[.agg #[.bool false, .slice bo la ca, .slice none 0 0, .int .i64 e]] w (TwoPost w 0 7)) := by
  have h0 := h.nonneg
  have hK0 : 0 ≤ K := by rw [hK]; exact Int.mul_nonneg h0 (Int.le_of_lt (p2pos _))
  have n0 : Nm w (.agg #[.bool false, .slice bo la ca, .slice none 0 0, .int .i64 e]) false t 1 e := ⟨_, _, _, _, _, _, rfl, h, .inl ⟨rfl, rfl⟩⟩
  have hq : decide (0 ≤ e) = true := by simpa using e0
  have hall : Hid (∀ W, Below w.heap.size w W → Calls Tryz.prog 35 #[.agg #[.bool false, .slice bo la ca, .slice none 0 0, .int .i64 e]] W (BoolPost W true)) := Lib.hid (fun W hb => by
      have := isInt_any W _ false t 1 e (n0.below hb) (by omega)
      rwa [hq] at this)
  obtain ⟨L, hL⟩ : ∃ L, blen t = L := ⟨_, rfl⟩
  have hLb := blen_big ht
  have hsz : Hid (∀ W, Below w.heap.size w W → Calls Tryz.prog 168 #[.slice bo la ca] W fun en w' => en = .returned (.int .i64 L) ∧ w' = W) := Lib.hid (fun W hb => by
    refine (size_any W _ t (h.below hb) ht).mono ?_
    rintro en w' ⟨rfl, rfl⟩
    exact ⟨by rw [hL], rfl⟩)
  have hbl : blen K = L + e.toNat ∨ (t = 0 ∧ e = 0 ∧ L = 0 ∧ K = 0) := by
    by_cases htz : t = 0
    · right
      have := hz htz
      subst htz this
      exact ⟨rfl, rfl, by rw [← hL]; rfl, by rw [hK]; simp⟩
    · left
      rw [hK, blen_mul (by omega), hL]
  rw [hL] at hLb
  have hlt64 : (L : Int) + e ≤ 64 ↔ K < 18446744073709551616 := by
    have h1 := blen_lt (k := 64) hK0
    rw [show (2 : Int) ^ 64 = 18446744073709551616 from rfl] at h1
    rw [← h1]
    rcases hbl with hbl | ⟨_, he, hL0, hK00⟩
    · rw [hbl]; omega
    · rw [hK00, hL0, he]; simp [blen]
  have x1 : IntKind.i64.wrap ((L : Int) + e) = L + e := IntWalk.i64_in _ (by omega)
  have HB0 : Hid (Below w.heap.size w (w.alloc (.cells #[.bool false, .slice bo la ca, .slice none 0 0, .int .i64 e] 47))) := Lib.hid ((Below.refl _ _).alloc (Nat.le_refl _) _)
  by_cases h64 : (L : Int) + e ≤ 64
  · have hK64 := hlt64.1 h64
    have htK : t ≤ K := by
      rw [hK]
      have := Int.mul_le_mul_of_nonneg_left (show (1 : Int) ≤ 2 ^ e.toNat from p2pos _) h0
      omega
    have hw := Lib.hid (word0 h (by omega))
    have x2 : IntKind.u64.wrap (t * 2 ^ e.toNat) = K := by rw [← hK, IntKind.wrap_u64]; omega
    have x3 : IntKind.u64.wrap e = e := by rw [IntKind.wrap_u64]; omega
    have hgt : decide ((64 : Int) < L + e) = false := by simp; omega
    clear hlt64 hbl hK hL hq n0 h ht hz htK
    constructor
    · intro hK63
      go_enter Tryz.func258, Tryz.ntmps258
      go_wp2_with fail
      refine (hall.out _ HB0.out).mono ?_
      rintro en w1 ⟨rfl, hb⟩
      obtain ⟨hc, hf, hz, hbw⟩ := laid_facts hb
      have HB1 := Lib.hid hbw
      clear hb hbw hf
      go_wp2_with fail
      go_quiet ((go_at_call 168; exact Calls.quiet_of_same (hsz.out _ (HB1.out.trans ((Drw.step _ _).below _)))))
      go_wp2_with fail
      generalize hd : w1.drewN nq = w2
      have hD : Drw w1 w2 := hd ▸ Drw.step w1 _
      have hc2 : ∀ o, w2.cell? ⟨w.heap.size, o, none⟩ = (w.alloc (.cells #[.bool false, .slice bo la ca, .slice none 0 0, .int .i64 e] 47)).cell? ⟨w.heap.size, o, none⟩ := fun o => (hD.cell _).trans (hc o)
      have HB2 := Lib.hid (HB1.out.trans (hD.below _))
      clear hd hD hc hz
      go_quiet ((go_at_call 226; exact Calls.quiet_of_same (hw.out _ (HB2.out.trans ((Drw.step _ _).below _)))))
      go_wp2_with fail
      go_ret2
      exact ⟨rfl, HB2.out.trans ((Drw.step _ _).below _)⟩
    · intro hK63
      go_enter Tryz.func258, Tryz.ntmps258
      go_wp2_with fail
      refine (hall.out _ HB0.out).mono ?_
      rintro en w1 ⟨rfl, hb⟩
      obtain ⟨hc, hf, hz, hbw⟩ := laid_facts hb
      have HB1 := Lib.hid hbw
      clear hb hbw hf
      go_wp2_with fail
      go_quiet ((go_at_call 168; exact Calls.quiet_of_same (hsz.out _ (HB1.out.trans ((Drw.step _ _).below _)))))
      go_wp2_with fail
      generalize hd : w1.drewN nq = w2
      have hD : Drw w1 w2 := hd ▸ Drw.step w1 _
      have hc2 : ∀ o, w2.cell? ⟨w.heap.size, o, none⟩ = (w.alloc (.cells #[.bool false, .slice bo la ca, .slice none 0 0, .int .i64 e] 47)).cell? ⟨w.heap.size, o, none⟩ := fun o => (hD.cell _).trans (hc o)
      have HB2 := Lib.hid (HB1.out.trans (hD.below _))
      clear hd hD hc hz
      go_quiet ((go_at_call 226; exact Calls.quiet_of_same (hw.out _ (HB2.out.trans ((Drw.step _ _).below _)))))
      go_wp2_with fail
      go_ret2
      exact ⟨rfl, HB2.out.trans ((Drw.step _ _).below _)⟩
  · have hK64 : ¬ K < 18446744073709551616 := fun hc => h64 (hlt64.2 hc)
    have hgt : decide ((64 : Int) < L + e) = true := by simp; omega
    refine ⟨fun hc => by omega, fun _ => ?_⟩
    clear hlt64 hbl hK hL hq n0 h ht hz hK64 hK0
    go_enter Tryz.func258, Tryz.ntmps258
    go_wp2_with fail
    refine (hall.out _ HB0.out).mono ?_
    rintro en w1 ⟨rfl, hb⟩
    obtain ⟨hc, hf, hz, hbw⟩ := laid_facts hb
    have HB1 := Lib.hid hbw
    clear hb hbw hf
    go_wp2_with fail
    go_quiet ((go_at_call 168; exact Calls.quiet_of_same (hsz.out _ (HB1.out.trans ((Drw.step _ _).below _)))))
    go_wp2_with fail
    go_ret2
    exact ⟨rfl, HB1.out.trans ((Drw.step _ _).below _)⟩

/-- what a dyadic number's fields are bounded by -/
theorem Dr.bounds {s : Bool} {t e K k : Int} (h : Dr s t e K k) (hK : -sml < K ∧ K < sml) (hk : -50000 ≤ k ∧ k ≤ 50000) : -1000000 ≤ e ∧ e ≤ 1000000 ∧ t < big := by
  have h2 := sml_big
  rcases h with ⟨rfl, rfl, rfl, rfl⟩ | ⟨_, hp, j, rfl, rfl⟩
  · exact ⟨by omega, by omega, by unfold big; exact ppos _⟩
  · have e1 : sg s t * 2 ^ j = sg s (t * 2 ^ j) := by
      cases s
      · rfl
      · exact Int.neg_mul _ _
    rw [e1] at hK
    have q := (abs_sg (Int.le_of_lt (Int.mul_pos hp (p2pos j)))).1 hK
    have := exp_lt hp q
    exact ⟨by omega, by omega, lt_of_pow (j := j) hp (by omega)⟩

theorem int64_any (w : World) (v : Value) (K : Int) (h : Dn w v K 0) (h0 : 0 ≤ K) (hK : K < sml) :
    (K < 9223372036854775808 → Calls Tryz.prog 258 #[v] w (TwoPost w K 0)) ∧ (9223372036854775808 ≤ K → Calls Tryz.prog 258 #[v] w (TwoPost w 0 7)) := by
  obtain ⟨s, t, e, h1, h2⟩ := h
  have hs : -sml < K ∧ K < sml := ⟨by have := h0; have : (0 : Int) < sml := p2pos _; omega, hK⟩
  obtain ⟨b0, b1, b2⟩ := h2.bounds hs (by omega)
  obtain ⟨bo, la, ca, rfl, ht⟩ := h1.nilb
  rcases h2 with ⟨rfl, rfl, rfl, rfl⟩ | ⟨_, hp, j, rfl, rfl⟩
  · exact int64_raw w bo la ca 0 0 0 ht (by omega) (by omega) b2 (by simp) (fun _ => rfl)
  · have hpos := Int.mul_pos hp (p2pos j)
    cases s
    · exact int64_raw w bo la ca t (0 + j) _ ht (by omega) b1 b2 (by rw [show ((0 : Int) + j).toNat = j by omega]; rfl) (fun h => by omega)
    · exfalso
      have : sg true t * 2 ^ j = -(t * 2 ^ j) := Int.neg_mul _ _
      omega

theorem Log_nil (w : World) (v : Value) (s : Bool) (t e : Int) (h : Nm w v s t 1 e) (ht : t < big) (h0 : 0 < t) (he0 : -1000000 ≤ e) (he1 : e ≤ 1000000) :
    Calls Tryz.prog 172 #[v] w (TwoPost w (blen t - 1 + e) 0) := by
  have n0 := h
  obtain ⟨bo, la, ca, rfl, h1⟩ := h.nilb
  obtain ⟨a, rfl⟩ : ∃ a, bo = some a := by
    cases bo with
    | none => have := h1.isNone; simp at this; omega
    | some a => exact ⟨a, rfl⟩
  have HB0 : Hid (Below w.heap.size w (w.alloc (.cells #[.bool s, .slice (some a) la ca, .slice none 0 0, .int .i64 e] 47))) := Lib.hid ((Below.refl _ _).alloc (Nat.le_refl _) _)
  have hl := Lib.hid (log_nil _ _ s t e (n0.below HB0.out) ht h0 he0 he1)
  clear n0 h h1 ht h0
  generalize (blen t : Int) - 1 + e = R at hl ⊢
  go_enter Tryz.func172, Tryz.ntmps172
  go_wp2_with fail
  refine hl.out.mono ?_
  rintro en w1 ⟨rfl, hb⟩
  obtain ⟨hc, hf, hz, hbw⟩ := laid_facts hb
  have HB1 := Lib.hid hbw
  clear hb hbw hf hc hz
  go_wp2_with fail
  go_ret2
  exact ⟨rfl, HB1.out⟩
theorem Log_zero (w : World) (s : Bool) (bo2 : Option Addr) (lb cb : Nat) (e : Int) :
    Calls Tryz.prog 172 #[.agg #[.bool s, .slice none 0 0, .slice bo2 lb cb, .int .i64 e]] w (TwoPost w 0 8) := by
  go_enter Tryz.func172, Tryz.ntmps172
  go_wp2_with fail
  go_ret2
  exact ⟨rfl, (Below.refl _ _).alloc (Nat.le_refl _) _⟩
end Go.Proofs.YtnpocnckkaddbaaGreatDoor
/-
  Contracts of package floats's arithmetic of words: 128 bits, as two words of 64.
-/
namespace Go.Proofs.YtnpocnckkaddbaaGreatDoor
open Go.RowKit Go.Shelf

/-- the words h, l stand for X -/
def Wn (h l X : Int) : Prop := 0 ≤ h ∧ h < 18446744073709551616 ∧ 0 ≤ l ∧ l < 18446744073709551616 ∧ X = h * 18446744073709551616 + l
def WPost (w : World) (X : Int) (e : Ending) (w' : World) : Prop := ∃ h l, e = .returned (.agg #[.int .u64 h, .int .u64 l]) ∧ Wn h l X ∧ Below w.heap.size w w'
def two128 : Int := 2 ^ 128
theorem two128_eq : two128 = 340282366920938463463374607431768211456 := by decide
theorem Wn.range {h l X : Int} (w : Wn h l X) : 0 ≤ X ∧ X < two128 := by
  rw [two128_eq]
  obtain ⟨a, b, c, d, rfl⟩ := w
  omega
theorem Wn.inj {h l h' l' X : Int} (a : Wn h l X) (b : Wn h' l' X) : h = h' ∧ l = l' := by
  obtain ⟨a1, a2, a3, a4, a5⟩ := a
  obtain ⟨b1, b2, b3, b4, b5⟩ := b
  omega

theorem below3 (w : World) (a b c : Obj) : Below w.heap.size w (((w.alloc a).alloc b).alloc c) := (((Below.refl _ _).alloc (Nat.le_refl _) _).alloc (by simp) _).alloc (by simp; omega) _

theorem plus_any (w : World) (h1 l1 X h2 l2 Y : Int) (a : Wn h1 l1 X) (b : Wn h2 l2 Y) :
    Calls Tryz.prog 151 #[.agg #[.int .u64 h1, .int .u64 l1], .agg #[.int .u64 h2, .int .u64 l2]] w (WPost w ((X + Y) % two128)) := by
  obtain ⟨a1, a2, a3, a4, a5⟩ := a
  obtain ⟨b1, b2, b3, b4, b5⟩ := b
  obtain ⟨c, hc⟩ : ∃ c, (l1 + l2) / 18446744073709551616 = c := ⟨_, rfl⟩
  have c0 : 0 ≤ c ∧ c ≤ 1 := by omega
  have HW : Hid (Wn ((h1 + h2 + c) % 18446744073709551616) ((l1 + l2) % 18446744073709551616) ((X + Y) % two128)) := Lib.hid (by
    rw [two128_eq]
    refine ⟨by omega, by omega, by omega, by omega, ?_⟩
    omega)
  generalize (X + Y) % two128 = Z at HW ⊢
  obtain ⟨c1, c2⟩ := c0
  have k1 := fun w => add64_0 l1 l2 a3 b3 w
  have k2 := fun w => add64 h1 h2 c a1 b1 c1 c2 w
  rw [hc] at k1
  generalize hl : (l1 + l2) % 18446744073709551616 = lo at k1 HW
  generalize hh : (h1 + h2 + c) % 18446744073709551616 = hi at k2 HW
  clear hc hl hh a5 b5
  go_enter Tryz.func151, Tryz.ntmps151
  go_wp2_with (first | simp only [k1] | simp only [k2])
  refine bodyPost_ret (v := .agg #[.int .u64 hi, .int .u64 lo]) (by simp [results, Tryz.results151, go_sem]) rfl ?_
  exact ⟨hi, lo, rfl, HW.out, below3 _ _ _ _⟩

theorem minus_any (w : World) (h1 l1 X h2 l2 Y : Int) (a : Wn h1 l1 X) (b : Wn h2 l2 Y) :
    Calls Tryz.prog 150 #[.agg #[.int .u64 h1, .int .u64 l1], .agg #[.int .u64 h2, .int .u64 l2]] w (WPost w ((X - Y) % two128)) := by
  obtain ⟨a1, a2, a3, a4, a5⟩ := a
  obtain ⟨b1, b2, b3, b4, b5⟩ := b
  obtain ⟨c, hc⟩ : ∃ c, bor l1 l2 = c := ⟨_, rfl⟩
  have c0 : 0 ≤ c ∧ c ≤ 1 := hc ▸ bor_01 l1 l2
  have HW : Hid (Wn ((h1 - h2 - c) % 18446744073709551616) ((l1 - l2) % 18446744073709551616) ((X - Y) % two128)) := Lib.hid (by
    have := bor_eq l1 l2 a3 a4 b3 (by omega)
    rw [hc] at this
    rw [two128_eq]
    refine ⟨by omega, by omega, by omega, by omega, ?_⟩
    omega)
  generalize (X - Y) % two128 = Z at HW ⊢
  obtain ⟨c1, c2⟩ := c0
  have k1 := fun w => sub64_0 l1 l2 a3 b3 b4 w
  have k2 := fun w => sub64 h1 h2 c a1 b1 b2 c1 c2 w
  rw [hc] at k1
  generalize hl : (l1 - l2) % 18446744073709551616 = lo at k1 HW
  generalize hh : (h1 - h2 - c) % 18446744073709551616 = hi at k2 HW
  clear hc hl hh a5 b5
  go_enter Tryz.func150, Tryz.ntmps150
  go_wp2_with (first | simp only [k1] | simp only [k2])
  refine bodyPost_ret (v := .agg #[.int .u64 hi, .int .u64 lo]) (by simp [results, Tryz.results150, go_sem]) rfl ?_
  exact ⟨hi, lo, rfl, HW.out, below3 _ _ _ _⟩

theorem less_any (w : World) (h1 l1 X h2 l2 Y : Int) (a : Wn h1 l1 X) (b : Wn h2 l2 Y) :
    Calls Tryz.prog 181 #[.agg #[.int .u64 h1, .int .u64 l1], .agg #[.int .u64 h2, .int .u64 l2]] w (BoolPost w (decide (X < Y))) := by
  obtain ⟨a1, a2, a3, a4, a5⟩ := a
  obtain ⟨b1, b2, b3, b4, b5⟩ := b
  have hb2 : Below w.heap.size w ((w.alloc (.cells #[.int .u64 h1, .int .u64 l1] 26)).alloc (.cells #[.int .u64 h2, .int .u64 l2] 26)) := ((Below.refl _ _).alloc (Nat.le_refl _) _).alloc (by simp) _
  have HB := Lib.hid hb2
  clear hb2
  rcases Int.lt_trichotomy h1 h2 with h | h | h
  · have HR : Hid (decide (X < Y) = true) := Lib.hid (by simp; omega)
    generalize decide (X < Y) = r at HR ⊢
    have hd : decide (h1 < h2) = true := by simpa using h
    clear a5 b5
    go_enter Tryz.func181, Tryz.ntmps181
    go_wp2
    go_ret
    exact ⟨by rw [HR.out]; rfl, HB.out⟩
  · subst h
    have HR : Hid (decide (X < Y) = decide (l1 < l2)) := Lib.hid (by
      by_cases q : l1 < l2
      · simp [q]; omega
      · simp [q]; omega)
    generalize decide (X < Y) = r at HR ⊢
    have hd : decide (h1 < h1) = false := by simp
    have he : (h1 == h1) = true := by simp
    clear a5 b5
    go_enter Tryz.func181, Tryz.ntmps181
    go_wp2
    go_ret
    exact ⟨by rw [HR.out]; rfl, HB.out⟩
  · have HR : Hid (decide (X < Y) = false) := Lib.hid (by simp; omega)
    generalize decide (X < Y) = r at HR ⊢
    have hd : decide (h1 < h2) = false := by simp; omega
    have he : (h1 == h2) = false := by simp; omega
    clear a5 b5
    go_enter Tryz.func181, Tryz.ntmps181
    go_wp2
    go_ret
    exact ⟨by rw [HR.out]; rfl, HB.out⟩
end Go.Proofs.YtnpocnckkaddbaaGreatDoor
/-
  Contracts of package floats's shifts of words.
-/
namespace Go.Proofs.YtnpocnckkaddbaaGreatDoor
open Go.RowKit Go.Shelf

theorem or_zero (x : Int) (h0 : 0 ≤ x) (h1 : x < 18446744073709551616) : bits BinOp.or IntKind.u64 x 0 = x := by
  obtain ⟨x, rfl⟩ := Int.eq_ofNat_of_zero_le h0
  have := bits_or_u64_nat x 0 (by omega) (by omega)
  simpa using this
theorem zero_or (x : Int) (h0 : 0 ≤ x) (h1 : x < 18446744073709551616) : bits BinOp.or IntKind.u64 0 x = x := by
  obtain ⟨x, rfl⟩ := Int.eq_ofNat_of_zero_le h0
  have := bits_or_u64_nat 0 x (by omega) (by omega)
  simpa using this
theorem or_self (x : Int) (h0 : 0 ≤ x) (h1 : x < 18446744073709551616) : bits BinOp.or IntKind.u64 x x = x := by
  obtain ⟨x, rfl⟩ := Int.eq_ofNat_of_zero_le h0
  have := bits_or_u64_nat x x (by omega) (by omega)
  simpa using this
theorem wrap_big (x : Int) (n : Nat) (h : 64 ≤ n) : IntKind.u64.wrap (x * 2 ^ n) = 0 := by
  rw [IntKind.wrap_u64]
  obtain ⟨d, rfl⟩ := Nat.exists_eq_add_of_le h
  rw [Int.pow_add, show (2 : Int) ^ 64 = 18446744073709551616 from rfl, ← Int.mul_assoc, Int.mul_comm x, Int.mul_assoc]
  exact Int.mul_emod_right _ _
theorem div_big (x : Int) (n : Nat) (h : 64 ≤ n) (h0 : 0 ≤ x) (h1 : x < 18446744073709551616) : x / 2 ^ n = 0 := by
  refine Int.ediv_eq_zero_of_lt h0 ?_
  obtain ⟨d, rfl⟩ := Nat.exists_eq_add_of_le h
  rw [Int.pow_add, show (2 : Int) ^ 64 = 18446744073709551616 from rfl]
  have := Int.mul_le_mul_of_nonneg_left (show (1 : Int) ≤ 2 ^ d from p2pos d) (show (0 : Int) ≤ 18446744073709551616 by omega)
  omega

theorem below2 (w : World) (a b : Obj) : Below w.heap.size w ((w.alloc a).alloc b) := ((Below.refl _ _).alloc (Nat.le_refl _) _).alloc (by simp) _

theorem left_low {h l X : Int} (k : Nat) (hk : k < 64) (a : Wn h l X) : Wn (h * 2 ^ k % 18446744073709551616 + l / 2 ^ (64 - k)) (l * 2 ^ k % 18446744073709551616) (X * 2 ^ k % two128) := by
  obtain ⟨a1, a2, a3, a4, rfl⟩ := a
  have s1 := split_word h k (by omega)
  have s2 := split_word l k (by omega)
  have q0 : 0 ≤ l / 2 ^ (64 - k) := Int.ediv_nonneg a3 (Int.le_of_lt (p2pos _))
  have q1 := div_lt_p2 l k (by omega) a4
  have hw := hw_word (zs := [l, h]) (fun z hz => by
    simp at hz
    rcases hz with rfl | rfl
    · exact ⟨a3, a4⟩
    · exact ⟨a1, a2⟩) k (by omega) 1
  simp only [hw_succ, gd_cons_succ, gd_cons_zero] at hw
  have hw' : 0 ≤ h * 2 ^ k % 18446744073709551616 + l / 2 ^ (64 - k) ∧ h * 2 ^ k % 18446744073709551616 + l / 2 ^ (64 - k) < 18446744073709551616 := hw
  have l0 : 0 ≤ l * 2 ^ k % 18446744073709551616 := Int.emod_nonneg _ (by omega)
  have l1 : l * 2 ^ k % 18446744073709551616 < 18446744073709551616 := Int.emod_lt_of_pos _ (by omega)
  refine ⟨hw'.1, hw'.2, l0, l1, ?_⟩
  have e : (h * 18446744073709551616 + l) * 2 ^ k = (h * 2 ^ k) * 18446744073709551616 + l * 2 ^ k := by grind
  rw [e, two128_eq]
  generalize h * 2 ^ k = H at *
  generalize l * 2 ^ k = L at *
  generalize h / 2 ^ (64 - k) = q at *
  generalize l / 2 ^ (64 - k) = r at *
  omega

theorem left_high {h l X : Int} (j : Nat) (hj : j < 64) (a : Wn h l X) : Wn (l * 2 ^ j % 18446744073709551616) 0 (X * 2 ^ (64 + j) % two128) := by
  obtain ⟨a1, a2, a3, a4, rfl⟩ := a
  have l0 : 0 ≤ l * 2 ^ j % 18446744073709551616 := Int.emod_nonneg _ (by omega)
  have l1 : l * 2 ^ j % 18446744073709551616 < 18446744073709551616 := Int.emod_lt_of_pos _ (by omega)
  refine ⟨l0, l1, by omega, by omega, ?_⟩
  have e : (h * 18446744073709551616 + l) * 2 ^ (64 + j) = (h * 2 ^ j) * 340282366920938463463374607431768211456 + (l * 2 ^ j) * 18446744073709551616 := by
    rw [Int.pow_add, show (2 : Int) ^ 64 = 18446744073709551616 from rfl]; grind
  rw [e, two128_eq]
  generalize h * 2 ^ j = H at *
  generalize l * 2 ^ j = L at *
  omega

set_option maxRecDepth 100000 in
theorem wleft_any (w : World) (h l X : Int) (a : Wn h l X) (k : Nat) (hk : k ≤ 127) :
    Calls Tryz.prog 178 #[.agg #[.int .u64 h, .int .u64 l], .int .i64 k] w (WPost w (X * 2 ^ k % two128)) := by
  have A := Lib.hid a
  obtain ⟨a1, a2, a3, a4, a5⟩ := a
  have xk : IntKind.u64.wrap (k : Int) = k := by rw [IntKind.wrap_u64]; omega
  obtain ⟨m1, hm1⟩ : ∃ m, IntKind.u64.wrap (64 - (k : Int)) = m := ⟨_, rfl⟩
  obtain ⟨m2, hm2⟩ : ∃ m, IntKind.u64.wrap ((k : Int) - 64) = m := ⟨_, rfl⟩
  have hm1' := hm1
  have hm2' := hm2
  rw [IntKind.wrap_u64] at hm1' hm2'
  by_cases hk64 : k < 64
  · have HW := Lib.hid (left_low k hk64 A.out)
    have f1 := or_high (l / 2 ^ (64 - k)) h k (by omega) (Int.ediv_nonneg a3 (Int.le_of_lt (p2pos _))) (div_lt_p2 l k (by omega) a4) a1 a2
    obtain ⟨c2, hc2⟩ : ∃ c, min m2.toNat 64 = c := ⟨_, rfl⟩
    have f2 : IntKind.u64.wrap (l * 2 ^ c2) = 0 := wrap_big l _ (by omega)
    have f3 := or_zero _ HW.out.1 HW.out.2.1
    have f4 : IntKind.u64.wrap (l * 2 ^ k) = l * 2 ^ k % 18446744073709551616 := IntKind.wrap_u64 _
    have mt : m1.toNat = 64 - k := by omega
    have hmb : 0 ≤ m1 ∧ 0 ≤ m2 := by omega
    obtain ⟨hmb1, hmb2⟩ := hmb
    generalize X * 2 ^ k % two128 = Z at HW ⊢
    generalize h * 2 ^ k % 18446744073709551616 + l / 2 ^ (64 - k) = hi at HW f1 f3
    generalize l * 2 ^ k % 18446744073709551616 = lo at HW f4
    clear hm1' hm2' a5 A
    go_enter Tryz.func178, Tryz.ntmps178
    go_wp2
    refine bodyPost_ret (v := .agg #[.int .u64 hi, .int .u64 lo]) (by simp [results, Tryz.results178, go_sem]) rfl ?_
    exact ⟨hi, lo, rfl, HW.out, below2 _ _ _⟩
  · obtain ⟨j, hj'⟩ : ∃ j, k = 64 + j := ⟨k - 64, by omega⟩
    have HW := Lib.hid (left_high j (by omega) A.out)
    rw [← hj'] at HW
    obtain ⟨c0, hc0⟩ : ∃ c, min k 64 = c := ⟨_, rfl⟩
    obtain ⟨c1, hc1⟩ : ∃ c, min m1.toNat 64 = c := ⟨_, rfl⟩
    have g1 : IntKind.u64.wrap (h * 2 ^ c0) = 0 := wrap_big h _ (by omega)
    have g2 : IntKind.u64.wrap (l * 2 ^ c0) = 0 := wrap_big l _ (by omega)
    have g3 : IntKind.u64.wrap (l * 2 ^ j) = l * 2 ^ j % 18446744073709551616 := IntKind.wrap_u64 _
    have mt : m2.toNat = j := by omega
    have hmb : 0 ≤ m1 ∧ 0 ≤ m2 ∧ m2 < 64 := by omega
    obtain ⟨hmb1, hmb2, hmb3⟩ := hmb
    rcases Nat.eq_zero_or_pos j with rfl | hj
    · have hx : Hid (l * 2 ^ 0 % 18446744073709551616 = l) := Lib.hid (by simp; omega)
      have g4 : l / 2 ^ c1 = l := by rw [show c1 = 0 by omega]; simp
      rw [hx.out] at HW g3
      have g5 := zero_or l a3 a4
      have g6 := or_self l a3 a4
      generalize X * 2 ^ k % two128 = Z at HW ⊢
      clear hm1' hm2' a5 A hj'
      go_enter Tryz.func178, Tryz.ntmps178
      go_wp2
      refine bodyPost_ret (v := .agg #[.int .u64 l, .int .u64 0]) (by simp [results, Tryz.results178, go_sem]) rfl ?_
      exact ⟨l, 0, rfl, HW.out, below2 _ _ _⟩
    · have g4 : l / 2 ^ c1 = 0 := div_big l _ (by omega) a3 a4
      have g5 := zero_or 0 (by omega) (by omega)
      have g6 := zero_or _ HW.out.1 HW.out.2.1
      generalize X * 2 ^ k % two128 = Z at HW ⊢
      generalize l * 2 ^ j % 18446744073709551616 = hi at HW g3 g6
      clear hm1' hm2' a5 A hj'
      go_enter Tryz.func178, Tryz.ntmps178
      go_wp2
      refine bodyPost_ret (v := .agg #[.int .u64 hi, .int .u64 0]) (by simp [results, Tryz.results178, go_sem]) rfl ?_
      exact ⟨hi, 0, rfl, HW.out, below2 _ _ _⟩

theorem right_low {h l X : Int} (k : Nat) (hk : k < 64) (a : Wn h l X) : Wn (h / 2 ^ k) ((l + 18446744073709551616 * h) / 2 ^ k % 18446744073709551616) (X / 2 ^ k) := by
  obtain ⟨a1, a2, a3, a4, rfl⟩ := a
  have h0 : 0 ≤ h / 2 ^ k := Int.ediv_nonneg a1 (Int.le_of_lt (p2pos _))
  have h1 : h / 2 ^ k ≤ h := Int.ediv_le_self _ a1
  refine ⟨h0, by omega, Int.emod_nonneg _ (by omega), Int.emod_lt_of_pos _ (by omega), ?_⟩
  have := word_div l h h k (by omega) a3 a4 ⟨0, by omega⟩
  rw [show h * 18446744073709551616 + l = l + 18446744073709551616 * h by omega, ← this]
  omega
theorem right_high {h l X : Int} (j : Nat) (a : Wn h l X) : Wn 0 (h / 2 ^ j) (X / 2 ^ (64 + j)) := by
  obtain ⟨a1, a2, a3, a4, rfl⟩ := a
  have h0 : 0 ≤ h / 2 ^ j := Int.ediv_nonneg a1 (Int.le_of_lt (p2pos _))
  have h1 : h / 2 ^ j ≤ h := Int.ediv_le_self _ a1
  refine ⟨by omega, by omega, h0, by omega, ?_⟩
  rw [Int.pow_add, ← Int.ediv_ediv_of_nonneg (Int.le_of_lt (p2pos 64)), show (2 : Int) ^ 64 = 18446744073709551616 from rfl]
  rw [show (h * 18446744073709551616 + l) / 18446744073709551616 = h by omega]
  omega

set_option maxRecDepth 100000 in
theorem wright_any (w : World) (h l X : Int) (a : Wn h l X) (k : Nat) (hk : k ≤ 127) :
    Calls Tryz.prog 141 #[.agg #[.int .u64 h, .int .u64 l], .int .i64 k] w (WPost w (X / 2 ^ k)) := by
  have A := Lib.hid a
  obtain ⟨a1, a2, a3, a4, a5⟩ := a
  have xk : IntKind.u64.wrap (k : Int) = k := by rw [IntKind.wrap_u64]; omega
  obtain ⟨m1, hm1⟩ : ∃ m, IntKind.u64.wrap (64 - (k : Int)) = m := ⟨_, rfl⟩
  obtain ⟨m2, hm2⟩ : ∃ m, IntKind.u64.wrap ((k : Int) - 64) = m := ⟨_, rfl⟩
  have hm1' := hm1
  have hm2' := hm2
  rw [IntKind.wrap_u64] at hm1' hm2'
  by_cases hk64 : k < 64
  · have HW := Lib.hid (right_low k hk64 A.out)
    obtain ⟨c2, hc2⟩ : ∃ c, min m2.toNat 64 = c := ⟨_, rfl⟩
    have f2 : h / 2 ^ c2 = 0 := div_big h _ (by omega) a1 a2
    have hmb : 0 ≤ m1 ∧ 0 ≤ m2 := by omega
    obtain ⟨hmb1, hmb2⟩ := hmb
    rcases Nat.eq_zero_or_pos k with rfl | hk0
    · have hx : Hid ((l + 18446744073709551616 * h) / 2 ^ 0 % 18446744073709551616 = l) := Lib.hid (by simp; omega)
      have hy : Hid (h / 2 ^ 0 = h) := Lib.hid (by simp)
      rw [hx.out, hy.out] at HW
      have g1 : IntKind.u64.wrap (h * 18446744073709551616) = 0 := wrap_big h 64 (by omega)
      have g3 : IntKind.u64.wrap (-64) = m2 := by rw [← hm2]; rfl
      have g2 := or_zero l a3 a4
      generalize X / 2 ^ 0 = Z at HW ⊢
      clear hm1' hm2' a5 A
      go_enter Tryz.func141, Tryz.ntmps141
      go_wp2
      refine bodyPost_ret (v := .agg #[.int .u64 h, .int .u64 l]) (by simp [results, Tryz.results141, go_sem]) rfl ?_
      exact ⟨h, l, rfl, HW.out, below2 _ _ _⟩
    · have mt : m1.toNat = 64 - k := by omega
      have hm64 : m1 < 64 := by omega
      have f1 := or_shift l h k (by omega) a3 a4 a1 a2
      have f3 := or_zero _ HW.out.2.2.1 HW.out.2.2.2.1
      generalize X / 2 ^ k = Z at HW ⊢
      generalize (l + 18446744073709551616 * h) / 2 ^ k % 18446744073709551616 = lo at HW f1 f3
      clear hm1' hm2' a5 A
      go_enter Tryz.func141, Tryz.ntmps141
      go_wp2
      refine bodyPost_ret (v := .agg #[.int .u64 (h / 2 ^ k), .int .u64 lo]) (by simp [results, Tryz.results141, go_sem]) rfl ?_
      exact ⟨_, lo, rfl, HW.out, below2 _ _ _⟩
  · obtain ⟨j, hj'⟩ : ∃ j, k = 64 + j := ⟨k - 64, by omega⟩
    have HW := Lib.hid (right_high j A.out)
    rw [← hj'] at HW
    obtain ⟨c0, hc0⟩ : ∃ c, min k 64 = c := ⟨_, rfl⟩
    obtain ⟨c1, hc1⟩ : ∃ c, min m1.toNat 64 = c := ⟨_, rfl⟩
    have g1 : h / 2 ^ c0 = 0 := div_big h _ (by omega) a1 a2
    have g2 : l / 2 ^ c0 = 0 := div_big l _ (by omega) a3 a4
    have mt : m2.toNat = j := by omega
    have hmb : 0 ≤ m1 ∧ 0 ≤ m2 ∧ m2 < 64 := by omega
    obtain ⟨hmb1, hmb2, hmb3⟩ := hmb
    rcases Nat.eq_zero_or_pos j with rfl | hj
    · have hx : Hid (h / 2 ^ 0 = h) := Lib.hid (by simp)
      have g4 : IntKind.u64.wrap (h * 2 ^ c1) = h := by rw [show c1 = 0 by omega, IntKind.wrap_u64]; simp; omega
      rw [hx.out] at HW
      have g5 := zero_or h a1 a2
      have g6 := or_self h a1 a2
      generalize X / 2 ^ k = Z at HW ⊢
      clear hm1' hm2' a5 A hj'
      go_enter Tryz.func141, Tryz.ntmps141
      go_wp2
      refine bodyPost_ret (v := .agg #[.int .u64 0, .int .u64 h]) (by simp [results, Tryz.results141, go_sem]) rfl ?_
      exact ⟨0, h, rfl, HW.out, below2 _ _ _⟩
    · have g4 : IntKind.u64.wrap (h * 2 ^ c1) = 0 := wrap_big h _ (by omega)
      have g5 := zero_or 0 (by omega) (by omega)
      have g6 := zero_or _ HW.out.2.2.1 HW.out.2.2.2.1
      generalize X / 2 ^ k = Z at HW ⊢
      clear hm1' hm2' a5 A hj'
      go_enter Tryz.func141, Tryz.ntmps141
      go_wp2
      refine bodyPost_ret (v := .agg #[.int .u64 0, .int .u64 (h / 2 ^ j)]) (by simp [results, Tryz.results141, go_sem]) rfl ?_
      exact ⟨0, _, rfl, HW.out, below2 _ _ _⟩
end Go.Proofs.YtnpocnckkaddbaaGreatDoor
/-
  Contracts of package floats's machine: formats, exponents, powers of two.
-/
namespace Go.Proofs.YtnpocnckkaddbaaGreatDoor
open Go.RowKit Go.Shelf
attribute [local go_sem] eqNil neqNil

theorem one_any (w : World) : Calls Tryz.prog 149 #[] w fun e w' => e = .returned (.agg #[.int .u64 0, .int .u64 1]) ∧ Below w.heap.size w w' := by
  go_enter Tryz.func149, Tryz.ntmps149
  go_wp2
  refine bodyPost_ret (v := .agg #[.int .u64 0, .int .u64 1]) (by simp [results, Tryz.results149, go_sem]) rfl ?_
  exact ⟨rfl, (Below.refl _ _).alloc (Nat.le_refl _) _⟩

/-- two values stored in block g -/
theorem stored2 (g : Nat) (w : World) (a b : Value) : Only g w ((w.setCell ⟨g, 0, none⟩ a).setCell ⟨g, 1, none⟩ b) := ((Only.refl g w).set _ _).set _ _

theorem bit_any (w : World) (k : Int) (h0 : 0 ≤ k) (h1 : k ≤ 127) : Calls Tryz.prog 188 #[.int .i64 k] w (WPost w (2 ^ k.toNat)) := by
  obtain ⟨k, rfl⟩ := Int.eq_ofNat_of_zero_le h0
  rw [Int.toNat_natCast]
  have hX : Hid ((1 : Int) * 2 ^ k % two128 = 2 ^ k) := Lib.hid (by
    rw [Int.one_mul]
    refine Int.emod_eq_of_lt (Int.le_of_lt (p2pos k)) ?_
    unfold two128
    obtain ⟨d, hd⟩ : ∃ d, 128 = k + (d + 1) := ⟨127 - k, by omega⟩
    rw [hd, Int.pow_add, Int.pow_succ]
    have h2 := Int.mul_le_mul_of_nonneg_left (show (1 : Int) ≤ 2 ^ d from p2pos d) (Int.le_of_lt (p2pos k))
    have h3 : (2 : Int) ^ k * (2 ^ d * 2) = 2 ^ k * 2 ^ d * 2 := by grind
    have := p2pos k
    omega)
  have HB0 : Hid (Below w.heap.size w (w.alloc (.cells #[.int .u64 0, .int .u64 0] 26))) := Lib.hid ((Below.refl _ _).alloc (Nat.le_refl _) _)
  have hl := fun W => wleft_any W 0 1 1 ⟨by omega, by omega, by omega, by omega, by omega⟩ k (by omega)
  have HL := Lib.hid hl
  clear hl
  go_enter Tryz.func188, Tryz.ntmps188
  go_wp2_with fail
  refine (one_any _).mono ?_
  rintro en w1 ⟨rfl, hb⟩
  have HB1 := Lib.hid hb
  clear hb
  go_wp2_with fail
  refine (HL.out w1).mono ?_
  rintro en w2 ⟨h, l, rfl, hw, hb⟩
  obtain ⟨hc, hf, hz, hbw⟩ := laid_facts (HB1.out.trans (hb.mono HB1.out.size))
  have HB2 := Lib.hid hbw
  have HW := Lib.hid (hX.out ▸ hw)
  clear hb hbw hw
  go_wp2_with fail
  refine bodyPost_ret (v := .agg #[.int .u64 h, .int .u64 l]) (by simp [results, Tryz.results188, go_sem, hc, hz]) rfl ?_
  have ho := stored2 w.heap.size w2 (.int .u64 h) (.int .u64 l)
  exact ⟨h, l, rfl, HW.out, HB2.out.trans (ho.below HB2.out.size (Nat.le_refl _))⟩

theorem boxes2' (w : World) (A B : Array Value) (T U : TypeId) : Box ((w.alloc (.cells A T)).alloc (.cells B U)) w.heap.size A ∧ Box ((w.alloc (.cells A T)).alloc (.cells B U)) (w.heap.size + 1) B ∧
    Below w.heap.size w ((w.alloc (.cells A T)).alloc (.cells B U)) := by
  refine ⟨(Box.new w A T).alloc _, ?_, ((Below.refl _ _).alloc (Nat.le_refl _) _).alloc (by simp) _⟩
  have := Box.new (w.alloc (.cells A T)) B U
  rwa [World.size_alloc] at this

/-- a format -/
def Fmt (E P : Int) : Prop := 2 ≤ E ∧ E ≤ 11 ∧ 2 ≤ P ∧ P ≤ 113 ∧ 5 ≤ E + P

theorem check_yes (w : World) (E P : Int) (h : Fmt E P) : Calls Tryz.prog 170 #[.agg #[.int .i64 E, .int .i64 P]] w (IntPost w 0) := by
  obtain ⟨h1, h2, h3, h4, h5⟩ := h
  go_enter Tryz.func170, Tryz.ntmps170
  go_wp2
  go_ret
  exact ⟨rfl, (Below.refl _ _).alloc (Nat.le_refl _) _⟩
theorem check_no (w : World) (E P : Int) (h : ¬ Fmt E P) : Calls Tryz.prog 170 #[.agg #[.int .i64 E, .int .i64 P]] w (IntPost w 2) := by
  unfold Fmt at h
  rcases (show E < 2 ∨ (2 ≤ E ∧ 11 < E) ∨ (2 ≤ E ∧ E ≤ 11 ∧ P < 2) ∨ (2 ≤ E ∧ E ≤ 11 ∧ 2 ≤ P ∧ 113 < P) ∨ (2 ≤ E ∧ E ≤ 11 ∧ 2 ≤ P ∧ P ≤ 113 ∧ E + P < 5) by omega) with h | ⟨h1, h2⟩ | ⟨h1, h2, h3⟩ | ⟨h1, h2, h3, h4⟩ | ⟨h1, h2, h3, h4, h5⟩
  all_goals
    go_enter Tryz.func170, Tryz.ntmps170
    go_wp2
    go_ret
    exact ⟨rfl, (Below.refl _ _).alloc (Nat.le_refl _) _⟩

def MachPost (w : World) (E P m er : Int) (e : Ending) (w' : World) : Prop := e = .returned (.tuple #[.agg #[.int .i64 E, .int .i64 P, .int .i64 m], .int .i64 er]) ∧ Below w.heap.size w w'

theorem stored3 (g : Nat) (w : World) (a b c : Value) : Only g w (((w.setCell ⟨g, 0, none⟩ a).setCell ⟨g, 1, none⟩ b).setCell ⟨g, 2, none⟩ c) := (((Only.refl g w).set _ _).set _ _).set _ _

set_option maxRecDepth 100000 in
theorem newMachine_yes (w : World) (E P m : Int) (h : Fmt E P) (h0 : 0 ≤ m) (h1 : m ≤ 4) :
    Calls Tryz.prog 99 #[.agg #[.int .i64 E, .int .i64 P], .int .i64 m] w (MachPost w E P m 0) := by
  have H := Lib.hid h
  clear h
  go_enter Tryz.func99, Tryz.ntmps99
  go_wp2_with fail
  obtain ⟨hA, hB, hW0⟩ := boxes2' w #[.int .i64 E, .int .i64 P] #[.int .i64 0, .int .i64 0, .int .i64 0] 23 66
  have HT : Hid (Two w _ w.heap.size _ _) := Lib.hid ⟨hW0, hA, hB⟩
  clear hA hB hW0
  refine (check_yes _ E P H.out).mono ?_
  rintro en w1 ⟨rfl, hb⟩
  have HT1 := Lib.hid (HT.out.next hb)
  clear hb
  have cA := HT1.out.2.1.cell
  have cB := HT1.out.2.2.cell
  have fB := HT1.out.2.2.free
  have lB := HT1.out.2.2.lt
  go_wp2_with fail
  refine bodyPost_ret (v := .tuple #[.agg #[.int .i64 E, .int .i64 P, .int .i64 m], .int .i64 0]) (by simp [results, Tryz.results99, go_sem, cB, lB]) rfl ?_
  exact ⟨rfl, HT1.out.1.trans ((stored3 _ _ _ _ _).below HT1.out.1.size (by omega))⟩

set_option maxRecDepth 100000 in
theorem newMachine_no (w : World) (E P m : Int) (h : ¬ (Fmt E P ∧ 0 ≤ m ∧ m ≤ 4)) :
    Calls Tryz.prog 99 #[.agg #[.int .i64 E, .int .i64 P], .int .i64 m] w (MachPost w 0 0 0 2) := by
  by_cases hF : Fmt E P
  · have H := Lib.hid hF
    rcases (show m < 0 ∨ (0 ≤ m ∧ 4 < m) by
      apply Classical.byContradiction
      intro hc
      exact h ⟨hF, by omega, by omega⟩) with hm | ⟨hm, hm2⟩
    all_goals
      clear h hF
      go_enter Tryz.func99, Tryz.ntmps99
      go_wp2_with fail
      obtain ⟨hA, hB, hW0⟩ := boxes2' w #[.int .i64 E, .int .i64 P] #[.int .i64 0, .int .i64 0, .int .i64 0] 23 66
      have HT : Hid (Two w _ w.heap.size _ _) := Lib.hid ⟨hW0, hA, hB⟩
      clear hA hB hW0
      refine (check_yes _ E P H.out).mono ?_
      rintro en w1 ⟨rfl, hb⟩
      have HT1 := Lib.hid (HT.out.next hb)
      clear hb
      have cA := HT1.out.2.1.cell
      have cB := HT1.out.2.2.cell
      have fB := HT1.out.2.2.free
      have lB := HT1.out.2.2.lt
      go_wp2_with fail
      refine bodyPost_ret (v := .tuple #[.agg #[.int .i64 0, .int .i64 0, .int .i64 0], .int .i64 2]) (by simp [results, Tryz.results99, go_sem, cB, lB]) rfl ?_
      exact ⟨rfl, HT1.out.1.trans ((stored3 _ _ _ _ _).below HT1.out.1.size (by omega))⟩
  · have H := Lib.hid hF
    clear h hF
    go_enter Tryz.func99, Tryz.ntmps99
    go_wp2_with fail
    obtain ⟨hA, hB, hW0⟩ := boxes2' w #[.int .i64 E, .int .i64 P] #[.int .i64 0, .int .i64 0, .int .i64 0] 23 66
    have HT : Hid (Two w _ w.heap.size _ _) := Lib.hid ⟨hW0, hA, hB⟩
    clear hA hB hW0
    refine (check_no _ E P H.out).mono ?_
    rintro en w1 ⟨rfl, hb⟩
    have HT1 := Lib.hid (HT.out.next hb)
    clear hb
    have cA := HT1.out.2.1.cell
    have cB := HT1.out.2.2.cell
    have fB := HT1.out.2.2.free
    have lB := HT1.out.2.2.lt
    go_wp2_with fail
    refine bodyPost_ret (v := .tuple #[.agg #[.int .i64 0, .int .i64 0, .int .i64 0], .int .i64 2]) (by simp [results, Tryz.results99, go_sem, cB, lB]) rfl ?_
    exact ⟨rfl, HT1.out.1.trans ((stored3 _ _ _ _ _).below HT1.out.1.size (by omega))⟩
end Go.Proofs.YtnpocnckkaddbaaGreatDoor
/-
  Contracts of package floats's machine: exponents, powers of two.
-/
namespace Go.Proofs.YtnpocnckkaddbaaGreatDoor
open Go.RowKit Go.Shelf
attribute [local go_sem] eqNil neqNil

theorem plain_yes (w : World) (E P : Int) (h : Fmt E P) : Calls Tryz.prog 71 #[.agg #[.int .i64 E, .int .i64 P]] w (MachPost w E P 0 0) := by
  have H := Lib.hid h
  clear h
  go_enter Tryz.func71, Tryz.ntmps71
  go_wp2_with fail
  obtain ⟨hA, hB, hW0⟩ := boxes2' w #[.int .i64 E, .int .i64 P] #[.int .i64 0, .int .i64 0, .int .i64 0] 23 66
  have HT : Hid (Two w _ w.heap.size _ _) := Lib.hid ⟨hW0, hA, hB⟩
  clear hA hB hW0
  refine (newMachine_yes _ E P 0 H.out (by omega) (by omega)).mono ?_
  rintro en w1 ⟨rfl, hb⟩
  have HT1 := Lib.hid (HT.out.next hb)
  clear hb
  have cB := HT1.out.2.2.cell
  have fB := HT1.out.2.2.free
  have lB := HT1.out.2.2.lt
  go_wp2_with fail
  refine bodyPost_ret (v := .tuple #[.agg #[.int .i64 E, .int .i64 P, .int .i64 0], .int .i64 0]) (by simp [results, Tryz.results71, go_sem, cB, lB]) rfl ?_
  exact ⟨rfl, HT1.out.1.trans ((stored3 _ _ _ _ _).below HT1.out.1.size (by omega))⟩
theorem plain_no (w : World) (E P : Int) (h : ¬ Fmt E P) : Calls Tryz.prog 71 #[.agg #[.int .i64 E, .int .i64 P]] w (MachPost w 0 0 0 2) := by
  have H := Lib.hid h
  clear h
  go_enter Tryz.func71, Tryz.ntmps71
  go_wp2_with fail
  obtain ⟨hA, hB, hW0⟩ := boxes2' w #[.int .i64 E, .int .i64 P] #[.int .i64 0, .int .i64 0, .int .i64 0] 23 66
  have HT : Hid (Two w _ w.heap.size _ _) := Lib.hid ⟨hW0, hA, hB⟩
  clear hA hB hW0
  refine (newMachine_no _ E P 0 (fun h => H.out h.1)).mono ?_
  rintro en w1 ⟨rfl, hb⟩
  have HT1 := Lib.hid (HT.out.next hb)
  clear hb
  have cB := HT1.out.2.2.cell
  have fB := HT1.out.2.2.free
  have lB := HT1.out.2.2.lt
  go_wp2_with fail
  refine bodyPost_ret (v := .tuple #[.agg #[.int .i64 0, .int .i64 0, .int .i64 0], .int .i64 2]) (by simp [results, Tryz.results71, go_sem, cB, lB]) rfl ?_
  exact ⟨rfl, HT1.out.1.trans ((stored3 _ _ _ _ _).below HT1.out.1.size (by omega))⟩

/-- the exponent of the greatest value -/
def biasOf (E : Int) : Int := 2 ^ (E - 1).toNat - 1
theorem bias_range {E : Int} (h0 : 2 ≤ E) (h1 : E ≤ 11) : 1 ≤ biasOf E ∧ biasOf E ≤ 1023 := by
  unfold biasOf
  rcases (show E = 2 ∨ E = 3 ∨ E = 4 ∨ E = 5 ∨ E = 6 ∨ E = 7 ∨ E = 8 ∨ E = 9 ∨ E = 10 ∨ E = 11 by omega) with rfl | rfl | rfl | rfl | rfl | rfl | rfl | rfl | rfl | rfl <;> decide

theorem bias_any (w : World) (E P m : Int) (h0 : 2 ≤ E) (h1 : E ≤ 11) : Calls Tryz.prog 174 #[.agg #[.int .i64 E, .int .i64 P, .int .i64 m]] w fun e w' => e = .returned (.int .i64 (biasOf E)) ∧ w' = w.alloc (.cells #[.int .i64 E, .int .i64 P, .int .i64 m] 66) := by
  rcases (show E = 2 ∨ E = 3 ∨ E = 4 ∨ E = 5 ∨ E = 6 ∨ E = 7 ∨ E = 8 ∨ E = 9 ∨ E = 10 ∨ E = 11 by omega) with rfl | rfl | rfl | rfl | rfl | rfl | rfl | rfl | rfl | rfl
  all_goals
    go_enter Tryz.func174, Tryz.ntmps174
    go_wp2
    go_ret
    exact ⟨rfl, rfl⟩

theorem lowest_any (w : World) (E P m : Int) (h0 : 2 ≤ E) (h1 : E ≤ 11) : Calls Tryz.prog 179 #[.agg #[.int .i64 E, .int .i64 P, .int .i64 m]] w (IntPost w (1 - biasOf E)) := by
  have hb := bias_range h0 h1
  have hc := fun W => bias_any W E P m h0 h1
  generalize biasOf E = q at hb hc ⊢
  obtain ⟨hb1, hb2⟩ := hb
  have HC := Lib.hid hc
  clear hc
  go_enter Tryz.func179, Tryz.ntmps179
  go_wp2_with (go_at_call 174; refine (HC.out _).mono ?_; rintro en w' ⟨rfl, rfl⟩)
  go_ret
  exact ⟨rfl, below2 _ _ _⟩

theorem lowest_range {E : Int} (h0 : 2 ≤ E) (h1 : E ≤ 11) : -1022 ≤ 1 - biasOf E ∧ 1 - biasOf E ≤ 0 := by have := bias_range h0 h1; omega

set_option maxHeartbeats 1000000 in
theorem finest_any (w : World) (E P m : Int) (h0 : 2 ≤ E) (h1 : E ≤ 11) (h2 : 2 ≤ P) (h3 : P ≤ 113) : Calls Tryz.prog 231 #[.agg #[.int .i64 E, .int .i64 P, .int .i64 m]] w (IntPost w (1 - biasOf E - P + 1)) := by
  have hb := lowest_range h0 h1
  have hc : ∀ W, Below w.heap.size w W ∧ Box W w.heap.size #[.int .i64 E, .int .i64 P, .int .i64 m] → Calls Tryz.prog 179 #[.agg #[.int .i64 E, .int .i64 P, .int .i64 m]] W fun en w' => en = .returned (.int .i64 (1 - biasOf E)) ∧ Hid (Below w.heap.size w w') ∧ (∀ q, w'.cell? ⟨w.heap.size, q, none⟩ = (#[.int .i64 E, .int .i64 P, .int .i64 m] : Array Value)[q]?) := fun W hW => by
    refine (lowest_any W E P m h0 h1).mono ?_
    rintro en w' ⟨rfl, hb⟩
    exact ⟨rfl, Lib.hid (hW.1.trans (hb.mono hW.1.size)), (hW.2.below hb).cell⟩
  generalize 1 - biasOf E = q at hb hc ⊢
  obtain ⟨hb1, hb2⟩ := hb
  have HC := Lib.hid hc
  clear hc
  have x1 : IntKind.i64.wrap (q - P) = q - P := IntWalk.i64_in _ (by omega)
  have x2 : IntKind.i64.wrap (q - P + 1) = q - P + 1 := IntWalk.i64_in _ (by omega)
  go_enter Tryz.func231, Tryz.ntmps231
  go_wp2_with fail
  have hA := Box.new w #[.int .i64 E, .int .i64 P, .int .i64 m] 66
  have hW0 : Below w.heap.size w (w.alloc (.cells #[.int .i64 E, .int .i64 P, .int .i64 m] 66)) := (Below.refl _ _).alloc (Nat.le_refl _) _
  generalize hW : w.alloc (.cells #[.int .i64 E, .int .i64 P, .int .i64 m] 66) = W at hA hW0 ⊢
  clear hW
  have cA := hA.cell
  have HD : Hid (Below w.heap.size w W.drew ∧ Box W.drew w.heap.size #[.int .i64 E, .int .i64 P, .int .i64 m]) := Lib.hid ⟨hW0.trans ((Drw.step W 1).below _), hA.below ((Drw.step W 1).below _)⟩
  clear hA hW0
  generalize hg : w.heap.size = g at *
  have HG := Lib.hid hg
  clear hg
  go_region_with (go_at_call 179; refine (HC.out _ HD.out).mono ?_; rintro en w1 ⟨rfl, H1, cA1⟩)
  all_goals
    go_wp2_with fail
    go_ret
    exact ⟨rfl, by rw [HG.out]; exact H1.out⟩

/-- the boxes of a call that goes on: a number among them -/
theorem boxes2n (w : World) (A B : Array Value) (T U : TypeId) : Hid (Two w ((w.alloc (.cells A T)).alloc (.cells B U)) w.heap.size A B) := Lib.hid (by
  obtain ⟨a, b, c⟩ := boxes2' w A B T U
  exact ⟨c, a, b⟩)

set_option maxRecDepth 100000 in
set_option maxHeartbeats 1000000 in
theorem shifted_any (w : World) (v : Value) (K k d : Int) (h : Dn w v K k) (hK : -sml < K ∧ K < sml) (hk : -50000 ≤ k ∧ k ≤ 50000) (hd : -20000 ≤ d ∧ d ≤ 20000) :
    Calls Tryz.prog 197 #[v, .int .i64 d] w (DnPost w K (k + d)) := by
  obtain ⟨s, t, e, h1, h2⟩ := h
  obtain ⟨b0, b1, b2⟩ := h2.bounds hK hk
  have n0 := h1
  obtain ⟨bo, la, ca, rfl, ht⟩ := h1.nilb
  have h3 : Dr s t (if t = 0 then e else e + d) K (k + d) := by
    rcases h2 with ⟨rfl, rfl, rfl, rfl⟩ | ⟨x1, hp, j, rfl, rfl⟩
    · exact .inl ⟨rfl, rfl, rfl, rfl⟩
    · rw [if_neg (by omega)]
      exact .inr ⟨x1, hp, j, by omega, rfl⟩
  have HS : Hid (∀ W, Below w.heap.size w W → Calls Tryz.prog 236 #[.agg #[.bool s, .slice bo la ca, .slice none 0 0, .int .i64 e], .int .i64 d] W (NmErrPost W s t 1 (if t = 0 then e else e + d) 0)) := Lib.hid (fun W hb => shift_any W _ s t 1 e d (n0.below hb) hd.1 hd.2 b0 b1)
  generalize (if t = 0 then e else e + d) = q at HS h3
  have H3 := Lib.hid h3
  clear h1 h2 h3 n0 ht b0 b1 b2 hK hk hd
  go_enter Tryz.func197, Tryz.ntmps197
  go_wp2_with fail
  have HT := boxes2n w #[.bool s, .slice bo la ca, .slice none 0 0, .int .i64 e] #[.bool false, .slice none 0 0, .slice none 0 0, .int .i64 0] 47 47
  refine (HS.out _ HT.out.1).mono ?_
  rintro en w1 ⟨v1, rfl, hv, hb⟩
  obtain ⟨o, l, c, o2, l2, c2, rfl, hv1, hv2⟩ := hv.ex
  have HV := Lib.hid hv
  have HT1 := Lib.hid (HT.out.next hb)
  clear hb hv hv1 hv2
  have cB := HT1.out.2.2.cell
  have fB := HT1.out.2.2.free
  have lB := HT1.out.2.2.lt
  go_wp2_with fail
  refine bodyPost_ret (v := .agg #[.bool s, .slice o l c, .slice o2 l2 c2, .int .i64 q]) (by simp [results, Tryz.results197, go_sem, cB, lB]) rfl ?_
  have ho := Stored.only (w.heap.size + 1) w1 s o l c o2 l2 c2 q
  have hn := HV.out.only ho HT1.out.2.2.noW
  have hb1 : Below w.heap.size w (Stored (w.heap.size + 1) w1 s o l c o2 l2 c2 q) := HT1.out.1.trans (ho.below HT1.out.1.size (by omega))
  exact ⟨_, rfl, ⟨s, t, q, hn.below ((Below.refl _ _).alloc (Nat.le_refl _) _), H3.out⟩, hb1.alloc hb1.size _⟩

set_option maxRecDepth 100000 in
set_option maxHeartbeats 1000000 in
theorem power_any (w : World) (hE : Env w) (d : Int) (hd : -20000 ≤ d ∧ d ≤ 20000) :
    Calls Tryz.prog 189 #[.int .i64 d] w (DnPost w 1 d) := by
  have HE := Lib.hid hE
  have HD := Lib.hid hd
  clear hE hd
  have hs : (1 : Int) < sml := by unfold sml; exact Int.lt_of_lt_of_le (show (1 : Int) < 2 ^ 1 by decide) (by
    rw [show 60000 = 1 + 59999 from rfl, Int.pow_add]
    have := Int.mul_le_mul_of_nonneg_left (show (1 : Int) ≤ 2 ^ 59999 from p2pos _) (show (0 : Int) ≤ 2 ^ 1 by decide)
    omega)
  have HS := Lib.hid hs
  clear hs
  have HB0 : Hid (Below w.heap.size w (w.alloc (.cells #[.bool false, .slice none 0 0, .slice none 0 0, .int .i64 0] 47))) := Lib.hid ((Below.refl _ _).alloc (Nat.le_refl _) _)
  go_enter Tryz.func189, Tryz.ntmps189
  go_wp2_with fail
  refine (int_any _ (HE.out.below HB0.out) 1 (by omega) (by omega)).mono ?_
  rintro en w1 ⟨v1, rfl, hv, hb⟩
  have HV := Lib.hid hv
  have HB1 := Lib.hid hb
  clear hv hb
  go_wp2_with fail
  refine (shifted_any w1 v1 1 0 d HV.out ⟨by have := HS.out; omega, HS.out⟩ (by omega) HD.out).mono ?_
  rintro en w2 ⟨v2, rfl, hv, hb⟩
  rw [Int.zero_add] at hv
  obtain ⟨s, o, l, c, o2, l2, c2, q, rfl⟩ := hv.shape
  obtain ⟨hc, hf, hz, hbw⟩ := laid_facts (HB1.out.trans (hb.mono HB1.out.size))
  have HN := Lib.hid (noW_num hc)
  have HV2 := Lib.hid hv
  have HB2 := Lib.hid hbw
  clear hv hb hbw
  go_wp2_with fail
  refine bodyPost_ret (v := .agg #[.bool s, .slice o l c, .slice o2 l2 c2, .int .i64 q]) (by simp [results, Tryz.results189, go_sem, hc, hz]) rfl ?_
  have ho := Stored.only w.heap.size w2 s o l c o2 l2 c2 q
  exact ⟨_, rfl, HV2.out.only ho HN.out, HB2.out.trans (ho.below HB2.out.size (Nat.le_refl _))⟩
end Go.Proofs.YtnpocnckkaddbaaGreatDoor
