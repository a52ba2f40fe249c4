/-
  Contracts of package exact's Mul and Quo, for numbers that are not too large.
-/
import Derived.Test.YtnpocnckkaddbaaGreatDoorP22
set_option linter.unusedVariables false
set_option linter.unusedSimpArgs false
set_option linter.unusedSectionVars false
namespace Go.Proofs.YtnpocnckkaddbaaGreatDoor
open Go.RowKit Go.Shelf
attribute [local go_sem] eqNil neqNil

theorem mul_zero1 (w : World) (sx sy : Bool) (bo : Option Addr) (lb cb : Nat) (bo2 : Option Addr) (lb2 cb2 : Nat) (bo3 : Option Addr) (lb3 cb3 : Nat) (ex ey : Int) :
    Calls Tryz.prog 95 #[.agg #[.bool sx, .slice none 0 0, .slice bo lb cb, .int .i64 ex], .agg #[.bool sy, .slice bo2 lb2 cb2, .slice bo3 lb3 cb3, .int .i64 ey]] w
      fun en w' => en = .returned (.agg #[.bool false, .slice none 0 0, .slice none 0 0, .int .i64 0]) ∧ Below w.heap.size w w' := by
  go_enter Tryz.func95, Tryz.ntmps95
  go_wp2_with fail
  refine bodyPost_ret (v := .agg #[.bool false, .slice none 0 0, .slice none 0 0, .int .i64 0]) (by simp [results, Tryz.results95, go_sem]) rfl ?_
  exact ⟨rfl, (((Below.refl _ _).alloc (Nat.le_refl _) _).alloc (by simp) _).alloc (by simp; omega) _⟩
theorem mul_zero2 (w : World) (sx sy : Bool) (a : Addr) (la ca : Nat) (bo : Option Addr) (lb cb : Nat) (bo3 : Option Addr) (lb3 cb3 : Nat) (ex ey : Int) :
    Calls Tryz.prog 95 #[.agg #[.bool sx, .slice (some a) la ca, .slice bo lb cb, .int .i64 ex], .agg #[.bool sy, .slice none 0 0, .slice bo3 lb3 cb3, .int .i64 ey]] w
      fun en w' => en = .returned (.agg #[.bool false, .slice none 0 0, .slice none 0 0, .int .i64 0]) ∧ Below w.heap.size w w' := by
  go_enter Tryz.func95, Tryz.ntmps95
  go_wp2_with fail
  refine bodyPost_ret (v := .agg #[.bool false, .slice none 0 0, .slice none 0 0, .int .i64 0]) (by simp [results, Tryz.results95, go_sem]) rfl ?_
  exact ⟨rfl, (((Below.refl _ _).alloc (Nat.le_refl _) _).alloc (by simp) _).alloc (by simp; omega) _⟩

theorem mul_lt2 {x y a b : Int} (h1 : x < a) (h2 : y < b) (x0 : 0 ≤ x) (y0 : 0 ≤ y) : x * y < a * b := by
  have p1 := Int.mul_le_mul_of_nonneg_left (show y ≤ b - 1 by omega) x0
  have p2 := Int.mul_le_mul_of_nonneg_right (show x ≤ a - 1 by omega) (show 0 ≤ b by omega)
  rw [Int.mul_sub, Int.mul_one] at p1
  rw [Int.sub_mul, Int.one_mul] at p2
  omega
/-- the size of numbers that all of this is done with -/
def inQ (K D k : Int) : Prop := -qs < K ∧ K < qs ∧ 0 < D ∧ D < qs ∧ -5000 ≤ k ∧ k ≤ 5000
instance (K D k : Int) : Decidable (inQ K D k) := by unfold inQ; infer_instance
theorem qs_mul : qs * qs < big := by
  have h1 := mul_lt2 qs_pw qs_pw (Int.le_of_lt (p2pos 2400)) (Int.le_of_lt (p2pos 2400))
  have h2 : pw ^ 39 * pw ^ 39 ≤ big := by rw [← Int.pow_add]; exact pow_mono (by omega)
  omega
theorem inQ.flds {K D k : Int} (h : inQ K D k) {s : Bool} {t b e : Int} (hq : Qr s t b e K D k) : 0 ≤ t ∧ t < qs ∧ 0 < b ∧ b < qs ∧ b % 2 = 1 ∧ -7400 ≤ e ∧ e ≤ 7400 ∧ (t ≠ 0 → t % 2 = 1) ∧ (t = 0 → s = false ∧ b = 1 ∧ e = 0 ∧ K = 0) := by
  obtain ⟨k1, k2, k3, k4, k5, k6⟩ := h
  have hb := hq.bounds
  have he := hq.exp (n := 2400) (by show _ < qs; omega) k4
  obtain ⟨_, hq⟩ := hq
  rcases hq with ⟨rfl, rfl, rfl, rfl, rfl⟩ | ⟨ot, t0, ob, pb, _⟩
  · exact ⟨by omega, p2pos _, by omega, by omega, by decide, by omega, by omega, by omega, fun _ => ⟨rfl, rfl, rfl, rfl⟩⟩
  · exact ⟨by omega, by omega, by omega, by omega, ob, by omega, by omega, fun _ => ot, fun h => by omega⟩
theorem mulQ_any (w : World) (hE : Env w) (vx vy : Value) (K D k L F l : Int) (hx : Qn w vx K D k) (hy : Qn w vy L F l) (ix : inQ K D k) (iy : inQ L F l) :
    Calls Tryz.prog 95 #[vx, vy] w (QnPost w (K * L) (D * F) (k + l)) := by
  obtain ⟨sx, tx, bx, ex, nx, dx⟩ := hx
  obtain ⟨sy, ty, by', ey, ny, dy⟩ := hy
  obtain ⟨x1, x2, x3, x4, x5, x6, x7, x8, x9⟩ := ix.flds dx
  obtain ⟨y1, y2, y3, y4, y5, y6, y7, y8, y9⟩ := iy.flds dy
  obtain ⟨bo, lb, cb, bo2, lb2, cb2, rfl, hx, hbx⟩ := nx.ex
  obtain ⟨co, lc, cc, co2, lc2, cc2, rfl, hy, hby⟩ := ny.ex
  have zero : ∀ w', Below w.heap.size w w' → K * L = 0 → QnPost w (K * L) (D * F) (k + l) (.returned (.agg #[.bool false, .slice none 0 0, .slice none 0 0, .int .i64 0])) w' := fun w' hb hz =>
    ⟨_, rfl, ⟨false, 0, 1, 0, ⟨_, _, _, _, _, _, rfl, Nt.zero _, .inl ⟨rfl, rfl⟩⟩, ⟨Int.mul_pos dx.1 dy.1, .inl ⟨rfl, rfl, rfl, rfl, hz⟩⟩⟩, hb⟩
  by_cases tx0 : tx = 0
  · subst tx0
    obtain ⟨-, -, -, rfl⟩ := x9 rfl
    have h := hx.nil
    injection h with h1 h2 h3
    subst h1 h2 h3
    refine (mul_zero1 w _ _ _ _ _ _ _ _ _ _ _ _ _).mono ?_
    rintro en w' ⟨rfl, hb⟩
    exact zero w' hb (by simp)
  · obtain ⟨a, rfl⟩ : ∃ a, bo = some a := by
      cases bo with
      | none => have := hx.isNone; simp at this; omega
      | some a => exact ⟨a, rfl⟩
    by_cases ty0 : ty = 0
    · subst ty0
      obtain ⟨-, -, -, rfl⟩ := y9 rfl
      have h := hy.nil
      injection h with h1 h2 h3
      subst h1 h2 h3
      refine (mul_zero2 w _ _ _ _ _ _ _ _ _ _ _ _ _).mono ?_
      rintro en w' ⟨rfl, hb⟩
      exact zero w' hb (by simp)
    · obtain ⟨c, rfl⟩ : ∃ a, co = some a := by
        cases co with
        | none => have := hy.isNone; simp at this; omega
        | some a => exact ⟨a, rfl⟩
      have hqp := qs_pw
      have lt2 : ∀ {x y : Int}, 0 < x → 0 < y → x < qs → y < qs → x * y < big := fun {x y} h1 h2 h3 h4 => by
        have := mul_lt2 h3 h4 (Int.le_of_lt h1) (Int.le_of_lt h2)
        have := qs_mul
        omega
      refine (mul_raw w hE sx sy a lb cb bo2 lb2 cb2 c lc cc co2 lc2 cc2 tx bx ex ty by' ey _ _ hx (.of_bt hbx (by omega)) hy (.of_bt hby (by omega)) (x8 tx0) (y8 ty0) x5 y5 (by omega) (by omega) (by omega) (by omega) (.inl (by omega)) (.inl (by omega))
        (lt2 (by omega) (by omega) x2 y2) (lt2 x3 y3 x4 y4) rfl rfl).mono ?_
      rintro en w' ⟨v, rfl, hn, hb⟩
      exact ⟨v, rfl, ⟨_, _, _, _, hn, dx.mul dy (by omega) (by omega)⟩, hb⟩

theorem p2_one : (1 : Int) < 2 ^ 2400 := by decide +kernel
/-! Quo -/
set_option maxRecDepth 100000 in
set_option maxHeartbeats 4000000 in
theorem quo_raw (w : World) (sx sy : Bool) (ox : Option Addr) (lx cx : Nat) (ox2 : Option Addr) (lx2 cx2 : Nat) (ex : Int) (a : Addr) (ly cy : Nat) (oy2 : Option Addr) (ly2 cy2 : Nat) (ey : Int) (s : Bool) (t b e K D k : Int)
    (HI : Hid (∀ W, Below w.heap.size w W → Calls Tryz.prog 96 #[.agg #[.bool sy, .slice (some a) ly cy, .slice oy2 ly2 cy2, .int .i64 ey]] W (NmPost W s t b e)))
    (HM : Hid (∀ W v, Below w.heap.size w W → Nm W v s t b e → Calls Tryz.prog 95 #[.agg #[.bool sx, .slice ox lx cx, .slice ox2 lx2 cx2, .int .i64 ex], v] W (QnPost W K D k))) :
    Calls Tryz.prog 34 #[.agg #[.bool sx, .slice ox lx cx, .slice ox2 lx2 cx2, .int .i64 ex], .agg #[.bool sy, .slice (some a) ly cy, .slice oy2 ly2 cy2, .int .i64 ey]] w fun en w' => ∃ v, en = .returned (.tuple #[v, .int .i64 0]) ∧ Qn w' v K D k ∧ Below w.heap.size w w' := by
  go_enter Tryz.func34, Tryz.ntmps34
  go_wp2_with fail
  obtain ⟨hA, hB, hC, hW0⟩ := boxes3 w #[.bool sx, .slice ox lx cx, .slice ox2 lx2 cx2, .int .i64 ex] #[.bool sy, .slice (some a) ly cy, .slice oy2 ly2 cy2, .int .i64 ey] #[.bool false, .slice none 0 0, .slice none 0 0, .int .i64 0] 47
  obtain ⟨g, hg⟩ : ∃ g, w.heap.size = g := ⟨_, rfl⟩
  have HT0 : Thr w _ w.heap.size _ _ _ := ⟨hW0, hA, hB, hC⟩
  rw [hg] at HT0
  have HG := Lib.hid hg
  rw [hg] at ⊢
  clear hA hB hC hW0 hg
  generalize ((w.alloc (.cells #[.bool sx, .slice ox lx cx, .slice ox2 lx2 cx2, .int .i64 ex] 47)).alloc (.cells #[.bool sy, .slice (some a) ly cy, .slice oy2 ly2 cy2, .int .i64 ey] 47)).alloc (.cells #[.bool false, .slice none 0 0, .slice none 0 0, .int .i64 0] 47) = W0 at HT0 ⊢
  have hst : ∀ (W1 W2 : World), Hid (Thr w W1 g #[.bool sx, .slice ox lx cx, .slice ox2 lx2 cx2, .int .i64 ex] #[.bool sy, .slice (some a) ly cy, .slice oy2 ly2 cy2, .int .i64 ey] #[.bool false, .slice none 0 0, .slice none 0 0, .int .i64 0]) → Below W1.heap.size W1 W2 → Hid (Thr w W2 g #[.bool sx, .slice ox lx cx, .slice ox2 lx2 cx2, .int .i64 ex] #[.bool sy, .slice (some a) ly cy, .slice oy2 ly2 cy2, .int .i64 ey] #[.bool false, .slice none 0 0, .slice none 0 0, .int .i64 0]) ∧ W2.cell? ⟨g, 0, none⟩ = some (Value.bool sx) ∧ W2.cell? ⟨g, 1, none⟩ = some (.slice ox lx cx) ∧ W2.cell? ⟨g, 2, none⟩ = some (.slice ox2 lx2 cx2) ∧ W2.cell? ⟨g, 3, none⟩ = some (.int .i64 ex) ∧ W2.cell? ⟨(g + 1), 0, none⟩ = some (Value.bool sy) ∧ W2.cell? ⟨(g + 1), 1, none⟩ = some (.slice (some a) ly cy) ∧ W2.cell? ⟨(g + 1), 2, none⟩ = some (.slice oy2 ly2 cy2) ∧ W2.cell? ⟨(g + 1), 3, none⟩ = some (.int .i64 ey) := fun W1 W2 h hb =>
    have h2 := h.out.next hb
    ⟨Lib.hid h2, h2.a.cell 0, h2.a.cell 1, h2.a.cell 2, h2.a.cell 3, h2.b.cell 0, h2.b.cell 1, h2.b.cell 2, h2.b.cell 3⟩
  have HSt := Lib.hid hst
  clear hst
  obtain ⟨H0, r0, r1, r2, r3, r4, r5, r6, r7⟩ : Hid (Thr w W0.drew g #[.bool sx, .slice ox lx cx, .slice ox2 lx2 cx2, .int .i64 ex] #[.bool sy, .slice (some a) ly cy, .slice oy2 ly2 cy2, .int .i64 ey] #[.bool false, .slice none 0 0, .slice none 0 0, .int .i64 0]) ∧ W0.drew.cell? ⟨g, 0, none⟩ = some (Value.bool sx) ∧ W0.drew.cell? ⟨g, 1, none⟩ = some (.slice ox lx cx) ∧ W0.drew.cell? ⟨g, 2, none⟩ = some (.slice ox2 lx2 cx2) ∧ W0.drew.cell? ⟨g, 3, none⟩ = some (.int .i64 ex) ∧ W0.drew.cell? ⟨(g + 1), 0, none⟩ = some (Value.bool sy) ∧ W0.drew.cell? ⟨(g + 1), 1, none⟩ = some (.slice (some a) ly cy) ∧ W0.drew.cell? ⟨(g + 1), 2, none⟩ = some (.slice oy2 ly2 cy2) ∧ W0.drew.cell? ⟨(g + 1), 3, none⟩ = some (.int .i64 ey) := HSt.out _ _ (Lib.hid HT0) ((Drw.step W0 1).below _)
  have c0 := HT0.a.cell
  have c1 := HT0.b.cell
  clear HT0
  go_region_held3 (fun w' => w'.cell? ⟨g, 0, none⟩ = some (Value.bool sx) ∧ w'.cell? ⟨g, 1, none⟩ = some (.slice ox lx cx) ∧ w'.cell? ⟨g, 2, none⟩ = some (.slice ox2 lx2 cx2) ∧ w'.cell? ⟨g, 3, none⟩ = some (.int .i64 ex) ∧ w'.cell? ⟨(g + 1), 0, none⟩ = some (Value.bool sy) ∧ w'.cell? ⟨(g + 1), 1, none⟩ = some (.slice (some a) ly cy) ∧ w'.cell? ⟨(g + 1), 2, none⟩ = some (.slice oy2 ly2 cy2) ∧ w'.cell? ⟨(g + 1), 3, none⟩ = some (.int .i64 ey)) (first | exact ⟨v0, v1, v2, v3, v4, v5, v6, v7⟩ | exact ⟨u0, u1, u2, u3, u4, u5, u6, u7⟩ | exact ⟨r0, r1, r2, r3, r4, r5, r6, r7⟩ | (simp [go_sem, *]; done) | go_keep)
    (first
      | (go_at_call 96; (with_reducible refine (HI.out _ H0.out.bel).mono ?_); rintro en w3 ⟨v3, rfl, hv, hb⟩; obtain ⟨H1, u0, u1, u2, u3, u4, u5, u6, u7⟩ := HSt.out _ _ H0 hb; have V1 := Lib.hid hv; obtain ⟨o4, l4, c4, o42, l42, c42, rfl, -, -⟩ := hv.ex; clear hv hb)
      | (go_at_call 95; (with_reducible refine (HM.out _ _ H1.out.bel V1.out).mono ?_); rintro en w4 ⟨v4, rfl, hv, hb⟩; obtain ⟨H2, v0, v1, v2, v3, v4, v5, v6, v7⟩ := HSt.out _ _ H1 hb; have V2 := Lib.hid hv; obtain ⟨s5, o5, l5, c5, o52, l52, c52, x5, rfl⟩ := hv.shape; have cC := H2.out.c.cell; have fC := H2.out.c.free; have lC := H2.out.c.lt; clear hv hb))
  go_wp2_with fail
  refine bodyPost_ret (v := .tuple #[.agg #[.bool s5, .slice o5 l5 c5, .slice o52 l52 c52, .int .i64 x5], .int .i64 0]) (by simp [results, Tryz.results34, go_sem, cC, lC]) rfl ?_
  have ho := Stored.only (g + 1 + 1) w4 s5 o5 l5 c5 o52 l52 c52 x5
  exact ⟨_, rfl, V2.out.only ho H2.out.c.noW, H2.out.bel.trans (ho.below H2.out.bel.size (by have := HG.out; omega))⟩
theorem sg_quo {s : Bool} {K L F : Int} (hL : sg s L.natAbs = L) (h : L ≠ 0) : K * sg s F = (if L < 0 then -(K * F) else K * F) := by
  cases s
  · have : ¬ L < 0 := by simp only [sg, if_false, Bool.false_eq_true] at hL; omega
    rw [if_neg this]; rfl
  · have : L < 0 := by simp only [sg, if_true] at hL; omega
    rw [if_pos this]; exact Int.mul_neg _ _
/-- the quotient of K 2^k and L 2^l -/
theorem quo_any (w : World) (hE : Env w) (vx vy : Value) (K k L l : Int) (hx : Dn w vx K k) (hy : Dn w vy L l) (ix : inQ K 1 k) (iy : inQ L 1 l) (hL : L ≠ 0) :
    Calls Tryz.prog 34 #[vx, vy] w fun en w' => ∃ v, en = .returned (.tuple #[v, .int .i64 0]) ∧ Qn w' v (if L < 0 then -K else K) L.natAbs (k - l) ∧ Below w.heap.size w w' := by
  have hx := hx.qn
  obtain ⟨sy, ty, ey, ny, dy⟩ := hy
  have dy := dy.qr
  obtain ⟨y1, y2, y3, y4, y5, y6, y7, y8, y9⟩ := iy.flds dy
  have ty0 : ty ≠ 0 := fun h => hL (y9 h).2.2.2
  obtain ⟨hi, hs, _⟩ := dy.inv (by omega)
  obtain ⟨sx, ox, lx, cx, ox2, lx2, cx2, ex, rfl⟩ := hx.shape
  obtain ⟨oy, ly, cy, rfl, hyt⟩ := ny.nilb
  obtain ⟨a, rfl⟩ : ∃ a, oy = some a := by
    cases oy with
    | none => have := hyt.isNone; simp at this; omega
    | some a => exact ⟨a, rfl⟩
  have hqb : qs < big := by
    have h1 := qs_mul
    have h2 := p2pos 2400
    have h3 := Int.mul_le_mul_of_nonneg_left (show (1 : Int) ≤ qs from h2) (Int.le_of_lt h2)
    unfold qs at *
    omega
  obtain ⟨i1, i2, i3, i4, i5, i6⟩ := iy
  refine (quo_raw w sx sy ox lx cx ox2 lx2 cx2 ex a ly cy none 0 0 ey sy 1 ty (-ey) (K * sg sy 1) (1 * L.natAbs) (k + -l) ?_ ?_).mono ?_
  · exact Lib.hid fun W hW => inverse_any W (hE.below hW) _ sy ty 1 ey (ny.below hW) (by omega) (by omega) (y8 ty0) (by omega) (by decide) (by decide) (by omega) (by omega)
  · exact Lib.hid fun W v hW hn => mulQ_any W (hE.below hW) _ _ K 1 k (sg sy 1) L.natAbs (-l) (hx.below hW) ⟨_, _, _, _, hn, hi⟩ ix ⟨by cases sy <;> simp [sg] <;> unfold qs <;> have := p2_one <;> omega, by cases sy <;> simp [sg] <;> unfold qs <;> have := p2_one <;> omega, by omega, by omega, by omega, by omega⟩
  · rintro en w' ⟨v, rfl, hv, hb⟩
    rw [sg_quo hs hL, Int.one_mul, Int.mul_one] at hv
    exact ⟨v, rfl, by rw [show k - l = k + -l by omega]; exact hv, hb⟩
end Go.Proofs.YtnpocnckkaddbaaGreatDoor
