/-
  Contracts of package exact's cmpSizes and Cmp, for dyadic numbers.
-/
import Derived.Test.YtaeekmlnfjimjaaGreatDoorP11
set_option linter.unusedVariables false
set_option linter.unusedSimpArgs false
set_option linter.unusedSectionVars false
namespace Go.Proofs.YtaeekmlnfjimjaaGreatDoor
open Go.RowKit Go.Shelf
attribute [local go_sem] eqNil neqNil

theorem lt_iff_mul {a b c : Int} (hc : 0 < c) : a * c < b * c ↔ a < b := by
  constructor
  · intro h
    apply Classical.byContradiction
    intro hn
    have := Int.mul_le_mul_of_nonneg_right (show b ≤ a by omega) (Int.le_of_lt hc)
    omega
  · intro h; exact Int.mul_lt_mul_of_pos_right h hc
theorem cmpI_mul {a b c : Int} (hc : 0 < c) : cmpI (a * c) (b * c) = cmpI a b := by
  unfold cmpI
  simp only [lt_iff_mul hc]
theorem cmpI_shift {x y : Int} {p q p' q' : Nat} (h : p + q' = p' + q) : cmpI (x * 2 ^ p) (y * 2 ^ q) = cmpI (x * 2 ^ p') (y * 2 ^ q') := by
  rw [← cmpI_mul (p2pos q'), ← cmpI_mul (c := 2 ^ q) (p2pos q) (a := x * 2 ^ p'), Int.mul_assoc, Int.mul_assoc, Int.mul_assoc, Int.mul_assoc, ← Int.pow_add, ← Int.pow_add, ← Int.pow_add, ← Int.pow_add, h, Nat.add_comm q q']

theorem cmp_logs {x y : Int} {p q : Nat} (hx : 0 < x) (hy : 0 < y) (h : blen x + p < blen y + q) : x * 2 ^ p < y * 2 ^ q := by
  obtain ⟨_, a2, a3⟩ := blen_spec hx
  obtain ⟨b1, _, b3⟩ := blen_spec hy
  have h1 : x * 2 ^ p < 2 ^ (blen x + p) := by rw [Int.pow_add]; exact Int.mul_lt_mul_of_pos_right a2 (p2pos p)
  have h2 : (2 : Int) ^ (blen y - 1 + q) ≤ y * 2 ^ q := by rw [Int.pow_add]; exact Int.mul_le_mul_of_nonneg_right b1 (Int.le_of_lt (p2pos q))
  obtain ⟨d, hd⟩ : ∃ d, blen y - 1 + q = blen x + p + d := ⟨blen y - 1 + q - (blen x + p), by omega⟩
  rw [hd, Int.pow_add] at h2
  have h3 := Int.mul_le_mul_of_nonneg_left (show (1 : Int) ≤ 2 ^ d from p2pos d) (Int.le_of_lt (p2pos (blen x + p)))
  omega

theorem boxes2 (w : World) (A B : Array Value) (T : TypeId) : Box ((w.alloc (.cells A T)).alloc (.cells B T)) w.heap.size A ∧ Box ((w.alloc (.cells A T)).alloc (.cells B T)) (w.heap.size + 1) B ∧
    Below w.heap.size w ((w.alloc (.cells A T)).alloc (.cells B T)) := by
  refine ⟨(Box.new w A T).alloc _, ?_, ((Below.refl _ _).alloc (Nat.le_refl _) _).alloc (by simp) _⟩
  have := Box.new (w.alloc (.cells A T)) B T
  rwa [World.size_alloc] at this

def HeadsPost (w : World) (x y : Int) (en : Ending) (w' : World) : Prop := ∃ (n : Nat) (r : Int), blen x ≤ 64 * n ∧ blen y ≤ 64 * n ∧ r = cmpI (x * 2 ^ (64 * n - blen x)) (y * 2 ^ (64 * n - blen y)) ∧ en = .returned (.int .i64 r) ∧ Drw w w'
theorem cmpHeads_nt (w : World) (va vb : Value) (x y : Int) (hx : Nt w va x) (hy : Nt w vb y) (h0 : 0 < x) (h1 : 0 < y) (hbx : x < big) (hby : y < big) :
    Calls Tryz.prog 200 #[va, vb] w (HeadsPost w x y) := by
  obtain ⟨b, off, cap, za, rfl, hA⟩ := hx.pos (by omega)
  obtain ⟨b2, off2, cap2, zb, rfl, hB⟩ := hy.pos (by omega)
  refine (cmpHeads_any w b off cap za x b2 off2 cap2 zb y hA hB hbx hby).mono ?_
  rintro en w' ⟨rfl, hd⟩
  have ea := blen_nv hA.wd hA.pos hA.top
  have eb := blen_nv hB.wd hB.pos hB.top
  have la := blen_le64 (gd_bounds hA.wd (za.length - 1)).2
  have lb := blen_le64 (gd_bounds hB.wd (zb.length - 1)).2
  have pa := hA.pos
  have pb := hB.pos
  rw [hA.val] at ea
  rw [hB.val] at eb
  exact ⟨max za.length zb.length, _, by omega, by omega, rfl, rfl, hd⟩

set_option maxRecDepth 100000 in
set_option maxHeartbeats 1000000 in
theorem cmpSizesRaw (w : World) (sx sy : Bool) (a : Addr) (la ca : Nat) (b : Addr) (lb cb : Nat) (tx ty ex ey : Int) (hx : Nt w (.slice (some a) la ca) tx) (hy : Nt w (.slice (some b) lb cb) ty) (h0 : 0 < tx) (h1 : 0 < ty) (hbx : tx < big) (hby : ty < big)
    (e0 : -1000000 ≤ ex ∧ ex ≤ 1000000) (e1 : -1000000 ≤ ey ∧ ey ≤ 1000000) (R : Int) (hR1 : (blen tx : Int) + ex < blen ty + ey → R = -1) (hR2 : (blen ty : Int) + ey < blen tx + ex → R = 1)
    (hR3 : (blen tx : Int) + ex = blen ty + ey → ∀ n : Nat, blen tx ≤ 64 * n → blen ty ≤ 64 * n → R = cmpI (tx * 2 ^ (64 * n - blen tx)) (ty * 2 ^ (64 * n - blen ty))) :
    Calls Tryz.prog 130 #[.agg #[.bool sx, .slice (some a) la ca, .slice none 0 0, .int .i64 ex], .agg #[.bool sy, .slice (some b) lb cb, .slice none 0 0, .int .i64 ey]] w (IntPost w R) := by
  have nx : Nm w (.agg #[.bool sx, .slice (some a) la ca, .slice none 0 0, .int .i64 ex]) sx tx 1 ex := ⟨_, _, _, _, _, _, rfl, hx, .inl ⟨rfl, rfl⟩⟩
  have ny : Nm w (.agg #[.bool sy, .slice (some b) lb cb, .slice none 0 0, .int .i64 ey]) sy ty 1 ey := ⟨_, _, _, _, _, _, rfl, hy, .inl ⟨rfl, rfl⟩⟩
  obtain ⟨bx, hbxe⟩ : ∃ q, blen tx = q := ⟨_, rfl⟩
  obtain ⟨by', hbye⟩ : ∃ q, blen ty = q := ⟨_, rfl⟩
  have hbx0 := blen_big hbx
  have hby0 := blen_big hby
  have HX := Lib.hid (And.intro nx (And.intro hx (And.intro h0 (And.intro hbx (And.intro e0 hbxe)))))
  have HY := Lib.hid (And.intro ny (And.intro hy (And.intro h1 (And.intro hby (And.intro e1 hbye)))))
  have HR3 := Lib.hid hR3
  obtain ⟨e00, e01⟩ := e0
  obtain ⟨e10, e11⟩ := e1
  rw [hbxe, hbye] at hR1 hR2
  rw [hbxe] at hbx0
  rw [hbye] at hby0
  have HR1 := Lib.hid hR1
  have HR2 := Lib.hid hR2
  clear nx ny hx hy h0 h1 hbx hby hR1 hR2 hR3 hbxe hbye
  go_enter Tryz.func130, Tryz.ntmps130
  go_wp2_with fail
  obtain ⟨hA, hB, hW0⟩ := boxes2 w #[.bool sx, .slice (some a) la ca, .slice none 0 0, .int .i64 ex] #[.bool sy, .slice (some b) lb cb, .slice none 0 0, .int .i64 ey] 49
  generalize hW : (w.alloc (.cells #[.bool sx, .slice (some a) la ca, .slice none 0 0, .int .i64 ex] 49)).alloc (.cells #[.bool sy, .slice (some b) lb cb, .slice none 0 0, .int .i64 ey] 49) = W at hA hB hW0 ⊢
  clear hW
  generalize hg : w.heap.size = g at hA hB
  have HG := Lib.hid hg
  clear hg
  have HW := Lib.hid hW0
  have HA := Lib.hid hA
  have HB := Lib.hid hB
  clear hW0
  have cA := hA.cell
  have cB := hB.cell
  clear hA hB
  have hlog : ∀ W1 : World, Hid (Below w.heap.size w W1 ∧ Box W1 g #[.bool sx, .slice (some a) la ca, .slice none 0 0, .int .i64 ex] ∧ Box W1 (g + 1) #[.bool sy, .slice (some b) lb cb, .slice none 0 0, .int .i64 ey]) →
      (Calls Tryz.prog 198 #[.agg #[.bool sx, .slice (some a) la ca, .slice none 0 0, .int .i64 ex]] W1 fun en w' => en = .returned (.int .i64 ((bx : Int) - 1 + ex)) ∧ Hid (Below w.heap.size w w' ∧ Box w' g #[.bool sx, .slice (some a) la ca, .slice none 0 0, .int .i64 ex] ∧ Box w' (g + 1) #[.bool sy, .slice (some b) lb cb, .slice none 0 0, .int .i64 ey]) ∧ (∀ q, w'.cell? ⟨g, q, none⟩ = (#[.bool sx, .slice (some a) la ca, .slice none 0 0, .int .i64 ex] : Array Value)[q]?) ∧ (∀ q, w'.cell? ⟨g + 1, q, none⟩ = (#[.bool sy, .slice (some b) lb cb, .slice none 0 0, .int .i64 ey] : Array Value)[q]?)) ∧
      (Calls Tryz.prog 198 #[.agg #[.bool sy, .slice (some b) lb cb, .slice none 0 0, .int .i64 ey]] W1 fun en w' => en = .returned (.int .i64 ((by' : Int) - 1 + ey)) ∧ Hid (Below w.heap.size w w' ∧ Box w' g #[.bool sx, .slice (some a) la ca, .slice none 0 0, .int .i64 ex] ∧ Box w' (g + 1) #[.bool sy, .slice (some b) lb cb, .slice none 0 0, .int .i64 ey]) ∧ (∀ q, w'.cell? ⟨g, q, none⟩ = (#[.bool sx, .slice (some a) la ca, .slice none 0 0, .int .i64 ex] : Array Value)[q]?) ∧ (∀ q, w'.cell? ⟨g + 1, q, none⟩ = (#[.bool sy, .slice (some b) lb cb, .slice none 0 0, .int .i64 ey] : Array Value)[q]?)) := by
    intro W1 H
    obtain ⟨h1, h2, h3⟩ := H.out
    obtain ⟨x1, x2, x3, x4, x5, x6⟩ := HX.out
    obtain ⟨y1, y2, y3, y4, y5, y6⟩ := HY.out
    constructor
    · refine (log_nil W1 _ sx tx ex (x1.below h1) x4 x3 x5.1 x5.2).mono ?_
      rintro en w' ⟨rfl, hb⟩
      exact ⟨by rw [x6], Lib.hid ⟨h1.trans (hb.mono h1.size), h2.below hb, h3.below hb⟩, (h2.below hb).cell, (h3.below hb).cell⟩
    · refine (log_nil W1 _ sy ty ey (y1.below h1) y4 y3 y5.1 y5.2).mono ?_
      rintro en w' ⟨rfl, hb⟩
      exact ⟨by rw [y6], Lib.hid ⟨h1.trans (hb.mono h1.size), h2.below hb, h3.below hb⟩, (h2.below hb).cell, (h3.below hb).cell⟩
  have HLOG := Lib.hid hlog
  have HSA : Hid (∀ W' : World, Below w.heap.size w W' → Calls Tryz.prog 199 #[.slice (some a) la ca] W' fun en w' => en = .returned (.int .i64 (bx : Int)) ∧ w' = W') := Lib.hid (fun W' hb => by
    refine (size_any W' _ tx (HX.out.2.1.below hb) HX.out.2.2.2.1).mono ?_
    rintro en w' ⟨rfl, rfl⟩
    exact ⟨by rw [HX.out.2.2.2.2.2], rfl⟩)
  have HSB : Hid (∀ W' : World, Below w.heap.size w W' → Calls Tryz.prog 199 #[.slice (some b) lb cb] W' fun en w' => en = .returned (.int .i64 (by' : Int)) ∧ w' = W') := Lib.hid (fun W' hb => by
    refine (size_any W' _ ty (HY.out.2.1.below hb) HY.out.2.2.2.1).mono ?_
    rintro en w' ⟨rfl, rfl⟩
    exact ⟨by rw [HY.out.2.2.2.2.2], rfl⟩)
  have HH0 : Hid (Below w.heap.size w W.drew ∧ Box W.drew g #[.bool sx, .slice (some a) la ca, .slice none 0 0, .int .i64 ex] ∧ Box W.drew (g + 1) #[.bool sy, .slice (some b) lb cb, .slice none 0 0, .int .i64 ey]) := Lib.hid ⟨HW.out.trans ((Drw.step W 1).below _), HA.out.below ((Drw.step W 1).below _), HB.out.below ((Drw.step W 1).below _)⟩
  clear hlog
  go_region_with (first
    | (go_at_call 198; first | ((with_reducible refine (HLOG.out _ HH0).1.mono ?_); rintro en w1 ⟨rfl, HH1, cA1, cB1⟩) | ((with_reducible refine (HLOG.out _ HH1).1.mono ?_); rintro en w2 ⟨rfl, HH2, cA2, cB2⟩) | ((with_reducible refine (HLOG.out _ HH0).2.mono ?_); rintro en w1 ⟨rfl, HH1, cA1, cB1⟩) | ((with_reducible refine (HLOG.out _ HH1).2.mono ?_); rintro en w2 ⟨rfl, HH2, cA2, cB2⟩))
    | (go_at_call 66; refine (cmpInt_any _ _ _).mono ?_; rintro en w' ⟨rfl, rfl⟩))
  all_goals
    clear cA1 cB1 cA cB HH0 HH1 HLOG
    rcases Int.lt_trichotomy ((bx : Int) - 1 + ex) ((by' : Int) - 1 + ey) with h | h | h
    · have hc := cmpI_lt h
      have HRR := Lib.hid (HR1.out (by omega))
      clear h cA2 cB2
      go_wp2_with fail
      go_ret
      exact ⟨congrArg (fun x => Ending.returned (Value.int .i64 x)) HRR.out.symm, HH2.out.1⟩
    · have hc : cmpI ((bx : Int) - 1 + ex) ((by' : Int) - 1 + ey) = 0 := by rw [h, cmpI_eq]
      have hc2 : cmpI ((bx : Int) + ex) ((by' : Int) + ey) = 0 := by rw [show (bx : Int) + ex = by' + ey by omega, cmpI_eq]
      have x1 : IntKind.i64.wrap ((bx : Int) + ex) = bx + ex := IntWalk.i64_in _ (by omega)
      have x2 : IntKind.i64.wrap ((by' : Int) + ey) = by' + ey := IntWalk.i64_in _ (by omega)
      have HQ : Hid ((bx : Int) + ex = by' + ey) := Lib.hid (by omega)
      clear h
      have cA := HH2.out.2.1.cell
      have cB := HH2.out.2.2.cell
      clear cA2 cB2
      go_wp2_with fail
      go_quiet ((go_at_call 149; exact Calls.quiet_of_same ((times_left _ _ _ _).mono fun _ _ h => ⟨h.1, h.2.symm⟩)))
      go_wp2_with fail
      generalize hd : w2.drewN nq = w3
      have hD : Drw w2 w3 := hd ▸ Drw.step w2 _
      have HA3 := Lib.hid (HH2.out.2.1.below (hD.below _))
      have HB3 := Lib.hid (HH2.out.2.2.below (hD.below _))
      have HW3 := Lib.hid (HH2.out.1.trans (hD.below _))
      clear hd hD cA cB
      have cA := HA3.out.cell
      have cB := HB3.out.cell
      go_quiet ((first | (go_at_call 199; first | (with_reducible refine Calls.quiet_of_same (HSA.out _ ?_); exact HW3.out.trans ((Drw.step _ _).below _)) | (with_reducible refine Calls.quiet_of_same (HSB.out _ ?_); exact HW3.out.trans ((Drw.step _ _).below _))) | (go_at_call 66; exact Calls.quiet_of_same ((cmpInt_any _ _ _).mono fun _ _ h => ⟨h.1, h.2.symm⟩))))
      go_wp2_with fail
      have HW4 : Hid (Below w.heap.size w (w3.drewN nq)) := Lib.hid (HW3.out.trans ((Drw.step w3 nq).below _))
      refine (cmpHeads_nt _ _ _ tx ty (HX.out.2.1.below HW4.out) (HY.out.2.1.below HW4.out) HX.out.2.2.1 HY.out.2.2.1 HX.out.2.2.2.1 HY.out.2.2.2.1).mono ?_
      rintro en w5 ⟨n, r, hn1, hn2, hr, rfl, hd⟩
      have HRR : Hid (R = r) := Lib.hid (by rw [hr]; exact HR3.out (by rw [HX.out.2.2.2.2.2, HY.out.2.2.2.2.2]; exact HQ.out) n hn1 hn2)
      have HD := Lib.hid (HW4.out.trans (hd.below _))
      clear hr hd hn1 hn2
      go_wp2_with fail
      go_ret
      exact ⟨congrArg (fun x => Ending.returned (Value.int .i64 x)) HRR.out.symm, HD.out⟩
    · have hc := cmpI_gt h
      have HRR := Lib.hid (HR2.out (by omega))
      clear h cA2 cB2
      go_wp2_with fail
      go_ret
      exact ⟨congrArg (fun x => Ending.returned (Value.int .i64 x)) HRR.out.symm, HH2.out.1⟩
end Go.Proofs.YtaeekmlnfjimjaaGreatDoor
