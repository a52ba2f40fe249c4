/-
  Contracts of package exact's Floor, IsInt, Twos, Add, for numbers with a divisor.
-/
import Derived.Test.YtnpocnckkaddbaaGreatDoorP22
import Derived.Test.YtnpocnckkaddbaaGreatDoorP23
set_option linter.unusedVariables false
set_option linter.unusedSimpArgs false
set_option linter.unusedSectionVars false
namespace Go.Proofs.YtnpocnckkaddbaaGreatDoor
open Go.RowKit Go.Shelf
attribute [local go_sem] eqNil neqNil

theorem twos_any (w : World) (v : Value) (s : Bool) (t b e : Int) (h : Nm w v s t b e) :
    Calls Tryz.prog 191 #[v] w (IntPost w e) := by
  obtain ⟨bo, lb, cb, bo2, lb2, cb2, rfl, h1, h2⟩ := h.ex
  clear h h1 h2
  go_enter Tryz.func191, Tryz.ntmps191
  go_wp2
  go_ret
  exact ⟨rfl, (Below.refl _ _).alloc (Nat.le_refl _) _⟩

theorem pow_lt_big {a n m : Nat} (h : n + m ≤ a) (h2 : a ≤ 60000) {t : Int} (t0 : 0 ≤ t) (ht : t < 2 ^ n) : t * 2 ^ m < 2 ^ a := by
  obtain ⟨d, rfl⟩ := Nat.exists_eq_add_of_le h
  rw [Int.pow_add, Int.pow_add]
  have h3 := Int.mul_lt_mul_of_pos_right ht (p2pos m)
  have h4 := Int.mul_le_mul_of_nonneg_left (show (1 : Int) ≤ 2 ^ d from p2pos d) (Int.le_of_lt (Int.mul_pos (p2pos n) (p2pos m)))
  omega
theorem p2_mono {a b : Nat} (h : a ≤ b) : (2 : Int) ^ a ≤ 2 ^ b := by
  obtain ⟨d, rfl⟩ := Nat.exists_eq_add_of_le h
  rw [Int.pow_add]
  have := Int.mul_le_mul_of_nonneg_left (show (1 : Int) ≤ 2 ^ d from p2pos d) (Int.le_of_lt (p2pos a))
  omega
theorem lt_sml {a n m : Nat} (h : n + m ≤ 60000) {t : Int} (t0 : 0 ≤ t) (ht : t < 2 ^ n) : t * 2 ^ m < sml := pow_lt_big h (Nat.le_refl _) t0 ht
theorem floorQ_any (w : World) (hE : Env w) (v : Value) (K D k : Int) (h : Qn w v K D k) (i : inQ K D k) :
    Calls Tryz.prog 190 #[v] w (DnPost w (floorQ K D k) 0) := by
  obtain ⟨s, t, b, e, nm, dx⟩ := h
  obtain ⟨x1, x2, x3, x4, x5, x6, x7, x8, x9⟩ := i.flds dx
  have hf := dx.floor
  have hco := dx.co
  have hlt : t * 2 ^ e.toNat < 2 ^ 9800 := pow_lt_big (n := 2400) (by omega) (by omega) x1 x2
  have hl2 : (2 : Int) ^ 9800 < sml := by
    have := p2_mono (show 9801 ≤ 60000 by omega)
    rw [Int.pow_succ] at this
    have := p2pos 9800
    unfold sml; omega
  have hsb := sml_big
  have hn0 := Int.mul_nonneg x1 (Int.le_of_lt (p2pos e.toNat))
  have hqb : qs < big := by
    have := p2_mono (show 2400 ≤ 9800 by omega)
    unfold qs at *; omega
  by_cases hb : b = 1
  · subst hb
    have hd : Dn w v (sg s t * 2 ^ e.toNat) (-((-e).toNat : Int)) := by
      refine ⟨s, t, e, nm, ?_⟩
      by_cases ht : t = 0
      · obtain ⟨rfl, _, rfl, _⟩ := x9 ht
        exact .inl ⟨ht, rfl, rfl, by rw [ht]; simp [sg]⟩
      · exact .inr ⟨x8 ht, by omega, e.toNat, by omega, rfl⟩
    have := floor_any w hE v _ _ hd (by
      rw [sg_mul]
      generalize t * 2 ^ e.toNat = X at *
      cases s <;> simp only [sg, if_true, if_false, Bool.false_eq_true] <;> omega) (by omega)
    rw [hf, Int.one_mul]
    exact this
  · have ht : t ≠ 0 := fun h => hb (x9 h).2.1
    obtain ⟨bo, lb, cb, bo2, lb2, cb2, rfl, hx, hbx⟩ := nm.ex
    have hbx : Nt w (.slice bo2 lb2 cb2) b := by
      rcases hbx with ⟨h1, _⟩ | ⟨_, h1⟩
      · exact absurd h1 hb
      · exact h1
    obtain ⟨a, rfl⟩ : ∃ a, bo2 = some a := by
      cases bo2 with
      | none => have := hbx.isNone; simp at this; omega
      | some a => exact ⟨a, rfl⟩
    refine floorQ_raw w hE s bo lb cb a lb2 cb2 t b e hx hbx hb x3 (by omega) (by omega) (by omega) (by omega) _ _ rfl ?_
    rw [hf, Int.ediv_ediv_of_nonneg (Int.le_of_lt (p2pos _)), Int.mul_comm (2 ^ (-e).toNat) b, sg_mul]
    have hM : 0 < b * 2 ^ (-e).toNat := Int.mul_pos x3 (p2pos _)
    cases s
    · rfl
    · have hnd : ¬ (b * 2 ^ (-e).toNat ∣ t * 2 ^ e.toNat) := by
        intro hd
        have hd2 : b * 2 ^ (-e).toNat ∣ sg true t * 2 ^ e.toNat := by
          rw [sg_mul]; exact Int.dvd_neg.2 hd
        have h3 : b * 2 ^ (-e).toNat ∣ 1 := dvd_co (co_comm hco.1) (by rw [Int.mul_one]; exact hd2)
        have h4 := Int.le_of_dvd (by omega) h3
        have h5 := Int.mul_le_mul_of_nonneg_left (show (1 : Int) ≤ 2 ^ (-e).toNat from p2pos _) (Int.le_of_lt x3)
        omega
      show (-(t * 2 ^ e.toNat)) / (b * 2 ^ (-e).toNat) = -(t * 2 ^ e.toNat / (b * 2 ^ (-e).toNat) + 1)
      generalize t * 2 ^ e.toNat = X at *
      generalize b * 2 ^ (-e).toNat = M at *
      have e1 := Int.mul_ediv_add_emod X M
      have e2 := Int.emod_nonneg X (show M ≠ 0 by omega)
      have e3 := Int.emod_lt_of_pos X hM
      have e4 : X % M ≠ 0 := fun h => hnd (Int.dvd_of_emod_eq_zero h)
      generalize X / M = q at *
      generalize X % M = r at *
      have e5 : -X = (M - r) + M * (-(q + 1)) := by rw [← e1]; grind
      rw [e5, Int.add_mul_ediv_left _ _ (by omega), Int.ediv_eq_zero_of_lt (by omega) (by omega)]
      omega
theorem Qr.addId {sx sy : Bool} {tx bx ex K D k ty ey L l : Int} (hx : Qr sx tx bx ex K D k) (hy : Dr sy ty ey L l) (t0 : 0 < tx) (u0 : 0 < ty) (m : Int) (hm : m = min ex ey) :
    (sg sx (tx * 2 ^ (ex - m).toNat) + sg sy (ty * bx * 2 ^ (ey - m).toNat)) * 2 ^ (m - min m (min k l)).toNat * D = (K * 2 ^ (k - min k l).toNat + L * D * 2 ^ (l - min k l).toNat) * 2 ^ (min k l - min m (min k l)).toNat * bx := by
  rcases hy with ⟨h, _⟩ | ⟨oy, _, jy, hey, hL⟩
  · omega
  have A := hx.at t0 (min m (min k l)) (by omega) (by omega)
  generalize hc : min m (min k l) = c at *
  generalize hu : min k l = u at *
  have e2 : (2 : Int) ^ (ex - m).toNat * 2 ^ (m - c).toNat = 2 ^ (ex - c).toNat := by rw [← Int.pow_add]; congr 1; omega
  have e3 : (2 : Int) ^ (ey - m).toNat * 2 ^ (m - c).toNat = 2 ^ (l - c).toNat * 2 ^ jy := by rw [← Int.pow_add, ← Int.pow_add]; congr 1; omega
  have e4 : (2 : Int) ^ (k - u).toNat * 2 ^ (u - c).toNat = 2 ^ (k - c).toNat := by rw [← Int.pow_add]; congr 1; omega
  have e5 : (2 : Int) ^ (l - u).toNat * 2 ^ (u - c).toNat = 2 ^ (l - c).toNat := by rw [← Int.pow_add]; congr 1; omega
  have e6 : sg sx (tx * 2 ^ (ex - m).toNat) * 2 ^ (m - c).toNat = sg sx tx * 2 ^ (ex - c).toNat := by rw [← e2, ← sg_mul]; grind
  have e7 : sg sy (ty * bx * 2 ^ (ey - m).toNat) * 2 ^ (m - c).toNat = L * bx * 2 ^ (l - c).toNat := by
    rw [← sg_mul, ← sg_mul, Int.mul_assoc, e3, hL]; grind
  rw [Int.add_mul, e6, e7, Int.add_mul, Int.add_mul, Int.add_mul, A]
  rw [← e4, ← e5]
  grind
theorem addQ_any (w : World) (hE : Env w) (vx vy : Value) (K D k L l : Int) (hx : Qn w vx K D k) (hy : Dn w vy L l) (ix : inQ K D k) (iy : inQ L 1 l) :
    Calls Tryz.prog 30 #[vx, vy] w (QnPost w (K * 2 ^ (k - min k l).toNat + L * D * 2 ^ (l - min k l).toNat) D (min k l)) := by
  have hx0 := hx
  obtain ⟨sx, tx, bx, ex, nx, dx⟩ := hx
  obtain ⟨sy, ty, ey, ny, dy⟩ := hy
  obtain ⟨x1, x2, x3, x4, x5, x6, x7, x8, x9⟩ := ix.flds dx
  obtain ⟨y1, y2, _, _, _, y6, y7, y8, y9⟩ := iy.flds dy.qr
  have hD := dx.1
  obtain ⟨bo, lb, cb, bo2, lb2, cb2, rfl, hx, hbx⟩ := nx.ex
  obtain ⟨co, lc, cc, rfl, hy⟩ := ny.nilb
  by_cases tx0 : tx = 0
  · subst tx0
    obtain ⟨-, -, -, rfl⟩ := x9 rfl
    have h := hx.nil
    injection h with h1 h2 h3
    subst h1 h2 h3
    refine (addZero w _ _ _ _ _ _ _ _ _ _ _ _ _).mono ?_
    rintro en w' ⟨rfl, hb⟩
    rw [Int.zero_mul, Int.zero_add]
    exact ⟨_, rfl, ⟨sy, ty, 1, ey, ny.below hb, (dy.qrD hD).lower _ (by omega)⟩, hb⟩
  · obtain ⟨a, rfl⟩ : ∃ a, bo = some a := by
      cases bo with
      | none => have := hx.isNone; simp at this; omega
      | some a => exact ⟨a, rfl⟩
    by_cases ty0 : ty = 0
    · subst ty0
      obtain ⟨-, -, -, rfl⟩ := y9 rfl
      have h := hy.nil
      injection h with h1 h2 h3
      subst h1 h2 h3
      refine (addZero2 w _ _ _ _ _ _ _ _ _ _ _ _ _).mono ?_
      rintro en w' ⟨rfl, hb⟩
      rw [Int.zero_mul, Int.zero_mul, Int.add_zero]
      exact ⟨_, rfl, ⟨sx, tx, bx, ex, nx.below hb, dx.lower _ (by omega)⟩, hb⟩
    · obtain ⟨c, rfl⟩ : ∃ a, co = some a := by
        cases co with
        | none => have := hy.isNone; simp at this; omega
        | some a => exact ⟨a, rfl⟩
      have fin : ∀ {w' : World} {v : Value} {sn : Bool} {n : Int} {z : Nat} {t' : Int}, sg sn n = sg sx (tx * 2 ^ (ex - min ex ey).toNat) + sg sy (ty * bx * 2 ^ (ey - min ex ey).toNat) → n = 2 ^ z * t' → t' % 2 = 1 → 0 < t' → Nm w' v sn t' bx (min ex ey + z) →
          Qn w' v (K * 2 ^ (k - min k l).toNat + L * D * 2 ^ (l - min k l).toNat) D (min k l) := fun h1 h2 h3 h4 h5 =>
        ⟨_, _, _, _, h5, dx.add dy (by omega) (by omega) _ rfl h1 h2 h3 h4⟩
      have fin0 : ∀ {w' : World} {v : Value}, 0 = sg sx (tx * 2 ^ (ex - min ex ey).toNat) + sg sy (ty * bx * 2 ^ (ey - min ex ey).toNat) → Nm w' v false 0 1 0 → Qn w' v (K * 2 ^ (k - min k l).toNat + L * D * 2 ^ (l - min k l).toNat) D (min k l) := fun {w' v} h1 h2 => by
        have hid := dx.addId dy (by omega) (by omega) _ rfl
        rw [← h1] at hid
        have hz : K * 2 ^ (k - min k l).toNat + L * D * 2 ^ (l - min k l).toNat = 0 := by
          rw [Int.zero_mul, Int.zero_mul] at hid
          have p1 := p2ne (min k l - min (min ex ey) (min k l)).toNat
          rcases Int.mul_eq_zero.1 hid.symm with h | h
          · rcases Int.mul_eq_zero.1 h with h | h
            · exact h
            · exact absurd h p1
          · omega
        rw [hz]
        exact ⟨false, 0, 1, 0, h2, ⟨hD, .inl ⟨rfl, rfl, rfl, rfl, rfl⟩⟩⟩
      have s1 : tx * 2 ^ (ex - min ex ey).toNat < 2 ^ 20000 := pow_lt_big (n := 2400) (by omega) (by omega) x1 x2
      have s2' : ty * bx < 2 ^ 4800 := by
        have := mul_lt2 y2 x4 y1 (Int.le_of_lt x3)
        unfold qs at this
        rw [← Int.pow_add] at this
        exact this
      have s2 : ty * bx * 2 ^ (ey - min ex ey).toNat < 2 ^ 20000 := pow_lt_big (n := 4800) (by omega) (by omega) (Int.mul_nonneg y1 (Int.le_of_lt x3)) s2'
      have s3 : (2 : Int) ^ 20000 + 2 ^ 20000 < big := by
        have h1 := sml_big
        have h2 := p2_mono (show 20001 ≤ 60000 by omega)
        rw [Int.pow_succ] at h2
        have h3 := p2pos 20000
        unfold sml at h1; omega
      have p0 := Int.mul_nonneg x1 (Int.le_of_lt (p2pos (ex - min ex ey).toNat))
      have p1 := Int.mul_nonneg (Int.mul_nonneg y1 (Int.le_of_lt x3)) (Int.le_of_lt (p2pos (ey - min ex ey).toNat))
      by_cases hb1 : bx = 1
      · subst hb1
        obtain rfl : bo2 = none := by
          have := hbx.isNone (by decide)
          simpa using this
        obtain ⟨_, _, _, hv, _⟩ := nx.nilb
        injection hv with hv
        have hv2 := congrArg (fun q : Array Value => q[2]?) hv
        simp at hv2
        obtain ⟨rfl, rfl⟩ := hv2
        rw [Int.mul_one] at s2 p1
        refine (addRaw w hE sx sy a lb cb c lc cc tx ty ex ey (min ex ey) hx hy (by omega) (by omega) (by omega) (by omega) rfl (by omega) (by omega) (by omega)).mono ?_
        rintro en w' ⟨v, rfl, ⟨s', t', e', hn, hd⟩, hb⟩
        refine ⟨v, rfl, ?_, hb⟩
        rcases hd with ⟨rfl, rfl, rfl, hz⟩ | ⟨ot, pt, j, rfl, hz⟩
        · exact fin0 (by rw [Int.mul_one]; exact hz.symm) hn
        · exact fin (n := t' * 2 ^ j) (by rw [Int.mul_one, hz, sg_mul]) (Int.mul_comm _ _) ot pt hn
      · have hbx : Nt w (.slice bo2 lb2 cb2) bx := by
          rcases hbx with ⟨h1, _⟩ | ⟨_, h1⟩
          · exact absurd h1 hb1
          · exact h1
        obtain ⟨d, rfl⟩ : ∃ a, bo2 = some a := by
          cases bo2 with
          | none => have := hbx.isNone; simp at this; omega
          | some a => exact ⟨a, rfl⟩
        have hqp := qs_pw
        have hqb : qs < big := by
          have := p2_mono (show 2400 ≤ 20000 by omega)
          have := p2pos 20000
          unfold qs; omega
        refine (addQ_raw w hE sx sy a lb cb d lb2 cb2 c lc cc tx bx ty ex ey (min ex ey) hx hbx hy (by omega) (by omega) hb1 x5 (by omega) (by omega) rfl (.inl (by omega)) (by omega) (by omega) (by omega) (by omega)).mono ?_
        rintro en w' ⟨v, sn, n, rfl, h0, h1, hb, h2⟩
        refine ⟨v, rfl, ?_, hb⟩
        rcases h2 with ⟨rfl, h2⟩ | ⟨z, t', h2, h3, h4, h5⟩
        · exact fin0 (by rw [← h1, sg_zero]) h2
        · exact fin h1 h2 h3 h4 h5
end Go.Proofs.YtnpocnckkaddbaaGreatDoor
