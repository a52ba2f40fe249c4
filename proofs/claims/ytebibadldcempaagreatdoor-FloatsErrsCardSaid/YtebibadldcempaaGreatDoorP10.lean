/-
  Contracts of package exact's naturals: size, word, zeros.
-/
import Derived.Test.YtebibadldcempaaGreatDoorP09
import Derived.Deep.QuietTactic
import Derived.BigQuiet
import Derived.OwnWalk
import Derived.OneCell
import Derived.StillTailTactics
import Derived.Laws.Bits64
import Derived.Laws.Bits64b
set_option linter.unusedVariables false
set_option linter.unusedSimpArgs false
set_option linter.unusedSectionVars false
namespace Go.Proofs.YtebibadldcempaaGreatDoor
open Go.RowKit Go.Shelf

theorem pw_two (k : Nat) : pw ^ k = 2 ^ (64 * k) := by
  rw [Int.pow_mul]; rfl

theorem nv_top {zs : List Int} (h : 0 < zs.length) : nv zs = nv (zs.take (zs.length - 1)) + pw ^ (zs.length - 1) * gd zs (zs.length - 1) := by
  have := nv_take_succ zs (zs.length - 1) (by omega)
  rw [show zs.length - 1 + 1 = zs.length by omega, List.take_length] at this
  exact this

theorem blen_nv {zs : List Int} (hw : Wd zs) (hp : 0 < zs.length) (ht : gd zs (zs.length - 1) ≠ 0) :
    blen (nv zs) = 64 * (zs.length - 1) + blen (gd zs (zs.length - 1)) := by
  have h1 := nv_top hp
  have h2 := nv_nonneg (Wd_take hw (zs.length - 1))
  have h3 := nv_lt (Wd_take hw (zs.length - 1))
  rw [List.length_take, Nat.min_eq_left (by omega)] at h3
  have h4 := Wd_gd hw (zs.length - 1)
  generalize gd zs (zs.length - 1) = t at *
  generalize nv (zs.take (zs.length - 1)) = lo at *
  generalize zs.length - 1 = k at *
  rw [h1, pw_two] at *
  obtain ⟨s1, s2, s3⟩ := blen_spec (show 0 < t by omega)
  generalize blen t = b at *
  obtain ⟨c, rfl⟩ : ∃ c, b = c + 1 := ⟨b - 1, by omega⟩
  have hp : (0 : Int) < 2 ^ (64 * k) := Int.pow_pos (by omega)
  refine blen_unique (k := 64 * k + c) ?_ ?_
  · rw [Int.pow_add]
    have := Int.mul_le_mul_of_nonneg_left s1 (Int.le_of_lt hp)
    simp only [Nat.add_sub_cancel] at this
    omega
  · rw [show 64 * k + c + 1 = 64 * k + (c + 1) by omega, Int.pow_add]
    have := Int.mul_le_mul_of_nonneg_left (show t ≤ 2 ^ (c + 1) - 1 by omega) (Int.le_of_lt hp)
    rw [Int.mul_sub] at this
    omega

theorem blen_le64 {x : Int} (h : x < 18446744073709551616) : blen x ≤ 64 := by
  unfold blen
  split
  · omega
  · have := (Nat.log2_lt (by omega)).2 (show x.toNat < 2 ^ 64 by omega)
    omega

theorem size_any (w : World) (v : Value) (n : Int) (h : Nt w v n) (hs : n < big) :
    Calls Tryz.prog 92 #[v] w fun e w' => e = .returned (.int .i64 (blen n)) ∧ w = w' := by
  rcases h with ⟨rfl, rfl⟩ | ⟨b, off, cap, zs, rfl, h⟩
  · go_enter Tryz.func92, Tryz.ntmps92
    go_wp2
    go_ret
    exact ⟨rfl, rfl⟩
  · have hl := h.len hs
    have hp := h.pos
    have hv := Lib.hid (h.val ▸ blen_nv h.wd hp h.top)
    have hcap := h.cap
    have hc := h.row (zs.length - 1) (by omega)
    obtain ⟨g0, g1⟩ := gd_bounds h.wd (zs.length - 1)
    have hb := blen_le64 g1
    clear h hs
    obtain ⟨k, hk⟩ : ∃ k, zs.length = k := ⟨_, rfl⟩
    rw [hk] at hl hp hv hcap hc hb g0 g1 ⊢
    clear hk
    obtain ⟨m, rfl⟩ : ∃ m, k = m + 1 := ⟨k - 1, by omega⟩
    simp only [Nat.add_sub_cancel] at hv hc hb g0 g1
    have hb0 : ((m : Int) + 1 == 0) = false := by simp; omega
    go_enter Tryz.func92, Tryz.ntmps92
    go_wp2_with (go_at_call 152; refine (lead_any _ _ g0 g1).mono ?_; rintro e w' ⟨rfl, rfl⟩)
    go_ret
    rw [hv.out]
    exact ⟨congrArg (fun i => Ending.returned (Value.int .i64 i)) (by omega), rfl⟩

theorem word_any (w : World) (v : Value) (n : Int) (b off cap : Nat) (zs : List Int) (hv : v = .slice (some ⟨b, off, none⟩) zs.length cap) (h : Ns w b off cap zs n) (hs : n < big) (i : Int) (h0 : 0 ≤ i) (h1 : i < 1000000000) :
    Calls Tryz.prog 150 #[v, .int .i64 i] w fun e w' => e = .returned (.int .u64 (gd zs i.toNat)) ∧ w = w' := by
  subst hv
  obtain ⟨i, rfl⟩ := Int.eq_ofNat_of_zero_le h0
  rw [Int.toNat_natCast]
  have hl := h.len hs
  have hcap := h.cap
  by_cases hi : i < zs.length
  · have hc := h.row i hi
    clear h hs
    obtain ⟨k, hk⟩ : ∃ k, zs.length = k := ⟨_, rfl⟩
    rw [hk] at hl hi hcap ⊢
    clear hk
    go_enter Tryz.func150, Tryz.ntmps150
    go_wp2
    go_ret
    exact ⟨rfl, rfl⟩
  · have hz := Lib.hid (gd_over (zs := zs) (n := i) (by omega))
    clear h hs
    obtain ⟨k, hk⟩ : ∃ k, zs.length = k := ⟨_, rfl⟩
    rw [hk] at hl hi hcap ⊢
    clear hk
    go_enter Tryz.func150, Tryz.ntmps150
    go_wp2
    go_ret
    rw [hz.out]
    exact ⟨rfl, rfl⟩

theorem word_nil (w : World) (i : Int) (h0 : 0 ≤ i) (h1 : i < 1000000000) :
    Calls Tryz.prog 150 #[.slice none 0 0, .int .i64 i] w fun e w' => e = .returned (.int .u64 0) ∧ w = w' := by
  go_enter Tryz.func150, Tryz.ntmps150
  go_wp2
  go_ret
  exact ⟨rfl, rfl⟩

/-- The table of math/bits lies where the program's text lays it. -/
def Env (w : World) : Prop := TabAt 1 Lib.deBruijn64tab w ∧ 1 < w.heap.size
theorem Env.below {w w' : World} (h : Env w) (hw : Below w.heap.size w w') : Env w' :=
  ⟨fun j hj => (hw.cell (p := ⟨1, j, none⟩) h.2).trans (h.1 j hj), Nat.lt_of_lt_of_le h.2 hw.size⟩

theorem tz_any (x : Int) (w : World) (hE : Env w) (h0 : 0 < x) (h1 : x < 18446744073709551616) :
    Calls Tryz.prog 151 #[.int .u64 x] w fun e w' => e = .returned (.int .i64 (Lib.ctz 64 x.toNat)) ∧ w = w' := by
  obtain ⟨k, rfl⟩ := Int.eq_ofNat_of_zero_le (Int.le_of_lt h0)
  rw [Int.toNat_natCast]
  refine (Any7.bits_TrailingZeros64 Tryz.lays29 k (by omega) w fun _ => hE.1).mono ?_
  rintro e w' ⟨rfl, rfl⟩
  exact ⟨rfl, rfl⟩
theorem ctz_spec (x : Int) (h0 : 0 < x) (h1 : x < 18446744073709551616) : Lib.ctz 64 x.toNat ≤ 63 ∧ ∃ m : Int, x = 2 ^ Lib.ctz 64 x.toNat * (2 * m + 1) := by
  obtain ⟨k, rfl⟩ := Int.eq_ofNat_of_zero_le (Int.le_of_lt h0)
  rw [Int.toNat_natCast]
  obtain ⟨m, e, h⟩ := Lib.ctzFrom_spec 64 k (by omega) (by omega)
  have hc : Lib.ctz 64 k = Lib.ctzFrom 64 k := by unfold Lib.ctz; rw [if_neg (by omega)]
  rw [hc]
  refine ⟨by omega, (m : Int), ?_⟩
  have : ((k : Nat) : Int) = ((2 ^ Lib.ctzFrom 64 k * (2 * m + 1) : Nat) : Int) := by rw [← e]
  rw [this]; simp

def ZerosPost (w : World) (n : Int) (e : Ending) (w' : World) : Prop := w = w' ∧ ∃ (z : Nat) (m : Int), e = .returned (.int .i64 z) ∧ n = 2 ^ z * (2 * m + 1)

theorem nv_zeros {zs : List Int} (i : Nat) (hi : i < zs.length) (hz : ∀ j, j < i → gd zs j = 0) (m : Int) (c : Nat) (hm : gd zs i = 2 ^ c * (2 * m + 1)) (hc : c ≤ 63) :
    ∃ m', nv zs = 2 ^ (64 * i + c) * (2 * m' + 1) := by
  have h1 := nv_take_drop zs i (by omega)
  have h2 : nv (zs.take i) = 0 := by
    have : ∀ k, k ≤ i → nv (zs.take k) = 0 := by
      intro k hk
      induction k with
      | zero => rfl
      | succ k ih => rw [nv_take_succ zs k (by omega), ih (by omega), hz k (by omega)]; simp
    exact this i (Nat.le_refl _)
  have h3 : zs.drop i = gd zs i :: zs.drop (i + 1) := by rw [List.drop_eq_getElem_cons hi, gd_get hi]
  rw [h3] at h1
  simp only [nv] at h1
  rw [h1, h2, pw_two, hm]
  have h4 : pw = 2 ^ c * 2 * 2 ^ (63 - c) := by
    rw [← Int.pow_succ, ← Int.pow_add, show c + 1 + (63 - c) = 64 by omega]; rfl
  refine ⟨m + 2 ^ (63 - c) * nv (zs.drop (i + 1)), ?_⟩
  rw [h4, Int.pow_add]
  grind

set_option maxHeartbeats 400000 in
theorem zeros_any (w : World) (hE : Env w) (v : Value) (n : Int) (hN : Nt w v n) (hs : n < big) (hn : n ≠ 0) :
    Calls Tryz.prog 88 #[v] w (ZerosPost w n) := by
  obtain ⟨b, off, cap, zs, rfl, h⟩ := hN.pos hn
  clear hN
  have hl := h.len hs
  have hcap := h.cap
  have hp := h.pos
  have H := Lib.hid h
  have hc := h.row
  have HE := Lib.hid hE
  clear h hs hn hE
  obtain ⟨k, hk⟩ : ∃ k, zs.length = k := ⟨_, rfl⟩
  have HK := Lib.hid hk
  unfold Row at hc
  rw [hk] at hl hcap hp hc ⊢
  clear hk
  go_enter Tryz.func88, Tryz.ntmps88
  go_wp2_with fail
  go_loop [3] (fun i => ∃ m : Nat, m < k ∧ i = .int .i64 m ∧ Hid (∀ j, j < m → gd zs j = 0)) (fun i => k - (intOf i).toNat)
  case atStart => exact ⟨0, hp, rfl, Lib.hid fun j hj => by omega⟩
  case round =>
    obtain ⟨m, hm, rfl, hz⟩ := hrel
    have hcm := hc m hm
    clear hc
    by_cases h0 : gd zs m = 0
    · have hm' : m + 1 < k := by
        apply Classical.byContradiction
        intro hh
        have h9 := H.out.top
        rw [HK.out, show k - 1 = m by omega] at h9
        exact h9 h0
      have HZ : Hid (∀ j, j < m + 1 → gd zs j = 0) := Lib.hid fun j hj => by
        by_cases e : j = m
        · subst e; exact h0
        · exact hz.out j (by omega)
      rw [h0] at hcm
      clear hz h0
      go_wp2_with fail
      go_round
      case rel => exact ⟨m + 1, hm', by go_num, HZ⟩
      case measure => simp [intOf]; omega
    · have hb : (gd zs m == 0) = false := by simpa using h0
      obtain ⟨g0, g1⟩ := gd_bounds H.out.wd m
      have gp : 0 < gd zs m := by omega
      obtain ⟨c1, m', c2⟩ := ctz_spec _ gp g1
      have C2 := Lib.hid c2
      clear h0 c2
      go_wp2_with (go_at_call 151; refine (tz_any _ _ HE.out gp g1).mono ?_; rintro e w' ⟨rfl, rfl⟩)
      go_ret
      obtain ⟨m2, h2⟩ := nv_zeros m (by rw [HK.out]; exact hm) hz.out _ _ C2.out c1
      refine ⟨rfl, 64 * m + Lib.ctz 64 (gd zs m).toNat, m2, ?_, by rw [← h2, H.out.val]⟩
      exact congrArg (fun i => Ending.returned (Value.int .i64 i)) (by omega)
end Go.Proofs.YtebibadldcempaaGreatDoor
/-
  Contract of package exact's comparison of naturals.
-/
namespace Go.Proofs.YtebibadldcempaaGreatDoor
open Go.RowKit Go.Shelf

def cmpI (x y : Int) : Int := if x < y then -1 else if y < x then 1 else 0
theorem cmpI_lt {x y : Int} (h : x < y) : cmpI x y = -1 := by unfold cmpI; rw [if_pos h]
theorem cmpI_gt {x y : Int} (h : y < x) : cmpI x y = 1 := by unfold cmpI; rw [if_neg (by omega), if_pos h]
theorem cmpI_eq (x : Int) : cmpI x x = 0 := by unfold cmpI; rw [if_neg (by omega), if_neg (by omega)]

theorem cmpInt_any (x y : Int) (w : World) :
    Calls Tryz.prog 48 #[.int .i64 x, .int .i64 y] w fun e w' => e = .returned (.int .i64 (cmpI x y)) ∧ w = w' := by
  refine (Any.cmp_Compare_int Tryz.lays122 x y w).mono ?_
  rintro e w' ⟨rfl, rfl⟩
  exact ⟨rfl, rfl⟩

theorem cmp64_any (x y : Int) (w : World) :
    Calls Tryz.prog 148 #[.int .u64 x, .int .u64 y] w fun e w' => e = .returned (.int .i64 (cmpI x y)) ∧ w = w' := by
  rcases Int.lt_trichotomy x y with h | h | h
  · have h1 := Lib.hid (cmpI_lt h)
    go_enter Tryz.func148, Tryz.ntmps148
    go_wp2
    go_ret
    exact ⟨by rw [h1.out]; rfl, rfl⟩
  · subst h
    have h1 := Lib.hid (cmpI_eq x)
    go_enter Tryz.func148, Tryz.ntmps148
    go_wp2
    go_ret
    exact ⟨by rw [h1.out]; rfl, rfl⟩
  · have h1 := Lib.hid (cmpI_gt h)
    go_enter Tryz.func148, Tryz.ntmps148
    go_wp2
    go_ret
    exact ⟨by rw [h1.out]; rfl, rfl⟩

theorem cmp_len (ao bo : Option Addr) (la lb ca cb : Nat) (w : World) (hla : la ≤ 1000) (hlb : lb ≤ 1000) (hne : la ≠ lb) :
    Calls Tryz.prog 86 #[.slice ao la ca, .slice bo lb cb] w fun e w' => e = .returned (.int .i64 (cmpI la lb)) ∧ w = w' := by
  have hb : ((la : Int) != lb) = true := by simp; omega
  go_enter Tryz.func86, Tryz.ntmps86
  go_wp2_with (go_at_call 48; refine (cmpInt_any _ _ _).mono ?_; rintro e w' ⟨rfl, rfl⟩)
  go_ret
  exact ⟨rfl, rfl⟩

theorem cmp_nil (w : World) : Calls Tryz.prog 86 #[.slice none 0 0, .slice none 0 0] w fun e w' => e = .returned (.int .i64 0) ∧ w = w' := by
  go_enter Tryz.func86, Tryz.ntmps86
  go_wp2
  refine wp_loop_rounds 1 ?_
  rw [rounds_succ]
  go_wp2
  go_ret
  exact ⟨rfl, rfl⟩

theorem nv_lt_of {za zb : List Int} (ha : Wd za) (hb : Wd zb) (hl : za.length = zb.length) (i : Nat) (hi : i < za.length) (hz : ∀ j, i < j → gd za j = gd zb j) (hlt : gd za i < gd zb i) : nv za < nv zb := by
  have h1 := nv_take_drop za (i + 1) (by omega)
  have h2 := nv_take_drop zb (i + 1) (by omega)
  have h3 : za.drop (i + 1) = zb.drop (i + 1) := by
    refine List.ext_getElem (by simp [hl]) ?_
    intro j h4 h5
    have h6 := hz (i + 1 + j) (by omega)
    rw [gd_get (by simp at h4; omega), gd_get (by simp at h5; omega)] at h6
    simpa using h6
  rw [nv_take_succ za i hi, h3] at h1
  rw [nv_take_succ zb i (by omega)] at h2
  have h4 := nv_lt (Wd_take ha i)
  have h5 := nv_nonneg (Wd_take hb i)
  rw [List.length_take, Nat.min_eq_left (by omega)] at h4
  have h6 := Int.mul_le_mul_of_nonneg_left (show gd za i ≤ gd zb i - 1 by omega) (Int.le_of_lt (ppos i))
  rw [Int.mul_sub] at h6
  omega

theorem nv_len_lt {za zb : List Int} (ha : Wd za) (hb : Wd zb) (cb : Can zb) (nb : zb ≠ []) (hl : za.length < zb.length) : nv za < nv zb := by
  have h1 := nv_lt ha
  have h2 := nv_ge hb cb nb
  have h3 : pw ^ za.length ≤ pw ^ (zb.length - 1) := pow_mono (by omega)
  omega

def DrewPost (w : World) (v : Value) (e : Ending) (w' : World) : Prop := e = .returned v ∧ Drw w w'

set_option maxHeartbeats 1000000 in
theorem cmp_eq (w : World) (b off cap b2 off2 cap2 : Nat) (za zb : List Int) (hl : za.length = zb.length) (hk : za.length ≤ 1000) (hca : za.length ≤ cap) (hcb : zb.length ≤ cap2) (ha : Wd za) (hb : Wd zb)
    (ra : Row w b off za) (rb : Row w b2 off2 zb) :
    Calls Tryz.prog 86 #[.slice (some ⟨b, off, none⟩) za.length cap, .slice (some ⟨b2, off2, none⟩) zb.length cap2] w (DrewPost w (.int .i64 (cmpI (nv za) (nv zb)))) := by
  rw [← hl] at hcb ⊢
  have HL := Lib.hid hl
  clear hl
  obtain ⟨k, hk'⟩ : ∃ k, za.length = k := ⟨_, rfl⟩
  have HK := Lib.hid hk'
  rw [hk'] at hk hca hcb ⊢
  clear hk'
  have hne : ((k : Int) != k) = false := by simp
  have RA := Lib.hid ra
  have RB := Lib.hid rb
  have HA := Lib.hid ha
  have HB := Lib.hid hb
  clear ra rb ha hb
  go_enter Tryz.func86, Tryz.ntmps86
  go_wp2_with fail
  go_loopw [5] (fun i wr => ∃ m : Nat, m ≤ k ∧ i = .int .i64 ((m : Int) - 1) ∧ Drw w wr ∧ Hid (∀ j, m ≤ j → gd za j = gd zb j)) (fun i _ => (intOf i + 1).toNat)
  case atStart => exact ⟨k, Nat.le_refl _, by go_num, Drw.refl _, Lib.hid fun j hj => by rw [gd_over (by rw [HK.out]; exact hj), gd_over (by rw [← HL.out, HK.out]; exact hj)]⟩
  case round =>
    obtain ⟨m, hm, rfl, hd, hz⟩ := hrel
    rcases m with _ | m
    · go_wp2_with fail
      go_ret
      have e : za = zb := by
        refine List.ext_getElem (by rw [HL.out]) ?_
        intro j h4 h5
        have h6 := hz.out j (by omega)
        rwa [gd_get h4, gd_get h5] at h6
      exact ⟨by rw [e, cmpI_eq]; rfl, hd⟩
    · have e : (((m + 1 : Nat) : Int) - 1) = (m : Int) := by omega
      rw [e]
      clear e
      have hca1 := (hd.cell _).trans (RA.out m (by rw [HK.out]; omega))
      have hcb1 := (hd.cell _).trans (RB.out m (by rw [← HL.out, HK.out]; omega))
      have HD := Lib.hid hd
      clear hd
      by_cases h0 : gd za m = gd zb m
      · have HZ : Hid (∀ j, m ≤ j → gd za j = gd zb j) := Lib.hid fun j hj => by
          by_cases e : j = m
          · subst e; exact h0
          · exact hz.out j (by omega)
        rw [h0] at hca1
        have hn : (gd zb m != gd zb m) = false := by simp
        clear hz h0
        go_wp2_with fail
        go_quiet (fail)
        go_wp2_with fail
        go_roundw
        case rel => exact ⟨m, by omega, by go_num, HD.out.trans (Drw.step _ _), HZ⟩
        case measure => simp [intOf] <;> omega
      · have hn : (gd za m != gd zb m) = true := by simpa using h0
        have H0 := Lib.hid h0
        clear h0
        go_wp2_with fail
        go_quiet (fail)
        go_wp2_with fail
        generalize hwq : wr.drewN nq = wq
        have hcb2 : wq.cell? { block := b2, off := off2 + m } = some (Value.int IntKind.u64 (gd zb m)) := by rw [← hwq]; exact hcb1
        have hca2 : wq.cell? { block := b, off := off + m } = some (Value.int IntKind.u64 (gd za m)) := by rw [← hwq]; exact hca1
        have HQ : Hid (Drw wr wq) := Lib.hid (hwq ▸ Drw.step wr _)
        clear hwq hca1 hcb1
        go_quiet ((go_at_call 148; exact Calls.quiet_of_same ((cmp64_any _ _ _).mono fun _ _ h => ⟨h.1, h.2.symm⟩)))
        go_wp2_with fail
        go_ret
        refine ⟨?_, HD.out.trans (HQ.out.trans (Drw.step _ _))⟩
        rcases Int.lt_trichotomy (gd za m) (gd zb m) with h | h | h
        · rw [cmpI_lt (nv_lt_of HA.out HB.out HL.out m (by rw [HK.out]; omega) (fun j hj => hz.out j (by omega)) h)]
          exact congrArg (fun i => Ending.returned (Value.int .i64 i)) (cmpI_lt h)
        · exact absurd h H0.out
        · rw [cmpI_gt (nv_lt_of HB.out HA.out HL.out.symm m (by rw [← HL.out, HK.out]; omega) (fun j hj => (hz.out j (by omega)).symm) h)]
          exact congrArg (fun i => Ending.returned (Value.int .i64 i)) (cmpI_gt h)

theorem Ns.lt_of_len {w : World} {b off cap b2 off2 cap2 : Nat} {za zb : List Int} {x y : Int} (h : Ns w b off cap za x) (h2 : Ns w b2 off2 cap2 zb y) (hl : za.length < zb.length) : x < y := by
  have := nv_len_lt h.wd h2.wd h2.can h2.ne hl
  rwa [h.val, h2.val] at this

theorem natCmp_any (w : World) (va vb : Value) (x y : Int) (ha : Nt w va x) (hb : Nt w vb y) (hx : x < big) (hy : y < big) :
    Calls Tryz.prog 86 #[va, vb] w (DrewPost w (.int .i64 (cmpI x y))) := by
  rcases ha with ⟨rfl, rfl⟩ | ⟨b, off, cap, za, rfl, ha⟩ <;> rcases hb with ⟨rfl, rfl⟩ | ⟨b2, off2, cap2, zb, rfl, hb⟩
  · refine (cmp_nil w).mono ?_
    rintro e w' ⟨rfl, rfl⟩
    exact ⟨by rw [cmpI_eq], Drw.refl _⟩
  · have h1 := hb.len hy; have h2 := hb.pos; have h3 := hb.npos
    refine (cmp_len _ _ _ _ _ _ w (by omega) h1 (by omega)).mono ?_
    rintro e w' ⟨rfl, rfl⟩
    exact ⟨by rw [cmpI_lt h3, cmpI_lt (by omega)], Drw.refl _⟩
  · have h1 := ha.len hx; have h2 := ha.pos; have h3 := ha.npos
    refine (cmp_len _ _ _ _ _ _ w h1 (by omega) (by omega)).mono ?_
    rintro e w' ⟨rfl, rfl⟩
    exact ⟨by rw [cmpI_gt h3, cmpI_gt (by omega)], Drw.refl _⟩
  · have h1 := hb.len hy; have h2 := ha.len hx
    rcases Nat.lt_trichotomy za.length zb.length with h | h | h
    · refine (cmp_len _ _ _ _ _ _ w h2 h1 (by omega)).mono ?_
      rintro e w' ⟨rfl, rfl⟩
      exact ⟨by rw [cmpI_lt (ha.lt_of_len hb h), cmpI_lt (by omega)], Drw.refl _⟩
    · have := cmp_eq w b off cap b2 off2 cap2 za zb h h2 ha.cap hb.cap ha.wd hb.wd ha.row hb.row
      rw [ha.val, hb.val] at this
      exact this
    · refine (cmp_len _ _ _ _ _ _ w h2 h1 (by omega)).mono ?_
      rintro e w' ⟨rfl, rfl⟩
      exact ⟨by rw [cmpI_gt (hb.lt_of_len ha h), cmpI_gt (by omega)], Drw.refl _⟩
end Go.Proofs.YtebibadldcempaaGreatDoor
/-
  A block of words that the call itself has made: its content, whole.
-/
namespace Go.Proofs.YtebibadldcempaaGreatDoor
open Go.RowKit Go.Shelf

/-- The block g is a row of words, with these numbers. -/
def Blk (w : World) (g : Nat) (L : List Int) : Prop := w.heap[g]? = some (.cells (L.map (Value.int .u64)).toArray 24 (0, 0))

theorem Blk.cell {w : World} {g : Nat} {L : List Int} (h : Blk w g L) (i : Nat) (hi : i < L.length) : w.cell? ⟨g, i, none⟩ = some (.int .u64 (gd L i)) := by
  rw [cell_of_row w g i _ 24 (0, 0) h]
  simp [gd_get hi, hi]
theorem Blk.frozen {w : World} {g : Nat} {L : List Int} (h : Blk w g L) (i : Nat) : w.frozen? ⟨g, i, none⟩ = false := frozen_of_row w g i _ 24 h
theorem Blk.set {w : World} {g : Nat} {L : List Int} (h : Blk w g L) (i : Nat) (x : Int) : Blk (w.setCell ⟨g, i, none⟩ (.int .u64 x)) g (L.set i x) := by
  unfold Blk
  rw [heap_setCell_same w g i _ 24 _ h]
  congr 2
  simp [List.map_set]
theorem Blk.ty {w : World} {g : Nat} {L : List Int} (h : Blk w g L) : Ty w g := ⟨_, _, h⟩
theorem Blk.lt {w : World} {g : Nat} {L : List Int} (h : Blk w g L) : g < w.heap.size := lt_of_block h
theorem Blk.below {w w' : World} {g B : Nat} {L : List Int} (h : Blk w g L) (hg : g < B) (hw : Below B w w') : Blk w' g L := (hw.block g hg).trans h
theorem Blk.drw {w w' : World} {g : Nat} {L : List Int} (h : Blk w g L) (hd : Drw w w') : Blk w' g L := by unfold Blk; rw [hd.heap]; exact h
theorem Blk.row {w : World} {g : Nat} {L : List Int} (h : Blk w g L) : Row w g 0 L := fun i hi => by rw [Nat.zero_add]; exact h.cell i hi
theorem below_set {B : Nat} {a w : World} (h : Below B a w) {g : Nat} (hg : B ≤ g) (i : Nat) (u : Value) : Below B a (w.setCell ⟨g, i, none⟩ u) := h.setCell (p := ⟨g, i, none⟩) hg u

theorem infoU : (Tryz.prog.info? 24).map (fun i => (i.zero, i.size, i.bytes)) = some (some (.int .u64 0), 1, 8) := by kernel_rfl

theorem blk_made {w w' : World} {n : Nat} (h : w'.ownsRow w.heap.size 24 1 (.slice (some ⟨w.heap.size, 0, none⟩) n n) n (madeCells (Value.int .u64 0).cells (n * 1)).toList) : Blk w' w.heap.size (List.replicate n 0) := by
  obtain ⟨h1, h2⟩ := h
  rcases h2 with ⟨h', _⟩ | ⟨g, cap, cur, h', _, hg, h3, _, h5, h6⟩
  · cases h'
  · injection h' with h7 h8 h9
    injection h7 with h7
    injection h7 with h7
    subst h7
    subst h9
    unfold Blk
    rw [hg]
    congr 2
    have e1 : cur.toList = (madeCells (Value.int .u64 0).cells (n * 1)).toList := by
      rw [← h6, List.take_of_length_le (by simp [h5])]
    have e2 : (madeCells (Value.int .u64 0).cells (n * 1)).toList = List.replicate (n * 1) (Value.int .u64 0) := toList_madeCells_one _ _
    have e3 : cur = (List.replicate (n * 1) (Value.int .u64 0)).toArray := by
      rw [← Array.toArray_toList (xs := cur), e1, e2]
    rw [e3, Nat.mul_one, List.map_replicate]
theorem below_made {w w' : World} (hg : w.grownBy w' none) : Below w.heap.size w w' := (Below.refl _ _).grown hg (Nat.le_refl _) (fun k h => by cases h)
end Go.Proofs.YtebibadldcempaaGreatDoor
/-
  Plain facts: shifts of words, of lists of words; what cutting zeros off leaves.
-/
namespace Go.Proofs.YtebibadldcempaaGreatDoor
open Go.RowKit Go.Shelf

theorem or_shift (x y : Int) (d : Nat) (hd : d ≤ 63) (hx0 : 0 ≤ x) (hx : x < 18446744073709551616) (hy0 : 0 ≤ y) (hy : y < 18446744073709551616) :
    bits BinOp.or IntKind.u64 (x / 2 ^ d) (IntKind.u64.wrap (y * 2 ^ (64 - d))) = (x + 18446744073709551616 * y) / 2 ^ d % 18446744073709551616 := by
  obtain ⟨x, rfl⟩ := Int.eq_ofNat_of_zero_le hx0
  obtain ⟨y, rfl⟩ := Int.eq_ofNat_of_zero_le hy0
  have hx' : x < 18446744073709551616 := by omega
  have hy' : y < 18446744073709551616 := by omega
  have e64 : 18446744073709551616 = 2 ^ d * 2 ^ (64 - d) := by rw [← Nat.pow_add, show d + (64 - d) = 64 by omega]
  have e64' : 18446744073709551616 = 2 ^ (64 - d) * 2 ^ d := by rw [Nat.mul_comm]; exact e64
  have hpd : 0 < 2 ^ d := Nat.two_pow_pos d
  have hpe : 0 < 2 ^ (64 - d) := Nat.two_pow_pos _
  have ha : x / 2 ^ d < 2 ^ (64 - d) := by rw [Nat.div_lt_iff_lt_mul hpd, ← e64']; exact hx'
  have hb : y * 2 ^ (64 - d) % 18446744073709551616 = 2 ^ (64 - d) * (y % 2 ^ d) := by
    conv => lhs; rw [e64]
    rw [Nat.mul_mod_mul_right, Nat.mul_comm]
  have hr : y % 2 ^ d < 2 ^ d := Nat.mod_lt _ hpd
  have hsum : 2 ^ (64 - d) * (y % 2 ^ d) + x / 2 ^ d < 18446744073709551616 := by
    have : 2 ^ (64 - d) * (y % 2 ^ d) ≤ 2 ^ (64 - d) * (2 ^ d - 1) := Nat.mul_le_mul_left _ (by omega)
    rw [Nat.mul_sub, ← e64', Nat.mul_one] at this
    have h2 : 2 ^ (64 - d) ≤ 18446744073709551616 := by rw [e64']; exact Nat.le_mul_of_pos_right _ hpd
    omega
  have e1 : ((x : Int) / 2 ^ d) = ((x / 2 ^ d : Nat) : Int) := by simp
  have e2 : IntKind.u64.wrap ((y : Int) * 2 ^ (64 - d)) = ((2 ^ (64 - d) * (y % 2 ^ d) : Nat) : Int) := by
    rw [IntKind.wrap_u64, ← hb]; simp
  rw [e1, e2, bits_or_u64_nat _ _ (by omega) (by omega), Nat.or_comm, ← Nat.two_pow_add_eq_or_of_lt ha]
  have e3 : ((x : Int) + 18446744073709551616 * (y : Int)) / 2 ^ d % 18446744073709551616 = (((x + 18446744073709551616 * y) / 2 ^ d % 18446744073709551616 : Nat) : Int) := by simp
  rw [e3]
  congr 1
  conv => rhs; rw [e64, Nat.mul_assoc, Nat.add_mul_div_left _ _ hpd]
  rw [← e64]
  have hq : y = 2 ^ d * (y / 2 ^ d) + y % 2 ^ d := (Nat.div_add_mod y (2 ^ d)).symm
  have e4 : x / 2 ^ d + 2 ^ (64 - d) * y = (2 ^ (64 - d) * (y % 2 ^ d) + x / 2 ^ d) + 18446744073709551616 * (y / 2 ^ d) := by
    rw [e64']
    conv => lhs; rw [hq]
    rw [Nat.mul_add, Nat.mul_assoc]
    omega
  rw [e4, Nat.add_mul_mod_self_left, Nat.mod_eq_of_lt hsum]

theorem word_div (z y N : Int) (d : Nat) (hd : d ≤ 63) (hz0 : 0 ≤ z) (hz : z < 18446744073709551616) (hN : ∃ M, N = y + 18446744073709551616 * M) :
    (z + 18446744073709551616 * y) / 2 ^ d % 18446744073709551616 + 18446744073709551616 * (N / 2 ^ d) = (z + 18446744073709551616 * N) / 2 ^ d := by
  obtain ⟨M, rfl⟩ := hN
  have hpd : (0 : Int) < 2 ^ d := Int.pow_pos (by omega)
  have hpe : (0 : Int) < 2 ^ (64 - d) := Int.pow_pos (by omega)
  have e64 : (18446744073709551616 : Int) = 2 ^ d * 2 ^ (64 - d) := by rw [← Int.pow_add, show d + (64 - d) = 64 by omega]; rfl
  have hz' : z / 2 ^ d < 2 ^ (64 - d) := by rw [Int.ediv_lt_iff_lt_mul hpd, Int.mul_comm, ← e64]; exact hz
  have hz'' : 0 ≤ z / 2 ^ d := Int.ediv_nonneg hz0 (by omega)
  generalize hD : (2 : Int) ^ d = D at *
  generalize hE : (2 : Int) ^ (64 - d) = E at *
  have a1 : ∀ t, (z + 18446744073709551616 * t) / D = z / D + E * t := by
    intro t; rw [e64, Int.mul_assoc, Int.add_mul_ediv_left _ _ (by omega)]
  have a2 : (y + 18446744073709551616 * M) / D = y / D + E * M := by rw [e64, Int.mul_assoc, Int.add_mul_ediv_left _ _ (by omega)]
  rw [a1, a1, a2]
  have hy := Int.mul_ediv_add_emod y D
  have hr0 : 0 ≤ y % D := Int.emod_nonneg _ (by omega)
  have hr1 : y % D < D := Int.emod_lt_of_pos _ hpd
  generalize y / D = q at *
  generalize y % D = r at *
  generalize z / D = u at *
  have b1 : u + E * y = (u + E * r) + 18446744073709551616 * q := by rw [e64, ← hy]; grind
  have b2 : 0 ≤ u + E * r := by have := Int.mul_nonneg (Int.le_of_lt hpe) hr0; omega
  have b3 : u + E * r < 18446744073709551616 := by
    have := Int.mul_le_mul_of_nonneg_left (show r ≤ D - 1 by omega) (Int.le_of_lt hpe)
    rw [Int.mul_sub, Int.mul_comm E D, ← e64] at this
    omega
  rw [b1, Int.add_mul_emod_self_left, Int.emod_eq_of_lt b2 b3, e64, ← hy]
  grind

theorem nv_head (zs : List Int) : ∃ M, nv zs = gd zs 0 + 18446744073709551616 * M := by
  cases zs with
  | nil => exact ⟨0, rfl⟩
  | cons z zs => exact ⟨nv zs, by simp [nv, gd, pw]⟩

theorem nv_shr (d : Nat) (hd : d ≤ 63) : ∀ (zs L : List Int), Wd zs → L.length = zs.length →
    (∀ j, j < zs.length → gd L j = (gd zs j + 18446744073709551616 * gd zs (j + 1)) / 2 ^ d % 18446744073709551616) → nv L = nv zs / 2 ^ d := by
  intro zs
  induction zs with
  | nil => intro L _ hl _; have : L = [] := List.length_eq_zero_iff.1 (by simpa using hl)
           subst this; simp [nv]
  | cons z zs ih =>
    intro L hw hl hL
    cases L with
    | nil => simp at hl
    | cons x L =>
      have hw' := Wd_cons.1 hw
      have h1 := ih L hw'.2 (by simpa using hl) (fun j hj => by have := hL (j + 1) (by simpa using hj); simpa [gd_cons_succ] using this)
      have h2 := hL 0 (by simp)
      rw [gd_cons_zero, gd_cons_zero, gd_cons_succ] at h2
      simp only [nv, h1, h2]
      exact word_div z (gd zs 0) (nv zs) d hd hw'.1.1 hw'.1.2 (nv_head zs)

theorem nv_drop {zs : List Int} (hw : Wd zs) (s : Nat) (hs : s ≤ zs.length) : nv zs / pw ^ s = nv (zs.drop s) := by
  have h1 := nv_take_drop zs s hs
  have h2 := nv_nonneg (Wd_take hw s)
  have h3 := nv_lt (Wd_take hw s)
  rw [List.length_take, Nat.min_eq_left hs] at h3
  rw [h1, Int.add_mul_ediv_left _ _ (by have := ppos s; omega), Int.ediv_eq_zero_of_lt h2 h3]
  omega

theorem gd_drop (zs : List Int) (s j : Nat) : gd (zs.drop s) j = gd zs (s + j) := by simp [gd]

/-- the word j of zs divided by 2^(64 s + d) -/
def shw (zs : List Int) (s d j : Nat) : Int := (gd zs (j + s) + 18446744073709551616 * gd zs (j + s + 1)) / 2 ^ d % 18446744073709551616
theorem shw_word (zs : List Int) (s d j : Nat) : 0 ≤ shw zs s d j ∧ shw zs s d j < pw := ⟨Int.emod_nonneg _ (by omega), Int.emod_lt_of_pos _ (by omega)⟩

theorem nv_right {zs L : List Int} (hw : Wd zs) (s d m : Nat) (hd : d ≤ 63) (hz : zs.length = s + m) (hl : L.length = m) (hL : ∀ j, j < m → gd L j = shw zs s d j) : nv L = nv zs / 2 ^ (64 * s + d) := by
  have h1 := nv_shr d hd (zs.drop s) L (Wd_drop hw s) (by simp; omega) (fun j hj => by
    rw [hL j (by simp at hj; omega), gd_drop, gd_drop]; unfold shw; rw [Nat.add_comm s j, show s + (j + 1) = j + s + 1 by omega])
  rw [h1, ← nv_drop hw s (by omega), pw_two, Int.ediv_ediv_of_nonneg (Int.le_of_lt (Int.pow_pos (by omega))), ← Int.pow_add]

theorem Wd_of {L : List Int} (f : Nat → Int) (hf : ∀ j, 0 ≤ f j ∧ f j < pw) (hL : ∀ j, j < L.length → gd L j = f j) : Wd L := by
  intro z hz
  obtain ⟨j, hj, rfl⟩ := List.mem_iff_getElem.1 hz
  have := hL j hj
  rw [gd_get hj] at this
  rw [this]; exact hf j

/-- What cutting zeros off a row of words leaves. -/
theorem nt_cut {w : World} {g off cap : Nat} {L : List Int} (hr : Row w g off L) (hg : g < w.heap.size) (hy : Ty w g) (hw : Wd L) (hc : L.length ≤ cap) (m : Nat) (hm : m ≤ L.length) (h1 : m ≠ 0 → gd L (m - 1) ≠ 0) (h2 : ∀ j, m ≤ j → gd L j = 0) :
    Nt w (cutVal ⟨g, off, none⟩ cap m) (nv L) := by
  unfold cutVal
  have hz : ∀ zs : List Int, (∀ j, gd zs j = 0) → nv zs = 0 := by
    intro zs
    induction zs with
    | nil => intro _; rfl
    | cons z zs ih => intro h; have a := h 0; rw [gd_cons_zero] at a; simp only [nv, a, ih (fun j => by have := h (j + 1); rwa [gd_cons_succ] at this)]; simp
  have hd : nv (L.drop m) = 0 := hz _ (fun j => by rw [gd_drop]; exact h2 _ (by omega))
  have hv : nv L = nv (L.take m) := by rw [nv_take_drop L m hm, hd]; simp
  have gt : ∀ j, j < m → gd (L.take m) j = gd L j := by intro j hj; simp [gd, List.getElem?_take, hj]
  by_cases h0 : m = 0
  · rw [if_pos h0, hv, h0]; exact Nt.zero w
  · rw [if_neg h0]
    have hlen : (L.take m).length = m := by simp; omega
    refine .inr ⟨g, off, cap, L.take m, by rw [hlen], ⟨by omega, by omega, hg, Wd_take hw m, ?_, hv.symm, ?_, hy⟩⟩
    · rw [hlen, gt _ (by omega)]; exact h1 h0
    · intro j hj
      rw [hr j (by omega), gt j (by omega)]
end Go.Proofs.YtebibadldcempaaGreatDoor
