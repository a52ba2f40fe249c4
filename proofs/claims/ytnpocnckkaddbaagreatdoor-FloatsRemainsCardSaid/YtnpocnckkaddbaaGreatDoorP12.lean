/-
  Contracts of package exact's head and cmpHeads.
-/
import Derived.Test.YtnpocnckkaddbaaGreatDoorP11
set_option linter.unusedVariables false
set_option linter.unusedSimpArgs false
set_option linter.unusedSectionVars false
namespace Go.Proofs.YtnpocnckkaddbaaGreatDoor
open Go.RowKit Go.Shelf
attribute [local go_sem] eqNil neqNil

theorem or_high (x y : Int) (d : Nat) (hd : d ≤ 63) (hx0 : 0 ≤ x) (hx : x < 2 ^ d) (hy0 : 0 ≤ y) (hy : y < 18446744073709551616) :
    bits BinOp.or IntKind.u64 (IntKind.u64.wrap (y * 2 ^ d)) x = y * 2 ^ d % 18446744073709551616 + x := by
  have h := or_low x y d hd hx0 hx hy0 hy
  obtain ⟨x, rfl⟩ := Int.eq_ofNat_of_zero_le hx0
  obtain ⟨m, hm⟩ : ∃ m : Nat, IntKind.u64.wrap (y * 2 ^ d) = m := ⟨(IntKind.u64.wrap (y * 2 ^ d)).toNat, by
    have : 0 ≤ IntKind.u64.wrap (y * 2 ^ d) := by rw [IntKind.wrap_u64]; exact Int.emod_nonneg _ (by omega)
    omega⟩
  have hm1 : m < 18446744073709551616 := by
    have : IntKind.u64.wrap (y * 2 ^ d) < 18446744073709551616 := by rw [IntKind.wrap_u64]; exact Int.emod_lt_of_pos _ (by omega)
    omega
  have e64 : (18446744073709551616 : Int) = 2 ^ (64 - d) * 2 ^ d := by rw [← Int.pow_add, show 64 - d + d = 64 by omega]; rfl
  have hx1 : x < 18446744073709551616 := by
    have : (2 : Int) ^ d ≤ 18446744073709551616 := by
      rw [e64]
      have := Int.mul_le_mul_of_nonneg_right (show (1 : Int) ≤ 2 ^ (64 - d) from p2pos _) (Int.le_of_lt (p2pos d))
      omega
    omega
  rw [hm] at h ⊢
  rw [bits_or_u64_nat _ _ hx1 hm1] at h
  rw [bits_or_u64_nat _ _ hm1 hx1, Nat.or_comm, h]
  omega

/-- word j of zs times 2^u -/
def hw (zs : List Int) (u j : Nat) : Int := gd zs j * 2 ^ u % 18446744073709551616 + (if j = 0 then 0 else gd zs (j - 1) / 2 ^ (64 - u))
theorem hw_zero (zs : List Int) (u : Nat) : hw zs u 0 = gd zs 0 * 2 ^ u % 18446744073709551616 := by simp [hw]
theorem hw_succ (zs : List Int) (u j : Nat) : hw zs u (j + 1) = gd zs (j + 1) * 2 ^ u % 18446744073709551616 + gd zs j / 2 ^ (64 - u) := by simp [hw]

theorem split_word (z : Int) (u : Nat) (hu : u ≤ 63) : z * 2 ^ u = z * 2 ^ u % 18446744073709551616 + 18446744073709551616 * (z / 2 ^ (64 - u)) := by
  have e64 : (18446744073709551616 : Int) = 2 ^ (64 - u) * 2 ^ u := by rw [← Int.pow_add, show 64 - u + u = 64 by omega]; rfl
  have h1 := Int.mul_ediv_add_emod (z * 2 ^ u) 18446744073709551616
  have h2 : z * 2 ^ u / 18446744073709551616 = z / 2 ^ (64 - u) := by
    rw [e64, Int.mul_ediv_mul_of_pos_left _ _ (p2pos u)]
  rw [h2] at h1
  omega

theorem div_lt_p2 (z : Int) (u : Nat) (hu : u ≤ 63) (h : z < 18446744073709551616) : z / 2 ^ (64 - u) < 2 ^ u := by
  have e64 : (18446744073709551616 : Int) = 2 ^ (64 - u) * 2 ^ u := by rw [← Int.pow_add, show 64 - u + u = 64 by omega]; rfl
  rw [Int.ediv_lt_iff_lt_mul (p2pos _), Int.mul_comm, ← e64]; exact h

theorem hw_word {zs : List Int} (hwd : Wd zs) (u : Nat) (hu : u ≤ 63) (j : Nat) : 0 ≤ hw zs u j ∧ hw zs u j < pw := by
  have e64 : (18446744073709551616 : Int) = 2 ^ (64 - u) * 2 ^ u := by rw [← Int.pow_add, show 64 - u + u = 64 by omega]; rfl
  have hr0 : 0 ≤ gd zs j % 2 ^ (64 - u) := Int.emod_nonneg _ (by have := p2pos (64 - u); omega)
  have hr1 : gd zs j % 2 ^ (64 - u) < 2 ^ (64 - u) := Int.emod_lt_of_pos _ (p2pos _)
  have lo : gd zs j * 2 ^ u % 18446744073709551616 = (gd zs j % 2 ^ (64 - u)) * 2 ^ u := by
    conv => lhs; rw [e64]
    rw [Int.mul_comm (gd zs j), Int.mul_comm (2 ^ (64 - u)), Int.mul_emod_mul_of_pos _ _ (p2pos u), Int.mul_comm]
  have b1 : (gd zs j % 2 ^ (64 - u)) * 2 ^ u ≤ 18446744073709551616 - 2 ^ u := by
    have := Int.mul_le_mul_of_nonneg_right (show gd zs j % 2 ^ (64 - u) ≤ 2 ^ (64 - u) - 1 by omega) (Int.le_of_lt (p2pos u))
    rw [Int.sub_mul, ← e64] at this
    omega
  have b0 : 0 ≤ (gd zs j % 2 ^ (64 - u)) * 2 ^ u := Int.mul_nonneg hr0 (Int.le_of_lt (p2pos u))
  have c : ∀ i, 0 ≤ gd zs i / 2 ^ (64 - u) ∧ gd zs i / 2 ^ (64 - u) < 2 ^ u := fun i =>
    ⟨Int.ediv_nonneg (gd_bounds hwd i).1 (Int.le_of_lt (p2pos _)), div_lt_p2 _ u hu (gd_bounds hwd i).2⟩
  unfold pw
  cases j with
  | zero => rw [hw_zero, lo]; have := p2pos u; omega
  | succ j => rw [hw_succ, lo]; have := c j; omega

theorem nv_hw_part (zs : List Int) (u : Nat) (hu : u ≤ 63) : ∀ j, nv ((List.range j).map (hw zs u)) + pw ^ j * (if j = 0 then 0 else gd zs (j - 1) / 2 ^ (64 - u)) = nv (zs.take j) * 2 ^ u := by
  intro j
  induction j with
  | zero => simp [nv]
  | succ j ih =>
    rw [List.range_succ, List.map_append, nv_append, nv_take_all]
    simp only [List.map_cons, List.map_nil, nv, List.length_map, List.length_range, Nat.add_sub_cancel, Nat.add_one_ne_zero, if_false]
    have h := split_word (gd zs j) u hu
    rw [Int.add_mul, ← ih, Int.mul_assoc (pw ^ j), h, Int.pow_succ, show pw = 18446744073709551616 from rfl]
    unfold hw
    generalize (if j = 0 then (0 : Int) else gd zs (j - 1) / 2 ^ (64 - u)) = c
    generalize gd zs j * 2 ^ u % 18446744073709551616 = r
    generalize gd zs j / 2 ^ (64 - u) = q
    grind

theorem nv_hw {zs : List Int} (u : Nat) (hu : u ≤ 63) (hp : 0 < zs.length) (ht : gd zs (zs.length - 1) / 2 ^ (64 - u) = 0) : nv ((List.range zs.length).map (hw zs u)) = nv zs * 2 ^ u := by
  have h := nv_hw_part zs u hu zs.length
  rw [if_neg (by omega), ht, List.take_length] at h
  simpa using h

/-- what head returns: word i from above of zs, shifted so that its highest bit is 1 -/
def headw (zs : List Int) (u i : Nat) : Int := if i < zs.length then hw zs u (zs.length - 1 - i) else 0

theorem head_any (w : World) (b off cap : Nat) (zs : List Int) (n : Int) (h : Ns w b off cap zs n) (hn : n < big) (i : Nat) (hi : i ≤ 1000) :
    Calls Tryz.prog 229 #[.slice (some ⟨b, off, none⟩) zs.length cap, .int .i64 i] w (DrewPost w (.int .u64 (headw zs (64 - blen (gd zs (zs.length - 1))) i))) := by
  have hl := h.len hn
  have hp := h.pos
  have hcap := h.cap
  have H := Lib.hid h
  obtain ⟨t0, t1⟩ := gd_bounds h.wd (zs.length - 1)
  have htop := h.top
  have ht := h.row (zs.length - 1) (by omega)
  obtain ⟨s1, s2, s3⟩ := blen_spec (show 0 < gd zs (zs.length - 1) by omega)
  have hbl := blen_le64 t1
  have hrow := h.row
  clear h hn s1 s2
  obtain ⟨l, hl'⟩ : ∃ l, zs.length = l := ⟨_, rfl⟩
  have HL := Lib.hid hl'
  unfold Row at hrow
  rw [hl'] at hl hp hcap ht t0 t1 hbl s3 hrow htop ⊢
  clear hl'
  obtain ⟨m, rfl⟩ : ∃ m, l = m + 1 := ⟨l - 1, by omega⟩
  simp only [Nat.add_sub_cancel] at *
  generalize hB : blen (gd zs m) = bl at *
  have HB := Lib.hid hB
  clear hB htop
  by_cases hi0 : i ≤ m
  · obtain ⟨j, rfl⟩ : ∃ j, m = i + j := ⟨m - i, by omega⟩
    cases j with
    | zero =>
      simp only [Nat.add_zero] at *
      have HV : Hid (headw zs (64 - bl) i = IntKind.u64.wrap (gd zs 0 * 2 ^ (64 - bl))) := Lib.hid (by
        unfold headw
        rw [if_pos (by rw [HL.out]; omega), HL.out, show i + 1 - 1 - i = 0 by omega, hw_zero, IntKind.wrap_u64])
      have hc0 := hrow 0 (by omega)
      rw [Nat.add_zero] at hc0
      clear hrow
      go_enter Tryz.func229, Tryz.ntmps229
      go_wp2_with (go_at_call 228; refine (lead_any _ _ t0 t1).mono ?_; rintro en w' ⟨rfl, rfl⟩; rw [HB.out])
      go_ret
      rw [HV.out]
      exact ⟨rfl, Drw.refl _⟩
    | succ j =>
      have HV : Hid (headw zs (64 - bl) i = gd zs (j + 1) * 2 ^ (64 - bl) % 18446744073709551616 + gd zs j / 2 ^ (64 - (64 - bl))) := Lib.hid (by
        unfold headw
        rw [if_pos (by rw [HL.out]; omega), HL.out, show i + (j + 1) + 1 - 1 - i = j + 1 by omega, hw_succ])
      have hc1 := hrow (j + 1) (by omega)
      have hc0 := hrow j (by omega)
      clear hrow
      obtain ⟨a0, a1⟩ := gd_bounds H.out.wd (j + 1)
      obtain ⟨b0, b1⟩ := gd_bounds H.out.wd j
      have x1 : ((i : Int) + (j + 1) + 1 - 1 - i) = j + 1 := by omega
      go_enter Tryz.func229, Tryz.ntmps229
      go_wp2_with (go_at_call 228; refine (lead_any _ _ t0 t1).mono ?_; rintro en w' ⟨rfl, rfl⟩; rw [HB.out])
      go_quiet (fail)
      go_wp2_with fail
      go_ret
      rw [HV.out]
      refine ⟨?_, Drw.step _ _⟩
      exact congrArg (fun x => Ending.returned (Value.int .u64 x)) (or_high (gd zs j / 2 ^ (64 - (64 - bl))) (gd zs (j + 1)) (64 - bl) (by omega) (Int.ediv_nonneg b0 (Int.le_of_lt (p2pos _))) (div_lt_p2 _ _ (by omega) b1) a0 a1)
  · have HV : Hid (headw zs (64 - bl) i = 0) := Lib.hid (by unfold headw; rw [if_neg (by rw [HL.out]; omega)])
    clear hrow
    go_enter Tryz.func229, Tryz.ntmps229
    go_wp2_with fail
    go_ret
    rw [HV.out]
    exact ⟨rfl, Drw.refl _⟩

/-- the words that head gives, the lowest one first, in n words -/
def padded (zs : List Int) (u n : Nat) : List Int := List.replicate (n - zs.length) 0 ++ (List.range zs.length).map (hw zs u)
theorem padded_len (zs : List Int) (u n : Nat) (h : zs.length ≤ n) : (padded zs u n).length = n := by unfold padded; simp; omega
theorem padded_gd (zs : List Int) (u n j : Nat) (h : zs.length ≤ n) (hj : j < n) : gd (padded zs u n) j = headw zs u (n - 1 - j) := by
  unfold padded headw gd
  by_cases h1 : j < n - zs.length
  · rw [if_neg (by omega)]
    simp [List.getElem?_append, h1]
  · rw [if_pos (by omega)]
    simp only [List.getD_eq_getElem?_getD]
    rw [List.getElem?_append_right (by simp; omega)]
    rw [List.getElem?_map, List.getElem?_range (by simp; omega)]
    simp only [List.length_replicate, Option.map_some, Option.getD_some]
    congr 1
    omega
theorem padded_wd {zs : List Int} (h : Wd zs) (u n : Nat) (hu : u ≤ 63) : Wd (padded zs u n) := by
  unfold padded
  refine Wd_append.2 ⟨Wd_replicate _, ?_⟩
  intro z hz
  obtain ⟨j, _, rfl⟩ := List.mem_map.1 hz
  exact hw_word h u hu j
theorem padded_nv {zs : List Int} (hwd : Wd zs) (hp : 0 < zs.length) (ht : gd zs (zs.length - 1) ≠ 0) (n : Nat) (hn : zs.length ≤ n) :
    nv (padded zs (64 - blen (gd zs (zs.length - 1))) n) = nv zs * 2 ^ (64 * n - blen (nv zs)) := by
  have hb := blen_nv hwd hp ht
  obtain ⟨t0, t1⟩ := gd_bounds hwd (zs.length - 1)
  have hb64 := blen_le64 t1
  obtain ⟨s1, s2, s3⟩ := blen_spec (show 0 < gd zs (zs.length - 1) by omega)
  unfold padded
  rw [nv_append, nv_replicate, nv_hw _ (by omega) hp (by
    rw [show 64 - (64 - blen (gd zs (zs.length - 1))) = blen (gd zs (zs.length - 1)) by omega]
    exact Int.ediv_eq_zero_of_lt t0 s2), hb, List.length_replicate, pw_two]
  generalize blen (gd zs (zs.length - 1)) = bl at *
  rw [show 64 * n - (64 * (zs.length - 1) + bl) = 64 * (n - zs.length) + (64 - bl) by omega, Int.pow_add]
  grind

def hd (zs : List Int) (i : Nat) : Int := headw zs (64 - blen (gd zs (zs.length - 1))) i
theorem head_hd (w : World) (b off cap : Nat) (zs : List Int) (n : Int) (h : Ns w b off cap zs n) (hn : n < big) (i : Nat) (hi : i ≤ 1000) :
    Calls Tryz.prog 229 #[.slice (some ⟨b, off, none⟩) zs.length cap, .int .i64 i] w (DrewPost w (.int .u64 (hd zs i))) := head_any w b off cap zs n h hn i hi

set_option maxHeartbeats 1000000 in
theorem cmpHeads_any (w : World) (b off cap : Nat) (za : List Int) (x : Int) (b2 off2 cap2 : Nat) (zb : List Int) (y : Int) (ha : Ns w b off cap za x) (hb : Ns w b2 off2 cap2 zb y) (hx : x < big) (hy : y < big) :
    Calls Tryz.prog 169 #[.slice (some ⟨b, off, none⟩) za.length cap, .slice (some ⟨b2, off2, none⟩) zb.length cap2] w
      (DrewPost w (.int .i64 (cmpI (x * 2 ^ (64 * max za.length zb.length - blen x)) (y * 2 ^ (64 * max za.length zb.length - blen y))))) := by
  have hla := ha.len hx
  have hlb := hb.len hy
  have HX := Lib.hid hx
  have HY := Lib.hid hy
  have HA := Lib.hid ha
  have HB := Lib.hid hb
  obtain ⟨n, hn⟩ : ∃ n, max za.length zb.length = n := ⟨_, rfl⟩
  have HF : ∀ i, i < n → (∀ j, j < i → hd za j = hd zb j) → hd za i ≠ hd zb i → cmpI (hd za i) (hd zb i) = cmpI (x * 2 ^ (64 * n - blen x)) (y * 2 ^ (64 * n - blen y)) := by
    intro i hi hj hne
    have pa := padded_nv ha.wd ha.pos ha.top n (by omega)
    have pb := padded_nv hb.wd hb.pos hb.top n (by omega)
    rw [ha.val] at pa
    rw [hb.val] at pb
    rw [← pa, ← pb]
    have ua : 64 - blen (gd za (za.length - 1)) ≤ 63 := by
      obtain ⟨_, _, s⟩ := blen_spec (show 0 < gd za (za.length - 1) by have := ha.top; have := (gd_bounds ha.wd (za.length - 1)).1; omega)
      omega
    have ub : 64 - blen (gd zb (zb.length - 1)) ≤ 63 := by
      obtain ⟨_, _, s⟩ := blen_spec (show 0 < gd zb (zb.length - 1) by have := hb.top; have := (gd_bounds hb.wd (zb.length - 1)).1; omega)
      omega
    have la := padded_len za (64 - blen (gd za (za.length - 1))) n (by omega)
    have lb := padded_len zb (64 - blen (gd zb (zb.length - 1))) n (by omega)
    have ga := padded_gd za (64 - blen (gd za (za.length - 1))) n
    have gb := padded_gd zb (64 - blen (gd zb (zb.length - 1))) n
    have wa := padded_wd ha.wd (64 - blen (gd za (za.length - 1))) n ua
    have wb := padded_wd hb.wd (64 - blen (gd zb (zb.length - 1))) n ub
    have hjj : ∀ j, n - 1 - i < j → gd (padded za (64 - blen (gd za (za.length - 1))) n) j = gd (padded zb (64 - blen (gd zb (zb.length - 1))) n) j := by
      intro j h
      by_cases hjn : j < n
      · rw [ga j (by omega) hjn, gb j (by omega) hjn]; exact hj _ (by omega)
      · rw [gd_over (by omega), gd_over (by omega)]
    have e : n - 1 - (n - 1 - i) = i := by omega
    rcases Int.lt_trichotomy (hd za i) (hd zb i) with h | h | h
    · rw [cmpI_lt h, cmpI_lt (nv_lt_of wa wb (by rw [la, lb]) (n - 1 - i) (by omega) hjj (by rw [ga _ (by omega) (by omega), gb _ (by omega) (by omega), e]; exact h))]
    · exact absurd h hne
    · rw [cmpI_gt h, cmpI_gt (nv_lt_of wb wa (by rw [la, lb]) (n - 1 - i) (by omega) (fun j h => (hjj j h).symm) (by rw [ga _ (by omega) (by omega), gb _ (by omega) (by omega), e]; exact h))]
  have HE : (∀ j, j < n → hd za j = hd zb j) → cmpI (x * 2 ^ (64 * n - blen x)) (y * 2 ^ (64 * n - blen y)) = 0 := by
    intro hj
    have pa := padded_nv ha.wd ha.pos ha.top n (by omega)
    have pb := padded_nv hb.wd hb.pos hb.top n (by omega)
    rw [ha.val] at pa
    rw [hb.val] at pb
    rw [← pa, ← pb]
    have la := padded_len za (64 - blen (gd za (za.length - 1))) n (by omega)
    have lb := padded_len zb (64 - blen (gd zb (zb.length - 1))) n (by omega)
    have : padded za (64 - blen (gd za (za.length - 1))) n = padded zb (64 - blen (gd zb (zb.length - 1))) n := by
      refine List.ext_getElem (by omega) ?_
      intro j h1 h2
      rw [← gd_get h1, ← gd_get h2, padded_gd _ _ _ _ (by omega) (by omega), padded_gd _ _ _ _ (by omega) (by omega)]
      exact hj _ (by omega)
    rw [this, cmpI_eq]
  have HFF := Lib.hid HF
  have HEE := Lib.hid HE
  have ha2 := fun (wx : World) (hd : Drw w wx) (i : Nat) (hi : i ≤ 1000) => head_hd wx b off cap za x (HA.out.below (hd.below _)) HX.out i hi
  have hb2 := fun (wx : World) (hd : Drw w wx) (i : Nat) (hi : i ≤ 1000) => head_hd wx b2 off2 cap2 zb y (HB.out.below (hd.below _)) HY.out i hi
  have HA2 := Lib.hid ha2
  have HB2 := Lib.hid hb2
  clear HF HE ha2 hb2
  rw [hn]
  obtain ⟨la, hla'⟩ : ∃ l, za.length = l := ⟨_, rfl⟩
  obtain ⟨lb, hlb'⟩ : ∃ l, zb.length = l := ⟨_, rfl⟩
  have HLA := Lib.hid hla'
  have HLB := Lib.hid hlb'
  rw [hla'] at hla HA2 hn ⊢
  rw [hlb'] at hlb HB2 hn ⊢
  have hn2 : max (la : Int) (lb : Int) = (n : Int) := by omega
  have hn3 : n ≤ 1000 := by omega
  generalize hR : cmpI (x * 2 ^ (64 * n - blen x)) (y * 2 ^ (64 * n - blen y)) = R at HFF HEE ⊢
  clear hla' hlb' hn hR ha hb hx hy
  go_enter Tryz.func169, Tryz.ntmps169
  go_wp2_with fail
  go_loopw [13] (fun u wr => ∃ i : Nat, i ≤ n ∧ u = .int .i64 i ∧ Drw w wr ∧ Hid (∀ j, j < i → hd za j = hd zb j)) (fun u _ => n - (intOf u).toNat)
  case atStart => exact ⟨0, Nat.zero_le _, rfl, Drw.refl _, Lib.hid fun j hj => by omega⟩
  case round =>
    obtain ⟨i, hi, rfl, hdr, hz⟩ := hrel
    have HD := Lib.hid hdr
    clear hdr
    by_cases hlt : i < n
    · by_cases h0 : hd za i = hd zb i
      · have hq : (hd za i != hd zb i) = false := by simpa using h0
        have HZ : Hid (∀ j, j < i + 1 → hd za j = hd zb j) := Lib.hid fun j hj => by
          by_cases e : j = i
          · subst e; exact h0
          · exact hz.out j (by omega)
        clear h0 hz
        have hA := HA2.out wr HD.out i (by omega)
        go_wp2_with fail
        refine hA.mono ?_
        rintro en w1 ⟨rfl, hd1⟩
        have HD1 := Lib.hid (HD.out.trans hd1)
        clear hA hd1
        have hB := HB2.out w1 HD1.out i (by omega)
        go_wp2_with fail
        refine hB.mono ?_
        rintro en w2 ⟨rfl, hd2⟩
        have HD2 := Lib.hid (HD1.out.trans hd2)
        clear hB hd2
        go_wp2_with fail
        go_roundw
        case rel => exact ⟨i + 1, by omega, by go_num, HD2.out, HZ⟩
        case measure => simp [intOf] <;> omega
      · have hq : (hd za i != hd zb i) = true := by simpa using h0
        have HR := Lib.hid (HFF.out i hlt hz.out h0)
        clear h0
        have hA := HA2.out wr HD.out i (by omega)
        go_wp2_with fail
        refine hA.mono ?_
        rintro en w1 ⟨rfl, hd1⟩
        have HD1 := Lib.hid (HD.out.trans hd1)
        clear hA hd1
        have hB := HB2.out w1 HD1.out i (by omega)
        go_wp2_with fail
        refine hB.mono ?_
        rintro en w2 ⟨rfl, hd2⟩
        have HD2 := Lib.hid (HD1.out.trans hd2)
        clear hB hd2
        go_wp2_with (go_at_call 225; refine (cmp64_any _ _ _).mono ?_; rintro en w' ⟨rfl, rfl⟩)
        go_ret
        exact ⟨congrArg (fun x => Ending.returned (Value.int .i64 x)) HR.out, HD2.out⟩
    · have hie : i = n := by omega
      subst hie
      have HR := Lib.hid (HEE.out hz.out)
      go_wp2_with fail
      go_ret
      exact ⟨congrArg (fun x => Ending.returned (Value.int .i64 x)) HR.out.symm, HD.out⟩
end Go.Proofs.YtnpocnckkaddbaaGreatDoor
