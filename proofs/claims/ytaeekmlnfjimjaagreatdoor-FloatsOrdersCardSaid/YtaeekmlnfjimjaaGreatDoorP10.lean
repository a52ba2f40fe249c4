/-
  Contract of package exact's naturals: left.
-/
import Derived.Test.YtaeekmlnfjimjaaGreatDoorP09
import Derived.Laws.CopyOwn
import Derived.Lib.SmallJoins
import Derived.Lib.LazyBuf
set_option linter.unusedVariables false
set_option linter.unusedSimpArgs false
set_option linter.unusedSectionVars false
namespace Go.Proofs.YtaeekmlnfjimjaaGreatDoor
open Go.RowKit Go.Shelf

theorem or_low (x y : Int) (d : Nat) (hd : d ≤ 63) (hx0 : 0 ≤ x) (hx : x < 2 ^ d) (hy0 : 0 ≤ y) (hy : y < 18446744073709551616) :
    bits BinOp.or IntKind.u64 x (IntKind.u64.wrap (y * 2 ^ d)) = x + y * 2 ^ d % 18446744073709551616 := by
  obtain ⟨x, rfl⟩ := Int.eq_ofNat_of_zero_le hx0
  obtain ⟨y, rfl⟩ := Int.eq_ofNat_of_zero_le hy0
  have e64 : 18446744073709551616 = 2 ^ (64 - d) * 2 ^ d := by rw [← Nat.pow_add, show 64 - d + d = 64 by omega]
  have hx' : x < 2 ^ d := by exact_mod_cast hx
  have hpd : 0 < 2 ^ d := Nat.two_pow_pos d
  have h2 : 2 ^ d ≤ 18446744073709551616 := by rw [e64]; exact Nat.le_mul_of_pos_left _ (Nat.two_pow_pos _)
  have hb : y * 2 ^ d % 18446744073709551616 = 2 ^ d * (y % 2 ^ (64 - d)) := by
    conv => lhs; rw [e64]
    rw [Nat.mul_mod_mul_right, Nat.mul_comm]
  have hlt : y * 2 ^ d % 18446744073709551616 < 18446744073709551616 := Nat.mod_lt _ (by omega)
  have e2 : IntKind.u64.wrap ((y : Int) * 2 ^ d) = ((y * 2 ^ d % 18446744073709551616 : Nat) : Int) := by
    rw [IntKind.wrap_u64]; simp
  have e3 : ((y : Int) * 2 ^ d % 18446744073709551616) = ((y * 2 ^ d % 18446744073709551616 : Nat) : Int) := by simp
  rw [e2, e3, bits_or_u64_nat _ _ (by omega) hlt, hb, Nat.or_comm, ← Nat.two_pow_add_eq_or_of_lt hx']
  omega

/-- what the loop of left has laid in block g after i rounds -/
structure LeftInv (g : Nat) (zs : List Int) (s d n i : Nat) (w : World) (L : List Int) : Prop where
  len : L.length = n
  wd : Wd L
  val : nv L = nv (zs.take i) * 2 ^ (64 * s + d)
  low : gd L (i + s) < 2 ^ d
  high : ∀ j, i + s < j → gd L j = 0
  blk : Blk w g L

theorem left_start {g : Nat} {zs : List Int} {s d n : Nat} {w : World} (h : Blk w g (List.replicate n 0)) : LeftInv g zs s d n 0 w (List.replicate n 0) := by
  have hz : ∀ j, gd (List.replicate n 0) j = 0 := by intro j; simp [gd, List.getElem?_replicate]; split <;> simp
  refine ⟨List.length_replicate, Wd_replicate n, by rw [nv_replicate]; simp [nv], ?_, fun j _ => hz j, h⟩
  rw [hz]; exact Int.pow_pos (by omega)

theorem left_step {g : Nat} {zs : List Int} {s d n i : Nat} {w w2 : World} {L : List Int} (hw : Wd zs) (hd : d ≤ 63) (hi : i < zs.length) (hn : i + s + 1 < n) (h : LeftInv g zs s d n i w L)
    (hB : Blk w2 g ((L.set (i + s) (gd L (i + s) + gd zs i * 2 ^ d % 18446744073709551616)).set (i + s + 1) (gd zs i / 2 ^ (64 - d)))) :
    LeftInv g zs s d n (i + 1) w2 ((L.set (i + s) (gd L (i + s) + gd zs i * 2 ^ d % 18446744073709551616)).set (i + s + 1) (gd zs i / 2 ^ (64 - d))) := by
  obtain ⟨g0, g1⟩ := gd_bounds hw i
  have hpd : (0 : Int) < 2 ^ d := Int.pow_pos (by omega)
  have hpe : (0 : Int) < 2 ^ (64 - d) := Int.pow_pos (by omega)
  have e64 : (18446744073709551616 : Int) = 2 ^ (64 - d) * 2 ^ d := by rw [← Int.pow_add, show 64 - d + d = 64 by omega]; rfl
  have hl := h.low
  have hl0 := (Wd_gd h.wd (i + s)).1
  have hz := h.high (i + s + 1) (by omega)
  generalize hx : gd L (i + s) = x at *
  generalize hy : gd zs i = y at *
  have q0 : 0 ≤ y / 2 ^ (64 - d) := Int.ediv_nonneg g0 (Int.le_of_lt hpe)
  have q1 : y / 2 ^ (64 - d) < 2 ^ d := by rw [Int.ediv_lt_iff_lt_mul hpe, Int.mul_comm, ← e64]; exact g1
  have lo : y * 2 ^ d % 18446744073709551616 = (y % 2 ^ (64 - d)) * 2 ^ d := by
    conv => lhs; rw [e64]
    rw [Int.mul_comm y, Int.mul_comm (2 ^ (64 - d)), Int.mul_emod_mul_of_pos _ _ hpd, Int.mul_comm]
  have r0 : 0 ≤ y % 2 ^ (64 - d) := Int.emod_nonneg _ (by omega)
  have r1 : y % 2 ^ (64 - d) < 2 ^ (64 - d) := Int.emod_lt_of_pos _ hpe
  have hyq := Int.mul_ediv_add_emod y (2 ^ (64 - d))
  have b1 : (y % 2 ^ (64 - d)) * 2 ^ d ≤ 18446744073709551616 - 2 ^ d := by
    have := Int.mul_le_mul_of_nonneg_right (show y % 2 ^ (64 - d) ≤ 2 ^ (64 - d) - 1 by omega) (Int.le_of_lt hpd)
    rw [Int.sub_mul, ← e64] at this
    omega
  have b0 : 0 ≤ (y % 2 ^ (64 - d)) * 2 ^ d := Int.mul_nonneg r0 (Int.le_of_lt hpd)
  have b2 : (2 : Int) ^ d ≤ 18446744073709551616 := by
    rw [e64]
    have := Int.mul_le_mul_of_nonneg_right (show (1 : Int) ≤ 2 ^ (64 - d) from hpe) (Int.le_of_lt hpd)
    omega
  have hlen := h.len
  rw [lo] at hB ⊢
  refine ⟨by simp [hlen], ?_, ?_, ?_, ?_, hB⟩
  · exact Wd_set (Wd_set h.wd ⟨by omega, by unfold pw; omega⟩) ⟨q0, by unfold pw; omega⟩
  · rw [nv_set _ _ _ (by simp; omega), nv_set _ _ _ (by omega), gd_set_ne (by omega), hx, hz, h.val, nv_take_succ zs i hi, hy, Int.pow_succ, pw_two, pw_two, Int.pow_add 2 (64 * s) d]
    have e1 : (2 : Int) ^ (64 * (i + s)) = 2 ^ (64 * i) * 2 ^ (64 * s) := by rw [← Int.pow_add]; congr 1; omega
    rw [e1, show pw = 18446744073709551616 from rfl, e64]
    conv => rhs; rw [← hyq]
    grind
  · rw [show i + 1 + s = i + s + 1 by omega, gd_set_eq (by simp; omega)]; exact q1
  · intro j hj
    rw [gd_set_ne (by omega), gd_set_ne (by omega)]
    exact h.high j (by omega)

theorem left_same (w : World) (ao : Option Addr) (la ca k : Nat) (hl : la ≤ 1000) (hk : k < 1000000000) (h : la = 0 ∨ k = 0) :
    Calls Tryz.prog 150 #[.slice ao la ca, .int .i64 k] w fun e w' => e = .returned (.slice ao la ca) ∧ w = w' := by
  by_cases h0 : la = 0
  · subst h0
    go_enter Tryz.func150, Tryz.ntmps150
    go_wp2_with fail
    go_ret
    exact ⟨rfl, rfl⟩
  · obtain rfl : k = 0 := by omega
    have hb : ((la : Int) == 0) = false := by simp; omega
    go_enter Tryz.func150, Tryz.ntmps150
    go_wp2_with fail
    go_ret
    exact ⟨rfl, rfl⟩

set_option maxRecDepth 100000 in
set_option maxHeartbeats 1000000 in
theorem left_main (w : World) (b off cap : Nat) (zs : List Int) (n : Int) (h : Ns w b off cap zs n) (hn : n < big) (k : Nat) (hk : k < 1000000000) (h0 : 0 < k) :
    Calls Tryz.prog 150 #[.slice (some ⟨b, off, none⟩) zs.length cap, .int .i64 k] w (NewNt w (n * 2 ^ k)) := by
  have hb : ((k : Int) == 0) = false := by simp; omega
  obtain ⟨s, hs'⟩ : ∃ s, k / 64 = s := ⟨_, rfl⟩
  obtain ⟨d, hd'⟩ : ∃ d, k % 64 = d := ⟨_, rfl⟩
  have e1 : (k : Int) / 64 = s := by omega
  have e2 : (k : Int) % 64 = d := by omega
  have hd63 : d ≤ 63 := by omega
  have HS : Hid (k / 64 = s) := Lib.hid hs'
  have HD : Hid (k % 64 = d) := Lib.hid hd'
  have hsk : s ≤ k := by omega
  clear hs' hd'
  have hl := h.len hn
  have hcap := h.cap
  have hpos := h.pos
  have HLT := Lib.hid h.lt
  have H := Lib.hid h
  clear h hn
  obtain ⟨l, hl'⟩ : ∃ l, zs.length = l := ⟨_, rfl⟩
  have HL := Lib.hid hl'
  rw [hl'] at hl hcap hpos ⊢
  clear hl'
  have hb2 : ((l : Int) == 0) = false := by simp; omega
  obtain ⟨i0, hi, hz0, hz1, hz2⟩ := info_parts infoU
  go_enter Tryz.func150, Tryz.ntmps150
  go_wp2_with (at_make; refine wpList_make_full w rfl (.tmp 27) (.tmp 27) 47 rfl w.heap.size 24 i0 (.int .u64 0) 1 Tryz.underlying47 hi hz0 hz1 .i64 .i64 _ _ (l + s + 1) rfl rfl (by omega) (by omega) (by rw [hz2]; omega) (by unfold maxLen; omega) (Nat.le_refl _) ?_; intro w1 hown hgrow; have hblk := Lib.hid (blk_made hown); have hbel := Lib.hid (below_made hgrow); clear hown hgrow hi hz0 hz1 hz2)
  generalize hg : w.heap.size = g at hblk hbel
  have HG := Lib.hid hg
  clear hg
  go_loopw [31] (fun v wr => ∃ i : Nat, i ≤ l ∧ v = .int .i64 i ∧ Hid (Below g w wr ∧ ∃ L, LeftInv g zs s d (l + s + 1) i wr L)) (fun v _ => l - (intOf v).toNat)
  case atStart => exact ⟨0, Nat.zero_le _, rfl, Lib.hid ⟨hbel.out, _, left_start hblk.out⟩⟩
  case round =>
    obtain ⟨i, him, rfl, hr⟩ := hrel
    by_cases hlt : i < l
    · obtain ⟨hbw, L, hL⟩ := hr.out
      have cA := (hbw.cell (p := ⟨b, off + i, none⟩) (by have := HLT.out; have := HG.out; simp; omega)).trans (H.out.row i (by rw [HL.out]; omega))
      have cO := hL.blk.cell (i + s) (by rw [hL.len]; omega)
      have fO := hL.blk.frozen (i + s)
      have cO2 := hL.blk.cell (i + s + 1) (by rw [hL.len]; omega)
      have fO2 := hL.blk.frozen (i + s + 1)
      have HI := Lib.hid hL
      have HBw := Lib.hid hbw
      clear hr hL hbw
      have x4 : ((i : Int) + s).toNat = i + s := by omega
      have x5 : ((i : Int) + s + 1).toNat = i + s + 1 := by omega
      go_wp2_with fail
      go_roundw
      case rel =>
        have e := or_low (gd L (i + s)) (gd zs i) d hd63 (Wd_gd HI.out.wd _).1 HI.out.low (gd_bounds H.out.wd _).1 (gd_bounds H.out.wd _).2
        rw [e]
        refine ⟨i + 1, by omega, by go_num, Lib.hid ⟨below_set (below_set HBw.out (Nat.le_refl _) _ _) (Nat.le_refl _) _ _, _, left_step H.out.wd hd63 (by rw [HL.out]; omega) (by omega) HI.out ((HI.out.blk.set _ _).set _ _)⟩⟩
      case measure => simp [intOf] <;> omega
    · have hie : i = l := by omega
      subst hie
      clear hlt him
      obtain ⟨hbw, L, hL⟩ := hr.out
      have HH := Lib.hid hL
      have HBw := Lib.hid hbw
      clear hr hL hbw
      have hcut := cut_any g 0 (i + s + 1) L wr (by rw [HH.out.len]; omega) (by rw [HH.out.len]; exact Nat.le_refl _) HH.out.blk.row
      rw [HH.out.len] at hcut
      have HC := Lib.hid hcut
      clear hcut
      go_wp2_with fail
      refine HC.out.mono ?_
      rintro e w' ⟨rfl, m', hm1, hm2, hm3, rfl⟩
      go_wp2_with fail
      go_ret
      refine ⟨_, rfl, ?_, by rw [HG.out]; exact HBw.out⟩
      have hnv := HH.out.val
      rw [show zs.take i = zs by rw [← HL.out, List.take_length], H.out.val, show 64 * s + d = k by have := HS.out; have := HD.out; omega] at hnv
      rw [← hnv]
      exact nt_cut HH.out.blk.row HH.out.blk.lt HH.out.blk.ty HH.out.wd (by rw [HH.out.len]; exact Nat.le_refl _) m' hm1 hm2 hm3

theorem left_any (w : World) (v : Value) (n : Int) (h : Nt w v n) (hn : n < big) (k : Int) (hk0 : 0 ≤ k) (hk : k < 1000000000) :
    Calls Tryz.prog 150 #[v, .int .i64 k] w (NewNt w (n * 2 ^ k.toNat)) := by
  obtain ⟨k, rfl⟩ := Int.eq_ofNat_of_zero_le hk0
  rw [Int.toNat_natCast]
  rcases h with ⟨rfl, rfl⟩ | ⟨b, off, cap, zs, rfl, h⟩
  · refine (left_same w _ _ _ k (by omega) (by omega) (.inl rfl)).mono ?_
    rintro e w' ⟨rfl, rfl⟩
    exact ⟨_, rfl, by simpa using Nt.zero w, Below.refl _ _⟩
  · by_cases h0 : k = 0
    · subst h0
      refine (left_same w _ _ _ 0 (h.len hn) (by omega) (.inr rfl)).mono ?_
      rintro e w' ⟨rfl, rfl⟩
      exact ⟨_, rfl, by simpa using h.nt, Below.refl _ _⟩
    · exact left_main w b off cap zs n h hn k (by omega) (by omega)
end Go.Proofs.YtaeekmlnfjimjaaGreatDoor
/-
  Contract of package exact's naturals: sub.
-/
namespace Go.Proofs.YtaeekmlnfjimjaaGreatDoor
open Go.RowKit Go.Shelf

theorem nv_take_all (zs : List Int) (n : Nat) : nv (zs.take (n + 1)) = nv (zs.take n) + pw ^ n * gd zs n := by
  by_cases h : n < zs.length
  · exact nv_take_succ zs n h
  · rw [List.take_of_length_le (by omega), List.take_of_length_le (by omega), gd_over (by omega)]; simp

/-- the words of a value of type natural, as word gives them -/
structure Wordy (w : World) (v : Value) (n : Int) (zs : List Int) : Prop where
  wd : Wd zs
  val : nv zs = n
  len : zs.length ≤ 1000
  call : ∀ w' : World, Below w.heap.size w w' → ∀ i : Int, 0 ≤ i → i < 1000000000 → Calls Tryz.prog 234 #[v, .int .i64 i] w' fun e w'' => e = .returned (.int .u64 (gd zs i.toNat)) ∧ w' = w''

theorem Nt.wordy {w : World} {v : Value} {n : Int} (h : Nt w v n) (hn : n < big) : ∃ zs, Wordy w v n zs := by
  rcases h with ⟨rfl, rfl⟩ | ⟨b, off, cap, zs, rfl, h⟩
  · exact ⟨[], Wd_nil, rfl, by simp, fun w' _ i h0 h1 => by simpa [gd] using word_nil w' i h0 h1⟩
  · exact ⟨zs, h.wd, h.val, h.len hn, fun w' hw i h0 h1 => word_any w' _ n b off cap zs rfl (h.below hw) hn i h0 h1⟩

structure SubInv (g : Nat) (za zb : List Int) (n i : Nat) (w : World) (br : Int) (L : List Int) : Prop where
  len : L.length = n
  wd : Wd L
  val : nv L = nv (za.take i) - nv (zb.take i) + pw ^ i * br
  high : ∀ j, i ≤ j → gd L j = 0
  blk : Blk w g L

theorem gd_zeros (n j : Nat) : gd (List.replicate n 0) j = 0 := by simp [gd, List.getElem?_replicate]; split <;> simp

theorem sub_start {g : Nat} {za zb : List Int} {n : Nat} {w : World} (h : Blk w g (List.replicate n 0)) : SubInv g za zb n 0 w 0 (List.replicate n 0) :=
  ⟨List.length_replicate, Wd_replicate n, by rw [nv_replicate]; simp [nv], fun j _ => gd_zeros n j, h⟩

theorem sub_step {g : Nat} {za zb : List Int} {n i : Nat} {w w2 : World} {br : Int} {L : List Int} (ha : Wd za) (hb : Wd zb) (hbr : 0 ≤ br ∧ br ≤ 1) (hn : i < n) (h : SubInv g za zb n i w br L)
    (hB : Blk w2 g (L.set i ((gd za i - gd zb i - br) % 18446744073709551616))) :
    SubInv g za zb n (i + 1) w2 (bor (gd za i) (gd zb i + br)) (L.set i ((gd za i - gd zb i - br) % 18446744073709551616)) := by
  obtain ⟨a0, a1⟩ := gd_bounds ha i
  obtain ⟨b0, b1⟩ := gd_bounds hb i
  have e := bor_eq (gd za i) (gd zb i + br) a0 a1 (by omega) (by omega)
  rw [show gd za i - (gd zb i + br) = gd za i - gd zb i - br by omega] at e
  refine ⟨by simp [h.len], Wd_set h.wd ⟨Int.emod_nonneg _ (by omega), Int.emod_lt_of_pos _ (by omega)⟩, ?_, ?_, hB⟩
  · rw [nv_set _ _ _ (by rw [h.len]; exact hn), h.high i (Nat.le_refl _), h.val, nv_take_all, nv_take_all, Int.pow_succ, show pw = 18446744073709551616 from rfl]
    generalize bor (gd za i) (gd zb i + br) = c at *
    generalize (gd za i - gd zb i - br) % 18446744073709551616 = r at *
    have : r = gd za i - gd zb i - br + 18446744073709551616 * c := by omega
    rw [this]; grind
  · intro j hj
    rw [gd_set_ne (by omega)]
    exact h.high j (by omega)

set_option maxRecDepth 100000 in
set_option maxHeartbeats 1000000 in
theorem sub_main (w : World) (b off cap : Nat) (za : List Int) (vb : Value) (x y : Int) (ha : Ns w b off cap za x) (hb : Nt w vb y) (hx : x < big) (hy : y ≤ x) :
    Calls Tryz.prog 209 #[.slice (some ⟨b, off, none⟩) za.length cap, vb] w (NewNt w (x - y)) := by
  obtain ⟨zb, hz⟩ := hb.wordy (by omega)
  have HZ := Lib.hid hz
  have hl := ha.len hx
  have hcap := ha.cap
  have HLT := Lib.hid ha.lt
  have H := Lib.hid ha
  have HY := Lib.hid hy
  clear ha hb hz hx hy
  obtain ⟨l, hl'⟩ : ∃ l, za.length = l := ⟨_, rfl⟩
  have HL := Lib.hid hl'
  rw [hl'] at hl hcap ⊢
  clear hl'
  obtain ⟨i0, hi, hz0, hz1, hz2⟩ := info_parts infoU
  go_enter Tryz.func209, Tryz.ntmps209
  go_wp2_with (at_make; refine wpList_make_full w rfl (.tmp 10) (.tmp 10) 47 rfl w.heap.size 24 i0 (.int .u64 0) 1 Tryz.underlying47 hi hz0 hz1 .i64 .i64 _ _ l rfl rfl (by omega) (by omega) (by rw [hz2]; omega) (by unfold maxLen; omega) (Nat.le_refl _) ?_; intro w1 hown hgrow; have hblk := Lib.hid (blk_made hown); have hbel := Lib.hid (below_made hgrow); clear hown hgrow hi hz0 hz1 hz2)
  generalize hg : w.heap.size = g at hblk hbel
  have HG := Lib.hid hg
  clear hg
  go_loopw [6, 14] (fun u v wr => ∃ (i : Nat) (br : Int), i ≤ l ∧ 0 ≤ br ∧ br ≤ 1 ∧ u = .int .u64 br ∧ v = .int .i64 i ∧ Hid (Below g w wr ∧ ∃ L, SubInv g za zb l i wr br L)) (fun _ v _ => l - (intOf v).toNat)
  case atStart => exact ⟨0, 0, Nat.zero_le _, by omega, by omega, rfl, rfl, Lib.hid ⟨hbel.out, _, sub_start hblk.out⟩⟩
  case round =>
    obtain ⟨i, br, him, br0, br1, rfl, rfl, hr⟩ := hrel
    by_cases hlt : i < l
    · obtain ⟨hbw, L, hL⟩ := hr.out
      have cA := (hbw.cell (p := ⟨b, off + i, none⟩) (by have := HLT.out; have := HG.out; simp; omega)).trans (H.out.row i (by rw [HL.out]; omega))
      have cO := hL.blk.cell i (by rw [hL.len]; omega)
      have fO := hL.blk.frozen i
      have HI := Lib.hid hL
      have HBw := Lib.hid hbw
      obtain ⟨a0, a1⟩ := gd_bounds H.out.wd i
      obtain ⟨b0, b1⟩ := gd_bounds HZ.out.wd i
      clear hr hL hbw
      have HC := Lib.hid (HZ.out.call wr (by rw [HG.out]; exact HBw.out) (i : Int) (by omega) (by omega))
      rw [Int.toNat_natCast] at HC
      go_wp2_with (first | (go_at_call 234; refine HC.out.mono ?_; rintro e w' ⟨rfl, rfl⟩) | simp only [sub64 (gd za i) (gd zb i) br a0 b0 b1 br0 br1])
      go_roundw
      case rel =>
        have hb01 := bor_01 (gd za i) (gd zb i + br)
        refine ⟨i + 1, _, by omega, hb01.1, hb01.2, rfl, by go_num, Lib.hid ⟨below_set HBw.out (Nat.le_refl _) _ _, _, sub_step H.out.wd HZ.out.wd ⟨br0, br1⟩ hlt HI.out (HI.out.blk.set _ _)⟩⟩
      case measure => simp [intOf] <;> omega
    · have hie : i = l := by omega
      subst hie
      clear hlt him
      obtain ⟨hbw, L, hL⟩ := hr.out
      have HH := Lib.hid hL
      have HBw := Lib.hid hbw
      clear hr hL hbw
      have hcut := cut_any g 0 i L wr (by rw [HH.out.len]; omega) (by rw [HH.out.len]; exact Nat.le_refl _) HH.out.blk.row
      rw [HH.out.len] at hcut
      have HC := Lib.hid hcut
      clear hcut
      go_wp2_with fail
      refine HC.out.mono ?_
      rintro e w' ⟨rfl, m', hm1, hm2, hm3, rfl⟩
      go_wp2_with fail
      go_ret
      refine ⟨_, rfl, ?_, by rw [HG.out]; exact HBw.out⟩
      have hnv := HH.out.val
      rw [show za.take i = za by rw [← HL.out, List.take_length], H.out.val] at hnv
      have hzb : nv (zb.take i) = y := by
        have h1 : zb.length ≤ i ∨ i < zb.length := by omega
        rcases h1 with h1 | h1
        · rw [List.take_of_length_le h1, HZ.out.val]
        · have t1 := nv_take_drop zb i (by omega)
          have t2 := nv_nonneg (Wd_drop HZ.out.wd i)
          have t3 := nv_nonneg (Wd_take HZ.out.wd i)
          have t4 := nv_lt H.out.wd
          rw [HL.out, H.out.val] at t4
          have t5 := HY.out
          have t6 := HZ.out.val
          have t7 := ppos i
          have : nv (zb.drop i) = 0 := by
            apply Classical.byContradiction
            intro hne
            have := Int.mul_le_mul_of_nonneg_left (show 1 ≤ nv (zb.drop i) by omega) (Int.le_of_lt t7)
            omega
          rw [this] at t1
          omega
      rw [hzb] at hnv
      have hbr : br = 0 := by
        apply Classical.byContradiction
        intro hne
        have : br = 1 := by omega
        subst this
        have t1 := nv_lt HH.out.wd
        rw [HH.out.len] at t1
        have t5 := HY.out
        omega
      rw [hbr] at hnv
      rw [show x - y = nv L by rw [hnv]; omega]
      exact nt_cut HH.out.blk.row HH.out.blk.lt HH.out.blk.ty HH.out.wd (by rw [HH.out.len]; exact Nat.le_refl _) m' hm1 hm2 hm3
end Go.Proofs.YtaeekmlnfjimjaaGreatDoor
/-
  Contract of package exact's addTo.
-/
namespace Go.Proofs.YtaeekmlnfjimjaaGreatDoor
open Go.RowKit Go.Shelf

/-- only block g may have changed -/
def Only (g : Nat) (w w' : World) : Prop := w.grownBy w' (some g)
theorem Only.refl (g : Nat) (w : World) : Only g w w := World.grownBy.refl w (some g)
theorem Only.cell {g : Nat} {w w' : World} (h : Only g w w') {b off : Nat} {v : Value} (hv : w.cell? ⟨b, off, none⟩ = some v) (hne : b ≠ g) : w'.cell? ⟨b, off, none⟩ = some v :=
  World.grownBy.cell h hv (by simp; exact hne)
theorem Only.set {g : Nat} {w w' : World} (h : Only g w w') (i : Nat) (u : Value) : Only g w (w'.setCell ⟨g, i, none⟩ u) :=
  ⟨h.os, h.tape, h.output, by simpa using h.size, fun k hk hne => by
    rw [Below.heap_setCell _ _ _ _ (fun e => hne (by rw [e]))]
    exact h.block k hk hne⟩
theorem Only.below {g B : Nat} {w w' : World} (h : Only g w w') (hB : B ≤ w.heap.size) (hg : B ≤ g) : Below B w w' :=
  (Below.refl B w).grown h hB (fun k hk => by cases hk; exact hg)

structure AddInv (g o : Nat) (M zb : List Int) (hi i : Nat) (w : World) (c : Int) (M' : List Int) : Prop where
  len : M'.length = M.length
  wd : Wd M'
  val : nv M' = nv M + pw ^ o * nv (zb.take i) - pw ^ (o + i) * c
  same : ∀ j, j < o ∨ o + hi ≤ j → gd M' j = gd M j
  blk : Blk w g M'

theorem add_start {g o : Nat} {M zb : List Int} {w : World} (h : Blk w g M) (hM : Wd M) : AddInv g o M zb 0 0 w 0 M :=
  ⟨rfl, hM, by simp [nv], fun j _ => rfl, h⟩

theorem add_step {g o : Nat} {M zb M' : List Int} {i hi hi' : Nat} {w w2 : World} {c : Int} (hb : Wd zb) (hc : 0 ≤ c ∧ c ≤ 1) (hi0 : hi ≤ hi') (hi1 : i < hi') (hn : o + i < M.length) (h : AddInv g o M zb hi i w c M')
    (hB : Blk w2 g (M'.set (o + i) ((gd M' (o + i) + gd zb i + c) % 18446744073709551616))) :
    AddInv g o M zb hi' (i + 1) w2 ((gd M' (o + i) + gd zb i + c) / 18446744073709551616) (M'.set (o + i) ((gd M' (o + i) + gd zb i + c) % 18446744073709551616)) := by
  refine ⟨by simp [h.len], Wd_set h.wd ⟨Int.emod_nonneg _ (by omega), Int.emod_lt_of_pos _ (by omega)⟩, ?_, ?_, hB⟩
  · rw [nv_set _ _ _ (by rw [h.len]; exact hn), h.val, nv_take_all, show o + (i + 1) = o + i + 1 by omega, Int.pow_succ, Int.pow_add, show pw = 18446744073709551616 from rfl]
    have e := Int.mul_ediv_add_emod (gd M' (o + i) + gd zb i + c) 18446744073709551616
    generalize (gd M' (o + i) + gd zb i + c) / 18446744073709551616 = q at *
    generalize (gd M' (o + i) + gd zb i + c) % 18446744073709551616 = r at *
    have : r = gd M' (o + i) + gd zb i + c - 18446744073709551616 * q := by omega
    rw [this]; grind
  · intro j hj
    rw [gd_set_ne (by omega)]
    exact h.same j (by omega)

/-- what addTo leaves -/
def AddPost (w : World) (g o n : Nat) (M : List Int) (y : Int) (e : Ending) (w' : World) : Prop :=
  ∃ (c : Int) (M' : List Int), 0 ≤ c ∧ c ≤ 1 ∧ e = .returned (.int .u64 c) ∧ Only g w w' ∧ M'.length = M.length ∧ Wd M' ∧ nv M' = nv M + pw ^ o * y - pw ^ (o + n) * c ∧ (∀ j, j < o ∨ o + n ≤ j → gd M' j = gd M j) ∧ Blk w' g M'

set_option maxRecDepth 100000 in
theorem addTo_nil (w : World) (g o n cap : Nat) (M : List Int) (hB : Blk w g M) (hM : Wd M) :
    Calls Tryz.prog 246 #[.slice (some ⟨g, o, none⟩) n cap, .slice none 0 0] w (AddPost w g o n M 0) := by
  have H := Lib.hid (And.intro hB hM)
  clear hB hM
  have h0 : ((0 : Int) != 0) = false := rfl
  go_enter Tryz.func246, Tryz.ntmps246
  go_wp2
  refine wp_loop_rounds 1 ?_
  rw [rounds_succ]
  go_wp2
  refine wp_loop_rounds 1 ?_
  rw [rounds_succ]
  go_wp2
  go_ret
  exact ⟨0, M, by omega, by omega, rfl, Only.refl _ _, rfl, H.out.2, by simp, fun _ _ => rfl, H.out.1⟩

set_option maxRecDepth 100000 in
set_option maxHeartbeats 1000000 in
theorem addTo_some (w : World) (g o n cap : Nat) (M : List Int) (hB : Blk w g M) (hM : Wd M) (hon : o + n ≤ M.length) (hMl : M.length ≤ 10000) (b off cap2 : Nat) (zb : List Int) (hl : zb.length ≤ n) (hcap : zb.length ≤ cap2)
    (hwd : Wd zb) (hr : Row w b off zb) (hne : b ≠ g) :
    Calls Tryz.prog 246 #[.slice (some ⟨g, o, none⟩) n cap, .slice (some ⟨b, off, none⟩) zb.length cap2] w (AddPost w g o n M (nv zb)) := by
  have HM := Lib.hid (And.intro hB hM)
  have HW := Lib.hid hwd
  have HR := Lib.hid hr
  clear hB hM hwd hr
  obtain ⟨m, hm⟩ : ∃ m, M.length = m := ⟨_, rfl⟩
  have Hm := Lib.hid hm
  rw [hm] at hon hMl
  clear hm
  obtain ⟨l, hl'⟩ : ∃ l, zb.length = l := ⟨_, rfl⟩
  have HL := Lib.hid hl'
  rw [hl'] at hl hcap ⊢
  clear hl'
  have HF : ∀ (k : Nat) (c : Int) (wr : World), l ≤ k → k ≤ n → 0 ≤ c → c ≤ 1 → (c = 0 ∨ k = n) → Hid (Only g w wr ∧ ∃ M', AddInv g o M zb k k wr c M') → AddPost w g o n M (nv zb) (.returned (.int .u64 c)) wr := by
    intro k c wr h1 h2 h3 h4 h5 h6
    obtain ⟨h7, M', h8⟩ := h6.out
    refine ⟨c, M', h3, h4, rfl, h7, h8.len, h8.wd, ?_, fun j hj => h8.same j (by omega), h8.blk⟩
    rw [h8.val, List.take_of_length_le (by rw [HL.out]; exact h1)]
    rcases h5 with rfl | rfl
    · simp
    · rfl
  have HFF := Lib.hid HF
  clear HF
  go_enter Tryz.func246, Tryz.ntmps246
  go_wp2_with fail
  go_loopw [5, 11] (fun u v wr => ∃ (i : Nat) (c : Int), i ≤ l ∧ 0 ≤ c ∧ c ≤ 1 ∧ u = .int .u64 c ∧ v = .int .i64 i ∧ Hid (Only g w wr ∧ ∃ M', AddInv g o M zb i i wr c M')) (fun _ v _ => l - (intOf v).toNat)
  case atStart => exact ⟨0, 0, Nat.zero_le _, by omega, by omega, rfl, rfl, Lib.hid ⟨Only.refl _ _, _, add_start HM.out.1 HM.out.2⟩⟩
  case round =>
    obtain ⟨i, c, him, c0, c1, rfl, rfl, hr⟩ := hrel
    by_cases hlt : i < l
    · obtain ⟨hon', M', hI⟩ := hr.out
      have cA := hon'.cell (HR.out i (by rw [HL.out]; omega)) hne
      have cO := hI.blk.cell (o + i) (by rw [hI.len, Hm.out]; omega)
      have fO := hI.blk.frozen (o + i)
      have HI := Lib.hid hI
      have HO := Lib.hid hon'
      obtain ⟨a0, a1⟩ := gd_bounds hI.wd (o + i)
      obtain ⟨b0, b1⟩ := gd_bounds HW.out i
      clear hr hI hon'
      go_wp2_with (simp only [add64 (gd M' (o + i)) (gd zb i) c a0 b0 c0 c1])
      go_roundw
      case rel => exact ⟨i + 1, _, by omega, by omega, by omega, rfl, by go_num, Lib.hid ⟨HO.out.set _ _, _, add_step HW.out ⟨c0, c1⟩ (by omega) (by omega) (by rw [Hm.out]; omega) HI.out (HI.out.blk.set _ _)⟩⟩
      case measure => simp [intOf] <;> omega
    · have hie : i = l := by omega
      subst hie
      clear hlt him
      go_wp2_with fail
      go_loopw [5, 8] (fun u v wr => ∃ (k : Nat) (c : Int), i ≤ k ∧ k ≤ n ∧ 0 ≤ c ∧ c ≤ 1 ∧ u = .int .u64 c ∧ v = .int .i64 k ∧ Hid (Only g w wr ∧ ∃ M', AddInv g o M zb k k wr c M')) (fun _ v _ => n - (intOf v).toNat)
      case atStart => exact ⟨i, c, Nat.le_refl _, hl, c0, c1, rfl, rfl, hr⟩
      case round =>
        clear hr c0 c1
        obtain ⟨k, c, hik, hkn, c0, c1, rfl, rfl, hr⟩ := hrel
        rcases (show c = 0 ∨ c = 1 by omega) with rfl | rfl
        · go_wp2_with fail
          go_ret
          exact HFF.out k 0 _ hik hkn (by omega) (by omega) (.inl rfl) hr
        · by_cases hlt : k < n
          · obtain ⟨hon', M', hI⟩ := hr.out
            have cO := hI.blk.cell (o + k) (by rw [hI.len, Hm.out]; omega)
            have fO := hI.blk.frozen (o + k)
            have HI := Lib.hid hI
            have HO := Lib.hid hon'
            obtain ⟨a0, a1⟩ := gd_bounds hI.wd (o + k)
            clear hr hI hon'
            go_wp2_with (simp only [add64 (gd M' (o + k)) 0 1 a0 (Int.le_refl 0) (by decide) (by decide)])
            go_roundw
            case rel =>
              have ez : gd zb k = 0 := gd_over (by rw [HL.out]; omega)
              have e0 : gd M' (o + k) + gd zb k + 1 = gd M' (o + k) + 1 := by rw [ez]; omega
              have st := add_step (hi' := k + 1) HW.out ⟨c0, c1⟩ (by omega) (by omega) (by rw [Hm.out]; omega) HI.out (HI.out.blk.set (o + k) ((gd M' (o + k) + gd zb k + 1) % 18446744073709551616))
              rw [e0] at st
              exact ⟨k + 1, _, by omega, by omega, by omega, by omega, rfl, by go_num, Lib.hid ⟨HO.out.set _ _, _, st⟩⟩
            case measure => simp [intOf] <;> omega
          · go_wp2_with fail
            go_ret
            exact HFF.out k 1 _ hik hkn (by omega) (by omega) (.inr (by omega)) hr

/-- a value of type natural whose words do not lie in block g -/
def Apart (g : Nat) (v : Value) : Prop := ∀ (a : Addr) (l c : Nat), v = .slice (some a) l c → a.block ≠ g

theorem addTo_any (w : World) (g o n cap : Nat) (M : List Int) (hB : Blk w g M) (hM : Wd M) (hon : o + n ≤ M.length) (hMl : M.length ≤ 10000) (vb : Value) (y : Int) (hb : Nt w vb y) (hap : Apart g vb) (hy : y < pw ^ n) :
    Calls Tryz.prog 246 #[.slice (some ⟨g, o, none⟩) n cap, vb] w (AddPost w g o n M y) := by
  rcases hb with ⟨rfl, rfl⟩ | ⟨b, off, cap2, zb, rfl, hb⟩
  · exact addTo_nil w g o n cap M hB hM
  · have := addTo_some w g o n cap M hB hM hon hMl b off cap2 zb (len_of_lt hb.wd hb.can hb.val hy) hb.cap hb.wd hb.row (hap _ _ _ rfl)
    rw [hb.val] at this
    exact this
end Go.Proofs.YtaeekmlnfjimjaaGreatDoor
/-
  Contract of package exact's naturals: add.
-/
namespace Go.Proofs.YtaeekmlnfjimjaaGreatDoor
open Go.RowKit Go.Shelf

theorem Nt.apart {w : World} {v : Value} {n : Int} (h : Nt w v n) : Apart w.heap.size v := by
  intro a l c e
  rcases h with ⟨h, _⟩ | ⟨b, off, cap, zs, h, hN⟩
  · rw [h] at e; cases e
  · rw [h] at e
    injection e with e1 e2 e3
    injection e1 with e1
    subst e1
    have := hN.lt
    simp; omega

theorem blk_copied {w : World} {n : Nat} {g : Nat} {za : List Int} (hl : za.length ≤ n) (h : w.heap[g]? = some (.cells (splice ((List.replicate n (0 : Int)).map (Value.int .u64)) 0 (za.map (Value.int .u64))).toArray 24 (0, 0))) :
    Blk w g (za ++ List.replicate (n - za.length) 0) := by
  unfold Blk
  rw [h]
  congr 3
  simp [splice]

theorem row_cells {w : World} {b off : Nat} {zs : List Int} (h : Row w b off zs) : ∀ j v, (zs.map (Value.int .u64))[j]? = some v → w.cell? ((⟨b, off, none⟩ : Addr).add j) = some v := by
  intro j v hj
  rw [List.getElem?_map] at hj
  by_cases hlt : j < zs.length
  · rw [List.getElem?_eq_getElem hlt] at hj
    simp at hj
    rw [← hj, ← gd_get hlt]
    have := h j hlt
    unfold Addr.add
    split
    · rename_i e; subst e; simpa using this
    · exact this
  · rw [List.getElem?_eq_none (by omega)] at hj; simp at hj

theorem add_end {w w2 w3 : World} {g : Nat} {za : List Int} {x y : Int} {M : List Int} (hg : w.heap.size = g) (hM : M = za ++ List.replicate (za.length + 1 - za.length) 0) (hwd : Wd za) (hv : nv za = x) (hy0 : 0 ≤ y) (hy : y < pw ^ za.length)
    (hb : Below g w w2) {e : Ending} (h : AddPost w2 g 0 (za.length + 1) M y e w3) :
    ∃ L : List Int, L.length = za.length + 1 ∧ Wd L ∧ nv L = x + y ∧ Blk w3 g L ∧ Below g w w3 := by
  obtain ⟨c, M', c0, c1, _, ho, hl, hw, hnv, _, hB⟩ := h
  have hlen : M.length = za.length + 1 := by rw [hM]; simp
  have hx : nv M = x := by rw [hM, nv_append, nv_replicate, hv]; simp
  refine ⟨M', by omega, hw, ?_, hB, hb.trans (ho.below (by have := hb.size; omega) (Nat.le_refl _))⟩
  rw [hx] at hnv
  have h1 := nv_nonneg hw
  have h2 := nv_lt hwd
  rw [hv] at h2
  have h3 : pw ^ (za.length + 1) = pw ^ za.length * pw := Int.pow_succ _ _
  have h4 := ppos za.length
  have h5 : pw ^ za.length * 2 ≤ pw ^ za.length * pw := Int.mul_le_mul_of_nonneg_left (by decide) (Int.le_of_lt h4)
  rw [Nat.zero_add] at hnv
  have hc : c = 0 := by
    apply Classical.byContradiction
    intro hne
    have : c = 1 := by omega
    subst this
    simp at hnv
    omega
  rw [hc] at hnv
  simp at hnv
  exact hnv

set_option maxRecDepth 100000 in
set_option maxHeartbeats 1000000 in
theorem add_ge (w : World) (b off cap : Nat) (za : List Int) (bo : Option Addr) (lb cb : Nat) (x y : Int) (ha : Ns w b off cap za x) (hb : Nt w (.slice bo lb cb) y) (hx : x < big) (hl : lb ≤ za.length) (hy : y < pw ^ za.length) :
    Calls Tryz.prog 208 #[.slice (some ⟨b, off, none⟩) za.length cap, .slice bo lb cb] w (NewNt w (x + y)) := by
  have hla := ha.len hx
  have hcap := ha.cap
  have HA := Lib.hid ha
  have HB := Lib.hid hb
  have HY := Lib.hid hy
  have hlt := ha.lt
  clear ha hb hx hy
  obtain ⟨l, hl'⟩ : ∃ l, za.length = l := ⟨_, rfl⟩
  have HL := Lib.hid hl'
  rw [hl'] at hla hcap hl ⊢
  clear hl'
  obtain ⟨i0, hi, hz0, hz1, hz2⟩ := info_parts infoU
  have hsz : (Tryz.prog.info? 24).map (·.size) = some 1 := by rw [hi]; simp [hz1]
  have hii := Lib.hid hi
  go_enter Tryz.func208, Tryz.ntmps208
  go_wp2_with (first | (at_make; refine wpList_make_full w rfl (.tmp 15) (.tmp 15) 47 rfl w.heap.size 24 i0 (.int .u64 0) 1 Tryz.underlying47 hii.out hz0 hz1 .i64 .i64 _ _ (l + 1) rfl rfl (by omega) (by omega) (by rw [hz2]; omega) (by unfold maxLen; omega) (Nat.le_refl _) ?_; intro w1 hown hgrow; have hblk := Lib.hid (blk_made hown); have hbel := Lib.hid (below_made hgrow); clear hown hgrow hz0 hz1 hz2) | (refine wpList_copy_splice (o := ⟨some 19, _, _, _, _, _⟩) rfl (.tmp 17) (.tmp 18) 47 47 rfl 24 Tryz.underlying47 hsz _ _ _ _ _ _ rfl rfl w.heap.size 0 _ 24 hblk.out (za.map (Value.int .u64)) (by rw [List.length_map, HL.out]; exact (Nat.min_eq_left (Nat.le_succ l)).symm) (fun _ => ⟨rfl, _, rfl, row_cells ((HA.out.below hbel.out).row)⟩) (by rw [List.length_map, List.length_map, List.length_replicate, HL.out]; omega) (ints_oneCell _ _) w.heap.size w hbel.out (Nat.le_refl _) ?_; intro w2 hw2 hbel2))
  have hBk := blk_copied (by rw [HL.out]; omega) hw2.out
  rw [HL.out] at hBk
  have HBel := Lib.hid hbel2
  have hg : w.heap.size ≤ w2.heap.size := hbel2.size
  clear hw2 hbel2
  refine (addTo_any w2 w.heap.size 0 (l + 1) (l + 1) _ hBk ?_ (by simp [HL.out]) (by simp [HL.out]; omega) _ y (HB.out.below HBel.out) HB.out.apart ?_).mono ?_
  · exact Wd_append.2 ⟨HA.out.wd, Wd_replicate _⟩
  · have h1 := HY.out
    have h2 : pw ^ za.length ≤ pw ^ (l + 1) := pow_mono (by rw [HL.out]; omega)
    omega
  intro e w3 hpost
  have hend := add_end rfl (by rw [HL.out]) HA.out.wd HA.out.val HB.out.nonneg HY.out HBel.out (by rw [HL.out]; exact hpost)
  obtain ⟨c, _, _, _, rfl, _⟩ := hpost
  clear hBk hg
  obtain ⟨L, e1, e2, e3, e4, e5⟩ := hend
  have HE := Lib.hid (And.intro e1 (And.intro e2 (And.intro e3 (And.intro e4 e5))))
  clear e1 e2 e3 e4 e5
  have hcut := cut_any w.heap.size 0 (l + 1) L w3 (by rw [HE.out.1, HL.out]; omega) (by rw [HE.out.1, HL.out]; exact Nat.le_refl _) HE.out.2.2.2.1.row
  rw [HE.out.1, HL.out] at hcut
  have HC := Lib.hid hcut
  clear hcut
  go_wp2_with fail
  refine HC.out.mono ?_
  rintro e w' ⟨rfl, m', hm1, hm2, hm3, rfl⟩
  go_wp2_with fail
  go_ret
  refine ⟨_, rfl, ?_, HE.out.2.2.2.2⟩
  rw [← HE.out.2.2.1]
  exact nt_cut HE.out.2.2.2.1.row HE.out.2.2.2.1.lt HE.out.2.2.2.1.ty HE.out.2.1 (by rw [HE.out.1, HL.out]; exact Nat.le_refl _) m' hm1 hm2 hm3
set_option maxRecDepth 100000 in
set_option maxHeartbeats 1000000 in
theorem add_lt (w : World) (b off cap : Nat) (za : List Int) (bo : Option Addr) (lb cb : Nat) (x y : Int) (ha : Ns w b off cap za x) (hb : Nt w (.slice bo lb cb) y) (hx : x < big) (hl : lb < za.length) (hy : y < pw ^ za.length) :
    Calls Tryz.prog 208 #[.slice bo lb cb, .slice (some ⟨b, off, none⟩) za.length cap] w (NewNt w (x + y)) := by
  have hla := ha.len hx
  have hcap := ha.cap
  have HA := Lib.hid ha
  have HB := Lib.hid hb
  have HY := Lib.hid hy
  have hlt := ha.lt
  clear ha hb hx hy
  obtain ⟨l, hl'⟩ : ∃ l, za.length = l := ⟨_, rfl⟩
  have HL := Lib.hid hl'
  rw [hl'] at hla hcap hl ⊢
  clear hl'
  obtain ⟨i0, hi, hz0, hz1, hz2⟩ := info_parts infoU
  have hsz : (Tryz.prog.info? 24).map (·.size) = some 1 := by rw [hi]; simp [hz1]
  have hii := Lib.hid hi
  go_enter Tryz.func208, Tryz.ntmps208
  go_wp2_with (first | (at_make; refine wpList_make_full w rfl (.tmp 15) (.tmp 15) 47 rfl w.heap.size 24 i0 (.int .u64 0) 1 Tryz.underlying47 hii.out hz0 hz1 .i64 .i64 _ _ (l + 1) rfl rfl (by omega) (by omega) (by rw [hz2]; omega) (by unfold maxLen; omega) (Nat.le_refl _) ?_; intro w1 hown hgrow; have hblk := Lib.hid (blk_made hown); have hbel := Lib.hid (below_made hgrow); clear hown hgrow hz0 hz1 hz2) | (refine wpList_copy_splice (o := ⟨some 19, _, _, _, _, _⟩) rfl (.tmp 17) (.tmp 18) 47 47 rfl 24 Tryz.underlying47 hsz _ _ _ _ _ _ rfl rfl w.heap.size 0 _ 24 hblk.out (za.map (Value.int .u64)) (by rw [List.length_map, HL.out]; exact (Nat.min_eq_left (Nat.le_succ l)).symm) (fun _ => ⟨rfl, _, rfl, row_cells ((HA.out.below hbel.out).row)⟩) (by rw [List.length_map, List.length_map, List.length_replicate, HL.out]; omega) (ints_oneCell _ _) w.heap.size w hbel.out (Nat.le_refl _) ?_; intro w2 hw2 hbel2))
  have hBk := blk_copied (by rw [HL.out]; omega) hw2.out
  rw [HL.out] at hBk
  have HBel := Lib.hid hbel2
  have hg : w.heap.size ≤ w2.heap.size := hbel2.size
  clear hw2 hbel2
  refine (addTo_any w2 w.heap.size 0 (l + 1) (l + 1) _ hBk ?_ (by simp [HL.out]) (by simp [HL.out]; omega) _ y (HB.out.below HBel.out) HB.out.apart ?_).mono ?_
  · exact Wd_append.2 ⟨HA.out.wd, Wd_replicate _⟩
  · have h1 := HY.out
    have h2 : pw ^ za.length ≤ pw ^ (l + 1) := pow_mono (by rw [HL.out]; omega)
    omega
  intro e w3 hpost
  have hend := add_end rfl (by rw [HL.out]) HA.out.wd HA.out.val HB.out.nonneg HY.out HBel.out (by rw [HL.out]; exact hpost)
  obtain ⟨c, _, _, _, rfl, _⟩ := hpost
  clear hBk hg
  obtain ⟨L, e1, e2, e3, e4, e5⟩ := hend
  have HE := Lib.hid (And.intro e1 (And.intro e2 (And.intro e3 (And.intro e4 e5))))
  clear e1 e2 e3 e4 e5
  have hcut := cut_any w.heap.size 0 (l + 1) L w3 (by rw [HE.out.1, HL.out]; omega) (by rw [HE.out.1, HL.out]; exact Nat.le_refl _) HE.out.2.2.2.1.row
  rw [HE.out.1, HL.out] at hcut
  have HC := Lib.hid hcut
  clear hcut
  go_wp2_with fail
  refine HC.out.mono ?_
  rintro e w' ⟨rfl, m', hm1, hm2, hm3, rfl⟩
  go_wp2_with fail
  go_ret
  refine ⟨_, rfl, ?_, HE.out.2.2.2.2⟩
  rw [← HE.out.2.2.1]
  exact nt_cut HE.out.2.2.2.1.row HE.out.2.2.2.1.lt HE.out.2.2.2.1.ty HE.out.2.1 (by rw [HE.out.1, HL.out]; exact Nat.le_refl _) m' hm1 hm2 hm3

theorem Nt.len {w : World} {bo : Option Addr} {lb cb : Nat} {y : Int} (h : Nt w (.slice bo lb cb) y) : y < pw ^ lb := by
  rcases h with ⟨h, rfl⟩ | ⟨b, off, cap, zs, h, hN⟩
  · injection h with h1 h2 h3
    subst h2
    simp
  · injection h with h1 h2 h3
    subst h2
    rw [← hN.val]; exact nv_lt hN.wd

theorem Nt.shape {w : World} {v : Value} {n : Int} (h : Nt w v n) : ∃ bo lb cb, v = .slice bo lb cb := by
  rcases h with ⟨h, _⟩ | ⟨b, off, cap, zs, h, _⟩
  · exact ⟨_, _, _, h⟩
  · exact ⟨_, _, _, h⟩

theorem natAdd_any (w : World) (va vb : Value) (x y : Int) (ha : Nt w va x) (hb : Nt w vb y) (hx : x < big) (hy : y < big) (h0 : 0 < x) (h1 : 0 < y) :
    Calls Tryz.prog 208 #[va, vb] w (NewNt w (x + y)) := by
  obtain ⟨b, off, cap, za, rfl, hA⟩ := ha.pos (by omega)
  obtain ⟨b2, off2, cap2, zb, rfl, hB⟩ := hb.pos (by omega)
  by_cases hl : zb.length ≤ za.length
  · have h2 := hb.len
    have h3 : pw ^ zb.length ≤ pw ^ za.length := pow_mono hl
    exact add_ge w b off cap za _ _ _ x y hA hb hx hl (by omega)
  · have h2 := ha.len
    have h3 : pw ^ za.length ≤ pw ^ zb.length := pow_mono (by omega)
    have := add_lt w b2 off2 cap2 zb _ _ _ y x hB ha hy (by omega) (by omega)
    rwa [Int.add_comm y x] at this
end Go.Proofs.YtaeekmlnfjimjaaGreatDoor
/-
  Contracts of package exact's numbers: odd, fraction.
-/
namespace Go.Proofs.YtaeekmlnfjimjaaGreatDoor
open Go.RowKit Go.Shelf

theorem bcell {w W : World} (hb : Below W.heap.size W w) : (∀ b o, b < W.heap.size → w.cell? ⟨b, o, none⟩ = W.cell? ⟨b, o, none⟩) ∧ (∀ b o, b < W.heap.size → w.frozen? ⟨b, o, none⟩ = W.frozen? ⟨b, o, none⟩) :=
  ⟨fun b o h => hb.cell (p := ⟨b, o, none⟩) h, fun b o h => hb.frozen (p := ⟨b, o, none⟩) h⟩

theorem eqNil (w : World) (a : Option Addr) (n c : Nat) : (binOp .eql 47 (.slice a n c) (.slice none 0 0)).run Tryz.prog w = .ok (.bool a.isNone) w := Lib.run_eql_slice_nil (P := Tryz.prog) w 47 24 a n c 0 0 Tryz.underlying47
theorem neqNil (w : World) (a : Option Addr) (n c : Nat) : (binOp .neq 47 (.slice a n c) (.slice none 0 0)).run Tryz.prog w = .ok (.bool (!a.isNone)) w := run_neq_slice_nil_any (P := Tryz.prog) w 47 24 a n c 0 0 Tryz.underlying47
attribute [local go_sem] eqNil neqNil

theorem p2pos (z : Nat) : (0 : Int) < 2 ^ z := Int.pow_pos (by omega)
theorem p2ne (z : Nat) : (2 : Int) ^ z ≠ 0 := by have := p2pos z; omega

/-- n = 2^z * t with t odd -/
def OddPost (w : World) (n : Int) (e : Ending) (w' : World) : Prop :=
  ∃ (v : Value) (t : Int) (z : Nat), e = .returned (.tuple #[v, .int .i64 z]) ∧ Nt w' v t ∧ t % 2 = 1 ∧ n = 2 ^ z * t ∧ Below w.heap.size w w'

theorem two_le_pow {z : Nat} {n t : Int} (h : n = 2 ^ z * t) (h0 : 0 < n) (hn : n < big) : z < 64000 ∧ 0 < t ∧ t ≤ n := by
  have hp : (0 : Int) < 2 ^ z := Int.pow_pos (by omega)
  have ht : 0 < t := by
    apply Classical.byContradiction
    intro hc
    have := Int.mul_le_mul_of_nonneg_left (show t ≤ 0 by omega) (Int.le_of_lt hp)
    omega
  have h1 := Int.mul_le_mul_of_nonneg_left (show 1 ≤ t by omega) (Int.le_of_lt hp)
  have h2 := Int.mul_le_mul_of_nonneg_right (show (1 : Int) ≤ 2 ^ z from hp) (Int.le_of_lt ht)
  refine ⟨?_, ht, by omega⟩
  apply Classical.byContradiction
  intro hz
  have h3 : (2 : Int) ^ 64000 * 1 ≤ 2 ^ 64000 * 2 ^ (z - 64000) := Int.mul_le_mul_of_nonneg_left (show (1 : Int) ≤ 2 ^ (z - 64000) from Int.pow_pos (by omega)) (Int.le_of_lt (Int.pow_pos (by omega)))
  rw [← Int.pow_add, show 64000 + (z - 64000) = z by omega] at h3
  have h4 : big = 2 ^ 64000 := by unfold big; rw [pw_two]
  omega

theorem odd_any (w : World) (hE : Env w) (v : Value) (n : Int) (h : Nt w v n) (hs : n < big) (hn : n ≠ 0) :
    Calls Tryz.prog 152 #[v] w (OddPost w n) := by
  have h0 : 0 < n := by have := h.nonneg; omega
  have HE := Lib.hid hE
  have H := Lib.hid h
  have HS := Lib.hid hs
  have HN := Lib.hid h0
  have HNE := Lib.hid hn
  clear h hs hn hE h0
  go_enter Tryz.func152, Tryz.ntmps152
  go_wp2_with fail
  refine (zeros_any w HE.out v n H.out HS.out HNE.out).mono ?_
  rintro e w' ⟨rfl, z, m, rfl, hz⟩
  have hb := two_le_pow hz HN.out HS.out
  have HZ := Lib.hid hz
  have hz0 := hb.1
  clear hz hb
  go_wp2_with fail
  refine (right_any w v n H.out HS.out z (by omega) (by omega)).mono ?_
  rintro e w' ⟨v', rfl, hv, hbel⟩
  have HV := Lib.hid hv
  have HB := Lib.hid hbel
  clear hv hbel
  go_wp2_with fail
  go_ret2
  refine ⟨v', 2 * m + 1, z, rfl, ?_, by omega, HZ.out, HB.out⟩
  have := HV.out
  rw [Int.toNat_natCast, HZ.out, Int.mul_ediv_cancel_left _ (p2ne z)] at this
  exact this

/-- no word of a natural lies in block g -/
def NoW (w : World) (g : Nat) : Prop := ∀ o x, w.cell? ⟨g, o, none⟩ ≠ some (.int .u64 x)
theorem Nt.only {w w' : World} {g : Nat} {v : Value} {t : Int} (h : Nt w v t) (ho : Only g w w') (hno : NoW w g) : Nt w' v t := by
  rcases h with h | ⟨b, off, cap, zs, e, h⟩
  · exact .inl h
  · have hne : b ≠ g := by
      intro hb
      subst hb
      exact hno _ _ (h.row 0 h.pos)
    exact .inr ⟨b, off, cap, zs, e, { h with lt := Nat.lt_of_lt_of_le h.lt ho.size, row := fun i hi => ho.cell (h.row i hi) hne, ty := by obtain ⟨c, f, h1⟩ := h.ty; exact ⟨c, f, (ho.block b h.lt (by simp; exact hne)).trans h1⟩ }⟩

/-- a fraction without a divisor: 0, or the sign, an odd numerator, and the exponent of 2 -/
def FracPost (w : World) (neg : Bool) (n twos : Int) (e : Ending) (w' : World) : Prop :=
  ∃ (v : Value) (t : Int) (z : Nat), e = .returned (.agg #[.bool neg, v, .slice none 0 0, .int .i64 (twos + z)]) ∧ Nt w' v t ∧ t % 2 = 1 ∧ n = 2 ^ z * t ∧ Below w.heap.size w w'

theorem frac_zero (w : World) (neg : Bool) (twos : Int) (bo : Option Addr) (lb cb : Nat) :
    Calls Tryz.prog 153 #[.bool neg, .slice none 0 0, .slice bo lb cb, .int .i64 twos] w fun e w' => e = .returned (.agg #[.bool false, .slice none 0 0, .slice none 0 0, .int .i64 0]) ∧ Below w.heap.size w w' := by
  go_enter Tryz.func153, Tryz.ntmps153
  go_wp2_with fail
  refine bodyPost_ret (v := .agg #[.bool false, .slice none 0 0, .slice none 0 0, .int .i64 0]) (by simp [results, Tryz.results153, go_sem]) rfl ⟨rfl, ?_⟩
  exact (Below.refl _ _).alloc (Nat.le_refl _) _

set_option maxRecDepth 100000 in
theorem frac_nil (w : World) (hE : Env w) (neg : Bool) (v : Value) (n twos : Int) (h : Nt w v n) (hs : n < big) (hn : n ≠ 0) (ht : -1000000000 < twos) (ht' : twos < 1000000000) :
    Calls Tryz.prog 153 #[.bool neg, v, .slice none 0 0, .int .i64 twos] w (FracPost w neg n twos) := by
  obtain ⟨b, off, cap, zs, rfl, hN⟩ := h.pos hn
  have hp := hN.pos
  have hn0 := Lib.hid hN.npos
  have HE := Lib.hid hE
  have H := Lib.hid h
  have HS := Lib.hid hs
  have HNE := Lib.hid hn
  clear h hs hn hE hN
  obtain ⟨l, hl⟩ : ∃ l, zs.length = l := ⟨_, rfl⟩
  have HL := Lib.hid hl
  rw [hl] at H hp ⊢
  clear hl
  have hb : ((l : Int) == 0) = false := by simp; omega
  go_enter Tryz.func153, Tryz.ntmps153
  go_wp2_with fail
  refine (odd_any _ (HE.out.below ((Below.refl _ _).alloc (Nat.le_refl _) _)) _ n (H.out.below ((Below.refl _ _).alloc (Nat.le_refl _) _)) HS.out HNE.out).mono ?_
  rintro e w1 ⟨v, t, z, rfl, hv, ht2, hz, hbel⟩
  have hz1 := (two_le_pow hz hn0.out HS.out).1
  obtain ⟨bo, lb, cb, rfl⟩ := hv.shape
  have HV := Lib.hid hv
  have HT := Lib.hid ht2
  have HZ := Lib.hid hz
  have HB := Lib.hid hbel
  clear hv ht2 hz
  obtain ⟨hc, hf⟩ := bcell hbel
  have hz : w.heap.size < w1.heap.size := by have := hbel.size; simp at this; omega
  clear hbel
  go_wp2_with (go_at_call 126; refine (isOne_nil _).mono ?_; rintro e w' ⟨rfl, rfl⟩)
  refine bodyPost_ret (v := .agg #[.bool neg, .slice bo lb cb, .slice none 0 0, .int .i64 (twos + z)]) (by simp [results, Tryz.results153, go_sem, hc, hz]) rfl ⟨_, t, z, rfl, ?_, HT.out, HZ.out, ?_⟩
  · exact HV.out.only ((((((Only.refl _ _).set _ _).set _ _).set _ _).set _ _)) (by
      intro o x
      rw [hc _ _ (by simp)]
      rcases o with _ | _ | _ | _ | o <;> simp [go_sem])
  · have h1 : Below w.heap.size w w1 := ((Below.refl _ _).alloc (Nat.le_refl _) _).trans (HB.out.mono (by simp))
    exact h1.trans (Only.below ((((((Only.refl w.heap.size w1).set _ _).set _ _).set _ _).set _ _)) h1.size (Nat.le_refl _))

/-- a divisor: nil for 1 -/
def Bt (w : World) (v : Value) (b : Int) : Prop := (b = 1 ∧ v = .slice none 0 0) ∨ (b ≠ 1 ∧ Nt w v b)
theorem Bt.below {w w' : World} {v : Value} {n : Int} (h : Bt w v n) (hw : Below w.heap.size w w') : Bt w' v n := h.imp id (fun h => ⟨h.1, h.2.below hw⟩)
theorem Bt.only {w w' : World} {g : Nat} {v : Value} {t : Int} (h : Bt w v t) (ho : Only g w w') (hno : NoW w g) : Bt w' v t := h.imp id (fun h => ⟨h.1, h.2.only ho hno⟩)
end Go.Proofs.YtaeekmlnfjimjaaGreatDoor
/-
  Contracts of package exact's numbers: the ones that only look at their fields.
-/
namespace Go.Proofs.YtaeekmlnfjimjaaGreatDoor
open Go.RowKit Go.Shelf
attribute [local go_sem] eqNil neqNil

/-- the fields of a number -/
structure Nm (w : World) (v : Value) (s : Bool) (t b e : Int) : Prop where
  ex : ∃ bo lb cb bo2 lb2 cb2, v = .agg #[.bool s, .slice bo lb cb, .slice bo2 lb2 cb2, .int .i64 e] ∧ Nt w (.slice bo lb cb) t ∧ Bt w (.slice bo2 lb2 cb2) b
theorem Nm.below {w w' : World} {v : Value} {s : Bool} {t b e : Int} (h : Nm w v s t b e) (hw : Below w.heap.size w w') : Nm w' v s t b e := by
  obtain ⟨bo, lb, cb, bo2, lb2, cb2, h1, h2, h3⟩ := h.ex
  exact ⟨bo, lb, cb, bo2, lb2, cb2, h1, h2.below hw, h3.below hw⟩
theorem Nt.isNone {w : World} {bo : Option Addr} {lb cb : Nat} {t : Int} (h : Nt w (.slice bo lb cb) t) : bo.isNone = decide (t = 0) := by
  rcases h with ⟨h, rfl⟩ | ⟨b, off, cap, zs, h, hN⟩
  · injection h with h1; subst h1; rfl
  · injection h with h1; subst h1
    have := hN.npos
    have : ¬ t = 0 := by omega
    simp [this]
theorem Bt.isNone {w : World} {bo : Option Addr} {lb cb : Nat} {t : Int} (h : Bt w (.slice bo lb cb) t) (h0 : t ≠ 0) : bo.isNone = decide (t = 1) := by
  rcases h with ⟨rfl, h⟩ | ⟨h1, h⟩
  · injection h with h1; subst h1; rfl
  · rw [h.isNone]; simp [h0, h1]

def sgnI (s : Bool) (t : Int) : Int := if t = 0 then 0 else if s then -1 else 1

def SignPost (w : World) (x : Int) (e : Ending) (w' : World) : Prop := e = .returned (.int .i64 x) ∧ Below w.heap.size w w'

theorem sign_any (w : World) (v : Value) (s : Bool) (t b e : Int) (h : Nm w v s t b e) :
    Calls Tryz.prog 29 #[v] w (SignPost w (sgnI s t)) := by
  obtain ⟨bo, lb, cb, bo2, lb2, cb2, rfl, h1, h2⟩ := h.ex
  have hn := h1.isNone
  have hs : Hid (sgnI s t = if decide (t = 0) then 0 else if s then -1 else 1) := Lib.hid (by simp [sgnI])
  generalize decide (t = 0) = z at hn hs
  clear h h1 h2
  cases z
  · cases s
    all_goals
      go_enter Tryz.func29, Tryz.ntmps29
      go_wp2
      go_ret
      exact ⟨by rw [hs.out]; rfl, (Below.refl _ _).alloc (Nat.le_refl _) _⟩
  · go_enter Tryz.func29, Tryz.ntmps29
    go_wp2
    go_ret
    exact ⟨by rw [hs.out]; rfl, (Below.refl _ _).alloc (Nat.le_refl _) _⟩

def NmPost (w : World) (s : Bool) (t b e : Int) (en : Ending) (w' : World) : Prop := ∃ v, en = .returned v ∧ Nm w' v s t b e ∧ Below w.heap.size w w'

theorem neg_any (w : World) (v : Value) (s : Bool) (t b e : Int) (h : Nm w v s t b e) :
    Calls Tryz.prog 167 #[v] w (NmPost w (!s && !decide (t = 0)) t b e) := by
  obtain ⟨bo, lb, cb, bo2, lb2, cb2, rfl, h1, h2⟩ := h.ex
  have hn := h1.isNone
  generalize decide (t = 0) = z at hn ⊢
  have H1 := Lib.hid h1
  have H2 := Lib.hid h2
  clear h h1 h2
  have hb : ∀ q : Bool, Below w.heap.size w ((w.alloc (.cells #[.bool q, .slice bo lb cb, .slice bo2 lb2 cb2, .int .i64 e] 49)).alloc (.cells #[.bool q, .slice bo lb cb, .slice bo2 lb2 cb2, .int .i64 e] 49)) := fun q =>
    ((Below.refl w.heap.size w).alloc (Nat.le_refl _) (.cells #[.bool q, .slice bo lb cb, .slice bo2 lb2 cb2, .int .i64 e] 49)).alloc (by simp) (.cells #[.bool q, .slice bo lb cb, .slice bo2 lb2 cb2, .int .i64 e] 49)
  have HB := Lib.hid hb
  clear hb
  cases s <;> cases z
  all_goals
    go_enter Tryz.func167, Tryz.ntmps167
    go_wp2
  · refine bodyPost_ret (v := .agg #[.bool true, .slice bo lb cb, .slice bo2 lb2 cb2, .int .i64 e]) (by simp [results, Tryz.results167, go_sem]) rfl ?_
    exact ⟨_, rfl, ⟨_, _, _, _, _, _, rfl, H1.out.below (HB.out _), H2.out.below (HB.out _)⟩, HB.out _⟩
  all_goals
    refine bodyPost_ret (v := .agg #[.bool false, .slice bo lb cb, .slice bo2 lb2 cb2, .int .i64 e]) (by simp [results, Tryz.results167, go_sem]) rfl ?_
    exact ⟨_, rfl, ⟨_, _, _, _, _, _, rfl, H1.out.below (HB.out _), H2.out.below (HB.out _)⟩, HB.out _⟩

def BoolPost (w : World) (x : Bool) (e : Ending) (w' : World) : Prop := e = .returned (.bool x) ∧ Below w.heap.size w w'

end Go.Proofs.YtaeekmlnfjimjaaGreatDoor
/-
  Contracts of package exact's numbers: Shift, log, Log, whole, Int, and what a missing divisor makes short.
-/
namespace Go.Proofs.YtaeekmlnfjimjaaGreatDoor
open Go.RowKit Go.Shelf
attribute [local go_sem] eqNil neqNil

def NmErrPost (w : World) (s : Bool) (t b e : Int) (er : Int) (en : Ending) (w' : World) : Prop := ∃ v, en = .returned (.tuple #[v, .int .i64 er]) ∧ Nm w' v s t b e ∧ Below w.heap.size w w'

theorem shift_any (w : World) (v : Value) (s : Bool) (t b e k : Int) (h : Nm w v s t b e) (hk0 : -20000 ≤ k) (hk1 : k ≤ 20000) (he0 : -1000000 ≤ e) (he1 : e ≤ 1000000) :
    Calls Tryz.prog 219 #[v, .int .i64 k] w (NmErrPost w s t b (if t = 0 then e else e + k) 0) := by
  obtain ⟨bo, lb, cb, bo2, lb2, cb2, rfl, h1, h2⟩ := h.ex
  have hn := h1.isNone
  have hE0 : (if t = 0 then e else e + k) = if decide (t = 0) then e else e + k := by simp
  generalize (if t = 0 then e else e + k) = r at hE0 ⊢
  generalize decide (t = 0) = z at hn hE0
  have hE := Lib.hid hE0
  clear hE0
  have H1 := Lib.hid h1
  have H2 := Lib.hid h2
  clear h h1 h2
  have hb : ∀ q r : Int, Below w.heap.size w ((w.alloc (.cells #[.bool s, .slice bo lb cb, .slice bo2 lb2 cb2, .int .i64 q] 49)).alloc (.cells #[.bool s, .slice bo lb cb, .slice bo2 lb2 cb2, .int .i64 r] 49)) := fun q r =>
    ((Below.refl w.heap.size w).alloc (Nat.le_refl _) _).alloc (by simp) _
  have HB := Lib.hid hb
  clear hb
  cases z
  · go_enter Tryz.func219, Tryz.ntmps219
    go_wp2
    refine bodyPost_ret (v := .tuple #[.agg #[.bool s, .slice bo lb cb, .slice bo2 lb2 cb2, .int .i64 (e + k)], .int .i64 0]) (by simp [results, Tryz.results219, go_sem]) rfl ?_
    exact ⟨_, rfl, ⟨_, _, _, _, _, _, by rw [hE.out]; rfl, H1.out.below (HB.out _ _), H2.out.below (HB.out _ _)⟩, HB.out _ _⟩
  · go_enter Tryz.func219, Tryz.ntmps219
    go_wp2
    refine bodyPost_ret (v := .tuple #[.agg #[.bool s, .slice bo lb cb, .slice bo2 lb2 cb2, .int .i64 e], .int .i64 0]) (by simp [results, Tryz.results219, go_sem]) rfl ?_
    exact ⟨_, rfl, ⟨_, _, _, _, _, _, by rw [hE.out]; rfl, H1.out.below (HB.out _ _), H2.out.below (HB.out _ _)⟩, HB.out _ _⟩

def IntPost (w : World) (x : Int) (e : Ending) (w' : World) : Prop := e = .returned (.int .i64 x) ∧ Below w.heap.size w w'

theorem blen_big {n : Int} (h : n < big) : blen n ≤ 64000 := by
  by_cases h0 : n ≤ 0
  · unfold blen; rw [if_pos h0]; omega
  · obtain ⟨h1, _, h3⟩ := blen_spec (show 0 < n by omega)
    apply Classical.byContradiction
    intro hc
    have h4 : (2 : Int) ^ 64000 * 1 ≤ 2 ^ 64000 * 2 ^ (blen n - 1 - 64000) := Int.mul_le_mul_of_nonneg_left (show (1 : Int) ≤ 2 ^ (blen n - 1 - 64000) from p2pos _) (Int.le_of_lt (p2pos _))
    rw [← Int.pow_add, show 64000 + (blen n - 1 - 64000) = blen n - 1 by omega] at h4
    have h5 : big = 2 ^ 64000 := by unfold big; rw [pw_two]
    omega

theorem log_nil (w : World) (v : Value) (s : Bool) (t e : Int) (h : Nm w v s t 1 e) (ht : t < big) (h0 : 0 < t) (he0 : -1000000 ≤ e) (he1 : e ≤ 1000000) :
    Calls Tryz.prog 198 #[v] w (IntPost w (blen t - 1 + e)) := by
  obtain ⟨bo, lb, cb, bo2, lb2, cb2, rfl, h1, h2⟩ := h.ex
  obtain rfl : bo2 = none := by have := h2.isNone (by decide); simpa using this
  have hbl := blen_big ht
  obtain ⟨_, _, hb1⟩ := blen_spec h0
  generalize hL : blen t = L at hbl hb1 ⊢
  have HL := Lib.hid hL
  have H1 := Lib.hid h1
  have HT := Lib.hid ht
  clear h h1 h2 hL ht h0
  have HB : Hid (Below w.heap.size w (w.alloc (.cells #[.bool s, .slice bo lb cb, .slice none lb2 cb2, .int .i64 e] 49))) := Lib.hid ((Below.refl _ _).alloc (Nat.le_refl _) _)
  have hsz : ∀ wx, Below w.heap.size w wx → Calls Tryz.prog 199 #[.slice bo lb cb] wx fun en w' => en = .returned (.int .i64 L) ∧ w' = wx := fun wx hb => by
    refine (size_any wx _ t (H1.out.below hb) HT.out).mono ?_
    rintro en w' ⟨rfl, rfl⟩
    exact ⟨by rw [HL.out], rfl⟩
  have HS := Lib.hid hsz
  clear hsz
  have x1 : IntKind.i64.wrap ((L : Int) - 1) = (L : Int) - 1 := IntWalk.i64_in _ (by omega)
  have x2 : IntKind.i64.wrap ((L : Int) - 1 + e) = (L : Int) - 1 + e := IntWalk.i64_in _ (by omega)
  go_enter Tryz.func198, Tryz.ntmps198
  go_wp2_with fail
  go_quiet ((go_at_call 199; exact Calls.quiet_of_same (HS.out _ (HB.out.trans ((Drw.step _ _).below _)))))
  go_wp2_with fail
  go_ret
  exact ⟨rfl, HB.out.trans ((Drw.step _ _).below _)⟩
end Go.Proofs.YtaeekmlnfjimjaaGreatDoor
/-
  Dyadic numbers: K times 2^k. Contracts of fraction, whole, increase, Int, and of times, common, without where a divisor is missing.
-/
namespace Go.Proofs.YtaeekmlnfjimjaaGreatDoor
open Go.RowKit Go.Shelf
attribute [local go_sem] eqNil neqNil

def sg (s : Bool) (x : Int) : Int := if s then -x else x
theorem sg_zero (s : Bool) : sg s 0 = 0 := by cases s <;> rfl
/-- the fields of the number K 2^k -/
def Dr (s : Bool) (t e K k : Int) : Prop := (t = 0 ∧ s = false ∧ e = 0 ∧ K = 0) ∨ (t % 2 = 1 ∧ 0 < t ∧ ∃ j : Nat, e = k + j ∧ K = sg s t * 2 ^ j)
def Dn (w : World) (v : Value) (K k : Int) : Prop := ∃ s t e, Nm w v s t 1 e ∧ Dr s t e K k
theorem Dn.below {w w' : World} {v : Value} {K k : Int} (h : Dn w v K k) (hw : Below w.heap.size w w') : Dn w' v K k := by
  obtain ⟨s, t, e, h1, h2⟩ := h
  exact ⟨s, t, e, h1.below hw, h2⟩
def DnPost (w : World) (K k : Int) (en : Ending) (w' : World) : Prop := ∃ v, en = .returned v ∧ Dn w' v K k ∧ Below w.heap.size w w'
theorem NmPost.dn {w : World} {s : Bool} {t e K k : Int} (h : Dr s t e K k) {en : Ending} {w' : World} (hp : NmPost w s t 1 e en w') : DnPost w K k en w' := by
  obtain ⟨v, h1, h2, h3⟩ := hp
  exact ⟨v, h1, ⟨s, t, e, h2, h⟩, h3⟩

theorem fracD (w : World) (hE : Env w) (neg : Bool) (v : Value) (n twos : Int) (h : Nt w v n) (hs : n < big) (ht : -1000000000 < twos) (ht' : twos < 1000000000) :
    Calls Tryz.prog 153 #[.bool neg, v, .slice none 0 0, .int .i64 twos] w (DnPost w (sg neg n) twos) := by
  by_cases h0 : n = 0
  · subst h0
    rw [h.nil]
    refine (frac_zero w neg twos none 0 0).mono ?_
    rintro en w' ⟨rfl, hb⟩
    refine ⟨_, rfl, ⟨false, 0, 0, ⟨_, _, _, _, _, _, rfl, Nt.zero _, .inl ⟨rfl, rfl⟩⟩, .inl ⟨rfl, rfl, rfl, ?_⟩⟩, hb⟩
    cases neg <;> rfl
  · refine (frac_nil w hE neg v n twos h hs h0 ht ht').mono ?_
    rintro en w' ⟨v', t, z, rfl, hv, h2, hz, hb⟩
    obtain ⟨bo, lb, cb, rfl⟩ := hv.shape
    have hp := two_le_pow hz (by have := h.nonneg; omega) hs
    refine ⟨_, rfl, ⟨neg, t, twos + z, ⟨_, _, _, _, _, _, rfl, hv, .inl ⟨rfl, rfl⟩⟩, .inr ⟨h2, hp.2.1, z, rfl, ?_⟩⟩, hb⟩
    rw [hz, Int.mul_comm]
    cases neg
    · rfl
    · exact (Int.neg_mul _ _).symm

theorem Nm.only {w w' : World} {g : Nat} {v : Value} {s : Bool} {t b e : Int} (h : Nm w v s t b e) (ho : Only g w w') (hno : NoW w g) : Nm w' v s t b e := by
  obtain ⟨bo, lb, cb, bo2, lb2, cb2, h1, h2, h3⟩ := h.ex
  exact ⟨bo, lb, cb, bo2, lb2, cb2, h1, h2.only ho hno, h3.only ho hno⟩
theorem Dn.only {w w' : World} {g : Nat} {v : Value} {K k : Int} (h : Dn w v K k) (ho : Only g w w') (hno : NoW w g) : Dn w' v K k := by
  obtain ⟨s, t, e, h1, h2⟩ := h
  exact ⟨s, t, e, h1.only ho hno, h2⟩
theorem Dn.shape {w : World} {v : Value} {K k : Int} (h : Dn w v K k) : ∃ s bo lb cb bo2 lb2 cb2 e, v = .agg #[.bool s, .slice bo lb cb, .slice bo2 lb2 cb2, .int .i64 e] := by
  obtain ⟨s, t, e, h1, _⟩ := h
  obtain ⟨bo, lb, cb, bo2, lb2, cb2, h1, _⟩ := h1.ex
  exact ⟨_, _, _, _, _, _, _, _, h1⟩

/-- what a block that was laid ahead of a call holds behind it -/
theorem laid_facts {w w1 : World} {cs : Array Value} {T : TypeId} (hb : Below (w.alloc (.cells cs T)).heap.size (w.alloc (.cells cs T)) w1) :
    (∀ o, w1.cell? ⟨w.heap.size, o, none⟩ = (w.alloc (.cells cs T)).cell? ⟨w.heap.size, o, none⟩) ∧ (∀ o, w1.frozen? ⟨w.heap.size, o, none⟩ = (w.alloc (.cells cs T)).frozen? ⟨w.heap.size, o, none⟩) ∧ w.heap.size < w1.heap.size ∧ Below w.heap.size w w1 :=
  ⟨fun o => hb.cell (p := ⟨w.heap.size, o, none⟩) (by simp), fun o => hb.frozen (p := ⟨w.heap.size, o, none⟩) (by simp), by have := hb.size; simp at this; omega, ((Below.refl _ _).alloc (Nat.le_refl _) _).trans (hb.mono (by simp))⟩

theorem noW_num {w w1 : World} {s : Bool} {bo : Option Addr} {lb cb : Nat} {bo2 : Option Addr} {lb2 cb2 : Nat} {e : Int} {T : TypeId}
    (hc : ∀ o, w1.cell? ⟨w.heap.size, o, none⟩ = (w.alloc (.cells #[.bool s, .slice bo lb cb, .slice bo2 lb2 cb2, .int .i64 e] T)).cell? ⟨w.heap.size, o, none⟩) : NoW w1 w.heap.size := by
  intro o x
  rw [hc]
  rcases o with _ | _ | _ | _ | o <;> simp [go_sem]
/-- a number stored in block g -/
def Stored (g : Nat) (w : World) (s : Bool) (bo : Option Addr) (lb cb : Nat) (bo2 : Option Addr) (lb2 cb2 : Nat) (e : Int) : World :=
  (((w.setCell ⟨g, 0, none⟩ (.bool s)).setCell ⟨g, 1, none⟩ (.slice bo lb cb)).setCell ⟨g, 2, none⟩ (.slice bo2 lb2 cb2)).setCell ⟨g, 3, none⟩ (.int .i64 e)
theorem Stored.only (g : Nat) (w : World) (s : Bool) (bo : Option Addr) (lb cb : Nat) (bo2 : Option Addr) (lb2 cb2 : Nat) (e : Int) : Only g w (Stored g w s bo lb cb bo2 lb2 cb2 e) :=
  ((((Only.refl g w).set _ _).set _ _).set _ _).set _ _

theorem times_left (w : World) (a : Addr) (lb cb : Nat) :
    Calls Tryz.prog 149 #[.slice (some a) lb cb, .slice none 0 0] w fun e w' => e = .returned (.slice (some a) lb cb) ∧ w = w' := by
  go_enter Tryz.func149, Tryz.ntmps149
  go_wp2_with fail
  go_ret
  exact ⟨rfl, rfl⟩
theorem times_right (w : World) (bo : Option Addr) (lb cb : Nat) :
    Calls Tryz.prog 149 #[.slice none 0 0, .slice bo lb cb] w fun e w' => e = .returned (.slice bo lb cb) ∧ w = w' := by
  go_enter Tryz.func149, Tryz.ntmps149
  go_wp2_with fail
  go_ret
  exact ⟨rfl, rfl⟩
theorem common_left (w : World) (bo : Option Addr) (lb cb : Nat) :
    Calls Tryz.prog 147 #[.slice none 0 0, .slice bo lb cb] w fun e w' => e = .returned (.slice none 0 0) ∧ w = w' := by
  go_enter Tryz.func147, Tryz.ntmps147
  go_wp2_with fail
  go_ret
  exact ⟨rfl, rfl⟩
theorem common_right (w : World) (a : Addr) (lb cb : Nat) :
    Calls Tryz.prog 147 #[.slice (some a) lb cb, .slice none 0 0] w fun e w' => e = .returned (.slice none 0 0) ∧ w = w' := by
  go_enter Tryz.func147, Tryz.ntmps147
  go_wp2_with fail
  go_ret
  exact ⟨rfl, rfl⟩
theorem without_nil (w : World) (bo : Option Addr) (lb cb : Nat) :
    Calls Tryz.prog 148 #[.slice bo lb cb, .slice none 0 0] w fun e w' => e = .returned (.slice bo lb cb) ∧ w = w' := by
  go_enter Tryz.func148, Tryz.ntmps148
  go_wp2_with fail
  go_ret
  exact ⟨rfl, rfl⟩

theorem word_big {x : Int} (h : x < 18446744073709551616) : x < big := by
  have h1 : pw ^ 1 ≤ pw ^ 1000 := pow_mono (by omega)
  have h2 : pw ^ 1 = 18446744073709551616 := by decide
  unfold big
  omega

set_option maxHeartbeats 1000000 in
theorem int_any (w : World) (hE : Env w) (n : Int) (h0 : -9223372036854775808 ≤ n) (h1 : n ≤ 9223372036854775807) :
    Calls Tryz.prog 121 #[.int .i64 n] w (DnPost w n 0) := by
  have HE := Lib.hid hE
  clear hE
  obtain ⟨m1, hm1⟩ : ∃ m, IntKind.u64.wrap n = m := ⟨_, rfl⟩
  obtain ⟨m2, hm2⟩ : ∃ m, IntKind.u64.wrap (-m1) = m := ⟨_, rfl⟩
  have HH : Hid (0 ≤ m1 ∧ m1 < 18446744073709551616 ∧ 0 ≤ m2 ∧ m2 < 18446744073709551616 ∧ (0 ≤ n → m1 = n) ∧ (n < 0 → m2 = -n)) := Lib.hid (by
    rw [IntKind.wrap_u64] at hm1 hm2
    omega)
  clear h0 h1
  by_cases hn : n < 0
  · have HM : Hid (0 ≤ m2 ∧ m2 < 18446744073709551616 ∧ sg true m2 = n) := Lib.hid ⟨HH.out.2.2.1, HH.out.2.2.2.1, by have := HH.out.2.2.2.2.2 hn; unfold sg; simp; omega⟩
    go_enter Tryz.func121, Tryz.ntmps121
    go_wp2_with fail
    refine (fromWord_any _ m2 HM.out.1 HM.out.2.1).mono ?_
    rintro en w1 ⟨v1, rfl, hv, hb⟩
    obtain ⟨hc, hf, hz, hbw⟩ := laid_facts hb
    have HV := Lib.hid hv
    have HB := Lib.hid hbw
    have HBl := Lib.hid hb
    clear hv hbw hb hc hf hz
    go_wp2_with fail
    refine (fracD w1 (HE.out.below HB.out) true v1 m2 0 HV.out (word_big HM.out.2.1) (by omega) (by omega)).mono ?_
    rintro en w2 ⟨v2, rfl, h2, hb2⟩
    obtain ⟨s, bo, lb, cb, bo2, lb2, cb2, x, rfl⟩ := h2.shape
    have hbt := HBl.out.trans (hb2.mono HBl.out.size)
    obtain ⟨hc, hf, hz, hbw⟩ := laid_facts hbt
    have HN := Lib.hid (noW_num hc)
    have H2 := Lib.hid h2
    have HB2 := Lib.hid hbw
    clear h2 hb2 hbw hbt
    go_wp2_with fail
    refine bodyPost_ret (v := .agg #[.bool s, .slice bo lb cb, .slice bo2 lb2 cb2, .int .i64 x]) (by simp [results, Tryz.results121, go_sem, hc, hz]) rfl ?_
    have ho := Stored.only w.heap.size w2 s bo lb cb bo2 lb2 cb2 x
    have hd := H2.out.only ho HN.out
    rw [show sg true m2 = n from HM.out.2.2] at hd
    exact ⟨_, rfl, hd, HB2.out.trans (ho.below HB2.out.size (Nat.le_refl _))⟩
  · have HM : Hid (0 ≤ m1 ∧ m1 < 18446744073709551616 ∧ sg false m1 = n) := Lib.hid ⟨HH.out.1, HH.out.2.1, by have := HH.out.2.2.2.2.1 (by omega); unfold sg; simp; omega⟩
    go_enter Tryz.func121, Tryz.ntmps121
    go_wp2_with fail
    refine (fromWord_any _ m1 HM.out.1 HM.out.2.1).mono ?_
    rintro en w1 ⟨v1, rfl, hv, hb⟩
    obtain ⟨hc, hf, hz, hbw⟩ := laid_facts hb
    have HV := Lib.hid hv
    have HB := Lib.hid hbw
    have HBl := Lib.hid hb
    clear hv hbw hb hc hf hz
    go_wp2_with fail
    refine (fracD w1 (HE.out.below HB.out) false v1 m1 0 HV.out (word_big HM.out.2.1) (by omega) (by omega)).mono ?_
    rintro en w2 ⟨v2, rfl, h2, hb2⟩
    obtain ⟨s, bo, lb, cb, bo2, lb2, cb2, x, rfl⟩ := h2.shape
    have hbt := HBl.out.trans (hb2.mono HBl.out.size)
    obtain ⟨hc, hf, hz, hbw⟩ := laid_facts hbt
    have HN := Lib.hid (noW_num hc)
    have H2 := Lib.hid h2
    have HB2 := Lib.hid hbw
    clear h2 hb2 hbw hbt
    go_wp2_with fail
    refine bodyPost_ret (v := .agg #[.bool s, .slice bo lb cb, .slice bo2 lb2 cb2, .int .i64 x]) (by simp [results, Tryz.results121, go_sem, hc, hz]) rfl ?_
    have ho := Stored.only w.heap.size w2 s bo lb cb bo2 lb2 cb2 x
    have hd := H2.out.only ho HN.out
    rw [show sg false m1 = n from HM.out.2.2] at hd
    exact ⟨_, rfl, hd, HB2.out.trans (ho.below HB2.out.size (Nat.le_refl _))⟩
end Go.Proofs.YtaeekmlnfjimjaaGreatDoor
/-
  Contract of package exact's sumOfSigned.
-/
namespace Go.Proofs.YtaeekmlnfjimjaaGreatDoor
open Go.RowKit Go.Shelf
attribute [local go_sem] eqNil neqNil

def SumPost (w : World) (X : Int) (en : Ending) (w' : World) : Prop := ∃ (s : Bool) (v : Value) (m : Int), en = .returned (.tuple #[.bool s, v]) ∧ Nt w' v m ∧ sg s m = X ∧ Below w.heap.size w w'

theorem natSub_any (w : World) (va vb : Value) (x y : Int) (ha : Nt w va x) (hb : Nt w vb y) (hx : x < big) (h0 : 0 < x) (hy : y ≤ x) :
    Calls Tryz.prog 209 #[va, vb] w (NewNt w (x - y)) := by
  obtain ⟨b, off, cap, za, rfl, hA⟩ := ha.pos (by omega)
  exact sub_main w b off cap za vb x y hA hb hx hy

set_option maxHeartbeats 1000000 in
theorem sum_any (w : World) (sa sb : Bool) (va vb : Value) (x y : Int) (ha : Nt w va x) (hb : Nt w vb y) (hx : x < big) (hy : y < big) (h0 : 0 < x) (h1 : 0 < y) :
    Calls Tryz.prog 151 #[.bool sa, va, .bool sb, vb] w (SumPost w (sg sa x + sg sb y)) := by
  obtain ⟨bo, lb, cb, rfl⟩ := ha.shape
  obtain ⟨bo2, lb2, cb2, rfl⟩ := hb.shape
  have HA := Lib.hid ha
  have HB := Lib.hid hb
  have HX := Lib.hid (And.intro hx (And.intro hy (And.intro h0 h1)))
  clear ha hb hx hy h0 h1
  by_cases hs : sa = sb
  · subst hs
    have hq : (sa == sa) = true := by simp
    go_enter Tryz.func151, Tryz.ntmps151
    go_wp2_with fail
    refine (natAdd_any w _ _ x y HA.out HB.out HX.out.1 HX.out.2.1 HX.out.2.2.1 HX.out.2.2.2).mono ?_
    rintro en w1 ⟨v, rfl, h1, h2⟩
    have H1 := Lib.hid h1
    have H2 := Lib.hid h2
    clear h1 h2
    go_wp2_with fail
    go_ret2
    exact ⟨sa, v, x + y, rfl, H1.out, by cases sa <;> simp [sg] <;> omega, H2.out⟩
  · have hq : (sa == sb) = false := by simpa using hs
    by_cases hxy : y ≤ x
    · have HC : Hid (0 ≤ cmpI x y) := Lib.hid (by unfold cmpI; rw [if_neg (by omega)]; split <;> omega)
      generalize hc : cmpI x y = c at HC
      have HCE := Lib.hid hc
      have hc0 : 0 ≤ c := HC.out
      clear hc
      go_enter Tryz.func151, Tryz.ntmps151
      go_wp2_with fail
      have hcmp := natCmp_any w _ _ x y HA.out HB.out HX.out.1 HX.out.2.1
      rw [HCE.out] at hcmp
      refine hcmp.mono ?_
      rintro en w1 ⟨rfl, hd⟩
      have HD := Lib.hid hd
      clear hd hcmp
      go_wp2_with fail
      refine (natSub_any w1 _ _ x y (HA.out.below (HD.out.below _)) (HB.out.below (HD.out.below _)) HX.out.1 HX.out.2.2.1 hxy).mono ?_
      rintro en w2 ⟨v, rfl, h1, h2⟩
      have H1 := Lib.hid h1
      have H2 := Lib.hid h2
      clear h1 h2
      go_wp2_with fail
      go_ret2
      exact ⟨sa, v, x - y, rfl, H1.out, by cases sa <;> cases sb <;> simp [sg] at hs ⊢ <;> omega, (HD.out.below _).trans (H2.out.mono (HD.out.below 0).size)⟩
    · have HC : Hid (cmpI x y < 0) := Lib.hid (by rw [cmpI_lt (by omega)]; omega)
      generalize hc : cmpI x y = c at HC
      have HCE := Lib.hid hc
      have hc0 : c < 0 := HC.out
      clear hc
      go_enter Tryz.func151, Tryz.ntmps151
      go_wp2_with fail
      have hcmp := natCmp_any w _ _ x y HA.out HB.out HX.out.1 HX.out.2.1
      rw [HCE.out] at hcmp
      refine hcmp.mono ?_
      rintro en w1 ⟨rfl, hd⟩
      have HD := Lib.hid hd
      clear hd hcmp
      go_wp2_with fail
      refine (natSub_any w1 _ _ y x (HB.out.below (HD.out.below _)) (HA.out.below (HD.out.below _)) HX.out.2.1 HX.out.2.2.2 (by omega)).mono ?_
      rintro en w2 ⟨v, rfl, h1, h2⟩
      have H1 := Lib.hid h1
      have H2 := Lib.hid h2
      clear h1 h2
      go_wp2_with fail
      go_ret2
      exact ⟨sb, v, y - x, rfl, H1.out, by cases sa <;> cases sb <;> simp [sg] at hs ⊢ <;> omega, (HD.out.below _).trans (H2.out.mono (HD.out.below 0).size)⟩
end Go.Proofs.YtaeekmlnfjimjaaGreatDoor
