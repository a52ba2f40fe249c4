/-
  Contracts of package exact's naturals: long division.
-/
import Derived.Test.YtnpocnckkaddbaaGreatDoorP19
import Derived.WalkMore
import Derived.Deep.LoopGhost
import Derived.Deep.RegionHeld3
set_option linter.unusedVariables false
set_option linter.unusedSimpArgs false
set_option linter.unusedSectionVars false
namespace Go.Proofs.YtnpocnckkaddbaaGreatDoor
open Go.RowKit Go.Shelf

/-- quotient and rest -/
def DivPost (w : World) (x y : Int) (e : Ending) (w' : World) : Prop := ∃ v1 v2, e = .returned (.tuple #[v1, v2]) ∧ Nt w' v1 (x / y) ∧ Nt w' v2 (x % y) ∧ Below w.heap.size w w'
structure LongInv (g g2 : Nat) (X Y : Int) (n N m : Nat) (w : World) (L O : List Int) : Prop where
  num : LongNum X Y n N m L O
  bl : Blk w g L
  bo : Blk w g2 O

set_option maxRecDepth 100000 in
set_option maxHeartbeats 4000000 in
theorem divideLong_any (w : World) (b off cap : Nat) (za : List Int) (x : Int) (b2 off2 cap2 : Nat) (zb : List Int) (y : Int) (ha : Ns w b off cap za x) (hb : Ns w b2 off2 cap2 zb y) (hx : x < big) (hyx : y ≤ x) (h2 : 2 ≤ zb.length) :
    Calls Tryz.prog 220 #[.slice (some ⟨b, off, none⟩) za.length cap, .slice (some ⟨b2, off2, none⟩) zb.length cap2] w (DivPost w x y) := by
  have hla := ha.len hx
  have hlb := hb.len (show y < big by omega)
  have hcap := ha.cap
  have hcap2 := hb.cap
  have hle : zb.length ≤ za.length := by
    apply Classical.byContradiction
    intro hc
    have := ha.lt_of_len hb (by omega)
    omega
  have y0 : 0 < y := hb.npos
  have hrow := hb.row
  obtain ⟨t0, t1⟩ := gd_bounds hb.wd (zb.length - 1)
  have htop := hb.top
  have hts := top_size hb.wd rfl (by omega) htop
  rw [hb.val] at hts
  have hxb := nv_lt ha.wd
  rw [ha.val] at hxb
  have H := Lib.hid ha
  have H2 := Lib.hid hb
  unfold Row at hrow
  clear ha hb
  obtain ⟨l, hl'⟩ : ∃ l, za.length = l := ⟨_, rfl⟩
  obtain ⟨p, hp'⟩ : ∃ p, zb.length = p + 2 := ⟨zb.length - 2, by omega⟩
  have HL := Lib.hid hl'
  have HP := Lib.hid hp'
  rw [hl'] at hla hcap hle hxb ⊢
  rw [hp'] at hlb hcap2 hle hrow t0 t1 htop hts ⊢
  clear hl' hp' h2
  rw [show p + 2 - 1 = p + 1 by omega] at *
  have hcT := hrow (p + 1) (by omega)
  obtain ⟨s1, s2, s3⟩ := blen_spec (show 0 < gd zb (p + 1) by omega)
  have hbl := blen_le64 t1
  have HLd := Lib.hid (fun w => lead_any (gd zb (p + 1)) w t0 t1)
  generalize blen (gd zb (p + 1)) = bl at *
  clear s1 s2 t0 t1 htop hrow
  have HTS := Lib.hid hts
  have HXB := Lib.hid hxb
  have HX := Lib.hid hx
  have HYX := Lib.hid hyx
  clear hts hxb hx hyx
  have hk : (64 - (bl : Int)).toNat = 64 - bl := by omega
  have HB : Hid (∀ wx, Below w.heap.size w wx → Calls Tryz.prog 89 #[.slice (some ⟨b2, off2, none⟩) (p + 2) cap2, .int .i64 (64 - (bl : Int))] wx (NewNt wx (y * 2 ^ (64 - bl)))) := Lib.hid fun wx hw => by
    have h := left_any wx _ y (H2.out.below hw).nt (by have := HX.out; have := HYX.out; omega) (64 - (bl : Int)) (by omega) (by omega)
    rw [HP.out, hk] at h
    exact h
  have HA : Hid (∀ wx, Below w.heap.size w wx → Calls Tryz.prog 89 #[.slice (some ⟨b, off, none⟩) l cap, .int .i64 (64 - (bl : Int))] wx (NewNt wx (x * 2 ^ (64 - bl)))) := Lib.hid fun wx hw => by
    have h := left_any wx _ x (H.out.below hw).nt HX.out (64 - (bl : Int)) (by omega) (by omega)
    rw [HL.out, hk] at h
    exact h
  obtain ⟨i0, hi, hz0, hz1, hz2⟩ := info_parts infoU
  have hsz : (Tryz.prog.info? 24).map (·.size) = some 1 := by rw [hi]; simp [hz1]
  have HI0 := Lib.hid (And.intro hi (And.intro hz0 (And.intro hz1 hz2)))
  clear hi hz0 hz1 hz2 hk
  go_enter Tryz.func220, Tryz.ntmps220
  go_wp2
  go_step3
  go_wp2_with (go_at_call 228; refine (HLd.out _).mono ?_; rintro en w' ⟨rfl, rfl⟩)
  refine (HB.out _ (Below.refl _ _)).mono ?_
  rintro e w1 ⟨v1, rfl, hv1, hb1⟩
  obtain ⟨bY, oY, kY, zY, rfl, hN⟩ := hv1.pos (by have := Int.mul_pos y0 (p2pos (64 - bl)); omega)
  have hD := divisor_of hN.wd hN.can hN.ne hN.val (show 2 ≤ p + 2 by omega) s3 hbl HTS.out.1 HTS.out.2
  have HD := Lib.hid hD
  have HNY := Lib.hid hN
  have hYcap := hN.cap
  rw [hD.len] at hYcap ⊢
  have HB1 := Lib.hid hb1
  clear hv1 hb1 hN hD
  have hsz1 := HB1.out.size
  go_wp2_with (at_make; refine wpList_make_full w1 rfl (.tmp 28) (.tmp 28) 45 rfl w1.heap.size 24 i0 (.int .u64 0) 1 Tryz.underlying45 HI0.out.1 HI0.out.2.1 HI0.out.2.2.1 .i64 .i64 _ _ (l + 1) rfl rfl (by omega) (by omega) (by rw [HI0.out.2.2.2]; omega) (by unfold maxLen; omega) (Nat.le_refl _) ?_; intro w2 hown hgrow; have hblk := Lib.hid (blk_made hown); have hbel := Lib.hid (below_made hgrow); clear hown hgrow)
  generalize hg : w1.heap.size = g at hblk hbel hsz1
  have HG := Lib.hid hg
  have HB2 : Hid (Below w.heap.size w w2) := Lib.hid (HB1.out.trans (hbel.out.mono hsz1))
  refine (HA.out _ HB2.out).mono ?_
  rintro e w3 ⟨v3, rfl, hv3, hb3⟩
  obtain ⟨bX, oX, kX, zX, rfl, hN⟩ := hv3.pos (by have := Int.mul_pos (show 0 < x by have := HYX.out; omega) (p2pos (64 - bl)); omega)
  have hXb : x * 2 ^ (64 - bl) < pw ^ l * 2 ^ (64 - bl) := Int.mul_lt_mul_of_pos_right HXB.out (p2pos _)
  have hXl : zX.length ≤ l + 1 := by
    apply Classical.byContradiction
    intro hc
    have h1 := nv_ge hN.wd hN.can hN.ne
    rw [hN.val] at h1
    have h3 := pow_mono (show l + 1 ≤ zX.length - 1 by omega)
    have h4 : (2 : Int) ^ (64 - bl) ≤ pw := by
      have h5 := p2split (show 64 - bl ≤ 64 by omega)
      have h6 := Int.mul_le_mul_of_nonneg_right (show (1 : Int) ≤ 2 ^ (64 - (64 - bl)) from p2pos _) (Int.le_of_lt (p2pos (64 - bl)))
      have h7 : (2 : Int) ^ 64 = pw := by decide
      omega
    have h8 := Int.mul_le_mul_of_nonneg_left h4 (Int.le_of_lt (ppos l))
    rw [← Int.pow_succ, show l.succ = l + 1 from rfl] at h8
    omega
  have HNX := Lib.hid hN
  have HXb := Lib.hid hXb
  have hXcap := hN.cap
  have hXpos := hN.pos
  have HB3 := Lib.hid hb3
  obtain ⟨lx, hlx⟩ : ∃ lx, zX.length = lx := ⟨_, rfl⟩
  have HLX := Lib.hid hlx
  rw [hlx] at hXl hXcap hXpos ⊢
  have hblk3 : Hid (Blk w3 g (List.replicate (l + 1) 0)) := Lib.hid (hblk.out.below hblk.out.lt hb3)
  have hg3 : g < w3.heap.size := hblk3.out.lt
  clear hv3 hb3 hN hlx hXb
  obtain ⟨q, hlq⟩ : ∃ q : Nat, l + 1 = q + (p + 2) := ⟨l + 1 - (p + 2), by omega⟩
  have hq : ((l : Int) - ((p : Int) + 2) + 1) = q := by omega
  have hq1 : 0 < q := by omega
  have hq2 : q ≤ 1000 := by omega
  have HLQ := Lib.hid hlq
  clear hlq
  go_wp2_with (first
    | (refine wpList_copy_splice (o := ⟨some 34, _, _, _, _, _⟩) rfl (.tmp 30) (.tmp 33) 45 45 rfl 24 Tryz.underlying45 hsz _ _ _ _ _ _ rfl rfl g 0 _ 24 hblk3.out (zX.map (Value.int .u64)) (by rw [List.length_map, HLX.out]; exact (Nat.min_eq_left hXl).symm) (fun _ => ⟨rfl, _, rfl, row_cells HNX.out.row⟩) (by rw [List.length_map, List.length_map, List.length_replicate, HLX.out]; omega) (ints_oneCell _ _) g w3 (Below.refl _ _) (Nat.le_refl _) ?_; intro w4 hw4 hbel4; have HB4 := Lib.hid hbel4; clear hbel4)
    | (at_make; refine wpList_make_full w4 rfl (.tmp 39) (.tmp 39) 45 rfl w4.heap.size 24 i0 (.int .u64 0) 1 Tryz.underlying45 HI0.out.1 HI0.out.2.1 HI0.out.2.2.1 .i64 .i64 _ _ q rfl rfl (by omega) (by omega) (by rw [HI0.out.2.2.2]; omega) (by unfold maxLen; omega) (Nat.le_refl _) ?_; intro w5 hown hgrow; have hblkO := Lib.hid (blk_made hown); have hbelO := Lib.hid (below_made hgrow); clear hown hgrow))
  go_step3
  have hBk := blk_copied (by rw [HLX.out]; exact hXl) hw4.out
  clear hw4
  generalize hg2 : w4.heap.size = g2 at hblkO hbelO
  have hgg : g < g2 := by rw [← hg2]; exact hBk.lt
  have hbO := hbelO.out
  rw [← hg2] at hbO
  have HL5 : Hid (Blk w5 g (zX ++ List.replicate (l + 1 - zX.length) 0)) := Lib.hid (hBk.below hBk.lt hbO)
  have HG2 := Lib.hid hg2
  have HB5 : Hid (Below g w3 w5) := Lib.hid (HB4.out.trans (hbO.mono (by rw [hg2]; omega)))
  have hS := LongNum.start (up := 64 - bl) (N := l + 1) (L := zX ++ List.replicate (l + 1 - zX.length) 0) HD.out (by simp [HLX.out]; omega) (Wd_append.2 ⟨HNX.out.wd, Wd_replicate _⟩) (by rw [nv_append, nv_replicate, HNX.out.val]; simp) (by omega) (by omega) HXb.out
  rw [show l + 1 - (p + 2) = q by have := HLQ.out; omega] at hS
  have HS := Lib.hid hS
  have HB15 : Hid (Below g w1 w5) := Lib.hid ((hbel.out.trans (HB3.out.mono (Nat.le_of_lt hblk.out.lt))).trans HB5.out)
  have HB05 : Hid (Below w.heap.size w w5) := Lib.hid (HB1.out.trans (HB15.out.mono hsz1))
  clear hS hBk hbO hg2 HB4 hbelO
  go_wp2_with fail
  rw [show ((p : Int) + 2 - 1) = p + 1 by omega]
  go_loopg [11] q (fun k u wr => k ≤ q ∧ u = .int .i64 ((k : Int) - 1) ∧ Hid (Below g w5 wr ∧ ∃ L O, LongInv g g2 (x * 2 ^ (64 - bl)) (y * 2 ^ (64 - bl)) (p + 2) (l + 1) k wr L O))
  case atStart => exact ⟨Nat.le_refl _, rfl, Lib.hid ⟨Below.refl _ _, _, _, ⟨HS.out, HL5.out, hblkO.out⟩⟩⟩
  case round =>
    clear HS HL5 hblkO
    obtain ⟨hkq, rfl, hr⟩ := hrel
    cases gk with
    | zero =>
      obtain ⟨hbw, L, O, hI⟩ := hr.out
      have HI := Lib.hid hI
      have HBw := Lib.hid hbw
      have hlO : O.length = q := by have := hI.num.lenO; have := HLQ.out; omega
      have hlL : L.length = l + 1 := hI.num.lenL
      have c1 := cut_any g2 0 q O wr (by omega) (by omega) HI.out.bo.row
      have c2 := cut_any g 0 (l + 1) L wr (by omega) (by omega) HI.out.bl.row
      rw [hlO] at c1
      rw [hlL] at c2
      have HC1 := Lib.hid c1
      have HC2 := Lib.hid c2
      obtain ⟨z1, z2⟩ := hI.num.stop rfl rfl y0
      have hsm : nv L < big := by
        have h1 := hI.num.rem
        have h2 := HD.out.lt
        have h3 := pow_mono (show p + 2 ≤ 1000 by omega)
        have h4 : big = pw ^ 1000 := rfl
        rw [List.drop_zero] at h1
        omega
      have HZ := Lib.hid (And.intro z1 (And.intro z2 hsm))
      have HR : Hid (∀ v, Nt wr v (nv L) → Calls Tryz.prog 166 #[v, .int .i64 (64 - (bl : Int))] wr (NewNt wr (nv L / 2 ^ (64 - bl)))) := Lib.hid fun v hv => by
        have h := right_any wr v (nv L) hv HZ.out.2.2 (64 - (bl : Int)) (by omega) (by omega)
        rw [show (64 - (bl : Int)).toNat = 64 - bl by omega] at h
        exact h
      have hlO' := Lib.hid hlO
      have hlL' := Lib.hid hlL
      clear hr hI hbw c1 c2 hlO hlL z1 z2 hsm
      rw [show (((0 : Nat) : Int) - 1) = -1 from rfl]
      go_wp2_with fail
      refine HC1.out.mono ?_
      rintro e w' ⟨rfl, m1, a1, a2, a3, rfl⟩
      go_wp2_with fail
      refine HC2.out.mono ?_
      rintro e w' ⟨rfl, m2, d1, d2, d3, rfl⟩
      go_wp2_with fail
      have hnt := nt_cut HI.out.bl.row HI.out.bl.lt HI.out.bl.ty HI.out.num.wdL (cap := l + 1) (by rw [hlL'.out]; exact Nat.le_refl _) m2 d1 d2 d3
      refine (HR.out _ hnt).mono ?_
      rintro e w' ⟨v2, rfl, hv2, hb2⟩
      obtain ⟨bo, lb, cb, rfl⟩ := hv2.shape
      have HV2 := Lib.hid (And.intro hv2 hb2)
      clear hnt hv2 hb2
      go_wp2_with fail
      try rw [Exit.noGoto_ret]
      go_ret2
      have hnt1 := nt_cut HI.out.bo.row HI.out.bo.lt HI.out.bo.ty HI.out.num.wdO (cap := q) (by rw [hlO'.out]; exact Nat.le_refl _) m1 a1 a2 a3
      refine ⟨cutVal ⟨g2, 0, none⟩ q m1, _, rfl, ?_, ?_, ?_⟩
      · rw [HZ.out.1]; exact hnt1.below HV2.out.2
      · rw [HZ.out.2.1]; exact HV2.out.1
      · exact (HB05.out.trans (HBw.out.mono (by omega))).trans (HV2.out.2.mono (by have := HB05.out.size; have := HBw.out.size; omega))
    | succ i =>
      obtain ⟨hbw, L, O, hI⟩ := hr.out
      have HI := Lib.hid hI
      have HBw := Lib.hid hbw
      have hlO : O.length = q := by have := hI.num.lenO; have := HLQ.out; omega
      have hlL : L.length = l + 1 := hI.num.lenL
      have hil : i + (p + 2) < l + 1 := by have := HLQ.out; omega
      have NY := HNY.out.below (w' := wr) (by rw [HG.out]; exact HB15.out.trans hbw)
      have hbY : bY < g := by have := HNY.out.lt; have := HG.out; omega
      have cY1 := NY.row (p + 1) (by rw [HD.out.len]; omega)
      have cY0 := NY.row p (by rw [HD.out.len]; omega)
      have cP2 : wr.cell? ⟨g, i + (p + 2), none⟩ = some (.int .u64 (gd L (i + (p + 2)))) := hI.bl.cell _ (by omega)
      have cP1 : wr.cell? ⟨g, i + (p + 1), none⟩ = some (.int .u64 (gd L (i + (p + 1)))) := hI.bl.cell _ (by omega)
      have cP0 : wr.cell? ⟨g, i + p, none⟩ = some (.int .u64 (gd L (i + p))) := hI.bl.cell _ (by omega)
      have cO : wr.cell? ⟨g2, i, none⟩ = some (.int .u64 (gd O i)) := hI.bo.cell i (by omega)
      have fO : wr.frozen? ⟨g2, i, none⟩ = false := hI.bo.frozen i
      have hA := hI.num.args HD.out
      rw [show i + (p + 2) - 1 = i + (p + 1) by omega, show i + (p + 2) - 2 = i + p by omega, show p + 2 - 1 = p + 1 by omega, show p + 2 - 2 = p by omega] at hA
      have HGs := Lib.hid (fun wx => guessWord_any wx hA)
      have HNY2 := Lib.hid NY
      have hlO' := Lib.hid hlO
      have hlL' := Lib.hid hlL
      clear hr hI hbw hA NY hlO hlL
      have hne1 : g ≠ g2 := by omega
      have hne2 : bY ≠ g2 := by omega
      have hne3 : bY ≠ g := by omega
      rw [show (((i + 1 : Nat) : Int) - 1) = i by omega]
      go_wp2_with fail
      rw [show i + (p + 2) + 1 - i = p + 3 by omega]
      have x1 : (0 : Int) ≤ (p : Int) := by omega
      have x2 : ((p : Int) + 2 - 1) = p + 1 := by omega
      have x3 : ((p : Int) + 2 - 2) = p := by omega
      have y1 : IntKind.i64.wrap ((p : Int) + 2 - 1) = p + 1 := by rw [x2]; exact IntWalk.i64_in _ (by omega)
      have y2 : IntKind.i64.wrap ((p : Int) + 2 - 2) = p := by rw [x3]; exact IntWalk.i64_in _ (by omega)
      have y3 : IntKind.i64.wrap ((p : Int) + 1) = p + 1 := IntWalk.i64_in _ (by omega)
      have y4 : IntKind.i64.wrap (p : Int) = p := IntWalk.i64_in _ (by omega)
      have x14 : (p : Int).toNat = p := Int.toNat_natCast p
      have x15 : (0 : Int) ≤ (p : Int) + 2 - 2 := by omega
      have x16 : ((p : Int) + 2 - 2).toNat = p := by omega
      have x17 : ((p : Int) + 2 - 2) < ((p + 3 : Nat) : Int) := by omega
      have x18 : ((p : Int) + 2 - 2) < ((p + 2 : Nat) : Int) := by omega
      have x4 : (0 : Int) ≤ (p : Int) + 2 := by omega
      have x5 : (0 : Int) ≤ (p : Int) + 1 := by omega
      have x6 : ((p : Int) + 2).toNat = p + 2 := by omega
      have x7 : ((p : Int) + 1).toNat = p + 1 := by omega
      have x8 : ((p : Int) + 2) < ((p + 3 : Nat) : Int) := by omega
      have x9 : ((p : Int) + 1) < ((p + 3 : Nat) : Int) := by omega
      have x10 : (p : Int) < ((p + 3 : Nat) : Int) := by omega
      have x11 : ((p : Int) + 1) < ((p + 2 : Nat) : Int) := by omega
      have x12 : (p : Int) < ((p + 2 : Nat) : Int) := by omega
      have x13 : (i : Int) < (q : Int) := by omega
      have x20 : (p : Int) < (p : Int) + 3 := by omega
      have x21 : (p : Int) < (p : Int) + 2 := by omega
      have hS0 : (fun w' : World => w'.cell? ⟨g, i + (p + 2), none⟩ = some (.int .u64 (gd L (i + (p + 2)))) ∧ w'.cell? ⟨g, i + (p + 1), none⟩ = some (.int .u64 (gd L (i + (p + 1)))) ∧ w'.cell? ⟨g, i + p, none⟩ = some (.int .u64 (gd L (i + p))) ∧ w'.cell? ⟨bY, oY + (p + 1), none⟩ = some (.int .u64 (gd zY (p + 1))) ∧ w'.cell? ⟨bY, oY + p, none⟩ = some (.int .u64 (gd zY p))) wr := ⟨cP2, cP1, cP0, cY1, cY0⟩
      go_region_held3 (fun w' => w'.cell? ⟨g, i + (p + 2), none⟩ = some (.int .u64 (gd L (i + (p + 2)))) ∧ w'.cell? ⟨g, i + (p + 1), none⟩ = some (.int .u64 (gd L (i + (p + 1)))) ∧ w'.cell? ⟨g, i + p, none⟩ = some (.int .u64 (gd L (i + p))) ∧ w'.cell? ⟨bY, oY + (p + 1), none⟩ = some (.int .u64 (gd zY (p + 1))) ∧ w'.cell? ⟨bY, oY + p, none⟩ = some (.int .u64 (gd zY p))) (first | exact ⟨by assumption, by assumption, by assumption, by assumption, by assumption⟩ | (simp [go_sem, *]; done) | go_keep)
        (first
          | (go_at_call 252; refine (HGs.out _).mono ?_; rintro e wg ⟨gw, rfl, hE, hd⟩; have kP2 := (hd.cell ⟨g, i + (p + 2), none⟩).trans cP2; have kP1 := (hd.cell ⟨g, i + (p + 1), none⟩).trans cP1; have kP0 := (hd.cell ⟨g, i + p, none⟩).trans cP0; have kY1 := (hd.cell ⟨bY, oY + (p + 1), none⟩).trans cY1; have kY0 := (hd.cell ⟨bY, oY + p, none⟩).trans cY0; have kO := (hd.cell ⟨g2, i, none⟩).trans cO; have kF := (hd.frozen ⟨g2, i, none⟩).trans fO; have HE := Lib.hid hE; have HDr := Lib.hid hd; clear hE hd))
      all_goals (
        have HDr2 : Hid (Drw wr wg) := Lib.hid ((Drw.step wr 1).trans HDr.out)
        have hB1 : Below g wr (wg.setCell ⟨g2, i, none⟩ (.int .u64 gw)) := below_set (HDr2.out.below g) (Nat.le_of_lt hgg) _ _
        have hL1 : Blk (wg.setCell ⟨g2, i, none⟩ (.int .u64 gw)) g L := by
          unfold Blk
          rw [Below.heap_setCell _ _ _ _ hne1]
          exact HI.out.bl.drw HDr2.out
        have hO1 : Blk (wg.setCell ⟨g2, i, none⟩ (.int .u64 gw)) g2 (O.set i gw) := (HI.out.bo.drw HDr2.out).set i gw
        generalize wg.setCell ⟨g2, i, none⟩ (.int .u64 gw) = wA at hB1 hL1 hO1 ⊢
        have HB1A : Hid (Below g w5 wA) := Lib.hid (HBw.out.trans hB1)
        have NYA := HNY.out.below (w' := wA) (by rw [HG.out]; exact HB15.out.trans HB1A.out)
        obtain ⟨g0, g1, _, _⟩ := HE.out
        have HT : Hid (∀ cp : Nat, Calls Tryz.prog 253 #[.slice (some ⟨g, i, none⟩) (p + 2) cp, .slice (some ⟨bY, oY, none⟩) (p + 2) kY, .int .u64 gw] wA.drew (TakePost wA.drew g i (p + 2) L (y * 2 ^ (64 - bl) * gw))) := Lib.hid fun cp => by
          have h := takeProduct_any wA.drew g i (p + 2) cp L (hL1.drw (Drw.step wA 1)) HI.out.num.wdL bY oY kY zY (by rw [hlL'.out]; omega) (by rw [hlL'.out]; omega) (by rw [HD.out.len]; exact Nat.le_refl _) (by rw [HD.out.len]; omega) NYA.wd (NYA.below ((Drw.step wA 1).below _)).row hne3 gw g0 g1
          rw [HD.out.len, HD.out.val] at h
          exact h
        have cQ2 : wA.cell? ⟨g, i + (p + 2), none⟩ = some (.int .u64 (gd L (i + (p + 2)))) := hL1.cell _ (by rw [hlL'.out]; omega)
        have cQO : wA.cell? ⟨g2, i, none⟩ = some (.int .u64 gw) := by
          have := hO1.cell i (by simp [hlO'.out]; omega)
          rwa [gd_set_eq (by rw [hlO'.out]; omega)] at this
        have HL1 := Lib.hid hL1
        have HO1 := Lib.hid hO1
        have HNYA := Lib.hid NYA
        clear cP2 cP1 cP0 cY1 cY0 cO fO kP2 kP1 kP0 kY1 kY0 kO kF hS0 hB1 hL1 hO1 NYA
        go_wp2_with fail
        have x22 : (p : Int) + 2 ≤ ((l + 1 - i : Nat) : Int) := by omega
        have hS1 : (fun w' : World => w'.cell? ⟨g, i + (p + 2), none⟩ = some (.int .u64 (gd L (i + (p + 2)))) ∧ w'.cell? ⟨g2, i, none⟩ = some (.int .u64 gw)) wA := ⟨cQ2, cQO⟩
        go_region_held3 (fun w' => w'.cell? ⟨g, i + (p + 2), none⟩ = some (.int .u64 (gd L (i + (p + 2)))) ∧ w'.cell? ⟨g2, i, none⟩ = some (.int .u64 gw)) (first | exact ⟨by assumption, by assumption⟩ | go_keep)
          (first
            | (go_at_call 253; refine (HT.out _).mono ?_; rintro e wT ⟨c, M, t0, t1, rfl, t2, t3, t4, t5, t6, t7⟩; have cR2 : wT.cell? ⟨g, i + (p + 2), none⟩ = some (.int .u64 (gd L (i + (p + 2)))) := (by have := t7.cell (i + (p + 2)) (by rw [t3, hlL'.out]; omega); rw [t6 _ (.inr (Nat.le_refl _))] at this; exact this); have cRO := t2.cell (((Drw.step wA 1).cell _).trans cQO) hne1.symm; have fR2 := t7.frozen (i + (p + 2)); have HTT := Lib.hid (And.intro t2 (And.intro t3 (And.intro t4 (And.intro t5 (And.intro t6 t7))))); clear t2 t3 t4 t5 t6 t7))
        obtain ⟨t2, t3, t4, t5, t6, t7⟩ := HTT.out
        have hO2 : Blk wT g2 (O.set i gw) := by
          unfold Blk
          rw [t2.block g2 (by have := HO1.out.lt; simpa using this) (by intro e; injection e with e; omega)]
          exact HO1.out.drw (Drw.step wA 1)
        have hB2 : Below g w5 wT := (HB1A.out.trans ((Drw.step wA 1).below _)).grown t2 (Nat.le_of_lt (show g < wA.drew.heap.size from HL1.out.lt)) (fun k hk => by cases hk; exact Nat.le_refl _)
        have hE2 := HE.out
        have en1 : i + (p + 2) - 1 = i + (p + 1) := by omega
        have en2 : i + (p + 2) - 2 = i + p := by omega
        have en3 : p + 2 - 1 = p + 1 := by omega
        have en4 : p + 2 - 2 = p := by omega
        rw [← en1, ← en2, ← en3] at hE2
        conv at hE2 => rw [← en4]
        have HE3 : Hid (GuessEnd (gd L (i + (p + 2))) (gd L (i + (p + 2) - 1)) (gd L (i + (p + 2) - 2)) (gd zY (p + 2 - 1)) (gd zY (p + 2 - 2)) gw) := Lib.hid HE.out
        have HO2 := Lib.hid hO2
        have HB2' := Lib.hid hB2
        clear t2 t3 t4 t5 t6 t7 hO2 hB2 hE2 en1 en2 en3 en4 cQ2 cQO hS1
        have hil2 : i < O.length := by rw [hlO'.out]; omega
        by_cases hc : gd L (i + (p + 2)) < c
        · have hg1 := long_pos HD.out HI.out.num hil2 HE3.out HTT.out.2.2.1 HTT.out.2.1 HTT.out.2.2.2.1 HTT.out.2.2.2.2.1 hc
          go_wp2_with fail
          have hLZ : Blk (wT.setCell ⟨g, i + (p + 2), none⟩ (.int .u64 0)) g (M.set (i + (p + 2)) 0) := HTT.out.2.2.2.2.2.set _ _
          have hOZ : Blk (wT.setCell ⟨g, i + (p + 2), none⟩ (.int .u64 0)) g2 (O.set i gw) := by
            unfold Blk
            rw [Below.heap_setCell _ _ _ _ hne1.symm]
            exact HO2.out
          have hBZ : Below g w5 (wT.setCell ⟨g, i + (p + 2), none⟩ (.int .u64 0)) := below_set HB2'.out (Nat.le_refl _) _ _
          generalize wT.setCell ⟨g, i + (p + 2), none⟩ (.int .u64 0) = wZ at hLZ hOZ hBZ ⊢
          have cZO : wZ.cell? ⟨g2, i, none⟩ = some (.int .u64 gw) := by
            have := hOZ.cell i (by simp; exact hil2)
            rwa [gd_set_eq hil2] at this
          have fZO : wZ.frozen? ⟨g2, i, none⟩ = false := hOZ.frozen i
          have HLZ := Lib.hid hLZ
          have HOZ := Lib.hid hOZ
          have HBZ := Lib.hid hBZ
          clear hLZ hOZ hBZ cR2 cRO fR2
          refine wp_loop_rounds 1 ?_
          rw [rounds_succ]
          go_wp2_with fail
          have hBZ2 : Below g w5 (wZ.setCell ⟨g2, i, none⟩ (.int .u64 (gw - 1))) := below_set HBZ.out (Nat.le_of_lt hgg) _ _
          have hLZ2 : Blk (wZ.setCell ⟨g2, i, none⟩ (.int .u64 (gw - 1))) g (M.set (i + (p + 2)) 0) := by
            unfold Blk
            rw [Below.heap_setCell _ _ _ _ hne1]
            exact HLZ.out
          have hOZ2 : Blk (wZ.setCell ⟨g2, i, none⟩ (.int .u64 (gw - 1))) g2 (O.set i (gw - 1)) := by
            have := HOZ.out.set i (gw - 1)
            rwa [List.set_set] at this
          generalize wZ.setCell ⟨g2, i, none⟩ (.int .u64 (gw - 1)) = wY at hBZ2 hLZ2 hOZ2 ⊢
          have NYY := HNY.out.below (w' := wY) (by rw [HG.out]; exact HB15.out.trans hBZ2)
          have hAd := addTo_some wY g i (p + 2) (l + 1 - i) (M.set (i + (p + 2)) 0) hLZ2 (Wd_set HTT.out.2.2.1 ⟨Int.le_refl _, pw_pos⟩) (by rw [List.length_set, HTT.out.2.1, hlL'.out]; omega) (by rw [List.length_set, HTT.out.2.1, hlL'.out]; omega) bY oY kY zY (by rw [HD.out.len]; exact Nat.le_refl _) (by rw [HD.out.len]; omega) NYY.wd NYY.row hne3
          rw [HD.out.len, HD.out.val] at hAd
          refine hAd.mono ?_
          rintro e wX ⟨c2, M3, r0, r1, rfl, r2, r3, r4, r5, r6, r7⟩
          obtain ⟨f1, f2, f3⟩ := long_back HD.out HI.out.num hil2 HE3.out HTT.out.2.2.1 HTT.out.2.1 HTT.out.2.2.2.1 HTT.out.2.2.2.2.1 hc r0 r1 r4 r3 r5 r6
          subst f2
          have hOX : Blk wX g2 (O.set i (gw - 1)) := by
            unfold Blk
            rw [r2.block g2 hOZ2.lt (by intro e; injection e with e; omega)]
            exact hOZ2
          have hBX : Below g w5 wX := hBZ2.grown r2 (Nat.le_of_lt hLZ2.lt) (fun k hk => by cases hk; exact Nat.le_refl _)
          have HX3 := Lib.hid (And.intro f3 (And.intro r7 (And.intro hOX hBX)))
          clear hBZ2 hLZ2 hOZ2 NYY hAd r0 r1 r2 r3 r4 r5 r6 r7 f1 f3 hOX hBX cZO fZO
          go_wp2_with fail
          go_roundg i
          case measure => omega
          case rel => exact ⟨by omega, by first | rfl | go_num, Lib.hid ⟨HX3.out.2.2.2, _, _, ⟨HX3.out.1, HX3.out.2.1, HX3.out.2.2.1⟩⟩⟩
        · go_wp2_with fail
          have hLZ : Blk (wT.setCell ⟨g, i + (p + 2), none⟩ (.int .u64 0)) g (M.set (i + (p + 2)) 0) := HTT.out.2.2.2.2.2.set _ _
          have hOZ : Blk (wT.setCell ⟨g, i + (p + 2), none⟩ (.int .u64 0)) g2 (O.set i gw) := by
            unfold Blk
            rw [Below.heap_setCell _ _ _ _ hne1.symm]
            exact HO2.out
          have hBZ : Below g w5 (wT.setCell ⟨g, i + (p + 2), none⟩ (.int .u64 0)) := below_set HB2'.out (Nat.le_refl _) _ _
          generalize wT.setCell ⟨g, i + (p + 2), none⟩ (.int .u64 0) = wZ at hLZ hOZ hBZ ⊢
          have HLZ := Lib.hid hLZ
          have HOZ := Lib.hid hOZ
          have HBZ := Lib.hid hBZ
          clear hLZ hOZ hBZ cR2 cRO fR2
          refine wp_loop_rounds 1 ?_
          rw [rounds_succ]
          go_wp2_with fail
          go_roundg i
          case measure => omega
          case rel => exact ⟨by omega, by first | rfl | go_num, Lib.hid ⟨HBZ.out, _, _, ⟨long_right HD.out HI.out.num hil2 HE3.out HTT.out.2.2.1 HTT.out.2.1 HTT.out.2.2.2.1 HTT.out.2.2.2.2.1 (by omega), HLZ.out, HOZ.out⟩⟩⟩)
end Go.Proofs.YtnpocnckkaddbaaGreatDoor
