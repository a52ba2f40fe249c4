/-
  Contracts of package exact's naturals: the greatest common divisor.
-/
import Derived.Test.YtnpocnckkaddbaaGreatDoorP21
import Derived.Test.YtnpocnckkaddbaaGreatDoorP17
import Derived.Test.YtnpocnckkaddbaaGreatDoorP14
import Derived.Deep.RegionHeld3
set_option linter.unusedVariables false
set_option linter.unusedSimpArgs false
set_option linter.unusedSectionVars false
namespace Go.Proofs.YtnpocnckkaddbaaGreatDoor
open Go.RowKit Go.Shelf
attribute [local go_sem] eqNil neqNil

/-- what gcd's loop keeps -/
structure GcdAt (G : Nat) (w wr : World) (p q : Value) (a b : Int) : Prop where
  na : Nt wr p a
  nb : Nt wr q b
  a0 : 0 < a
  ba : b ≤ a
  big : a < big
  gcd : Int.gcd a b = G
  bel : Below w.heap.size w wr

theorem gcd_rest (a b : Int) : Int.gcd b (a % b) = Int.gcd a b := by
  have e := Int.mul_ediv_add_emod a b
  apply Nat.dvd_antisymm
  · apply Int.dvd_gcd
    · rw [← e]
      conv => lhs; rw [e]
      exact Int.dvd_add (Int.dvd_trans (Int.gcd_dvd_left ..) (Int.dvd_mul_right ..)) (Int.gcd_dvd_right ..)
    · exact Int.gcd_dvd_left ..
  · apply Int.dvd_gcd
    · exact Int.gcd_dvd_right ..
    · rw [show a % b = a - b * (a / b) by omega]
      exact Int.dvd_sub (Int.gcd_dvd_left ..) (Int.dvd_trans (Int.gcd_dvd_right ..) (Int.dvd_mul_right ..))

set_option maxRecDepth 100000 in
set_option maxHeartbeats 2000000 in
theorem gcd_any (w : World) (hE : Env w) (va vb : Value) (x y : Int) (ha : Nt w va x) (hb : Nt w vb y) (hx : x < big) (hy : y < big) (x0 : 0 < x) (y0 : 0 < y) (ho : x % 2 = 1 ∨ y % 2 = 1) :
    Calls Tryz.prog 158 #[va, vb] w (NewNt w (Int.gcd x y)) := by
  obtain ⟨b1, o1, c1, z1, rfl, hA⟩ := ha.pos (by omega)
  obtain ⟨b2, o2, c2, z2, rfl, hB⟩ := hb.pos (by omega)
  have HC := Lib.hid (natCmp_any w _ _ x y ha hb hx hy)
  have HE := Lib.hid hE
  have HX := Lib.hid (And.intro ha (And.intro hb (And.intro hx hy)))
  obtain ⟨l1, hl1⟩ : ∃ l, z1.length = l := ⟨_, rfl⟩
  obtain ⟨l2, hl2⟩ : ∃ l, z2.length = l := ⟨_, rfl⟩
  rw [hl1, hl2] at HX HC
  rw [hl1, hl2]
  clear hE ha hb hx hy hA hB hl1 hl2
  have HO := Lib.hid ho
  clear ho
  have HGO : Hid (∀ a b : Int, Int.gcd a b = Int.gcd x y → a % 2 = 1 ∨ b % 2 = 1) := Lib.hid (by
    intro a b hab
    apply Classical.byContradiction
    intro hh
    have h1 : ((2 : Int)) ∣ a := by omega
    have h2 : ((2 : Int)) ∣ b := by omega
    have h3 : (2 : Nat) ∣ Int.gcd a b := Int.dvd_gcd h1 h2
    rw [hab] at h3
    have h4 : (2 : Int) ∣ x := Int.dvd_trans (Int.natCast_dvd_natCast.2 h3) (Int.gcd_dvd_left ..)
    have h5 : (2 : Int) ∣ y := Int.dvd_trans (Int.natCast_dvd_natCast.2 h3) (Int.gcd_dvd_right ..)
    have := HO.out
    omega)
  obtain ⟨G, hG⟩ : ∃ G, Int.gcd x y = G := ⟨_, rfl⟩
  rw [hG] at HGO ⊢
  by_cases hlt : x < y
  case' pos => have hcm : cmpI x y = -1 := cmpI_lt hlt
  case' neg => have hcm : cmpI x y = (if y < x then 1 else 0) := by unfold cmpI; rw [if_neg hlt]
  case' neg => have hcm2 : (decide ((if y < x then (1 : Int) else 0) < 0)) = false := by split <;> rfl
  case' pos => have HS : Hid (∀ w', Drw w w' → GcdAt G w w' (.slice (some ⟨b2, o2, none⟩) l2 c2) (.slice (some ⟨b1, o1, none⟩) l1 c1) y x) := Lib.hid fun w' hd => ⟨HX.out.2.1.below (hd.below _), HX.out.1.below (hd.below _), y0, by omega, HX.out.2.2.2, (Int.gcd_comm _ _).trans hG, hd.below _⟩
  case' neg => have HS : Hid (∀ w', Drw w w' → GcdAt G w w' (.slice (some ⟨b1, o1, none⟩) l1 c1) (.slice (some ⟨b2, o2, none⟩) l2 c2) x y) := Lib.hid fun w' hd => ⟨HX.out.1.below (hd.below _), HX.out.2.1.below (hd.below _), x0, by omega, HX.out.2.2.1, hG, hd.below _⟩
  all_goals rw [hcm] at HC
  case' neg => generalize (if y < x then (1 : Int) else 0) = cc at *
  all_goals clear hcm hG
  all_goals go_enter Tryz.func158, Tryz.ntmps158
  all_goals go_wp2_with (go_at_call 163; refine HC.out.mono ?_; rintro en w' ⟨rfl, hd⟩; have HD := Lib.hid hd; clear hd)
  all_goals (
    clear HX HO HC
    go_loopg [0, 1] (x + y).toNat (fun k p q wr => ∃ a b : Int, b.toNat ≤ k ∧ Hid (GcdAt G w wr p q a b))
    case atStart => exact ⟨_, _, by omega, Lib.hid (HS.out _ HD.out)⟩
    case round =>
      obtain ⟨a, b, hk, hr⟩ := hrel
      obtain ⟨ba, oa, ca, za, rfl, hA⟩ := hr.out.na.pos (by have := hr.out.a0; omega)
      rcases hr.out.nb with ⟨rfl, rfl⟩ | ⟨bb, ob, cb, zb, rfl, hB⟩
      · go_wp2_with fail
        go_ret
        have hg := hr.out.gcd
        rw [Int.gcd_zero_right] at hg
        have ha0 := hr.out.a0
        rw [show ((G : Nat) : Int) = a by omega]
        exact ⟨_, rfl, hr.out.na, hr.out.bel⟩
      · by_cases hl : zb.length = 1
        · have hb1 := hB.one hl
          obtain ⟨g0, g1⟩ := gd_bounds hB.wd 0
          have hb0 := hB.npos
          rw [hb1] at g0 g1
          have cB := hB.row 0 hB.pos
          rw [hb1, Nat.add_zero] at cB
          have hrest0 : 0 ≤ a % b := Int.emod_nonneg _ (by omega)
          have hrest1 : a % b < b := Int.emod_lt_of_pos _ hb0
          have hgr : Int.gcd b (a % b) = G := (gcd_rest a b).trans hr.out.gcd
          have hG1 : ((G : Nat) : Int) ≤ b := by rw [← hgr]; exact Int.le_of_dvd hb0 (Int.gcd_dvd_left ..)
          have KR : Hid (∀ W, Drw wr W → Calls Tryz.prog 218 #[.slice (some ⟨ba, oa, none⟩) za.length ca, .int .u64 b] W (DrewPost W (.int .u64 (a % b)))) := Lib.hid fun W hW => restByWord_any W ba oa ca za a b (hA.below (hW.below _)) hr.out.big hb0 g1
          have KG : Hid (∀ W, Drw wr W → Calls Tryz.prog 217 #[.int .u64 b, .int .u64 (a % b)] W fun e w' => e = .returned (.int .u64 (G : Int)) ∧ W = w') := Lib.hid fun W hW => by
            have h := gcdWords_any W b (a % b) ((HE.out.below hr.out.bel).below (hW.below _)) g0 g1 hrest0 (by omega) (HGO.out b (a % b) hgr) hb0
            rw [hgr] at h
            exact h
          have KF : Hid (∀ W, Calls Tryz.prog 206 #[.int .u64 (G : Int)] W (NewNt W (G : Int))) := Lib.hid fun W => fromWord_any W _ (by omega) (by omega)
          have HBEL := Lib.hid hr.out.bel
          have HLB := Lib.hid hB.lt
          generalize a % b = r at *
          clear hk hA hB hgr hG1 hb1
          rw [hl]
          have hd0 : Hid (Drw wr wr.drew) := Lib.hid (Drw.step wr 1)
          go_wp2_with fail
          go_region_held3 (fun w' => w'.cell? ⟨bb, ob, none⟩ = some (.int .u64 b)) (first | exact e20 | exact e10 | exact cB)
            (first
              | (go_at_call 218; (with_reducible refine (KR.out _ hd0.out).mono ?_); rintro en w3 ⟨rfl, hd⟩; have e10 := (hd.cell ⟨bb, ob, none⟩).trans ((hd0.out.cell _).trans cB); have hd1 := Lib.hid (hd0.out.trans hd); clear hd)
              | (go_at_call 217; (with_reducible refine (KG.out _ hd1.out).mono ?_); rintro en w4 ⟨rfl, rfl⟩)
              | (go_at_call 206; (with_reducible refine (KF.out _).mono ?_); rintro en w5 ⟨v5, rfl, hv, hb⟩; have e20 := (hb.cell (p := ⟨bb, ob, none⟩) (show bb < _ from Nat.lt_of_lt_of_eq HLB.out (congrArg Array.size hd1.out.heap).symm)).trans e10; have HV := Lib.hid (And.intro hv hb); clear hv hb))
          go_wp2_with fail
          go_ret
          exact ⟨_, rfl, HV.out.1, (HBEL.out.trans (hd1.out.below _)).trans (HV.out.2.mono ((HBEL.out.trans (hd1.out.below _)).size))⟩
        · have hl2 : 2 ≤ zb.length := by have := hB.pos; omega
          have hyb : b < big := by have := hr.out.ba; have := hr.out.big; omega
          have hb0 := hB.npos
          have HKS := Lib.hid (simulate_any wr ba oa ca za a bb ob cb zb b hA hB hr.out.big hr.out.ba hl2)
          have HB := Lib.hid hB
          have HA := Lib.hid hA
          have hlz := hB.len hyb
          obtain ⟨k, hk2⟩ : ∃ k, zb.length = k := ⟨_, rfl⟩
          have HKL := Lib.hid hk2
          rw [hk2] at HKS hl2 hlz ⊢
          clear hk2 hl hB hA
          go_wp2_with (go_at_call 215; refine HKS.out.mono ?_; rintro en w1 ⟨u0, u1, v0, v1, t, rfl, hbl, hbd, hst⟩; have HSI := Lib.hid (And.intro hbl (And.intro hbd hst)); clear hbl hbd hst)
          · have hv : (v0 != 0) = true := by assumption
            obtain ⟨R1, R2, hst⟩ := HSI.out.2.2 (by simpa using hv)
            have hbW : Below wr.heap.size wr (w1.alloc (.cells #[.int .u64 u0, .int .u64 u1, .int .u64 v0, .int .u64 v1, .bool t] 216)) := HSI.out.1.alloc HSI.out.1.size _
            generalize w1.alloc _ = W2 at hbW ⊢
            have hAp := apply_any W2 ba oa ca za a bb ob cb zb b (HA.out.below hbW) (HB.out.below hbW) hr.out.big hyb u0 u1 v0 v1 t HSI.out.2.1 R1 R2 hst
            rw [HKL.out] at hAp
            have hlb := hst.less (by simpa using hv)
            have hn2 := hst.n2
            refine hAp.mono ?_
            rintro en w3 ⟨va', vb', rfl, h1, h2, h3⟩
            have HN : Hid (GcdAt G w w3 va' vb' R1 R2) := Lib.hid ⟨h1, h2, by have := hst.lt; omega, by have := hst.lt; omega, by have := hst.le; have := hr.out.big; omega, hst.gcd.trans hr.out.gcd, hr.out.bel.trans ((hbW.trans (h3.mono hbW.size)).mono hr.out.bel.size)⟩
            clear h1 h2 h3 hst hAp hbW
            go_wp2_with fail
            go_roundg (gk - 1)
            case measure => omega
            case rel => exact ⟨R1, R2, by omega, HN⟩
          · have hbW : Below wr.heap.size wr (w1.alloc (.cells #[.int .u64 u0, .int .u64 u1, .int .u64 v0, .int .u64 v1, .bool t] 216)) := HSI.out.1.alloc HSI.out.1.size _
            generalize w1.alloc _ = W2 at hbW ⊢
            have hNB := (HB.out.below hbW).nt
            have hDv := divide_any W2 _ _ a b (HA.out.below hbW).nt hNB hr.out.big hyb (by have := hr.out.a0; omega) hb0
            rw [HKL.out] at hDv hNB
            refine hDv.mono ?_
            rintro en w3 ⟨vq, vb', rfl, h1, h2, h3⟩
            have hm0 : 0 ≤ a % b := Int.emod_nonneg _ (by omega)
            have hm1 : a % b < b := Int.emod_lt_of_pos _ hb0
            have HN : Hid (GcdAt G w w3 (.slice (some ⟨bb, ob, none⟩) k cb) vb' b (a % b)) := Lib.hid ⟨hNB.below h3, h2, hb0, by omega, hyb, (gcd_rest a b).trans hr.out.gcd, hr.out.bel.trans ((hbW.trans (h3.mono hbW.size)).mono hr.out.bel.size)⟩
            generalize a % b = r at *
            clear h1 h2 h3 hDv hNB hbW
            go_wp2_with fail
            go_roundg (gk - 1)
            case measure => omega
            case rel => exact ⟨b, r, by omega, HN⟩)
end Go.Proofs.YtnpocnckkaddbaaGreatDoor
/-
  Contracts of package exact: common, without.
-/
namespace Go.Proofs.YtnpocnckkaddbaaGreatDoor
open Go.RowKit Go.Shelf
attribute [local go_sem] eqNil neqNil

/-- a positive natural; 1 may be nil -/
def Pt (w : World) (v : Value) (n : Int) : Prop :=
  (n = 1 ∧ v = .slice none 0 0) ∨ ∃ (b off cap : Nat) (zs : List Int), v = .slice (some ⟨b, off, none⟩) zs.length cap ∧ Ns w b off cap zs n
theorem Pt.pos {w : World} {v : Value} {n : Int} (h : Pt w v n) : 0 < n := by
  rcases h with ⟨rfl, _⟩ | ⟨b, off, cap, zs, _, h⟩
  · decide
  · exact h.npos
theorem Pt.of_bt {w : World} {v : Value} {n : Int} (h : Bt w v n) (h0 : n ≠ 0) : Pt w v n := by
  rcases h with h | ⟨_, h⟩
  · exact .inl h
  · exact .inr (h.pos h0)
theorem Pt.of_nt {w : World} {v : Value} {n : Int} (h : Nt w v n) (h0 : n ≠ 0) : Pt w v n := .inr (h.pos h0)
theorem Pt.below {w w' : World} {v : Value} {n : Int} (h : Pt w v n) (hw : Below w.heap.size w w') : Pt w' v n := by
  rcases h with h | ⟨b, off, cap, zs, e, h⟩
  · exact .inl h
  · exact .inr ⟨b, off, cap, zs, e, h.below hw⟩
/-- a divisor, nil for 1 -/
def NewBt (w : World) (n : Int) (e : Ending) (w' : World) : Prop := ∃ v, e = .returned v ∧ Bt w' v n ∧ Below w.heap.size w w'
def NewPt (w : World) (n : Int) (e : Ending) (w' : World) : Prop := ∃ v, e = .returned v ∧ Pt w' v n ∧ Below w.heap.size w w'

set_option maxRecDepth 100000 in
theorem common_some (w : World) (hE : Env w) (b off cap : Nat) (za : List Int) (x : Int) (b2 off2 cap2 : Nat) (zb : List Int) (y : Int) (ha : Ns w b off cap za x) (hb : Ns w b2 off2 cap2 zb y) (hx : x < big) (hy : y < big) (ho : x % 2 = 1 ∨ y % 2 = 1) :
    Calls Tryz.prog 86 #[.slice (some ⟨b, off, none⟩) za.length cap, .slice (some ⟨b2, off2, none⟩) zb.length cap2] w (NewBt w (Int.gcd x y)) := by
  have hx0 := ha.npos
  have hgle : ((Int.gcd x y : Nat) : Int) ≤ x := Int.le_of_dvd hx0 (Int.gcd_dvd_left ..)
  have hgp : 0 < Int.gcd x y := Nat.pos_of_ne_zero (by rw [Ne, Int.gcd_eq_zero_iff]; omega)
  have HG := Lib.hid (gcd_any w hE _ _ x y ha.nt hb.nt hx hy hx0 hb.npos ho)
  have hgb : ((Int.gcd x y : Nat) : Int) < big := by omega
  generalize Int.gcd x y = G at *
  clear ha hb ho hgle
  go_enter Tryz.func86, Tryz.ntmps86
  go_wp2_with fail
  refine HG.out.mono ?_
  rintro en w1 ⟨v, rfl, hv, hbl⟩
  obtain ⟨bg, og, cg, zg, rfl, hN⟩ := hv.pos (by omega)
  have HN := Lib.hid (And.intro hN hbl)
  have HO := Lib.hid (isOne_some w1 bg og cg zg G hN hgb)
  clear hv hN hbl
  by_cases h1 : ((G : Nat) : Int) = 1
  · rw [decide_eq_true h1] at HO
    go_wp2_with fail
    refine HO.out.mono ?_
    rintro en w2 ⟨rfl, rfl⟩
    go_wp2_with fail
    go_ret
    exact ⟨_, rfl, .inl ⟨h1, rfl⟩, HN.out.2⟩
  · rw [decide_eq_false h1] at HO
    go_wp2_with fail
    refine HO.out.mono ?_
    rintro en w2 ⟨rfl, rfl⟩
    go_wp2_with fail
    go_ret
    exact ⟨_, rfl, .inr ⟨h1, HN.out.1.nt⟩, HN.out.2⟩

theorem common_any (w : World) (hE : Env w) (va vb : Value) (x y : Int) (ha : Pt w va x) (hb : Pt w vb y) (hx : x < big) (hy : y < big) (ho : x % 2 = 1 ∨ y % 2 = 1) :
    Calls Tryz.prog 86 #[va, vb] w (NewBt w (Int.gcd x y)) := by
  rcases ha with ⟨rfl, rfl⟩ | ⟨b, off, cap, za, rfl, ha⟩
  · have hs : ∃ bo lb cb, vb = .slice bo lb cb := by
      rcases hb with ⟨_, rfl⟩ | ⟨b2, off2, cap2, zb, rfl, _⟩ <;> exact ⟨_, _, _, rfl⟩
    obtain ⟨bo, lb, cb, rfl⟩ := hs
    refine (common_left w bo lb cb).mono ?_
    rintro e w' ⟨rfl, rfl⟩
    exact ⟨_, rfl, .inl ⟨by simp, rfl⟩, Below.refl _ _⟩
  · rcases hb with ⟨rfl, rfl⟩ | ⟨b2, off2, cap2, zb, rfl, hb⟩
    · refine (common_right w _ _ _).mono ?_
      rintro e w' ⟨rfl, rfl⟩
      exact ⟨_, rfl, .inl ⟨by simp, rfl⟩, Below.refl _ _⟩
    · exact common_some w hE b off cap za x b2 off2 cap2 zb y ha hb hx hy ho

set_option maxRecDepth 100000 in
theorem without_any (w : World) (va vd : Value) (x d : Int) (ha : Pt w va x) (hd : Bt w vd d) (hx : x < big) (hd0 : 0 < d) (h : d ∣ x) :
    Calls Tryz.prog 87 #[va, vd] w (NewPt w (x / d)) := by
  rcases hd with ⟨rfl, rfl⟩ | ⟨h1, hd⟩
  · have hs : ∃ bo lb cb, va = .slice bo lb cb := by
      rcases ha with ⟨_, rfl⟩ | ⟨b2, off2, cap2, zb, rfl, _⟩ <;> exact ⟨_, _, _, rfl⟩
    obtain ⟨bo, lb, cb, rfl⟩ := hs
    refine (without_nil w bo lb cb).mono ?_
    rintro e w' ⟨rfl, rfl⟩
    rw [Int.ediv_one]
    exact ⟨_, rfl, ha, Below.refl _ _⟩
  · have hxp := ha.pos
    have hle : d ≤ x := Int.le_of_dvd hxp h
    have hq : 0 < x / d := by
      have := Int.ediv_mul_cancel h
      apply Classical.byContradiction
      intro hh
      have := Int.mul_le_mul_of_nonneg_right (show x / d ≤ 0 by omega) (Int.le_of_lt hd0)
      omega
    rcases ha with ⟨rfl, rfl⟩ | ⟨b, off, cap, za, rfl, ha⟩
    · omega
    · obtain ⟨b2, off2, cap2, zb, rfl, hB⟩ := hd.pos (by omega)
      have HD := Lib.hid (divide_any w _ _ x d ha.nt hB.nt hx (by omega) (by omega) hd0)
      clear ha hd hB
      go_enter Tryz.func87, Tryz.ntmps87
      go_wp2_with fail
      refine HD.out.mono ?_
      rintro en w1 ⟨v1, v2, rfl, g1, g2, g3⟩
      have HV := Lib.hid (And.intro g1 g3)
      clear g1 g2 g3
      go_wp2_with fail
      go_ret
      exact ⟨_, rfl, .of_nt HV.out.1 (by omega), HV.out.2⟩

theorem times_some (w : World) (b off cap : Nat) (za : List Int) (x : Int) (b2 off2 cap2 : Nat) (zb : List Int) (y : Int) (ha : Ns w b off cap za x) (hb : Ns w b2 off2 cap2 zb y) (hx : x < big) (hy : y < big) (h40 : za.length < 40 ∨ zb.length < 40) :
    Calls Tryz.prog 88 #[.slice (some ⟨b, off, none⟩) za.length cap, .slice (some ⟨b2, off2, none⟩) zb.length cap2] w (NewPt w (x * y)) := by
  have HM := Lib.hid (mul_short w b off cap za x b2 off2 cap2 zb y ha hb hx hy h40)
  have h0 : 0 < x * y := Int.mul_pos ha.npos hb.npos
  clear ha hb
  go_enter Tryz.func88, Tryz.ntmps88
  go_wp2_with fail
  refine HM.out.mono ?_
  rintro en w1 ⟨v, rfl, hv, hbl⟩
  have HV := Lib.hid (And.intro hv hbl)
  clear hv hbl
  go_wp2_with fail
  go_ret
  exact ⟨_, rfl, .of_nt HV.out.1 (by omega), HV.out.2⟩
theorem len_short {w : World} {b off cap : Nat} {zs : List Int} {n : Int} (h : Ns w b off cap zs n) (k : Nat) (hn : n < pw ^ k) : zs.length ≤ k := by
  apply Classical.byContradiction
  intro hc
  have hp := h.pos
  have h1 := nv_take_all zs (zs.length - 1)
  rw [List.take_of_length_le (by omega), h.val] at h1
  have h2 := nv_nonneg (Wd_take h.wd (zs.length - 1))
  obtain ⟨t0, t1⟩ := gd_bounds h.wd (zs.length - 1)
  have h3 := h.top
  have h4 : (0 : Int) < pw ^ (zs.length - 1) := Int.pow_pos (by decide)
  have h5 := Int.mul_le_mul_of_nonneg_left (show 1 ≤ gd zs (zs.length - 1) by omega) (Int.le_of_lt h4)
  have h6 := pow_mono (show k ≤ zs.length - 1 by omega)
  omega
/-- a product, one of whose factors is short -/
theorem times_any (w : World) (va vb : Value) (x y : Int) (ha : Pt w va x) (hb : Pt w vb y) (hx : x < big) (hy : y < big) (hs : x < pw ^ 39 ∨ y < pw ^ 39) :
    Calls Tryz.prog 88 #[va, vb] w (NewPt w (x * y)) := by
  rcases ha with ⟨rfl, rfl⟩ | ⟨b, off, cap, za, rfl, ha⟩
  · have hs : ∃ bo lb cb, vb = .slice bo lb cb := by
      rcases hb with ⟨_, rfl⟩ | ⟨b2, off2, cap2, zb, rfl, _⟩ <;> exact ⟨_, _, _, rfl⟩
    obtain ⟨bo, lb, cb, rfl⟩ := hs
    refine (times_right w bo lb cb).mono ?_
    rintro e w' ⟨rfl, rfl⟩
    rw [Int.one_mul]
    exact ⟨_, rfl, hb, Below.refl _ _⟩
  · rcases hb with ⟨rfl, rfl⟩ | ⟨b2, off2, cap2, zb, rfl, hb⟩
    · refine (times_left w _ _ _).mono ?_
      rintro e w' ⟨rfl, rfl⟩
      rw [Int.mul_one]
      exact ⟨_, rfl, .inr ⟨_, _, _, _, rfl, ha⟩, Below.refl _ _⟩
    · refine times_some w b off cap za x b2 off2 cap2 zb y ha hb hx hy ?_
      rcases hs with h | h
      · left; have := len_short ha 39 h; omega
      · right; have := len_short hb 39 h; omega
end Go.Proofs.YtnpocnckkaddbaaGreatDoor
/-
  Numbers with a divisor: K 2^k / D. Their fields, and what products, inverses, floors make of them (no program here).
-/
namespace Go.Proofs.YtnpocnckkaddbaaGreatDoor
open Go.RowKit Go.Shelf

theorem sg_mul (s : Bool) (x y : Int) : sg s x * y = sg s (x * y) := by
  cases s
  · rfl
  · exact Int.neg_mul _ _
theorem sg_sg (s s' : Bool) (x y : Int) : sg s x * sg s' y = sg (s != s') (x * y) := by
  cases s <;> cases s' <;> simp [sg, Int.neg_mul_neg] <;> grind
theorem sg_abs {s : Bool} {x : Int} (h : 0 ≤ x) : ((sg s x).natAbs : Int) = x := by cases s <;> simp [sg] <;> omega
theorem co_of {a b c d : Int} (h : Int.gcd a b = 1) (ha : c ∣ a) (hb : d ∣ b) : Int.gcd c d = 1 := by
  apply Nat.eq_one_of_dvd_one
  rw [← h]
  exact Int.dvd_gcd (Int.dvd_trans (Int.gcd_dvd_left ..) ha) (Int.dvd_trans (Int.gcd_dvd_right ..) hb)
theorem co_mul {a b c : Int} (h1 : Int.gcd a c = 1) (h2 : Int.gcd b c = 1) : Int.gcd (a * b) c = 1 := by
  unfold Int.gcd at *
  rw [Int.natAbs_mul]
  exact Nat.Coprime.mul_left h1 h2
theorem co_comm {a b : Int} (h : Int.gcd a b = 1) : Int.gcd b a = 1 := (Int.gcd_comm ..).trans h
theorem co_pow {b : Int} (hb : b % 2 = 1) : ∀ n : Nat, Int.gcd (2 ^ n) b = 1
  | 0 => by simp
  | n + 1 => by
    rw [Int.pow_succ]
    refine co_mul (co_pow hb n) ?_
    apply Nat.eq_one_of_dvd_one
    have h1 : ((Int.gcd 2 b : Nat) : Int) ∣ 2 := Int.gcd_dvd_left ..
    have h2 : ((Int.gcd 2 b : Nat) : Int) ∣ b := Int.gcd_dvd_right ..
    have h3 : Int.gcd 2 b ≤ 2 := Nat.le_of_dvd (by omega) (by have := Int.natAbs_dvd_natAbs.2 h1; simpa using this)
    have h4 : Int.gcd 2 b ≠ 0 := by intro h; rw [h] at h2; simp at h2; omega
    rcases (show Int.gcd 2 b = 1 ∨ Int.gcd 2 b = 2 by omega) with h | h
    · rw [h]; exact Nat.dvd_refl _
    · rw [h] at h2
      have : (2 : Int) ∣ b := h2
      omega
theorem dvd_co {a b c : Int} (h : Int.gcd a b = 1) (hd : a ∣ b * c) : a ∣ c := by
  have h1 : a.natAbs ∣ b.natAbs * c.natAbs := by rw [← Int.natAbs_mul]; exact Int.natAbs_dvd_natAbs.2 hd
  exact Int.natAbs_dvd_natAbs.1 (Nat.Coprime.dvd_of_dvd_mul_left h h1)
/-- two numbers without a common divisor, out of two -/
theorem co_div {a b : Int} (ha : 0 < a) : Int.gcd (a / Int.gcd a b) (b / Int.gcd a b) = 1 := by
  have hg : 0 < Int.gcd a b := Nat.pos_of_ne_zero (by rw [Ne, Int.gcd_eq_zero_iff]; omega)
  exact Int.gcd_ediv_gcd_ediv_gcd hg
theorem odd_mul {a b : Int} (ha : a % 2 = 1) (hb : b % 2 = 1) : (a * b) % 2 = 1 := by
  rw [Int.mul_emod, ha, hb]; rfl
theorem odd_left {a b : Int} (h : (a * b) % 2 = 1) : a % 2 = 1 := by
  rcases (show a % 2 = 0 ∨ a % 2 = 1 by omega) with h1 | h1
  · rw [Int.mul_emod, h1] at h; simp at h
  · exact h1
theorem odd_div {a g : Int} (h : a % 2 = 1) (hd : g ∣ a) : (a / g) % 2 = 1 := by
  have := Int.ediv_mul_cancel hd
  rw [← this] at h
  exact odd_left h
theorem div_pos {a g : Int} (ha : 0 < a) (hg : 0 < g) (hd : g ∣ a) : 0 < a / g := by
  have := Int.ediv_mul_cancel hd
  apply Classical.byContradiction
  intro h
  have := Int.mul_le_mul_of_nonneg_right (show a / g ≤ 0 by omega) (Int.le_of_lt hg)
  omega
theorem Qr.mul {s s' : Bool} {t b e K D k t' b' e' K' D' k' : Int} (h : Qr s t b e K D k) (h' : Qr s' t' b' e' K' D' k') (t0 : 0 < t) (t0' : 0 < t') :
    Qr (s != s') (t / Int.gcd t b' * (t' / Int.gcd t' b)) (b / Int.gcd t' b * (b' / Int.gcd t b')) (e + e') (K * K') (D * D') (k + k') := by
  obtain ⟨hD, h⟩ := h
  obtain ⟨hD', h'⟩ := h'
  refine ⟨Int.mul_pos hD hD', .inr ?_⟩
  rcases h with ⟨h, _⟩ | ⟨ot, _, ob, pb, co, i, j, he, hk⟩
  · omega
  rcases h' with ⟨h, _⟩ | ⟨ot', _, ob', pb', co', i', j', he', hk'⟩
  · omega
  have c1 : Int.gcd (t / Int.gcd t b') (b' / Int.gcd t b') = 1 := co_div t0
  have c2 : Int.gcd (t' / Int.gcd t' b) (b / Int.gcd t' b) = 1 := co_div t0'
  have g1 : (0 : Int) < Int.gcd t b' := by have : 0 < Int.gcd t b' := Nat.pos_of_ne_zero (by rw [Ne, Int.gcd_eq_zero_iff]; omega); omega
  have g2 : (0 : Int) < Int.gcd t' b := by have : 0 < Int.gcd t' b := Nat.pos_of_ne_zero (by rw [Ne, Int.gcd_eq_zero_iff]; omega); omega
  have d1 : ((Int.gcd t b' : Nat) : Int) ∣ t := Int.gcd_dvd_left ..
  have d2 : ((Int.gcd t b' : Nat) : Int) ∣ b' := Int.gcd_dvd_right ..
  have d3 : ((Int.gcd t' b : Nat) : Int) ∣ t' := Int.gcd_dvd_left ..
  have d4 : ((Int.gcd t' b : Nat) : Int) ∣ b := Int.gcd_dvd_right ..
  generalize ((Int.gcd t b' : Nat) : Int) = p at *
  generalize ((Int.gcd t' b : Nat) : Int) = q at *
  have q1 := Int.ediv_mul_cancel d1
  have q2 := Int.ediv_mul_cancel d2
  have q3 := Int.ediv_mul_cancel d3
  have q4 := Int.ediv_mul_cancel d4
  have dv : ∀ {a g : Int}, g ∣ a → a / g ∣ a := fun {a g} h => ⟨g, (Int.ediv_mul_cancel h).symm⟩
  have c3 : Int.gcd (t / p) (b / q) = 1 := co_of co (dv d1) (dv d4)
  have c4 : Int.gcd (t' / q) (b' / p) = 1 := co_of co' (dv d3) (dv d2)
  refine ⟨odd_mul (odd_div ot d1) (odd_div ot' d3), Int.mul_pos (div_pos t0 g1 d1) (div_pos t0' g2 d3), odd_mul (odd_div ob d4) (odd_div ob' d2), Int.mul_pos (div_pos pb g2 d4) (div_pos pb' g1 d2), ?_, i + i', j + j', by omega, ?_⟩
  · exact co_mul (co_comm (co_mul (co_comm c3) (co_comm c1))) (co_comm (co_mul (co_comm c2) (co_comm c4)))
  · have e1 : (sg s t * 2 ^ i * D) * (sg s' t' * 2 ^ i' * D') = (K * 2 ^ j * b) * (K' * 2 ^ j' * b') := by rw [hk, hk']
    have e2 : sg s t = sg s (t / p) * p := by rw [sg_mul, q1]
    have e3 : sg s' t' = sg s' (t' / q) * q := by rw [sg_mul, q3]
    rw [e2, e3, ← q4, ← q2] at e1
    rw [← sg_sg, Int.pow_add, Int.pow_add]
    apply Int.eq_of_mul_eq_mul_right (show p * q ≠ 0 from Int.ne_of_gt (Int.mul_pos g1 g2))
    generalize sg s (t / p) = A at *
    generalize sg s' (t' / q) = B at *
    generalize b / q = X at *
    generalize b' / p = Y at *
    grind
theorem Qr.inv {s : Bool} {t b e K D k : Int} (h : Qr s t b e K D k) (t0 : 0 < t) : Qr s b t (-e) (sg s D) K.natAbs (-k) ∧ (sg s K.natAbs = K ∧ K ≠ 0) := by
  obtain ⟨hD, h⟩ := h
  rcases h with ⟨h, _⟩ | ⟨ot, _, ob, pb, co, i, j, he, hk⟩
  · omega
  have hK : sg s (t * 2 ^ i * D) = K * (2 ^ j * b) := by rw [← sg_mul, ← sg_mul, hk, Int.mul_assoc]
  have hp : 0 < t * 2 ^ i * D := Int.mul_pos (Int.mul_pos t0 (p2pos i)) hD
  have hq : 0 < 2 ^ j * b := Int.mul_pos (p2pos j) pb
  have hne : K ≠ 0 := by
    intro h0
    rw [h0, Int.zero_mul] at hK
    cases s <;> simp only [sg, if_true, if_false, Bool.false_eq_true] at hK <;> omega
  have hs : sg s K.natAbs = K := by
    cases s
    · have : 0 ≤ K := by
        apply Classical.byContradiction
        intro hn
        have := Int.mul_neg_of_neg_of_pos (show K < 0 by omega) hq
        simp only [sg, if_false, Bool.false_eq_true] at hK
        omega
      simp only [sg, if_false, Bool.false_eq_true]; omega
    · have : K ≤ 0 := by
        apply Classical.byContradiction
        intro hn
        have := Int.mul_pos (show 0 < K by omega) hq
        simp only [sg, if_true] at hK
        omega
      simp only [sg, if_true]; omega
  refine ⟨⟨by omega, .inr ⟨ob, pb, ot, t0, co_comm co, j, i, by omega, ?_⟩⟩, hs, hne⟩
  have h2 : t * 2 ^ i * D = K.natAbs * (2 ^ j * b) := by
    have h3 : sg s (t * 2 ^ i * D) = sg s (K.natAbs * (2 ^ j * b)) := by rw [hK, ← sg_mul, hs]
    cases s <;> simp only [sg, if_true, if_false, Bool.false_eq_true] at h3 <;> omega
  rw [sg_mul, sg_mul, sg_mul, sg_mul]
  congr 1
  grind
/-- as a fraction -/
theorem Qr.cross {s : Bool} {t b e K D k : Int} (h : Qr s t b e K D k) : sg s t * 2 ^ e.toNat * (D * 2 ^ (-k).toNat) = K * 2 ^ k.toNat * (b * 2 ^ (-e).toNat) := by
  obtain ⟨hD, h⟩ := h
  rcases h with ⟨rfl, rfl, rfl, rfl, rfl⟩ | ⟨ot, t0, ob, pb, co, i, j, he, hk⟩
  · simp [sg]
  · apply Int.eq_of_mul_eq_mul_right (show ((2 : Int) ^ i * 2 ^ j) ≠ 0 from Int.ne_of_gt (Int.mul_pos (p2pos i) (p2pos j)))
    have e1 : (2 : Int) ^ e.toNat * 2 ^ (-k).toNat * 2 ^ j = 2 ^ k.toNat * 2 ^ (-e).toNat * 2 ^ i := by
      rw [← Int.pow_add, ← Int.pow_add, ← Int.pow_add, ← Int.pow_add]; congr 1; omega
    generalize (2 : Int) ^ e.toNat = a1 at *
    generalize (2 : Int) ^ (-e).toNat = a2 at *
    generalize (2 : Int) ^ k.toNat = a3 at *
    generalize (2 : Int) ^ (-k).toNat = a4 at *
    generalize (2 : Int) ^ i = x at *
    generalize (2 : Int) ^ j = y at *
    generalize sg s t = T at *
    have : (T * x * D) * (a1 * a4 * y) = (K * y * b) * (a3 * a2 * x) := by rw [hk, e1]
    grind
theorem Qr.co {s : Bool} {t b e K D k : Int} (h : Qr s t b e K D k) : Int.gcd (sg s t * 2 ^ e.toNat) (b * 2 ^ (-e).toNat) = 1 ∧ 0 < b := by
  obtain ⟨hD, h⟩ := h
  rcases h with ⟨rfl, rfl, rfl, rfl, rfl⟩ | ⟨ot, t0, ob, pb, co, _⟩
  · simp [sg]
  · refine ⟨?_, pb⟩
    have hs : Int.gcd (sg s t) b = 1 ∧ (sg s t) % 2 = 1 := by
      cases s
      · exact ⟨co, ot⟩
      · exact ⟨by unfold sg; simp [co], by simp only [sg, if_true]; omega⟩
    by_cases he : 0 ≤ e
    · rw [show (-e).toNat = 0 by omega, Int.pow_zero, Int.mul_one]
      exact co_mul hs.1 (co_pow ob _)
    · rw [show e.toNat = 0 by omega, Int.pow_zero, Int.mul_one]
      exact co_comm (co_mul (co_comm hs.1) (co_pow hs.2 _))
def isIQ (K D k : Int) : Bool := decide (K * 2 ^ k.toNat % (D * 2 ^ (-k).toNat) = 0)
def floorQ (K D k : Int) : Int := K * 2 ^ k.toNat / (D * 2 ^ (-k).toNat)
theorem Qr.isInt {s : Bool} {t b e K D k : Int} (h : Qr s t b e K D k) : (decide (b = 1) && decide (0 ≤ e)) = isIQ K D k := by
  have hc := h.cross
  obtain ⟨co, pb⟩ := h.co
  have hM : 0 < D * 2 ^ (-k).toNat := Int.mul_pos h.1 (p2pos _)
  unfold isIQ
  rw [← Bool.decide_and]
  congr 1
  apply propext
  constructor
  · rintro ⟨rfl, he⟩
    rw [show (-e).toNat = 0 by omega, Int.pow_zero, Int.mul_one, Int.mul_one] at hc
    rw [← hc]; exact Int.mul_emod_left _ _
  · intro hd
    obtain ⟨q, hq⟩ := Int.dvd_of_emod_eq_zero hd
    rw [hq] at hc
    have h1 : sg s t * 2 ^ e.toNat = q * (b * 2 ^ (-e).toNat) := by
      apply Int.eq_of_mul_eq_mul_right (Int.ne_of_gt hM)
      rw [hc]; grind
    have h2 : b * 2 ^ (-e).toNat ∣ sg s t * 2 ^ e.toNat := ⟨q, by rw [h1]; exact Int.mul_comm _ _⟩
    have h3 : b * 2 ^ (-e).toNat ∣ 1 := by
      have := dvd_co (c := 1) (co_comm co) (by rw [Int.mul_one]; exact h2)
      exact this
    have hB : 0 < b * 2 ^ (-e).toNat := Int.mul_pos pb (p2pos _)
    have h4 := Int.le_of_dvd (by omega) h3
    have h5 := Int.mul_le_mul_of_nonneg_left (show (1 : Int) ≤ 2 ^ (-e).toNat from p2pos _) (Int.le_of_lt pb)
    have h6 := Int.mul_le_mul_of_nonneg_right (show (1 : Int) ≤ b from pb) (Int.le_of_lt (p2pos (-e).toNat))
    refine ⟨by omega, ?_⟩
    apply Classical.byContradiction
    intro hn
    have h7 : (2 : Int) ^ (-e).toNat = 2 * 2 ^ ((-e).toNat - 1) := by rw [← Int.pow_succ']; congr 1; omega
    have := p2pos ((-e).toNat - 1)
    omega
theorem Qr.floor {s : Bool} {t b e K D k : Int} (h : Qr s t b e K D k) : floorQ K D k = sg s t * 2 ^ e.toNat / (b * 2 ^ (-e).toNat) := by
  have hc := h.cross
  obtain ⟨co, pb⟩ := h.co
  have hM : 0 < D * 2 ^ (-k).toNat := Int.mul_pos h.1 (p2pos _)
  have hB : 0 < b * 2 ^ (-e).toNat := Int.mul_pos pb (p2pos _)
  unfold floorQ
  rw [← Int.mul_ediv_mul_of_pos_left _ _ hB, ← hc, Int.mul_comm (D * 2 ^ (-k).toNat), Int.mul_ediv_mul_of_pos_left _ _ hM]
/-- what the fields are bounded by -/
theorem Qr.bounds {s : Bool} {t b e K D k : Int} (h : Qr s t b e K D k) : 0 ≤ t ∧ t ≤ K.natAbs ∧ 0 < b ∧ b ≤ D ∧ (t = 0 ↔ K = 0) := by
  have h0 := h
  obtain ⟨hD, h⟩ := h
  rcases h with ⟨rfl, rfl, rfl, rfl, rfl⟩ | ⟨ot, t0, ob, pb, co, i, j, he, hk⟩
  · exact ⟨by omega, by omega, by omega, by omega, by simp⟩
  · have hK := (Qr.inv h0 t0).2.2
    have hs : (sg s t).natAbs = t.natAbs := by cases s <;> simp [sg]
    have d1 : t ∣ K := by
      have h1 : t ∣ (2 ^ j * b) * K := ⟨(if s then -1 else 1) * 2 ^ i * D, by
        rw [show (2 ^ j * b) * K = K * 2 ^ j * b by grind, ← hk]
        cases s
        · simp [sg]; grind
        · simp [sg]; grind⟩
      exact dvd_co (co_comm (co_mul (co_pow ot j) (co_comm co))) h1
    have d2 : b ∣ D := by
      have h1 : b ∣ (sg s t * 2 ^ i) * D := ⟨K * 2 ^ j, by rw [hk]; exact Int.mul_comm _ _⟩
      have cs : Int.gcd (sg s t) b = 1 := by
        unfold Int.gcd at co ⊢
        rw [hs]; exact co
      exact dvd_co (co_comm (co_mul cs (co_pow ob i))) h1
    refine ⟨by omega, ?_, pb, Int.le_of_dvd hD d2, by omega⟩
    exact Int.le_of_dvd (by omega) (Int.dvd_natAbs.2 d1)
theorem Qr.exp {s : Bool} {t b e K D k : Int} (h : Qr s t b e K D k) {n : Nat} (hK : (K.natAbs : Int) < 2 ^ n) (hD : D < 2 ^ n) : k - n ≤ e ∧ e ≤ k + n ∨ (t = 0 ∧ e = 0) := by
  have hb := h.bounds
  have h0 := h
  obtain ⟨hD0, h⟩ := h
  rcases h with ⟨rfl, rfl, rfl, rfl, rfl⟩ | ⟨ot, t0, ob, pb, co, i, j, he, hk⟩
  · exact .inr ⟨rfl, rfl⟩
  · left
    obtain ⟨_, hs, hne⟩ := Qr.inv h0 t0
    have h2 : t * 2 ^ i * D = K.natAbs * 2 ^ j * b := by
      have h3 : sg s (t * 2 ^ i * D) = sg s (K.natAbs * 2 ^ j * b) := by rw [← sg_mul, ← sg_mul, hk, ← sg_mul, ← sg_mul, hs]
      cases s <;> simp only [sg, if_true, if_false, Bool.false_eq_true] at h3 <;> omega
    have le1 : ∀ {x y z u v : Int} {m : Nat}, 0 < u → u ≤ v → x * 2 ^ m * v = y * u → 0 < x → 0 < y → y < 2 ^ n → m ≤ n := by
      intro x y z u v m hu huv he hx hy hyn
      apply Classical.byContradiction
      intro hc
      have p1 : (2 : Int) ^ n ≤ 2 ^ m := by
        obtain ⟨d, rfl⟩ := Nat.exists_eq_add_of_le (show n ≤ m by omega)
        rw [Int.pow_add]
        have := Int.mul_le_mul_of_nonneg_left (show (1 : Int) ≤ 2 ^ d from p2pos d) (Int.le_of_lt (p2pos n))
        omega
      have p2 : y < x * 2 ^ m := by
        have := Int.mul_le_mul_of_nonneg_right (show (1 : Int) ≤ x from hx) (Int.le_of_lt (p2pos m))
        omega
      have p3 : y * u < x * 2 ^ m * u := Int.mul_lt_mul_of_pos_right p2 hu
      have p4 := Int.mul_le_mul_of_nonneg_left huv (show 0 ≤ x * 2 ^ m by omega)
      omega
    by_cases hij : j ≤ i
    · obtain ⟨d, rfl⟩ := Nat.exists_eq_add_of_le hij
      have h3 : t * 2 ^ d * D = K.natAbs * b := by
        apply Int.eq_of_mul_eq_mul_right (p2ne j)
        rw [Int.pow_add] at h2
        rw [show t * 2 ^ d * D * 2 ^ j = t * (2 ^ j * 2 ^ d) * D by grind, h2]; grind
      have := le1 (z := 0) hb.2.2.1 hb.2.2.2.1 h3 t0 (show (0 : Int) < K.natAbs by omega) hK
      omega
    · obtain ⟨d, rfl⟩ := Nat.exists_eq_add_of_le (show i ≤ j by omega)
      have h3 : b * 2 ^ d * K.natAbs = D * t := by
        apply Int.eq_of_mul_eq_mul_right (p2ne i)
        rw [Int.pow_add] at h2
        rw [show b * 2 ^ d * (K.natAbs : Int) * 2 ^ i = K.natAbs * (2 ^ i * 2 ^ d) * b by grind, ← h2]; grind
      have := le1 (z := 0) t0 hb.2.1 h3 pb hD0 hD
      omega
theorem Qr.at {s : Bool} {t b e K D k : Int} (h : Qr s t b e K D k) (t0 : 0 < t) (c : Int) (h1 : c ≤ e) (h2 : c ≤ k) : sg s t * 2 ^ (e - c).toNat * D = K * 2 ^ (k - c).toNat * b := by
  obtain ⟨hD, h⟩ := h
  rcases h with ⟨h, _⟩ | ⟨ot, _, ob, pb, co, i, j, he, hk⟩
  · omega
  apply Int.eq_of_mul_eq_mul_right (show ((2 : Int) ^ i * 2 ^ j) ≠ 0 from Int.ne_of_gt (Int.mul_pos (p2pos i) (p2pos j)))
  have e1 : (2 : Int) ^ (e - c).toNat * 2 ^ j = 2 ^ (k - c).toNat * 2 ^ i := by
    rw [← Int.pow_add, ← Int.pow_add]; congr 1; omega
  generalize (2 : Int) ^ (e - c).toNat = a1 at *
  generalize (2 : Int) ^ (k - c).toNat = a2 at *
  generalize (2 : Int) ^ i = x at *
  generalize (2 : Int) ^ j = y at *
  generalize sg s t = T at *
  have : (T * x * D) * (a1 * y) = (K * y * b) * (a2 * x) := by rw [hk, e1]
  grind
theorem pow_cut {a c : Int} {n : Nat} (h : a = c + n) (x : Int) (hx : x ≤ c) : (2 : Int) ^ (a - x).toNat = 2 ^ (c - x).toNat * 2 ^ n := by
  rw [← Int.pow_add]; congr 1; omega
theorem Qr.lower {s : Bool} {t b e K D k : Int} (h : Qr s t b e K D k) (m : Int) (hm : m ≤ k) : Qr s t b e (K * 2 ^ (k - m).toNat) D m := by
  obtain ⟨hD, h⟩ := h
  refine ⟨hD, ?_⟩
  rcases h with ⟨rfl, rfl, rfl, rfl, rfl⟩ | ⟨ot, t0, ob, pb, co, i, j, he, hk⟩
  · exact .inl ⟨rfl, rfl, rfl, rfl, by simp⟩
  · refine .inr ⟨ot, t0, ob, pb, co, i + (k - m).toNat, j, by omega, ?_⟩
    rw [Int.pow_add]
    generalize (2 : Int) ^ (k - m).toNat = x
    rw [show sg s t * (2 ^ i * x) * D = (sg s t * 2 ^ i * D) * x by grind, hk]; grind
theorem Dr.qr {s : Bool} {t e K k : Int} (h : Dr s t e K k) : Qr s t 1 e K 1 k := by
  refine ⟨by decide, ?_⟩
  rcases h with ⟨rfl, rfl, rfl, rfl⟩ | ⟨ot, t0, j, he, hk⟩
  · exact .inl ⟨rfl, rfl, rfl, rfl, rfl⟩
  · exact .inr ⟨ot, t0, by decide, by decide, by simp, j, 0, by omega, by rw [hk]; simp⟩
theorem Dr.qrD {s : Bool} {t e K k D : Int} (h : Dr s t e K k) (hD : 0 < D) : Qr s t 1 e (K * D) D k := by
  refine ⟨hD, ?_⟩
  rcases h with ⟨rfl, rfl, rfl, rfl⟩ | ⟨ot, t0, j, he, hk⟩
  · exact .inl ⟨rfl, rfl, rfl, rfl, by simp⟩
  · exact .inr ⟨ot, t0, by decide, by decide, by simp, j, 0, by omega, by rw [hk]; simp⟩
theorem Qr.add {sx sy sn : Bool} {tx bx ex K D k ty ey L l n t' : Int} {z : Nat} (hx : Qr sx tx bx ex K D k) (hy : Dr sy ty ey L l) (t0 : 0 < tx) (u0 : 0 < ty) (m : Int) (hm : m = min ex ey)
    (hn : sg sn n = sg sx (tx * 2 ^ (ex - m).toNat) + sg sy (ty * bx * 2 ^ (ey - m).toNat)) (hz : n = 2 ^ z * t') (ot : t' % 2 = 1) (p' : 0 < t') : Qr sn t' bx (m + z) (K * 2 ^ (k - min k l).toNat + L * D * 2 ^ (l - min k l).toNat) D (min k l) := by
  have hx0 := hx
  obtain ⟨hD, hx⟩ := hx
  rcases hx with ⟨h, _⟩ | ⟨ox, _, ob, pb, co, _⟩
  · omega
  rcases hy with ⟨h, _⟩ | ⟨oy, _, jy, hey, hL⟩
  · omega
  refine ⟨hD, .inr ⟨ot, p', ob, pb, ?_, (m + z - min m (min k l)).toNat, (min k l - min m (min k l)).toNat, by omega, ?_⟩⟩
  · apply Nat.eq_one_of_dvd_one
    have g1 : ((Int.gcd t' bx : Nat) : Int) ∣ t' := Int.gcd_dvd_left ..
    have g2 : ((Int.gcd t' bx : Nat) : Int) ∣ bx := Int.gcd_dvd_right ..
    have c1 : Int.gcd (((Int.gcd t' bx : Nat) : Int)) tx = 1 := co_of (co_comm co) g2 (Int.dvd_refl _)
    have og : (((Int.gcd t' bx : Nat) : Int)) % 2 = 1 := by
      obtain ⟨q, hq⟩ := g2
      rw [hq] at ob
      exact odd_left ob
    have c2 := co_pow og (ex - m).toNat
    generalize hG : Int.gcd t' bx = G at *
    have d1 : ((G : Nat) : Int) ∣ tx * 2 ^ (ex - m).toNat := by
      have d2 : ((G : Nat) : Int) ∣ sg sx (tx * 2 ^ (ex - m).toNat) := by
        rw [show sg sx (tx * 2 ^ (ex - m).toNat) = sg sn n - sg sy (ty * bx * 2 ^ (ey - m).toNat) by omega]
        apply Int.dvd_sub
        · rw [hz, show sg sn (2 ^ z * t') = t' * sg sn (2 ^ z) by rw [Int.mul_comm t', sg_mul]]
          exact Int.dvd_mul_of_dvd_left g1
        · rw [show sg sy (ty * bx * 2 ^ (ey - m).toNat) = bx * sg sy (ty * 2 ^ (ey - m).toNat) by rw [Int.mul_comm bx, sg_mul]; congr 1; grind]
          exact Int.dvd_mul_of_dvd_left g2
      cases sx
      · exact d2
      · exact Int.dvd_neg.1 d2
    have d3 : ((G : Nat) : Int) ∣ 2 ^ (ex - m).toNat := dvd_co c1 d1
    have d4 : ((G : Nat) : Int) ∣ 1 := dvd_co (co_comm c2) (by rw [Int.mul_one]; exact d3)
    exact Int.natCast_dvd_natCast.1 d4
  · have A := hx0.at t0 (min m (min k l)) (by omega) (by omega)
    generalize hc : min m (min k l) = c at *
    generalize hu : min k l = u at *
    have e1 : sg sn t' * 2 ^ (m + z - c).toNat = sg sn n * 2 ^ (m - c).toNat := by
      rw [hz, pow_cut (a := m + z) (c := m) (n := z) rfl c (by omega)]
      rw [← Int.mul_assoc, sg_mul, sg_mul, sg_mul]; congr 1; grind
    have e2 : (2 : Int) ^ (ex - m).toNat * 2 ^ (m - c).toNat = 2 ^ (ex - c).toNat := by rw [← Int.pow_add]; congr 1; omega
    have e3 : (2 : Int) ^ (ey - m).toNat * 2 ^ (m - c).toNat = 2 ^ (l - c).toNat * 2 ^ jy := by rw [← Int.pow_add, ← Int.pow_add]; congr 1; omega
    have e4 : (2 : Int) ^ (k - u).toNat * 2 ^ (u - c).toNat = 2 ^ (k - c).toNat := by rw [← Int.pow_add]; congr 1; omega
    have e5 : (2 : Int) ^ (l - u).toNat * 2 ^ (u - c).toNat = 2 ^ (l - c).toNat := by rw [← Int.pow_add]; congr 1; omega
    have e6 : sg sx (tx * 2 ^ (ex - m).toNat) * 2 ^ (m - c).toNat = sg sx tx * 2 ^ (ex - c).toNat := by rw [← e2, ← sg_mul]; grind
    have e7 : sg sy (ty * bx * 2 ^ (ey - m).toNat) * 2 ^ (m - c).toNat = L * bx * 2 ^ (l - c).toNat := by
      rw [← sg_mul, ← sg_mul, Int.mul_assoc, e3, hL]; grind
    rw [e1, hn, Int.add_mul, e6, e7, Int.add_mul, Int.add_mul, Int.add_mul, A]
    rw [← e4, ← e5]
    grind

/-! how often 2 divides -/
def v2f : Nat → Nat → Nat
  | 0, _ => 0
  | f + 1, n => if n % 2 = 0 then v2f f (n / 2) + 1 else 0
def twI (K k : Int) : Int := if K = 0 then 0 else k + v2f K.natAbs K.natAbs
theorem v2f_eq {t : Nat} (ht : t % 2 = 1) : ∀ (j f : Nat), j < f → v2f f (t * 2 ^ j) = j
  | 0, f + 1, _ => by simp [v2f, ht]
  | j + 1, f + 1, h => by
    have e : t * 2 ^ (j + 1) = 2 * (t * 2 ^ j) := by rw [Nat.pow_succ]; grind
    simp only [v2f]
    rw [e, if_pos (by omega), show 2 * (t * 2 ^ j) / 2 = t * 2 ^ j by omega, v2f_eq ht j f (by omega)]
theorem tw_dr {s : Bool} {t e K k : Int} (h : Dr s t e K k) : e = twI K k := by
  rcases h with ⟨rfl, rfl, rfl, rfl⟩ | ⟨ot, t0, j, he, hk⟩
  · rfl
  · have hp := Int.mul_pos t0 (p2pos j)
    have hK : K.natAbs = t.toNat * 2 ^ j := by
      have h1 : K = sg s (t * 2 ^ j) := by rw [hk, sg_mul]
      have h2 : (K.natAbs : Int) = t * 2 ^ j := by rw [h1]; exact sg_abs (by omega)
      have h3 : ((t.toNat * 2 ^ j : Nat) : Int) = t * 2 ^ j := by push_cast; rw [Int.toNat_of_nonneg (by omega)]
      omega
    have hne : K ≠ 0 := by
      intro h0
      have h2 : (t.toNat * 2 ^ j : Nat) = 0 := by rw [← hK, h0]; rfl
      have h3 : 0 < t.toNat * 2 ^ j := Nat.mul_pos (by omega) (Nat.pow_pos (by omega))
      omega
    unfold twI
    rw [if_neg hne, hK, v2f_eq (by omega) j]
    · exact he
    · have h1 : j < 2 ^ j := Nat.lt_two_pow_self
      have h2 := Nat.mul_le_mul_right (2 ^ j) (show 1 ≤ t.toNat by omega)
      omega
theorem tw_odd {K : Int} (h : K ≠ 0) : twI K 0 = 0 ↔ K % 2 ≠ 0 := by
  unfold twI
  rw [if_neg h]
  obtain ⟨f, hf⟩ : ∃ f, K.natAbs = f + 1 := ⟨K.natAbs - 1, by omega⟩
  have : v2f K.natAbs K.natAbs = if K.natAbs % 2 = 0 then v2f f (K.natAbs / 2) + 1 else 0 := by
    conv => lhs; rw [hf]
    rw [← hf]
    conv => lhs; arg 1; rw [hf]
    rfl
  rw [this]
  split <;> omega
end Go.Proofs.YtnpocnckkaddbaaGreatDoor
/-
  Contracts of package exact's numbers with a divisor: fraction in lowest terms, inverse.
-/
namespace Go.Proofs.YtnpocnckkaddbaaGreatDoor
open Go.RowKit Go.Shelf
attribute [local go_sem] eqNil neqNil

theorem pow_one_odd {n t : Int} {z : Nat} (h : n = 2 ^ z * t) (ho : n % 2 = 1) : z = 0 ∧ t = n := by
  cases z with
  | zero => simp at h; exact ⟨rfl, h.symm⟩
  | succ z =>
    exfalso
    rw [Int.pow_succ, Int.mul_comm (2 ^ z) 2, Int.mul_assoc] at h
    omega
theorem Pt.bt {w : World} {v : Value} {n : Int} (h : Pt w v n) : v = .slice none 0 0 ∧ n = 1 ∨ Nt w v n := by
  rcases h with ⟨h1, h2⟩ | ⟨b, off, cap, zs, rfl, h⟩
  · exact .inl ⟨h2, h1⟩
  · exact .inr h.nt
theorem Pt.shape {w : World} {v : Value} {n : Int} (h : Pt w v n) : ∃ bo lb cb, v = .slice bo lb cb := by
  rcases h with ⟨_, rfl⟩ | ⟨b, off, cap, zs, rfl, h⟩ <;> exact ⟨_, _, _, rfl⟩
theorem frac_pt (w : World) (hE : Env w) (neg : Bool) (v vd : Value) (n d twos : Int) (h : Nt w v n) (hs : n < big) (no : n % 2 = 1) (h2 : Pt w vd d) (hs2 : d < big) (od : d % 2 = 1) (ht : -1000000000 < twos) (ht' : twos < 1000000000) :
    Calls Tryz.prog 92 #[.bool neg, v, vd, .int .i64 twos] w (NmPost w neg n d twos) := by
  rcases h2.bt with ⟨rfl, rfl⟩ | h2
  · refine (frac_nil w hE neg v n twos h hs (by omega) ht ht').mono ?_
    rintro en w' ⟨v', t, z, rfl, hv, _, hz, hb⟩
    obtain ⟨rfl, rfl⟩ := pow_one_odd hz no
    obtain ⟨bo, lb, cb, rfl⟩ := hv.shape
    exact ⟨_, rfl, ⟨_, _, _, _, _, _, by rw [show twos + ((0 : Nat) : Int) = twos by omega], hv, .inl ⟨rfl, rfl⟩⟩, hb⟩
  · refine (frac_some w hE neg v vd n d twos h hs (by omega) h2 hs2 (by omega) ht ht').mono ?_
    rintro en w' ⟨v', vb, t, b, z, y, rfl, hv, _, hz, hvb, _, hy, hb⟩
    obtain ⟨rfl, rfl⟩ := pow_one_odd hz no
    obtain ⟨rfl, rfl⟩ := pow_one_odd hy od
    obtain ⟨bo, lb, cb, rfl⟩ := hv.shape
    obtain ⟨bo2, lb2, cb2, rfl⟩ := hvb.shape
    exact ⟨_, rfl, ⟨_, _, _, _, _, _, by rw [show twos + ((0 : Nat) : Int) - ((0 : Nat) : Int) = twos by omega], hv, hvb⟩, hb⟩

set_option maxRecDepth 100000 in
theorem without_nt (w : World) (va vd : Value) (x d : Int) (ha : Nt w va x) (x0 : 0 < x) (hd : Bt w vd d) (hx : x < big) (hd0 : 0 < d) (h : d ∣ x) :
    Calls Tryz.prog 87 #[va, vd] w (NewNt w (x / d)) := by
  rcases hd with ⟨rfl, rfl⟩ | ⟨h1, hd⟩
  · obtain ⟨bo, lb, cb, rfl⟩ := ha.shape
    refine (without_nil w bo lb cb).mono ?_
    rintro e w' ⟨rfl, rfl⟩
    rw [Int.ediv_one]
    exact ⟨_, rfl, ha, Below.refl _ _⟩
  · have hle : d ≤ x := Int.le_of_dvd x0 h
    obtain ⟨b, off, cap, za, rfl, hA⟩ := ha.pos (by omega)
    obtain ⟨b2, off2, cap2, zb, rfl, hB⟩ := hd.pos (by omega)
    have HD := Lib.hid (divide_any w _ _ x d hA.nt hB.nt hx (by omega) (by omega) hd0)
    clear ha hd hA hB
    go_enter Tryz.func87, Tryz.ntmps87
    go_wp2_with fail
    refine HD.out.mono ?_
    rintro en w1 ⟨v1, v2, rfl, g1, g2, g3⟩
    have HV := Lib.hid (And.intro g1 g3)
    clear g1 g2 g3
    go_wp2_with fail
    go_ret
    exact ⟨_, rfl, HV.out.1, HV.out.2⟩
set_option maxRecDepth 100000 in
theorem times_nt (w : World) (va vb : Value) (x y : Int) (ha : Nt w va x) (hb : Nt w vb y) (x0 : 0 < x) (y0 : 0 < y) (hx : x < big) (hy : y < big) (hs : x < pw ^ 39 ∨ y < pw ^ 39) :
    Calls Tryz.prog 88 #[va, vb] w (NewNt w (x * y)) := by
  obtain ⟨b, off, cap, za, rfl, hA⟩ := ha.pos (by omega)
  obtain ⟨b2, off2, cap2, zb, rfl, hB⟩ := hb.pos (by omega)
  have h40 : za.length < 40 ∨ zb.length < 40 := by
    rcases hs with h | h
    · left; have := len_short hA 39 h; omega
    · right; have := len_short hB 39 h; omega
  have HM := Lib.hid (mul_short w b off cap za x b2 off2 cap2 zb y hA hB hx hy h40)
  clear ha hb hA hB hs h40
  go_enter Tryz.func88, Tryz.ntmps88
  go_wp2_with fail
  refine HM.out.mono ?_
  rintro en w1 ⟨v, rfl, hv, hbl⟩
  have HV := Lib.hid (And.intro hv hbl)
  clear hv hbl
  go_wp2_with fail
  go_ret
  exact ⟨_, rfl, HV.out.1, HV.out.2⟩

set_option maxRecDepth 100000 in
theorem inverse_any (w : World) (hE : Env w) (v : Value) (s : Bool) (t b e : Int) (h : Nm w v s t b e) (ht : t < big) (t0 : 0 < t) (ot : t % 2 = 1) (hb : b < big) (b0 : 0 < b) (ob : b % 2 = 1) (e0 : -1000000 ≤ e) (e1 : e ≤ 1000000) :
    Calls Tryz.prog 96 #[v] w (NmPost w s b t (-e)) := by
  obtain ⟨bo, lb, cb, bo2, lb2, cb2, rfl, h1, h2⟩ := h.ex
  have hn := h2.isNone (by omega)
  have hFR : ∀ (W : World) (v' : Value), Below w.heap.size w W → Nt W v' b → Calls Tryz.prog 92 #[.bool s, v', .slice bo lb cb, .int .i64 (-e)] W (NmPost W s b t (-e)) := fun W v' hW hv =>
    frac_pt W (hE.below hW) s v' _ b t (-e) hv hb ob (.of_nt (h1.below hW) (by omega)) ht ot (by omega) (by omega)
  have HFR := Lib.hid hFR
  have H2 := Lib.hid h2
  have B0 := Lib.hid b0
  clear h hE ht ot hb ob h1 hFR b0
  generalize hd1 : decide (b = 1) = d1 at hn
  have HD1 := Lib.hid hd1
  clear hd1
  cases d1
  case' true =>
    obtain rfl : bo2 = none := by simpa using hn
    have HV : Hid (b = 1) := Lib.hid (of_decide_eq_true HD1.out)
    clear H2 h2
  case' false =>
    obtain ⟨a2, rfl⟩ : ∃ a, bo2 = some a := by
      cases bo2 with
      | none => simp at hn
      | some a => exact ⟨a, rfl⟩
    have HV : Hid (Nt w (.slice (some a2) lb2 cb2) b) := Lib.hid (by
      rcases h2 with ⟨h1, _⟩ | ⟨_, h1⟩
      · exact absurd h1 (of_decide_eq_false HD1.out)
      · exact h1)
    clear h2
  all_goals
    clear hn
    go_enter Tryz.func96, Tryz.ntmps96
    go_wp2_with fail
  · obtain ⟨hA, hB, hW0⟩ := boxes2 w #[.bool s, .slice bo lb cb, .slice (some a2) lb2 cb2, .int .i64 e] #[.bool false, .slice none 0 0, .slice none 0 0, .int .i64 0] 47
    have HX := Lib.hid (And.intro hW0 hB)
    clear hA hB hW0
    refine (HFR.out _ _ HX.out.1 (HV.out.below HX.out.1)).mono ?_
    rintro en w1 ⟨v, rfl, hn, hb⟩
    obtain ⟨o3, l3, c3, o4, l4, c4, rfl, hn1, hn2⟩ := hn.ex
    have HN := Lib.hid hn
    have hB2 := HX.out.2.below hb
    have HB2 := Lib.hid hB2
    have HW2 := Lib.hid (HX.out.1.trans (hb.mono HX.out.1.size))
    clear hn hn1 hn2 hb
    have cB := hB2.cell
    have fB := hB2.free
    have lB := hB2.lt
    clear hB2
    go_wp2_with fail
    refine bodyPost_ret (v := .agg #[.bool s, .slice o3 l3 c3, .slice o4 l4 c4, .int .i64 (-e)]) (by simp [results, Tryz.results96, go_sem, cB, lB]) rfl ?_
    have ho := Stored.only (w.heap.size + 1) w1 s o3 l3 c3 o4 l4 c4 (-e)
    exact ⟨_, rfl, HN.out.only ho HB2.out.noW, HW2.out.trans (ho.below HW2.out.size (by omega))⟩
  · obtain ⟨hA, hB, hW0⟩ := boxes2 w #[.bool s, .slice bo lb cb, .slice none lb2 cb2, .int .i64 e] #[.bool false, .slice none 0 0, .slice none 0 0, .int .i64 0] 47
    have HX := Lib.hid (And.intro (hW0.alloc hW0.size (.cells #[.int .u64 1] 24)) (hB.alloc (.cells #[.int .u64 1] 24)))
    have HO := Lib.hid (natOne ((w.alloc (.cells #[.bool s, .slice bo lb cb, .slice none lb2 cb2, .int .i64 e] 47)).alloc (.cells #[.bool false, .slice none 0 0, .slice none 0 0, .int .i64 0] 47)))
    rw [World.size_alloc, World.size_alloc] at HO
    clear hA hB hW0
    refine (HFR.out _ _ HX.out.1 (by rw [HV.out]; exact HO.out)).mono ?_
    rintro en w1 ⟨v, rfl, hn, hb⟩
    obtain ⟨o3, l3, c3, o4, l4, c4, rfl, hn1, hn2⟩ := hn.ex
    have HN := Lib.hid hn
    have hB2 := HX.out.2.below hb
    have HB2 := Lib.hid hB2
    have HW2 := Lib.hid (HX.out.1.trans (hb.mono HX.out.1.size))
    clear hn hn1 hn2 hb
    have cB := hB2.cell
    have fB := hB2.free
    have lB := hB2.lt
    clear hB2
    go_wp2_with fail
    refine bodyPost_ret (v := .agg #[.bool s, .slice o3 l3 c3, .slice o4 l4 c4, .int .i64 (-e)]) (by simp [results, Tryz.results96, go_sem, cB, lB]) rfl ?_
    have ho := Stored.only (w.heap.size + 1) w1 s o3 l3 c3 o4 l4 c4 (-e)
    exact ⟨_, rfl, HN.out.only ho HB2.out.noW, HW2.out.trans (ho.below HW2.out.size (by omega))⟩
end Go.Proofs.YtnpocnckkaddbaaGreatDoor
/-
  Contract of package exact's Mul, for any two numbers (of each pair of factors one below 2^2496).
-/
namespace Go.Proofs.YtnpocnckkaddbaaGreatDoor
open Go.RowKit Go.Shelf
attribute [local go_sem] eqNil neqNil

/-- three boxes behind a call's begin -/
structure Thr (w W : World) (g : Nat) (A B C : Array Value) : Prop where
  bel : Below w.heap.size w W
  a : Box W g A
  b : Box W (g + 1) B
  c : Box W (g + 1 + 1) C
theorem Thr.next {w W W' : World} {g : Nat} {A B C : Array Value} (h : Thr w W g A B C) (hb : Below W.heap.size W W') : Thr w W' g A B C :=
  ⟨h.bel.trans (hb.mono h.bel.size), h.a.below hb, h.b.below hb, h.c.below hb⟩

theorem drew_below (w : World) : Below w.heap.size w w.drew := (Drw.step w 1).below _
set_option maxRecDepth 100000 in
set_option maxHeartbeats 4000000 in
theorem mul_raw (w : World) (hE : Env w) (sx sy : Bool) (a : Addr) (la ca : Nat) (bo2 : Option Addr) (lb2 cb2 : Nat) (c : Addr) (lc cc : Nat) (bo3 : Option Addr) (lb3 cb3 : Nat) (tx bx ex ty by' ey p q : Int)
    (hx : Nt w (.slice (some a) la ca) tx) (hbx : Pt w (.slice bo2 lb2 cb2) bx) (hy : Nt w (.slice (some c) lc cc) ty) (hby : Pt w (.slice bo3 lb3 cb3) by')
    (ox : tx % 2 = 1) (oy : ty % 2 = 1) (obx : bx % 2 = 1) (oby : by' % 2 = 1) (e0 : -1000000 ≤ ex) (e1 : ex ≤ 1000000) (e2 : -1000000 ≤ ey) (e3 : ey ≤ 1000000)
    (st : tx < pw ^ 39 ∨ ty < pw ^ 39) (sb : bx < pw ^ 39 ∨ by' < pw ^ 39) (bt : tx * ty < big) (bb : bx * by' < big) (hp : ((Int.gcd tx by' : Nat) : Int) = p) (hq : ((Int.gcd ty bx : Nat) : Int) = q) :
    Calls Tryz.prog 95 #[.agg #[.bool sx, .slice (some a) la ca, .slice bo2 lb2 cb2, .int .i64 ex], .agg #[.bool sy, .slice (some c) lc cc, .slice bo3 lb3 cb3, .int .i64 ey]] w (NmPost w (sx != sy) (tx / p * (ty / q)) (bx / q * (by' / p)) (ex + ey)) := by
  have tx0 : 0 < tx := by have := hx.nonneg; omega
  have ty0 : 0 < ty := by have := hy.nonneg; omega
  have bx0 := hbx.pos
  have by0 := hby.pos
  have ltm : ∀ {x y : Int}, 0 < x → 0 < y → x * y < big → x < big ∧ y < big := fun {x y} h1 h2 h3 => by
    have a1 := Int.mul_le_mul_of_nonneg_left (show 1 ≤ y by omega) (Int.le_of_lt h1)
    have a2 := Int.mul_le_mul_of_nonneg_right (show 1 ≤ x by omega) (Int.le_of_lt h2)
    omega
  obtain ⟨txb, tyb⟩ := ltm tx0 ty0 bt
  obtain ⟨bxb, byb⟩ := ltm bx0 by0 bb
  have p0 : 0 < p := by have : 0 < Int.gcd tx by' := Nat.pos_of_ne_zero (by rw [Ne, Int.gcd_eq_zero_iff]; omega); omega
  have q0 : 0 < q := by have : 0 < Int.gcd ty bx := Nat.pos_of_ne_zero (by rw [Ne, Int.gcd_eq_zero_iff]; omega); omega
  have d1 : p ∣ tx := hp ▸ Int.gcd_dvd_left ..
  have d2 : p ∣ by' := hp ▸ Int.gcd_dvd_right ..
  have d3 : q ∣ ty := hq ▸ Int.gcd_dvd_left ..
  have d4 : q ∣ bx := hq ▸ Int.gcd_dvd_right ..
  have dle : ∀ {x d : Int}, 0 < x → 0 < d → d ∣ x → x / d ≤ x := fun {x d} h1 h2 h3 => Int.ediv_le_self _ (Int.le_of_lt h1)
  have K1 : Hid (∀ W, Below w.heap.size w W → Calls Tryz.prog 86 #[.slice (some a) la ca, .slice bo3 lb3 cb3] W (NewBt W p)) := Lib.hid fun W hW => by
    rw [← hp]; exact common_any W (hE.below hW) _ _ tx by' (.of_nt (hx.below hW) (by omega)) (hby.below hW) txb byb (.inl ox)
  have K2 : Hid (∀ W, Below w.heap.size w W → Calls Tryz.prog 86 #[.slice (some c) lc cc, .slice bo2 lb2 cb2] W (NewBt W q)) := Lib.hid fun W hW => by
    rw [← hq]; exact common_any W (hE.below hW) _ _ ty bx (.of_nt (hy.below hW) (by omega)) (hbx.below hW) tyb bxb (.inl oy)
  have K3 : Hid (∀ W vd, Below w.heap.size w W → Bt W vd p → Calls Tryz.prog 87 #[.slice (some a) la ca, vd] W (NewNt W (tx / p))) := Lib.hid fun W vd hW hd =>
    without_nt W _ vd tx p (hx.below hW) tx0 hd txb p0 d1
  have K4 : Hid (∀ W vd, Below w.heap.size w W → Bt W vd q → Calls Tryz.prog 87 #[.slice (some c) lc cc, vd] W (NewNt W (ty / q))) := Lib.hid fun W vd hW hd =>
    without_nt W _ vd ty q (hy.below hW) ty0 hd tyb q0 d3
  have K5 : Hid (∀ W vd, Below w.heap.size w W → Bt W vd q → Calls Tryz.prog 87 #[.slice bo2 lb2 cb2, vd] W (NewPt W (bx / q))) := Lib.hid fun W vd hW hd =>
    without_any W _ vd bx q (hbx.below hW) hd bxb q0 d4
  have K6 : Hid (∀ W vd, Below w.heap.size w W → Bt W vd p → Calls Tryz.prog 87 #[.slice bo3 lb3 cb3, vd] W (NewPt W (by' / p))) := Lib.hid fun W vd hW hd =>
    without_any W _ vd by' p (hby.below hW) hd byb p0 d2
  have A1 := div_pos tx0 p0 d1
  have A2 := div_pos ty0 q0 d3
  have A3 := div_pos bx0 q0 d4
  have A4 := div_pos by0 p0 d2
  have B1 := dle tx0 p0 d1
  have B2 := dle ty0 q0 d3
  have B3 := dle bx0 q0 d4
  have B4 := dle by0 p0 d2
  have O1 := odd_mul (odd_div ox d1) (odd_div oy d3)
  have O2 := odd_mul (odd_div obx d4) (odd_div oby d2)
  have le2 : ∀ {x y u v : Int}, 0 < x → 0 < y → x ≤ u → y ≤ v → u * v < big → x * y < big := fun {x y u v} h1 h2 h3 h4 h5 => by
    have a1 := Int.mul_le_mul h3 h4 (Int.le_of_lt h2) (show 0 ≤ u by omega)
    omega
  have M1 : tx / p * (ty / q) < big := le2 A1 A2 B1 B2 bt
  have M2 : bx / q * (by' / p) < big := le2 A3 A4 B3 B4 bb
  have K7 : Hid (∀ W va vb, Nt W va (tx / p) → Nt W vb (ty / q) → Calls Tryz.prog 88 #[va, vb] W (NewNt W (tx / p * (ty / q)))) := Lib.hid fun W va vb h1 h2 =>
    times_nt W va vb _ _ h1 h2 A1 A2 (by omega) (by omega) (by omega)
  have K8 : Hid (∀ W va vb, Pt W va (bx / q) → Pt W vb (by' / p) → Calls Tryz.prog 88 #[va, vb] W (NewPt W (bx / q * (by' / p)))) := Lib.hid fun W va vb h1 h2 =>
    times_any W va vb _ _ h1 h2 (by omega) (by omega) (by omega)
  have K9 : Hid (∀ W va vb neg, Below w.heap.size w W → Nt W va (tx / p * (ty / q)) → Pt W vb (bx / q * (by' / p)) → Calls Tryz.prog 92 #[.bool neg, va, vb, .int .i64 (ex + ey)] W (NmPost W neg (tx / p * (ty / q)) (bx / q * (by' / p)) (ex + ey))) := Lib.hid fun W va vb neg hW h1 h2 =>
    frac_pt W (hE.below hW) neg va vb _ _ (ex + ey) h1 M1 O1 h2 M2 O2 (by omega) (by omega)
  generalize tx / p * (ty / q) = TT' at *
  generalize bx / q * (by' / p) = BB' at *
  generalize tx / p = T1 at *
  generalize ty / q = T2 at *
  generalize bx / q = B1' at *
  generalize by' / p = B2' at *
  clear hE hx hy hbx hby ox oy obx oby st sb bt bb hp hq tx0 ty0 bx0 by0 ltm txb tyb bxb byb d1 d2 d3 d4 dle A1 A2 A3 A4 B1 B2 B3 B4 O1 O2 le2 M1 M2 p0 q0
  go_enter Tryz.func95, Tryz.ntmps95
  go_wp2_with fail
  obtain ⟨hA, hB, hC, hW0⟩ := boxes3 w #[.bool sx, .slice (some a) la ca, .slice bo2 lb2 cb2, .int .i64 ex] #[.bool sy, .slice (some c) lc cc, .slice bo3 lb3 cb3, .int .i64 ey] #[.bool false, .slice none 0 0, .slice none 0 0, .int .i64 0] 47
  obtain ⟨g, hg⟩ : ∃ g, w.heap.size = g := ⟨_, rfl⟩
  have HT0 : Thr w _ w.heap.size _ _ _ := ⟨hW0, hA, hB, hC⟩
  rw [hg] at HT0
  have HG := Lib.hid hg
  rw [hg] at ⊢
  clear hA hB hC hW0 hg
  generalize ((w.alloc (.cells #[.bool sx, .slice (some a) la ca, .slice bo2 lb2 cb2, .int .i64 ex] 47)).alloc (.cells #[.bool sy, .slice (some c) lc cc, .slice bo3 lb3 cb3, .int .i64 ey] 47)).alloc (.cells #[.bool false, .slice none 0 0, .slice none 0 0, .int .i64 0] 47) = W0 at HT0 ⊢
  have hst : ∀ (W1 W2 : World), Hid (Thr w W1 g #[.bool sx, .slice (some a) la ca, .slice bo2 lb2 cb2, .int .i64 ex] #[.bool sy, .slice (some c) lc cc, .slice bo3 lb3 cb3, .int .i64 ey] #[.bool false, .slice none 0 0, .slice none 0 0, .int .i64 0]) → Below W1.heap.size W1 W2 → Hid (Thr w W2 g #[.bool sx, .slice (some a) la ca, .slice bo2 lb2 cb2, .int .i64 ex] #[.bool sy, .slice (some c) lc cc, .slice bo3 lb3 cb3, .int .i64 ey] #[.bool false, .slice none 0 0, .slice none 0 0, .int .i64 0]) ∧ W2.cell? ⟨g, 0, none⟩ = some (Value.bool sx) ∧ W2.cell? ⟨g, 1, none⟩ = some (.slice (some a) la ca) ∧ W2.cell? ⟨g, 2, none⟩ = some (.slice bo2 lb2 cb2) ∧ W2.cell? ⟨g, 3, none⟩ = some (.int .i64 ex) ∧ W2.cell? ⟨(g + 1), 0, none⟩ = some (Value.bool sy) ∧ W2.cell? ⟨(g + 1), 1, none⟩ = some (.slice (some c) lc cc) ∧ W2.cell? ⟨(g + 1), 2, none⟩ = some (.slice bo3 lb3 cb3) ∧ W2.cell? ⟨(g + 1), 3, none⟩ = some (.int .i64 ey) := fun W1 W2 h hb =>
    have h2 := h.out.next hb
    ⟨Lib.hid h2, h2.a.cell 0, h2.a.cell 1, h2.a.cell 2, h2.a.cell 3, h2.b.cell 0, h2.b.cell 1, h2.b.cell 2, h2.b.cell 3⟩
  have HSt := Lib.hid hst
  clear hst
  obtain ⟨H0, r0, r1, r2, r3, r4, r5, r6, r7⟩ : Hid (Thr w W0.drew g #[.bool sx, .slice (some a) la ca, .slice bo2 lb2 cb2, .int .i64 ex] #[.bool sy, .slice (some c) lc cc, .slice bo3 lb3 cb3, .int .i64 ey] #[.bool false, .slice none 0 0, .slice none 0 0, .int .i64 0]) ∧ W0.drew.cell? ⟨g, 0, none⟩ = some (Value.bool sx) ∧ W0.drew.cell? ⟨g, 1, none⟩ = some (.slice (some a) la ca) ∧ W0.drew.cell? ⟨g, 2, none⟩ = some (.slice bo2 lb2 cb2) ∧ W0.drew.cell? ⟨g, 3, none⟩ = some (.int .i64 ex) ∧ W0.drew.cell? ⟨(g + 1), 0, none⟩ = some (Value.bool sy) ∧ W0.drew.cell? ⟨(g + 1), 1, none⟩ = some (.slice (some c) lc cc) ∧ W0.drew.cell? ⟨(g + 1), 2, none⟩ = some (.slice bo3 lb3 cb3) ∧ W0.drew.cell? ⟨(g + 1), 3, none⟩ = some (.int .i64 ey) := HSt.out _ _ (Lib.hid HT0) ((Drw.step W0 1).below _)
  have c0 := HT0.a.cell
  have c1 := HT0.b.cell
  clear HT0
  go_region_held3 (fun w' => w'.cell? ⟨g, 0, none⟩ = some (Value.bool sx) ∧ w'.cell? ⟨g, 1, none⟩ = some (.slice (some a) la ca) ∧ w'.cell? ⟨g, 2, none⟩ = some (.slice bo2 lb2 cb2) ∧ w'.cell? ⟨g, 3, none⟩ = some (.int .i64 ex) ∧ w'.cell? ⟨(g + 1), 0, none⟩ = some (Value.bool sy) ∧ w'.cell? ⟨(g + 1), 1, none⟩ = some (.slice (some c) lc cc) ∧ w'.cell? ⟨(g + 1), 2, none⟩ = some (.slice bo3 lb3 cb3) ∧ w'.cell? ⟨(g + 1), 3, none⟩ = some (.int .i64 ey)) (first | exact ⟨v0, v1, v2, v3, v4, v5, v6, v7⟩ | exact ⟨u0, u1, u2, u3, u4, u5, u6, u7⟩ | exact ⟨r0, r1, r2, r3, r4, r5, r6, r7⟩)
    (first
      | (go_at_call 86; (with_reducible refine (K1.out _ H0.out.bel).mono ?_); rintro en w3 ⟨v3, rfl, hv, hb⟩; obtain ⟨o4, l4, c4, rfl⟩ := hv.shape; obtain ⟨H1, u0, u1, u2, u3, u4, u5, u6, u7⟩ := HSt.out _ _ H0 hb; have V1 := Lib.hid hv; clear hv hb)
      | (go_at_call 86; (with_reducible refine (K2.out _ H1.out.bel).mono ?_); rintro en w4 ⟨v4, rfl, hv, hb⟩; obtain ⟨o5, l5, c5, rfl⟩ := hv.shape; obtain ⟨H2, v0, v1, v2, v3, v4, v5, v6, v7⟩ := HSt.out _ _ H1 hb; have V2 := Lib.hid (And.intro hv (V1.out.below hb)); clear hv hb))
  clear c0 c1 r0 r1 r2 r3 r4 r5 r6 r7 u0 u1 u2 u3 u4 u5 u6 u7 v0 v1 v2 v3 v4 v5 v6 v7
  have VQ := Lib.hid V2.out.1
  have VP := Lib.hid V2.out.2
  clear V1 V2
  go_wp2_with fail
  obtain ⟨HA0, rA0, rA1, rA2, rA3, rA4, rA5, rA6, rA7⟩ : Hid (Thr w w4.drew g #[.bool sx, .slice (some a) la ca, .slice bo2 lb2 cb2, .int .i64 ex] #[.bool sy, .slice (some c) lc cc, .slice bo3 lb3 cb3, .int .i64 ey] #[.bool false, .slice none 0 0, .slice none 0 0, .int .i64 0]) ∧ w4.drew.cell? ⟨g, 0, none⟩ = some (Value.bool sx) ∧ w4.drew.cell? ⟨g, 1, none⟩ = some (.slice (some a) la ca) ∧ w4.drew.cell? ⟨g, 2, none⟩ = some (.slice bo2 lb2 cb2) ∧ w4.drew.cell? ⟨g, 3, none⟩ = some (.int .i64 ex) ∧ w4.drew.cell? ⟨(g + 1), 0, none⟩ = some (Value.bool sy) ∧ w4.drew.cell? ⟨(g + 1), 1, none⟩ = some (.slice (some c) lc cc) ∧ w4.drew.cell? ⟨(g + 1), 2, none⟩ = some (.slice bo3 lb3 cb3) ∧ w4.drew.cell? ⟨(g + 1), 3, none⟩ = some (.int .i64 ey) := HSt.out _ _ H2 (drew_below w4)
  have VQA0 := Lib.hid (VQ.out.below (drew_below w4))
  have VPA0 := Lib.hid (VP.out.below (drew_below w4))
  go_region_held3 (fun w' => w'.cell? ⟨g, 0, none⟩ = some (Value.bool sx) ∧ w'.cell? ⟨g, 1, none⟩ = some (.slice (some a) la ca) ∧ w'.cell? ⟨g, 2, none⟩ = some (.slice bo2 lb2 cb2) ∧ w'.cell? ⟨g, 3, none⟩ = some (.int .i64 ex) ∧ w'.cell? ⟨(g + 1), 0, none⟩ = some (Value.bool sy) ∧ w'.cell? ⟨(g + 1), 1, none⟩ = some (.slice (some c) lc cc) ∧ w'.cell? ⟨(g + 1), 2, none⟩ = some (.slice bo3 lb3 cb3) ∧ w'.cell? ⟨(g + 1), 3, none⟩ = some (.int .i64 ey)) (first | exact ⟨uA3_0, uA3_1, uA3_2, uA3_3, uA3_4, uA3_5, uA3_6, uA3_7⟩ | exact ⟨uA2_0, uA2_1, uA2_2, uA2_3, uA2_4, uA2_5, uA2_6, uA2_7⟩ | exact ⟨uA1_0, uA1_1, uA1_2, uA1_3, uA1_4, uA1_5, uA1_6, uA1_7⟩ | exact ⟨rA0, rA1, rA2, rA3, rA4, rA5, rA6, rA7⟩)
    (first
      | (go_at_call 87; (with_reducible refine (K3.out _ _ HA0.out.bel VPA0.out).mono ?_); rintro en wA1 ⟨zA1, rfl, hv, hb⟩; obtain ⟨oA1, lA1, cA1, rfl⟩ := hv.shape; obtain ⟨HA1, uA1_0, uA1_1, uA1_2, uA1_3, uA1_4, uA1_5, uA1_6, uA1_7⟩ := HSt.out _ _ HA0 hb; have VA1 := Lib.hid hv; have VQA1 := Lib.hid (VQA0.out.below hb); have VPA1 := Lib.hid (VPA0.out.below hb); clear hv hb)
      | (go_at_call 87; (with_reducible refine (K4.out _ _ HA1.out.bel VQA1.out).mono ?_); rintro en wA2 ⟨zA2, rfl, hv, hb⟩; obtain ⟨oA2, lA2, cA2, rfl⟩ := hv.shape; obtain ⟨HA2, uA2_0, uA2_1, uA2_2, uA2_3, uA2_4, uA2_5, uA2_6, uA2_7⟩ := HSt.out _ _ HA1 hb; have VA2 := Lib.hid hv; have VQA2 := Lib.hid (VQA1.out.below hb); have VPA2 := Lib.hid (VPA1.out.below hb); have T1A2 := Lib.hid (VA1.out.below hb); clear hv hb)
      | (go_at_call 88; (with_reducible refine (K7.out _ _ _ T1A2.out VA2.out).mono ?_); rintro en wA3 ⟨zA3, rfl, hv, hb⟩; obtain ⟨oA3, lA3, cA3, rfl⟩ := hv.shape; obtain ⟨HA3, uA3_0, uA3_1, uA3_2, uA3_3, uA3_4, uA3_5, uA3_6, uA3_7⟩ := HSt.out _ _ HA2 hb; have VA3 := Lib.hid hv; have VQA3 := Lib.hid (VQA2.out.below hb); have VPA3 := Lib.hid (VPA2.out.below hb); have T1A3 := Lib.hid (T1A2.out.below hb); have T2A3 := Lib.hid (VA2.out.below hb); clear hv hb))
  clear rA0 rA1 rA2 rA3 rA4 rA5 rA6 rA7 uA1_0 uA1_1 uA1_2 uA1_3 uA1_4 uA1_5 uA1_6 uA1_7 uA2_0 uA2_1 uA2_2 uA2_3 uA2_4 uA2_5 uA2_6 uA2_7 uA3_0 uA3_1 uA3_2 uA3_3 uA3_4 uA3_5 uA3_6 uA3_7
  go_wp2_with fail
  obtain ⟨HB0, rB0, rB1, rB2, rB3, rB4, rB5, rB6, rB7⟩ : Hid (Thr w wA3.drew g #[.bool sx, .slice (some a) la ca, .slice bo2 lb2 cb2, .int .i64 ex] #[.bool sy, .slice (some c) lc cc, .slice bo3 lb3 cb3, .int .i64 ey] #[.bool false, .slice none 0 0, .slice none 0 0, .int .i64 0]) ∧ wA3.drew.cell? ⟨g, 0, none⟩ = some (Value.bool sx) ∧ wA3.drew.cell? ⟨g, 1, none⟩ = some (.slice (some a) la ca) ∧ wA3.drew.cell? ⟨g, 2, none⟩ = some (.slice bo2 lb2 cb2) ∧ wA3.drew.cell? ⟨g, 3, none⟩ = some (.int .i64 ex) ∧ wA3.drew.cell? ⟨(g + 1), 0, none⟩ = some (Value.bool sy) ∧ wA3.drew.cell? ⟨(g + 1), 1, none⟩ = some (.slice (some c) lc cc) ∧ wA3.drew.cell? ⟨(g + 1), 2, none⟩ = some (.slice bo3 lb3 cb3) ∧ wA3.drew.cell? ⟨(g + 1), 3, none⟩ = some (.int .i64 ey) := HSt.out _ _ HA3 (drew_below wA3)
  have VQA3B0 := Lib.hid (VQA3.out.below (drew_below wA3))
  have VPA3B0 := Lib.hid (VPA3.out.below (drew_below wA3))
  have VA3B0 := Lib.hid (VA3.out.below (drew_below wA3))
  go_region_held3 (fun w' => w'.cell? ⟨g, 0, none⟩ = some (Value.bool sx) ∧ w'.cell? ⟨g, 1, none⟩ = some (.slice (some a) la ca) ∧ w'.cell? ⟨g, 2, none⟩ = some (.slice bo2 lb2 cb2) ∧ w'.cell? ⟨g, 3, none⟩ = some (.int .i64 ex) ∧ w'.cell? ⟨(g + 1), 0, none⟩ = some (Value.bool sy) ∧ w'.cell? ⟨(g + 1), 1, none⟩ = some (.slice (some c) lc cc) ∧ w'.cell? ⟨(g + 1), 2, none⟩ = some (.slice bo3 lb3 cb3) ∧ w'.cell? ⟨(g + 1), 3, none⟩ = some (.int .i64 ey)) (first | exact ⟨uB3_0, uB3_1, uB3_2, uB3_3, uB3_4, uB3_5, uB3_6, uB3_7⟩ | exact ⟨uB2_0, uB2_1, uB2_2, uB2_3, uB2_4, uB2_5, uB2_6, uB2_7⟩ | exact ⟨uB1_0, uB1_1, uB1_2, uB1_3, uB1_4, uB1_5, uB1_6, uB1_7⟩ | exact ⟨rB0, rB1, rB2, rB3, rB4, rB5, rB6, rB7⟩)
    (first
      | (go_at_call 87; (with_reducible refine (K5.out _ _ HB0.out.bel VQA3B0.out).mono ?_); rintro en wB1 ⟨zB1, rfl, hv, hb⟩; obtain ⟨oB1, lB1, cB1, rfl⟩ := hv.shape; obtain ⟨HB1, uB1_0, uB1_1, uB1_2, uB1_3, uB1_4, uB1_5, uB1_6, uB1_7⟩ := HSt.out _ _ HB0 hb; have VB1 := Lib.hid hv; have VQA3B1 := Lib.hid (VQA3B0.out.below hb); have VPA3B1 := Lib.hid (VPA3B0.out.below hb); have VA3B1 := Lib.hid (VA3B0.out.below hb); clear hv hb)
      | (go_at_call 87; (with_reducible refine (K6.out _ _ HB1.out.bel VPA3B1.out).mono ?_); rintro en wB2 ⟨zB2, rfl, hv, hb⟩; obtain ⟨oB2, lB2, cB2, rfl⟩ := hv.shape; obtain ⟨HB2, uB2_0, uB2_1, uB2_2, uB2_3, uB2_4, uB2_5, uB2_6, uB2_7⟩ := HSt.out _ _ HB1 hb; have VB2 := Lib.hid hv; have VQA3B2 := Lib.hid (VQA3B1.out.below hb); have VPA3B2 := Lib.hid (VPA3B1.out.below hb); have VA3B2 := Lib.hid (VA3B1.out.below hb); have B1B2 := Lib.hid (VB1.out.below hb); clear hv hb)
      | (go_at_call 88; (with_reducible refine (K8.out _ _ _ B1B2.out VB2.out).mono ?_); rintro en wB3 ⟨zB3, rfl, hv, hb⟩; obtain ⟨oB3, lB3, cB3, rfl⟩ := hv.shape; obtain ⟨HB3, uB3_0, uB3_1, uB3_2, uB3_3, uB3_4, uB3_5, uB3_6, uB3_7⟩ := HSt.out _ _ HB2 hb; have VB3 := Lib.hid hv; have VQA3B3 := Lib.hid (VQA3B2.out.below hb); have VPA3B3 := Lib.hid (VPA3B2.out.below hb); have VA3B3 := Lib.hid (VA3B2.out.below hb); have B1B3 := Lib.hid (B1B2.out.below hb); have B2B3 := Lib.hid (VB2.out.below hb); clear hv hb))
  clear rB0 rB1 rB2 rB3 rB4 rB5 rB6 rB7 uB1_0 uB1_1 uB1_2 uB1_3 uB1_4 uB1_5 uB1_6 uB1_7 uB2_0 uB2_1 uB2_2 uB2_3 uB2_4 uB2_5 uB2_6 uB2_7 uB3_0 uB3_1 uB3_2 uB3_3 uB3_4 uB3_5 uB3_6 uB3_7
  have cA := HB3.out.a.cell
  have cB := HB3.out.b.cell
  go_wp2_with fail
  refine (K9.out _ _ _ _ HB3.out.bel VA3B3.out VB3.out).mono ?_
  rintro en wZ ⟨v, rfl, hn, hb⟩
  obtain ⟨o3, l3, c3, o4', l4', c4', rfl, hn1, hn2⟩ := hn.ex
  have HN := Lib.hid hn
  have HF := Lib.hid (HB3.out.next hb)
  clear hn hn1 hn2 hb cA cB
  have cC := HF.out.c.cell
  have fC := HF.out.c.free
  have lC := HF.out.c.lt
  go_wp2_with fail
  refine bodyPost_ret (v := .agg #[.bool (sx != sy), .slice o3 l3 c3, .slice o4' l4' c4', .int .i64 (ex + ey)]) (by simp [results, Tryz.results95, go_sem, cC, lC]; cases sx <;> cases sy <;> rfl) rfl ?_
  have ho := Stored.only (g + 1 + 1) wZ (sx != sy) o3 l3 c3 o4' l4' c4' (ex + ey)
  exact ⟨_, rfl, HN.out.only ho HF.out.c.noW, HF.out.bel.trans (ho.below HF.out.bel.size (by have := HG.out; omega))⟩
end Go.Proofs.YtnpocnckkaddbaaGreatDoor
/-
  Contract of package exact's Add: a number with a divisor that is not 1, and a dyadic number.
-/
namespace Go.Proofs.YtnpocnckkaddbaaGreatDoor
open Go.RowKit Go.Shelf
attribute [local go_sem] eqNil neqNil

set_option maxRecDepth 100000 in
set_option maxHeartbeats 4000000 in
theorem addQ_raw (w : World) (hE : Env w) (sx sy : Bool) (a : Addr) (la ca : Nat) (d : Addr) (ld cd : Nat) (b : Addr) (lb cb : Nat) (tx bx ty ex ey m : Int) (hx : Nt w (.slice (some a) la ca) tx) (hd : Nt w (.slice (some d) ld cd) bx) (hy : Nt w (.slice (some b) lb cb) ty) (h0 : 0 < tx) (h1 : 0 < ty) (b1 : bx ≠ 1) (ob : bx % 2 = 1)
    (e0 : -1000000 ≤ ex ∧ ex ≤ 1000000) (e1 : -1000000 ≤ ey ∧ ey ≤ 1000000) (hm : m = min ex ey) (hs : bx < pw ^ 39 ∨ ty < pw ^ 39) (hbb : bx < big) (hbx : tx * 2 ^ (ex - m).toNat < big) (hby : ty * bx * 2 ^ (ey - m).toNat < big) (hbs : tx * 2 ^ (ex - m).toNat + ty * bx * 2 ^ (ey - m).toNat < big) :
    Calls Tryz.prog 30 #[.agg #[.bool sx, .slice (some a) la ca, .slice (some d) ld cd, .int .i64 ex], .agg #[.bool sy, .slice (some b) lb cb, .slice none 0 0, .int .i64 ey]] w fun en w' =>
      ∃ (v : Value) (sn : Bool) (n : Int), en = .returned v ∧ 0 ≤ n ∧ sg sn n = sg sx (tx * 2 ^ (ex - m).toNat) + sg sy (ty * bx * 2 ^ (ey - m).toNat) ∧ Below w.heap.size w w' ∧
        ((n = 0 ∧ Nm w' v false 0 1 0) ∨ ∃ (z : Nat) (t' : Int), n = 2 ^ z * t' ∧ t' % 2 = 1 ∧ 0 < t' ∧ Nm w' v sn t' bx (m + z)) := by
  have hmx : m ≤ ex ∧ m ≤ ey := by omega
  have hmb : -1000000 ≤ m ∧ m ≤ 1000000 := by omega
  obtain ⟨hmx1, hmx2⟩ := hmx
  obtain ⟨hmb1, hmb2⟩ := hmb
  obtain ⟨e00, e01⟩ := e0
  obtain ⟨e10, e11⟩ := e1
  have x1 : IntKind.i64.wrap (ex - m) = ex - m := IntWalk.i64_in _ (by omega)
  have x2 : IntKind.i64.wrap (ey - m) = ey - m := IntWalk.i64_in _ (by omega)
  have bx0 : 0 < bx := by have := hd.nonneg; omega
  have hy0 : ty * bx < big ∧ ty < big := by
    have p := Int.mul_le_mul_of_nonneg_left (show (1 : Int) ≤ 2 ^ (ey - m).toNat from p2pos _) (Int.le_of_lt (Int.mul_pos h1 bx0))
    have q := Int.mul_le_mul_of_nonneg_left (show 1 ≤ bx by omega) (Int.le_of_lt h1)
    omega
  have KT : Hid (∀ W, Below w.heap.size w W → Calls Tryz.prog 88 #[.slice (some b) lb cb, .slice (some d) ld cd] W (NewNt W (ty * bx))) := Lib.hid fun W hW => times_nt W _ _ ty bx (hy.below hW) (hd.below hW) h1 bx0 hy0.2 hbb (by omega)
  have KL : Hid (∀ W v, Nt W v (ty * bx) → Calls Tryz.prog 89 #[v, .int .i64 (ey - m)] W (NewNt W (ty * bx * 2 ^ (ey - m).toNat))) := Lib.hid fun W v hv => left_any W v _ hv hy0.1 (ey - m) (by omega) (by omega)
  have HY0 : Hid (0 < ty * bx) := Lib.hid (Int.mul_pos h1 bx0)
  generalize ty * bx = yb at *
  have HE := Lib.hid hE
  have HX := Lib.hid hx
  have HD := Lib.hid (And.intro hd (And.intro ob hbb))
  have HBX := Lib.hid (And.intro hbx (And.intro hby hbs))
  have HP := Lib.hid (And.intro h0 h1)
  clear hE hx hy hbx hby hbs h0 h1 hd ob hbb b1 hs hy0 bx0
  have hmn : min ex ey = m := hm.symm
  clear hm
  go_enter Tryz.func30, Tryz.ntmps30
  go_wp2_with (go_at_call 86; refine (common_right _ _ _ _).mono ?_; rintro en w' ⟨rfl, rfl⟩)
  obtain ⟨hA, hB, hC, hW0⟩ := boxes3 w #[.bool sx, .slice (some a) la ca, .slice (some d) ld cd, .int .i64 ex] #[.bool sy, .slice (some b) lb cb, .slice none 0 0, .int .i64 ey] #[.bool false, .slice none 0 0, .slice none 0 0, .int .i64 0] 47
  generalize hW : ((w.alloc (.cells #[.bool sx, .slice (some a) la ca, .slice (some d) ld cd, .int .i64 ex] 47)).alloc (.cells #[.bool sy, .slice (some b) lb cb, .slice none 0 0, .int .i64 ey] 47)).alloc (.cells #[.bool false, .slice none 0 0, .slice none 0 0, .int .i64 0] 47) = W at hA hB hC hW0 ⊢
  clear hW
  generalize hg : w.heap.size = g at hA hB hC
  have HG := Lib.hid hg
  clear hg
  have HT := Lib.hid (Thr.mk hW0 hA hB hC)
  clear hW0 hC
  have cA := hA.cell
  have cB := hB.cell
  clear hA hB
  go_quiet ((go_at_call 87; exact Calls.quiet_of_same ((without_nil _ _ _ _).mono fun _ _ h => ⟨h.1, h.2.symm⟩)))
  go_wp2_with fail
  generalize hd : W.drewN nq = W1
  have hD : Drw W W1 := hd ▸ Drw.step W _
  have HT1 := Lib.hid (HT.out.next (hD.below _))
  clear hd hD cA cB HT
  have cA := HT1.out.a.cell
  have cB := HT1.out.b.cell
  go_still_tail 8, (by kernel_rfl)
  still_call ((times_left _ _ _ _).mono fun _ _ h => ⟨h.1, h.2.symm⟩)
  repeat still_step
  refine wpStill_nil ?_
  change wpList _ _ _ _ _ W1.drew
  have hD : Drw W1 W1.drew := Drw.step W1 1
  generalize W1.drew = W2 at hD ⊢
  have HT2 := Lib.hid (HT1.out.next (hD.below _))
  clear hD cA cB HT1
  go_wp2_with fail
  refine (left_any W2 _ tx (HX.out.below HT2.out.bel) (lt_of_pow HP.out.1 HBX.out.1) (ex - m) (by omega) (by omega)).mono ?_
  rintro en W3 ⟨va, rfl, h1, hb⟩
  obtain ⟨ao, la2, ca2, rfl⟩ := h1.shape
  have HT3 := Lib.hid (HT2.out.next hb)
  have HT1 := Lib.hid h1
  clear h1 hb HT2
  have cA := HT3.out.a.cell
  have cB := HT3.out.b.cell
  go_wp2_with fail
  have d1 : W3.cell? ⟨g + 1, 1, none⟩ = some (.slice (some b) lb cb) := cB 1
  have d3 : W3.cell? ⟨g + 1, 3, none⟩ = some (.int .i64 ey) := cB 3
  clear cA cB
  have hst : ∀ (U1 U2 : World), Hid (Thr w U1 g #[.bool sx, .slice (some a) la ca, .slice (some d) ld cd, .int .i64 ex] #[.bool sy, .slice (some b) lb cb, .slice none 0 0, .int .i64 ey] #[.bool false, .slice none 0 0, .slice none 0 0, .int .i64 0]) → Below U1.heap.size U1 U2 → Hid (Thr w U2 g #[.bool sx, .slice (some a) la ca, .slice (some d) ld cd, .int .i64 ex] #[.bool sy, .slice (some b) lb cb, .slice none 0 0, .int .i64 ey] #[.bool false, .slice none 0 0, .slice none 0 0, .int .i64 0]) ∧ U2.cell? ⟨g + 1, 1, none⟩ = some (.slice (some b) lb cb) ∧ U2.cell? ⟨g + 1, 3, none⟩ = some (.int .i64 ey) := fun U1 U2 h hb =>
    have h2 := h.out.next hb
    ⟨Lib.hid h2, h2.b.cell 1, h2.b.cell 3⟩
  have HSt := Lib.hid hst
  clear hst
  obtain ⟨H0, d1', d3'⟩ : Hid (Thr w W3.drew g #[.bool sx, .slice (some a) la ca, .slice (some d) ld cd, .int .i64 ex] #[.bool sy, .slice (some b) lb cb, .slice none 0 0, .int .i64 ey] #[.bool false, .slice none 0 0, .slice none 0 0, .int .i64 0]) ∧ W3.drew.cell? ⟨g + 1, 1, none⟩ = some (.slice (some b) lb cb) ∧ W3.drew.cell? ⟨g + 1, 3, none⟩ = some (.int .i64 ey) := HSt.out _ _ HT3 ((Drw.step W3 1).below _)
  go_region_held3 (fun w' => w'.cell? ⟨g + 1, 1, none⟩ = some (.slice (some b) lb cb) ∧ w'.cell? ⟨g + 1, 3, none⟩ = some (.int .i64 ey)) (first | exact ⟨v1, v3'⟩ | exact ⟨u1, u3⟩ | exact ⟨d1', d3'⟩ | exact ⟨d1, d3⟩)
    (first
      | (go_at_call 88; (with_reducible refine (KT.out _ H0.out.bel).mono ?_); rintro en w3 ⟨v3, rfl, hv, hb⟩; obtain ⟨o4, l4, c4, rfl⟩ := hv.shape; obtain ⟨H1, u1, u3⟩ := HSt.out _ _ H0 hb; have V1 := Lib.hid (And.intro hv hb); clear hv hb)
      | (go_at_call 89; (with_reducible refine (KL.out _ _ V1.out.1).mono ?_); rintro en w4 ⟨v4, rfl, hv, hb⟩; obtain ⟨o5, l5, c5, rfl⟩ := hv.shape; obtain ⟨H2, v1, v3'⟩ := HSt.out _ _ H1 hb; have V2 := Lib.hid (And.intro hv hb); clear hv hb))
  clear d1 d3 d1' d3' u1 u3 v1 v3' KT KL HT3 H0 H1
  have HT15 := Lib.hid (HT1.out.below ((drew_below W3).trans (V1.out.2.mono (drew_below W3).size)))
  have HT15 := Lib.hid (HT15.out.below V2.out.2)
  have HT2 := Lib.hid V2.out.1
  have HT5 := H2
  clear V1 V2 HT1
  have cA := HT5.out.a.cell
  have cB := HT5.out.b.cell
  go_wp2_with fail
  refine (sum_any _ sx sy _ _ _ _ HT15.out HT2.out HBX.out.1 HBX.out.2.1 (Int.mul_pos HP.out.1 (p2pos _)) (Int.mul_pos HY0.out (p2pos _))).mono ?_
  rintro en W6 ⟨sn, vn, n, rfl, h1, hX, hb⟩
  obtain ⟨no, ln, cn, rfl⟩ := h1.shape
  have hnn := h1.isNone
  have hn0 := h1.nonneg
  have HN : Hid (0 ≤ n ∧ n < big ∧ sg sn n = sg sx (tx * 2 ^ (ex - m).toNat) + sg sy (yb * 2 ^ (ey - m).toNat)) := Lib.hid ⟨hn0, by
    have h3 := HBX.out.2.2
    have h4 := Int.mul_pos HP.out.1 (p2pos (ex - m).toNat)
    have h5 := Int.mul_pos HY0.out (p2pos (ey - m).toNat)
    generalize tx * 2 ^ (ex - m).toNat = A at *
    generalize yb * 2 ^ (ey - m).toNat = B at *
    cases sn <;> cases sx <;> cases sy <;> simp [sg] at hX <;> omega, hX⟩
  have HT6 := Lib.hid (HT5.out.next hb)
  have HT := Lib.hid h1
  clear hX h1 hb HT5 H2 HT15 HT2 cA cB hn0 x1 x2
  have hG : w.heap.size ≤ g + 1 + 1 := by have := HG.out; omega
  by_cases hz : n = 0
  · subst hz
    have hv := HT.out.nil
    injection hv with hv1 hv2 hv3
    subst hv1 hv2 hv3
    clear hnn
    have cC := HT6.out.c.cell
    have fC := HT6.out.c.free
    have lC := HT6.out.c.lt
    go_wp2_with fail
    refine bodyPost_ret (v := .agg #[.bool false, .slice none 0 0, .slice none 0 0, .int .i64 0]) (by simp [results, Tryz.results30, go_sem, cC, lC]) rfl ?_
    have ho := Stored.only (g + 1 + 1) W6 false none 0 0 none 0 0 0
    exact ⟨_, sn, 0, rfl, by omega, HN.out.2.2, HT6.out.bel.trans (ho.below HT6.out.bel.size hG), .inl ⟨rfl, ⟨_, _, _, _, _, _, rfl, Nt.zero _, .inl ⟨rfl, rfl⟩⟩⟩⟩
  · have hnn' : no.isNone = false := by rw [hnn]; simpa using hz
    clear hnn
    cases no with
    | none => simp at hnn'
    | some a2 =>
      clear hnn'
      have HZ := Lib.hid hz
      clear hz
      go_wp2_with fail
      refine (odd_any W6 (HE.out.below HT6.out.bel) _ n HT.out HN.out.2.1 HZ.out).mono ?_
      rintro en W7 ⟨v7, t7, z7, rfl, h1, h2, h3, hb⟩
      obtain ⟨bo7, lb7, cb7, rfl⟩ := h1.shape
      have hp := two_le_pow h3 (by have := HN.out.1; have := HZ.out; omega) HN.out.2.1
      have hz7 := hp.1
      have HT7 := Lib.hid (HT6.out.next hb)
      have HV7 := Lib.hid (And.intro h1 (And.intro h2 (And.intro h3 hp.2)))
      have hnn := h1.isNone
      have hp2 := hp.2.1
      clear h1 h2 h3 hb hp HT6 HT
      cases bo7 with
      | none => have : t7 = 0 := by simpa using hnn
                omega
      | some a7 =>
        clear hnn hp2
        have cB := HT7.out.b.cell
        go_wp2_with (first
          | (go_at_call 86; refine (common_right _ _ _ _).mono ?_; rintro en w' ⟨rfl, rfl⟩)
          | (go_at_call 87; refine (without_nil _ _ _ _).mono ?_; rintro en w' ⟨rfl, rfl⟩)
          | (go_at_call 88; refine (times_left _ _ _ _).mono ?_; rintro en w' ⟨rfl, rfl⟩)
          | fail)
        refine (frac_pt W7 (HE.out.below HT7.out.bel) sn _ _ t7 bx (m + z7) HV7.out.1 (by have h1 := HV7.out.2.2.2.2; have h2 := HN.out.2.1; omega) HV7.out.2.1 (.of_nt (HD.out.1.below HT7.out.bel) (by have := HD.out.2.1; omega)) HD.out.2.2 HD.out.2.1 (by omega) (by omega)).mono ?_
        rintro en W8 ⟨v8, rfl, h8, hb⟩
        obtain ⟨o8, l8, c8, o82, l82, c82, rfl, -, -⟩ := h8.ex
        have HT8 := Lib.hid (HT7.out.next hb)
        have H8 := Lib.hid h8
        clear h8 hb cB
        have cC := HT8.out.c.cell
        have fC := HT8.out.c.free
        have lC := HT8.out.c.lt
        go_wp2_with fail
        refine bodyPost_ret (v := .agg #[.bool sn, .slice o8 l8 c8, .slice o82 l82 c82, .int .i64 (m + z7)]) (by simp [results, Tryz.results30, go_sem, cC, lC]) rfl ?_
        have ho := Stored.only (g + 1 + 1) W8 sn o8 l8 c8 o82 l82 c82 (m + z7)
        exact ⟨_, sn, n, rfl, HN.out.1, HN.out.2.2, HT8.out.bel.trans (ho.below HT8.out.bel.size hG), .inr ⟨z7, t7, HV7.out.2.2.1, HV7.out.2.1, HV7.out.2.2.2.1, H8.out.only ho HT8.out.c.noW⟩⟩
end Go.Proofs.YtnpocnckkaddbaaGreatDoor
/-
  Contracts of package exact's scaled and Floor, for numbers with a divisor.
-/
namespace Go.Proofs.YtnpocnckkaddbaaGreatDoor
open Go.RowKit Go.Shelf
attribute [local go_sem] eqNil neqNil

set_option maxRecDepth 100000 in
set_option maxHeartbeats 1000000 in
theorem scaledQ_raw (w : World) (s : Bool) (bo : Option Addr) (la ca : Nat) (a : Addr) (lb cb : Nat) (t b e k q : Int) (h : Nt w (.slice bo la ca) t) (h2 : Nt w (.slice (some a) lb cb) b) (he : -1000000 ≤ e ∧ e ≤ 1000000) (hk : -1000000 ≤ k ∧ k ≤ 1000000) (hq : q = k + e) (ht : t * 2 ^ q.toNat < big) (hbb : b < big) (b0 : 0 < b) :
    Calls Tryz.prog 233 #[.agg #[.bool s, .slice bo la ca, .slice (some a) lb cb, .int .i64 e], .int .i64 k] w (NewNt w (t * 2 ^ q.toNat / 2 ^ (-q).toNat / b)) := by
  have hb : t < big := by
    have := h.nonneg
    have h2 := Int.mul_le_mul_of_nonneg_left (show (1 : Int) ≤ 2 ^ q.toNat from p2pos _) this
    omega
  have hu0 : 0 ≤ t * 2 ^ q.toNat / 2 ^ (-q).toNat := Int.ediv_nonneg (Int.mul_nonneg h.nonneg (Int.le_of_lt (p2pos _))) (Int.le_of_lt (p2pos _))
  have hub : t * 2 ^ q.toNat / 2 ^ (-q).toNat < big := by
    have hn := Int.mul_nonneg h.nonneg (Int.le_of_lt (p2pos q.toNat))
    have := Int.ediv_le_self ((2 : Int) ^ (-q).toNat) hn
    omega
  have H := Lib.hid (And.intro h (And.intro hb ht))
  have H2 := Lib.hid (And.intro h2 (And.intro hbb (And.intro b0 (And.intro hu0 hub))))
  obtain ⟨e0, e1⟩ := he
  obtain ⟨k0, k1⟩ := hk
  have HQ := Lib.hid hq
  obtain ⟨m1, hm1⟩ : ∃ m, max q 0 = m := ⟨_, rfl⟩
  obtain ⟨m2, hm2⟩ : ∃ m, max (-q) 0 = m := ⟨_, rfl⟩
  have hm1' := hm1
  have hm2' := hm2
  rw [hq] at hm1 hm2
  have HM : Hid (0 ≤ m1 ∧ m1 < 3000000 ∧ 0 ≤ m2 ∧ m2 < 3000000 ∧ m1.toNat = q.toNat ∧ m2.toNat = (-q).toNat) := Lib.hid (by omega)
  clear h hb ht hq hm1' hm2' h2 hbb b0 hu0 hub
  go_enter Tryz.func233, Tryz.ntmps233
  go_wp2_with fail
  have HB : Hid (Below w.heap.size w (w.alloc (.cells #[.bool s, .slice bo la ca, .slice (some a) lb cb, .int .i64 e] 47))) := Lib.hid ((Below.refl _ _).alloc (Nat.le_refl _) _)
  refine (left_any _ _ t (H.out.1.below HB.out) H.out.2.1 m1 HM.out.1 (by have := HM.out.2.1; omega)).mono ?_
  rintro en w1 ⟨v1, rfl, hv, hb⟩
  rw [HM.out.2.2.2.2.1] at hv
  obtain ⟨hc, hf, hz, hbw⟩ := laid_facts hb
  have HV := Lib.hid hv
  have HBl := Lib.hid hb
  have HB1 := Lib.hid hbw
  clear hv hb hbw hf
  go_wp2_with fail
  refine (right_any w1 _ _ HV.out H.out.2.2 m2 HM.out.2.2.1 (by have := HM.out.2.2.2.1; omega)).mono ?_
  rintro en w2 ⟨v2, rfl, hv2, hb2⟩
  rw [HM.out.2.2.2.2.2] at hv2
  obtain ⟨hc2, hf2, hz2, hbw2⟩ := laid_facts (HBl.out.trans (hb2.mono HBl.out.size))
  have HV2 := Lib.hid hv2
  have HB2 := Lib.hid hbw2
  clear hv2 hb2 hbw2 hf2 hc hz
  go_wp2_with fail
  refine (divide_any w2 _ _ _ b HV2.out (H2.out.1.below HB2.out) H2.out.2.2.2.2 H2.out.2.1 H2.out.2.2.2.1 H2.out.2.2.1).mono ?_
  rintro en w3 ⟨v3, v4, rfl, hv3, _, hb3⟩
  have HV3 := Lib.hid hv3
  have HB3 := Lib.hid (HB2.out.trans (hb3.mono HB2.out.size))
  clear hv3 hb3
  go_wp2_with fail
  go_ret
  exact ⟨_, rfl, HV3.out, HB3.out⟩

set_option maxRecDepth 100000 in
set_option maxHeartbeats 1000000 in
/-- rounded down, with a divisor that is not 1 -/
theorem floorQ_raw (w : World) (hE : Env w) (s : Bool) (bo : Option Addr) (la ca : Nat) (a : Addr) (lb cb : Nat) (t b e : Int) (ht : Nt w (.slice bo la ca) t) (hb : Nt w (.slice (some a) lb cb) b) (b1 : b ≠ 1) (b0 : 0 < b) (hbig : t * 2 ^ e.toNat + 1 < big) (hbb : b < big) (e0 : -1000000 ≤ e) (e1 : e ≤ 1000000)
    (u R : Int) (hu : t * 2 ^ e.toNat / 2 ^ (-e).toNat / b = u) (hd : R = if s then -(u + 1) else u) :
    Calls Tryz.prog 190 #[.agg #[.bool s, .slice bo la ca, .slice (some a) lb cb, .int .i64 e]] w (DnPost w R 0) := by
    have HE := Lib.hid hE
    have hall : Hid (∀ W, Below w.heap.size w W → Calls Tryz.prog 35 #[.agg #[.bool s, .slice bo la ca, .slice (some a) lb cb, .int .i64 e]] W (BoolPost W false)) := Lib.hid (fun W hW => by
      have := isInt_any W _ s t b e ⟨_, _, _, _, _, _, rfl, ht.below hW, .inr ⟨b1, hb.below hW⟩⟩ (by omega)
      rwa [decide_eq_false b1, Bool.false_and] at this)
    have hsc : Hid (∀ W, Below w.heap.size w W → Calls Tryz.prog 233 #[.agg #[.bool s, .slice bo la ca, .slice (some a) lb cb, .int .i64 e], .int .i64 0] W (NewNt W u)) := Lib.hid (fun W hW => by
      have := scaledQ_raw W s bo la ca a lb cb t b e 0 e (ht.below hW) (hb.below hW) ⟨e0, e1⟩ (by omega) (by omega) (by omega) hbb b0
      rwa [hu] at this)
    have hlt : Hid (u + 1 < big ∧ u < big) := Lib.hid (by
      have h0 := Int.mul_nonneg ht.nonneg (Int.le_of_lt (p2pos e.toNat))
      have h1 := Int.ediv_le_self ((2 : Int) ^ (-e).toNat) h0
      have h2 : 0 ≤ t * 2 ^ e.toNat / 2 ^ (-e).toNat := Int.ediv_nonneg h0 (Int.le_of_lt (p2pos _))
      have h3 := Int.ediv_le_self b h2
      omega)
    have HD := Lib.hid hd
    clear hE ht hb b1 b0 hbig hbb hu hd
    cases s
    · go_enter Tryz.func190, Tryz.ntmps190
      go_wp2_with fail
      obtain ⟨hA, hB, hW0⟩ := boxes2 w #[.bool false, .slice bo la ca, .slice (some a) lb cb, .int .i64 e] #[.bool false, .slice none 0 0, .slice none 0 0, .int .i64 0] 47
      have HT2 : Hid (Two w _ w.heap.size _ _) := Lib.hid ⟨hW0, hA, hB⟩
      clear hA hB hW0
      refine (hall.out _ HT2.out.1).mono ?_
      rintro en w1 ⟨rfl, hb⟩
      have HT3 := Lib.hid (HT2.out.next hb)
      clear hb
      have cA := HT3.out.2.1.cell
      go_wp2_with fail
      refine (hsc.out _ HT3.out.1).mono ?_
      rintro en w2 ⟨v2, rfl, hv, hb⟩
      have HT4 := Lib.hid (HT3.out.next hb)
      have HV := Lib.hid hv
      clear hb hv cA
      go_wp2_with fail
      refine (whole_any w2 (HE.out.below HT4.out.1) false v2 u HV.out hlt.out.2).mono ?_
      rintro en w3 ⟨v3, rfl, hv, hb⟩
      obtain ⟨s3, o3, l3, c3, o32, l32, c32, x3, rfl⟩ := hv.shape
      have HT5 := Lib.hid (HT4.out.next hb)
      have HV3 := Lib.hid hv
      clear hb hv
      have cB := HT5.out.2.2.cell
      have fB := HT5.out.2.2.free
      have lB := HT5.out.2.2.lt
      go_wp2_with fail
      refine bodyPost_ret (v := .agg #[.bool s3, .slice o3 l3 c3, .slice o32 l32 c32, .int .i64 x3]) (by simp [results, Tryz.results190, go_sem, cB, lB]) rfl ?_
      have ho := Stored.only (w.heap.size + 1) w3 s3 o3 l3 c3 o32 l32 c32 x3
      have hn := HV3.out.only ho HT5.out.2.2.noW
      have hh : R = sg false u := HD.out
      rw [← hh] at hn
      exact ⟨_, rfl, hn, HT5.out.1.trans (ho.below HT5.out.1.size (by omega))⟩
    · go_enter Tryz.func190, Tryz.ntmps190
      go_wp2_with fail
      obtain ⟨hA, hB, hW0⟩ := boxes2 w #[.bool true, .slice bo la ca, .slice (some a) lb cb, .int .i64 e] #[.bool false, .slice none 0 0, .slice none 0 0, .int .i64 0] 47
      have HT2 : Hid (Two w _ w.heap.size _ _) := Lib.hid ⟨hW0, hA, hB⟩
      clear hA hB hW0
      refine (hall.out _ HT2.out.1).mono ?_
      rintro en w1 ⟨rfl, hb⟩
      have HT3 := Lib.hid (HT2.out.next hb)
      clear hb
      have cA := HT3.out.2.1.cell
      go_wp2_with fail
      refine (hsc.out _ HT3.out.1).mono ?_
      rintro en w2 ⟨v2, rfl, hv, hb⟩
      have HT4 := Lib.hid (HT3.out.next hb)
      have HV := Lib.hid hv
      clear hb hv cA
      go_wp2_with fail
      refine (increase2 w2 v2 u HV.out hlt.out.2).mono ?_
      rintro en w2' ⟨v2', rfl, hv, hb⟩
      have HT4' := Lib.hid (HT4.out.next hb)
      have HV' := Lib.hid hv
      clear hb hv
      go_wp2_with fail
      refine (whole_any w2' (HE.out.below HT4'.out.1) true v2' (u + 1) HV'.out hlt.out.1).mono ?_
      rintro en w3 ⟨v3, rfl, hv, hb⟩
      obtain ⟨s3, o3, l3, c3, o32, l32, c32, x3, rfl⟩ := hv.shape
      have HT5 := Lib.hid (HT4'.out.next hb)
      have HV3 := Lib.hid hv
      clear hb hv
      have cB := HT5.out.2.2.cell
      have fB := HT5.out.2.2.free
      have lB := HT5.out.2.2.lt
      go_wp2_with fail
      refine bodyPost_ret (v := .agg #[.bool s3, .slice o3 l3 c3, .slice o32 l32 c32, .int .i64 x3]) (by simp [results, Tryz.results190, go_sem, cB, lB]) rfl ?_
      have ho := Stored.only (w.heap.size + 1) w3 s3 o3 l3 c3 o32 l32 c32 x3
      have hn := HV3.out.only ho HT5.out.2.2.noW
      have hh : R = sg true (u + 1) := HD.out
      rw [← hh] at hn
      exact ⟨_, rfl, hn, HT5.out.1.trans (ho.below HT5.out.1.size (by omega))⟩

theorem Qr.dr {s : Bool} {t e K k : Int} (h : Qr s t 1 e K 1 k) : Dr s t e K k := by
  obtain ⟨_, h⟩ := h
  rcases h with ⟨rfl, rfl, _, rfl, rfl⟩ | ⟨ot, t0, _, _, _, i, j, he, hk⟩
  · exact .inl ⟨rfl, rfl, rfl, rfl⟩
  · refine .inr ⟨ot, t0, i - j, ?_, ?_⟩
    all_goals
      rw [Int.mul_one, Int.mul_one] at hk
      have hij : j ≤ i := by
        apply Classical.byContradiction
        intro hn
        obtain ⟨d, rfl⟩ : ∃ d, j = i + (d + 1) := ⟨j - i - 1, by omega⟩
        rw [Int.pow_add, Int.mul_comm (2 ^ i), ← Int.mul_assoc] at hk
        have h2 := Int.eq_of_mul_eq_mul_right (p2ne i) hk
        rw [Int.pow_succ, Int.mul_comm (2 ^ d) 2, ← Int.mul_assoc, Int.mul_comm K 2, Int.mul_assoc] at h2
        cases s
        · have e : sg false t = t := rfl
          rw [e] at h2; omega
        · have e : sg true t = -t := rfl
          rw [e] at h2; omega
    · omega
    · obtain ⟨d, rfl⟩ := Nat.exists_eq_add_of_le hij
      rw [Int.pow_add, Int.mul_comm (2 ^ j), ← Int.mul_assoc] at hk
      have h2 := Int.eq_of_mul_eq_mul_right (p2ne j) hk
      rw [← h2]; congr 2; omega
theorem Qn.dn {w : World} {v : Value} {K k : Int} (h : Qn w v K 1 k) : Dn w v K k := by
  obtain ⟨s, t, b, e, h1, h2⟩ := h
  have hb := h2.bounds
  obtain rfl : b = 1 := by omega
  exact ⟨s, t, e, h1, h2.dr⟩
theorem Dn.qn {w : World} {v : Value} {K k : Int} (h : Dn w v K k) : Qn w v K 1 k := by
  obtain ⟨s, t, e, h1, h2⟩ := h
  exact ⟨s, t, 1, e, h1, h2.qr⟩
/-- the sizes that all of this is done with -/
def qs : Int := 2 ^ 2400
theorem qs_pw : qs < pw ^ 39 := by
  unfold qs
  rw [pw_two, show 64 * 39 = 2400 + 96 from rfl, Int.pow_add]
  have h := p2pos 2400
  have h2 : (1 : Int) < 2 ^ 96 := by decide
  have := Int.mul_lt_mul_of_pos_left h2 h
  omega
end Go.Proofs.YtnpocnckkaddbaaGreatDoor
