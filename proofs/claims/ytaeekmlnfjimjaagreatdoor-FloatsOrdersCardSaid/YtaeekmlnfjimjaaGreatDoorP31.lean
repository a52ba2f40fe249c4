/-
  The reference's numbers: quotient, difference, comparison; all of them for numbers with a value.
-/
import Derived.Test.YtaeekmlnfjimjaaGreatDoorP30
import Derived.Test.YtaeekmlnfjimjaaGreatDoorP21
set_option linter.unusedVariables false
set_option linter.unusedSimpArgs false
set_option linter.unusedSectionVars false
namespace Go.Proofs.YtaeekmlnfjimjaaGreatDoor.R
open Go.RowKit Go.Shelf

/-- two boxes -/
structure Thb (w W : World) (g : Nat) (A B : Array Value) : Prop where
  bel : Below w.heap.size w W
  a : Box W g A
  b : Box W (g + 1) B
theorem Thb.next {w W W' : World} {g : Nat} {A B : Array Value} (h : Thb w W g A B) (hb : Below W.heap.size W W') : Thb w W' g A B :=
  ⟨h.bel.trans (hb.mono h.bel.size), h.a.below hb, h.b.below hb⟩

set_option maxRecDepth 100000 in
set_option maxHeartbeats 2000000 in
theorem quo_raw (w : World) (s1 s2 : Int) (a1 a2 b1 b2 : Option Addr) (l1 c1 l2 c2 m1 k1 m2 k2 : Nat) (K D d1 n d : Int) (hw : IntKind.i64.wrap (s1 * s2) = s1 * s2) (hs2 : (s2 == 0) = false)
    (K1 : Hid (∀ W, Below w.heap.size w W → Calls Tryz.prog 132 #[.slice a1 l1 c1, .slice b2 m2 k2] W (NewNt W n)))
    (KA : Hid (∀ W, Below w.heap.size w W → Calls Tryz.prog 133 #[.agg #[.int .i64 s1, .slice a1 l1 c1, .slice a2 l2 c2]] W (NewNt W d1)))
    (KP : Hid (∀ W va, Below w.heap.size w W → Nt W va d1 → Calls Tryz.prog 132 #[va, .slice b1 m1 k1] W (NewNt W d)))
    (KM : Hid (∀ W va vb, Below w.heap.size w W → Nt W va n → Nt W vb d → Calls Tryz.prog 139 #[.int .i64 (s1 * s2), va, vb] W (RqPost W K D))) :
    Calls Tryz.prog 106 #[.agg #[.int .i64 s1, .slice a1 l1 c1, .slice a2 l2 c2], .agg #[.int .i64 s2, .slice b1 m1 k1, .slice b2 m2 k2]] w fun e w' => ∃ v, e = .returned (.tuple #[v, .int .i64 0]) ∧ Rq w' v K D ∧ Below w.heap.size w w' := by
  go_enter Tryz.func106, Tryz.ntmps106
  go_wp2_with fail
  obtain ⟨hA, hB, hC, hW0⟩ := boxes3 w #[.int .i64 s1, .slice a1 l1 c1, .slice a2 l2 c2] #[.int .i64 s2, .slice b1 m1 k1, .slice b2 m2 k2] zcells 65
  obtain ⟨g, hg⟩ : ∃ g, w.heap.size = g := ⟨_, rfl⟩
  have HT0 : Thr w _ w.heap.size _ _ _ := ⟨hW0, hA, hB, hC⟩
  rw [hg] at HT0
  have HG := Lib.hid hg
  rw [hg] at ⊢
  clear hA hB hC hW0 hg
  generalize ((w.alloc (.cells #[.int .i64 s1, .slice a1 l1 c1, .slice a2 l2 c2] 65)).alloc (.cells #[.int .i64 s2, .slice b1 m1 k1, .slice b2 m2 k2] 65)).alloc (.cells zcells 65) = W0 at HT0 ⊢
  have hst : ∀ (U1 U2 : World), Hid (Thr w U1 g #[.int .i64 s1, .slice a1 l1 c1, .slice a2 l2 c2] #[.int .i64 s2, .slice b1 m1 k1, .slice b2 m2 k2] zcells) → Below U1.heap.size U1 U2 → Hid (Thr w U2 g #[.int .i64 s1, .slice a1 l1 c1, .slice a2 l2 c2] #[.int .i64 s2, .slice b1 m1 k1, .slice b2 m2 k2] zcells) ∧ U2.cell? ⟨g, 0, none⟩ = some (.int .i64 s1) ∧ U2.cell? ⟨g, 1, none⟩ = some (.slice a1 l1 c1) ∧ U2.cell? ⟨g, 2, none⟩ = some (.slice a2 l2 c2) ∧ U2.cell? ⟨g + 1, 0, none⟩ = some (.int .i64 s2) ∧ U2.cell? ⟨g + 1, 1, none⟩ = some (.slice b1 m1 k1) ∧ U2.cell? ⟨g + 1, 2, none⟩ = some (.slice b2 m2 k2) := fun U1 U2 h hb =>
    have h2 := h.out.next hb
    ⟨Lib.hid h2, h2.a.cell 0, h2.a.cell 1, h2.a.cell 2, h2.b.cell 0, h2.b.cell 1, h2.b.cell 2⟩
  have HSt := Lib.hid hst
  clear hst
  have HT := Lib.hid HT0
  have hc0 := HT0.a.cell
  have hc1 := HT0.b.cell
  clear HT0
  obtain ⟨HA0, rA0_0, rA0_1, rA0_2, rA0_3, rA0_4, rA0_5⟩ := HSt.out _ _ HT (drew_below W0)
  go_region_held3 (fun w' => w'.cell? ⟨g, 0, none⟩ = some (.int .i64 s1) ∧ w'.cell? ⟨g, 1, none⟩ = some (.slice a1 l1 c1) ∧ w'.cell? ⟨g, 2, none⟩ = some (.slice a2 l2 c2) ∧ w'.cell? ⟨g + 1, 0, none⟩ = some (.int .i64 s2) ∧ w'.cell? ⟨g + 1, 1, none⟩ = some (.slice b1 m1 k1) ∧ w'.cell? ⟨g + 1, 2, none⟩ = some (.slice b2 m2 k2)) (first | exact ⟨rA4_0, rA4_1, rA4_2, rA4_3, rA4_4, rA4_5⟩ | exact ⟨rA3_0, rA3_1, rA3_2, rA3_3, rA3_4, rA3_5⟩ | exact ⟨rA2_0, rA2_1, rA2_2, rA2_3, rA2_4, rA2_5⟩ | exact ⟨rA1_0, rA1_1, rA1_2, rA1_3, rA1_4, rA1_5⟩ | exact ⟨rA0_0, rA0_1, rA0_2, rA0_3, rA0_4, rA0_5⟩ | (simp [go_sem, *]; done) | go_keep)
    (first
      | (go_at_call 132; (with_reducible refine (K1.out _ HA0.out.bel).mono ?_); rintro en wA1 ⟨zA1, rfl, hv, hb⟩; obtain ⟨oA1, lA1, cA1, rfl⟩ := hv.shape; obtain ⟨HA1, rA1_0, rA1_1, rA1_2, rA1_3, rA1_4, rA1_5⟩ := HSt.out _ _ HA0 hb; have VA1 := Lib.hid hv; clear hv hb)
      | (go_at_call 133; (with_reducible refine (KA.out _ HA1.out.bel).mono ?_); rintro en wA2 ⟨zA2, rfl, hv, hb⟩; obtain ⟨oA2, lA2, cA2, rfl⟩ := hv.shape; obtain ⟨HA2, rA2_0, rA2_1, rA2_2, rA2_3, rA2_4, rA2_5⟩ := HSt.out _ _ HA1 hb; have VA2 := Lib.hid hv; have TAVA1_2 := Lib.hid (VA1.out.below hb); clear hv hb)
      | (go_at_call 132; (with_reducible refine (KP.out _ _ HA2.out.bel VA2.out).mono ?_); rintro en wA3 ⟨zA3, rfl, hv, hb⟩; obtain ⟨oA3, lA3, cA3, rfl⟩ := hv.shape; obtain ⟨HA3, rA3_0, rA3_1, rA3_2, rA3_3, rA3_4, rA3_5⟩ := HSt.out _ _ HA2 hb; have VA3 := Lib.hid hv; have TAVA1_3 := Lib.hid (TAVA1_2.out.below hb); have TAVA2_3 := Lib.hid (VA2.out.below hb); clear hv hb)
      | (go_at_call 139; (with_reducible refine (KM.out _ _ _ HA3.out.bel TAVA1_3.out VA3.out).mono ?_); rintro en wA4 ⟨zA4, rfl, hv, hb⟩; obtain ⟨sA4, oA4, lA4, cA4, qA4, mA4, kA4, rfl⟩ := hv.shape; obtain ⟨HA4, rA4_0, rA4_1, rA4_2, rA4_3, rA4_4, rA4_5⟩ := HSt.out _ _ HA3 hb; have VA4 := Lib.hid hv; have TAVA1_4 := Lib.hid (TAVA1_3.out.below hb); have TAVA2_4 := Lib.hid (TAVA2_3.out.below hb); have TAVA3_4 := Lib.hid (VA3.out.below hb); have cC := HA4.out.c.cell; have fC := HA4.out.c.free; have lC := HA4.out.c.lt; clear hv hb))
  clear rA0_0 rA0_1 rA0_2 rA0_3 rA0_4 rA0_5 rA1_0 rA1_1 rA1_2 rA1_3 rA1_4 rA1_5 rA2_0 rA2_1 rA2_2 rA2_3 rA2_4 rA2_5 rA3_0 rA3_1 rA3_2 rA3_3 rA3_4 rA3_5 rA4_0 rA4_1 rA4_2 rA4_3 rA4_4 rA4_5
  have NAVA1 := TAVA1_4
  have NAVA2 := TAVA2_4
  have NAVA3 := TAVA3_4
  go_wp2_with fail
  refine bodyPost_ret (v := .tuple #[.agg #[.int .i64 sA4, .slice oA4 lA4 cA4, .slice qA4 mA4 kA4], .int .i64 0]) (by simp [results, Tryz.results106, go_sem, cC, lC]) rfl ?_
  have ho := stored_only (g + 1 + 1) wA4 (.int .i64 sA4) (.slice oA4 lA4 cA4) (.slice qA4 mA4 kA4)
  exact ⟨_, rfl, VA4.out.only HA4.out.c ho, HA4.out.bel.trans (ho.below HA4.out.bel.size (by have := HG.out; omega))⟩

set_option maxRecDepth 100000 in
set_option maxHeartbeats 2000000 in
theorem sub_raw (w : World) (s1 s2 : Int) (a1 a2 b1 b2 : Option Addr) (l1 c1 l2 c2 m1 k1 m2 k2 : Nat) (n d K D : Int)
    (KN : Hid (∀ W, Below w.heap.size w W → Calls Tryz.prog 95 #[.agg #[.int .i64 s2, .slice b1 m1 k1, .slice b2 m2 k2]] W (RmPost W (-s2) n d)))
    (KM : Hid (∀ W va, Below w.heap.size w W → Rm W va (-s2) n d → Calls Tryz.prog 77 #[.agg #[.int .i64 s1, .slice a1 l1 c1, .slice a2 l2 c2], va] W (RqPost W K D))) :
    Calls Tryz.prog 49 #[.agg #[.int .i64 s1, .slice a1 l1 c1, .slice a2 l2 c2], .agg #[.int .i64 s2, .slice b1 m1 k1, .slice b2 m2 k2]] w (RqPost w K D) := by
  go_enter Tryz.func49, Tryz.ntmps49
  go_wp2_with fail
  obtain ⟨hA, hB, hC, hW0⟩ := boxes3 w #[.int .i64 s1, .slice a1 l1 c1, .slice a2 l2 c2] #[.int .i64 s2, .slice b1 m1 k1, .slice b2 m2 k2] zcells 65
  obtain ⟨g, hg⟩ : ∃ g, w.heap.size = g := ⟨_, rfl⟩
  have HT0 : Thr w _ w.heap.size _ _ _ := ⟨hW0, hA, hB, hC⟩
  rw [hg] at HT0
  have HG := Lib.hid hg
  rw [hg] at ⊢
  clear hA hB hC hW0 hg
  generalize ((w.alloc (.cells #[.int .i64 s1, .slice a1 l1 c1, .slice a2 l2 c2] 65)).alloc (.cells #[.int .i64 s2, .slice b1 m1 k1, .slice b2 m2 k2] 65)).alloc (.cells zcells 65) = W0 at HT0 ⊢
  have hst : ∀ (U1 U2 : World), Hid (Thr w U1 g #[.int .i64 s1, .slice a1 l1 c1, .slice a2 l2 c2] #[.int .i64 s2, .slice b1 m1 k1, .slice b2 m2 k2] zcells) → Below U1.heap.size U1 U2 → Hid (Thr w U2 g #[.int .i64 s1, .slice a1 l1 c1, .slice a2 l2 c2] #[.int .i64 s2, .slice b1 m1 k1, .slice b2 m2 k2] zcells) ∧ U2.cell? ⟨g, 0, none⟩ = some (.int .i64 s1) ∧ U2.cell? ⟨g, 1, none⟩ = some (.slice a1 l1 c1) ∧ U2.cell? ⟨g, 2, none⟩ = some (.slice a2 l2 c2) ∧ U2.cell? ⟨g + 1, 0, none⟩ = some (.int .i64 s2) ∧ U2.cell? ⟨g + 1, 1, none⟩ = some (.slice b1 m1 k1) ∧ U2.cell? ⟨g + 1, 2, none⟩ = some (.slice b2 m2 k2) := fun U1 U2 h hb =>
    have h2 := h.out.next hb
    ⟨Lib.hid h2, h2.a.cell 0, h2.a.cell 1, h2.a.cell 2, h2.b.cell 0, h2.b.cell 1, h2.b.cell 2⟩
  have HSt := Lib.hid hst
  clear hst
  have HT := Lib.hid HT0
  have hc0 := HT0.a.cell
  have hc1 := HT0.b.cell
  clear HT0
  obtain ⟨HA0, rA0_0, rA0_1, rA0_2, rA0_3, rA0_4, rA0_5⟩ := HSt.out _ _ HT (drew_below W0)
  go_region_held3 (fun w' => w'.cell? ⟨g, 0, none⟩ = some (.int .i64 s1) ∧ w'.cell? ⟨g, 1, none⟩ = some (.slice a1 l1 c1) ∧ w'.cell? ⟨g, 2, none⟩ = some (.slice a2 l2 c2) ∧ w'.cell? ⟨g + 1, 0, none⟩ = some (.int .i64 s2) ∧ w'.cell? ⟨g + 1, 1, none⟩ = some (.slice b1 m1 k1) ∧ w'.cell? ⟨g + 1, 2, none⟩ = some (.slice b2 m2 k2)) (first | exact ⟨rA2_0, rA2_1, rA2_2, rA2_3, rA2_4, rA2_5⟩ | exact ⟨rA1_0, rA1_1, rA1_2, rA1_3, rA1_4, rA1_5⟩ | exact ⟨rA0_0, rA0_1, rA0_2, rA0_3, rA0_4, rA0_5⟩ | (simp [go_sem, *]; done) | go_keep)
    (first
      | (go_at_call 95; (with_reducible refine (KN.out _ HA0.out.bel).mono ?_); rintro en wA1 ⟨zA1, rfl, hv, hb⟩; obtain ⟨sA1, oA1, lA1, cA1, qA1, mA1, kA1, rfl⟩ := hv.shape; obtain ⟨HA1, rA1_0, rA1_1, rA1_2, rA1_3, rA1_4, rA1_5⟩ := HSt.out _ _ HA0 hb; have VA1 := Lib.hid hv; clear hv hb)
      | (go_at_call 77; (with_reducible refine (KM.out _ _ HA1.out.bel VA1.out).mono ?_); rintro en wA2 ⟨zA2, rfl, hv, hb⟩; obtain ⟨sA2, oA2, lA2, cA2, qA2, mA2, kA2, rfl⟩ := hv.shape; obtain ⟨HA2, rA2_0, rA2_1, rA2_2, rA2_3, rA2_4, rA2_5⟩ := HSt.out _ _ HA1 hb; have VA2 := Lib.hid hv; have TAVA1_2 := Lib.hid (VA1.out.below hb); have cC := HA2.out.c.cell; have fC := HA2.out.c.free; have lC := HA2.out.c.lt; clear hv hb))
  clear rA0_0 rA0_1 rA0_2 rA0_3 rA0_4 rA0_5 rA1_0 rA1_1 rA1_2 rA1_3 rA1_4 rA1_5 rA2_0 rA2_1 rA2_2 rA2_3 rA2_4 rA2_5
  have NAVA1 := TAVA1_2
  go_wp2_with fail
  refine bodyPost_ret (v := .agg #[.int .i64 sA2, .slice oA2 lA2 cA2, .slice qA2 mA2 kA2]) (by simp [results, Tryz.results49, go_sem, cC, lC]) rfl ?_
  have ho := stored_only (g + 1 + 1) wA2 (.int .i64 sA2) (.slice oA2 lA2 cA2) (.slice qA2 mA2 kA2)
  exact ⟨_, rfl, VA2.out.only HA2.out.c ho, HA2.out.bel.trans (ho.below HA2.out.bel.size (by have := HG.out; omega))⟩

set_option maxRecDepth 100000 in
set_option maxHeartbeats 4000000 in
theorem cmp_raw (w : World) (s1 s2 : Int) (a1 a2 b1 b2 : Option Addr) (l1 c1 l2 c2 m1 k1 m2 k2 : Nat) (d1 d2 p r : Int) (hs1 : s1 = 0 ∨ s1 = 1 ∨ s1 = -1)
    (KP1 : Hid (∀ W va, Below w.heap.size w W → Nt W va d2 → Calls Tryz.prog 132 #[.slice a1 l1 c1, va] W (NewNt W p)))
    (KP2 : Hid (∀ W va, Below w.heap.size w W → Nt W va d1 → Calls Tryz.prog 132 #[.slice b1 m1 k1, va] W (NewNt W r)))
    (KA : Hid (∀ W, Below w.heap.size w W → Calls Tryz.prog 133 #[.agg #[.int .i64 s1, .slice a1 l1 c1, .slice a2 l2 c2]] W (NewNt W d1)))
    (KB : Hid (∀ W, Below w.heap.size w W → Calls Tryz.prog 133 #[.agg #[.int .i64 s2, .slice b1 m1 k1, .slice b2 m2 k2]] W (NewNt W d2)))
    (KC : Hid (∀ W va vb, Below w.heap.size w W → Nt W va p → Nt W vb r → Calls Tryz.prog 131 #[va, vb] W (DrewPost W (.int .i64 (cmpI p r))))) :
    Calls Tryz.prog 69 #[.agg #[.int .i64 s1, .slice a1 l1 c1, .slice a2 l2 c2], .agg #[.int .i64 s2, .slice b1 m1 k1, .slice b2 m2 k2]] w fun e w' => e = .returned (.int .i64 (if s1 < s2 then -1 else if s2 < s1 then 1 else s1 * cmpI p r)) ∧ Below w.heap.size w w' := by
  have hbel := (boxes2 w #[.int .i64 s1, .slice a1 l1 c1, .slice a2 l2 c2] #[.int .i64 s2, .slice b1 m1 k1, .slice b2 m2 k2] 65).2.2
  have HBl := Lib.hid hbel
  clear hbel
  by_cases h1 : s1 < s2
  · rw [if_pos h1]
    go_enter Tryz.func69, Tryz.ntmps69
    go_wp2_with fail
    go_ret
    exact ⟨rfl, HBl.out⟩
  · by_cases h2 : s2 < s1
    · rw [if_neg h1, if_pos h2]
      go_enter Tryz.func69, Tryz.ntmps69
      go_wp2_with fail
      go_ret
      exact ⟨rfl, HBl.out⟩
    rw [if_neg h1, if_neg h2]
    obtain ⟨e0, e1⟩ := cmpI_range p r
    have hwm : IntKind.i64.wrap (s1 * cmpI p r) = s1 * cmpI p r := IntWalk.i64_in _ (by rcases hs1 with rfl | rfl | rfl <;> omega)
    clear e0 e1
    go_enter Tryz.func69, Tryz.ntmps69
    go_wp2_with fail
    obtain ⟨hA, hB, hW0⟩ := boxes2 w #[.int .i64 s1, .slice a1 l1 c1, .slice a2 l2 c2] #[.int .i64 s2, .slice b1 m1 k1, .slice b2 m2 k2] 65
    obtain ⟨g, hg⟩ : ∃ g, w.heap.size = g := ⟨_, rfl⟩
    have HT0 : Thb w _ w.heap.size _ _ := ⟨hW0, hA, hB⟩
    rw [hg] at HT0
    rw [hg] at ⊢
    clear hA hB hW0 hg HBl
    generalize (w.alloc (.cells #[.int .i64 s1, .slice a1 l1 c1, .slice a2 l2 c2] 65)).alloc (.cells #[.int .i64 s2, .slice b1 m1 k1, .slice b2 m2 k2] 65) = W0 at HT0 ⊢
    have hst : ∀ (U1 U2 : World), Hid (Thb w U1 g #[.int .i64 s1, .slice a1 l1 c1, .slice a2 l2 c2] #[.int .i64 s2, .slice b1 m1 k1, .slice b2 m2 k2]) → Below U1.heap.size U1 U2 → Hid (Thb w U2 g #[.int .i64 s1, .slice a1 l1 c1, .slice a2 l2 c2] #[.int .i64 s2, .slice b1 m1 k1, .slice b2 m2 k2]) ∧ U2.cell? ⟨g, 0, none⟩ = some (.int .i64 s1) ∧ U2.cell? ⟨g, 1, none⟩ = some (.slice a1 l1 c1) ∧ U2.cell? ⟨g, 2, none⟩ = some (.slice a2 l2 c2) ∧ U2.cell? ⟨g + 1, 0, none⟩ = some (.int .i64 s2) ∧ U2.cell? ⟨g + 1, 1, none⟩ = some (.slice b1 m1 k1) ∧ U2.cell? ⟨g + 1, 2, none⟩ = some (.slice b2 m2 k2) := fun U1 U2 h hb =>
      have h2 := h.out.next hb
      ⟨Lib.hid h2, h2.a.cell 0, h2.a.cell 1, h2.a.cell 2, h2.b.cell 0, h2.b.cell 1, h2.b.cell 2⟩
    have HSt := Lib.hid hst
    clear hst
    have HT := Lib.hid HT0
    have hc0 := HT0.a.cell
    have hc1 := HT0.b.cell
    clear HT0
    obtain ⟨HA0, rA0_0, rA0_1, rA0_2, rA0_3, rA0_4, rA0_5⟩ := HSt.out _ _ HT (drew_below W0)
    go_region_held3 (fun w' => w'.cell? ⟨g, 0, none⟩ = some (.int .i64 s1) ∧ w'.cell? ⟨g, 1, none⟩ = some (.slice a1 l1 c1) ∧ w'.cell? ⟨g, 2, none⟩ = some (.slice a2 l2 c2) ∧ w'.cell? ⟨g + 1, 0, none⟩ = some (.int .i64 s2) ∧ w'.cell? ⟨g + 1, 1, none⟩ = some (.slice b1 m1 k1) ∧ w'.cell? ⟨g + 1, 2, none⟩ = some (.slice b2 m2 k2)) (first | exact ⟨rA5_0, rA5_1, rA5_2, rA5_3, rA5_4, rA5_5⟩ | exact ⟨rA4_0, rA4_1, rA4_2, rA4_3, rA4_4, rA4_5⟩ | exact ⟨rA3_0, rA3_1, rA3_2, rA3_3, rA3_4, rA3_5⟩ | exact ⟨rA2_0, rA2_1, rA2_2, rA2_3, rA2_4, rA2_5⟩ | exact ⟨rA1_0, rA1_1, rA1_2, rA1_3, rA1_4, rA1_5⟩ | exact ⟨rA0_0, rA0_1, rA0_2, rA0_3, rA0_4, rA0_5⟩)
      (first
        | (go_at_call 133; (with_reducible refine (KB.out _ HA0.out.bel).mono ?_); rintro en wA1 ⟨zA1, rfl, hv, hb⟩; obtain ⟨oA1, lA1, cA1, rfl⟩ := hv.shape; obtain ⟨HA1, rA1_0, rA1_1, rA1_2, rA1_3, rA1_4, rA1_5⟩ := HSt.out _ _ HA0 hb; have VA1 := Lib.hid hv; clear hv hb)
        | (go_at_call 132; (with_reducible refine (KP1.out _ _ HA1.out.bel VA1.out).mono ?_); rintro en wA2 ⟨zA2, rfl, hv, hb⟩; obtain ⟨oA2, lA2, cA2, rfl⟩ := hv.shape; obtain ⟨HA2, rA2_0, rA2_1, rA2_2, rA2_3, rA2_4, rA2_5⟩ := HSt.out _ _ HA1 hb; have VA2 := Lib.hid hv; have TAVA1_2 := Lib.hid (VA1.out.below hb); clear hv hb)
        | (go_at_call 133; (with_reducible refine (KA.out _ HA2.out.bel).mono ?_); rintro en wA3 ⟨zA3, rfl, hv, hb⟩; obtain ⟨oA3, lA3, cA3, rfl⟩ := hv.shape; obtain ⟨HA3, rA3_0, rA3_1, rA3_2, rA3_3, rA3_4, rA3_5⟩ := HSt.out _ _ HA2 hb; have VA3 := Lib.hid hv; have TAVA1_3 := Lib.hid (TAVA1_2.out.below hb); have TAVA2_3 := Lib.hid (VA2.out.below hb); clear hv hb)
        | (go_at_call 132; (with_reducible refine (KP2.out _ _ HA3.out.bel VA3.out).mono ?_); rintro en wA4 ⟨zA4, rfl, hv, hb⟩; obtain ⟨oA4, lA4, cA4, rfl⟩ := hv.shape; obtain ⟨HA4, rA4_0, rA4_1, rA4_2, rA4_3, rA4_4, rA4_5⟩ := HSt.out _ _ HA3 hb; have VA4 := Lib.hid hv; have TAVA1_4 := Lib.hid (TAVA1_3.out.below hb); have TAVA2_4 := Lib.hid (TAVA2_3.out.below hb); have TAVA3_4 := Lib.hid (VA3.out.below hb); clear hv hb)
        | (go_at_call 131; (with_reducible refine (KC.out _ _ _ HA4.out.bel TAVA2_4.out VA4.out).mono ?_); rintro en wA5 ⟨rfl, hd⟩; have hb := hd.below wA4.heap.size; obtain ⟨HA5, rA5_0, rA5_1, rA5_2, rA5_3, rA5_4, rA5_5⟩ := HSt.out _ _ HA4 hb; have TAVA1_5 := Lib.hid (TAVA1_4.out.below hb); have TAVA2_5 := Lib.hid (TAVA2_4.out.below hb); have TAVA3_5 := Lib.hid (TAVA3_4.out.below hb); have TAVA4_5 := Lib.hid (VA4.out.below hb); clear hd hb))
    clear rA0_0 rA0_1 rA0_2 rA0_3 rA0_4 rA0_5 rA1_0 rA1_1 rA1_2 rA1_3 rA1_4 rA1_5 rA2_0 rA2_1 rA2_2 rA2_3 rA2_4 rA2_5 rA3_0 rA3_1 rA3_2 rA3_3 rA3_4 rA3_5 rA4_0 rA4_1 rA4_2 rA4_3 rA4_4 rA4_5 rA5_0 rA5_1 rA5_2 rA5_3 rA5_4 rA5_5
    have NAVA1 := TAVA1_5
    have NAVA2 := TAVA2_5
    have NAVA3 := TAVA3_5
    have NAVA4 := TAVA4_5
    go_wp2_with fail
    go_ret
    exact ⟨rfl, HA5.out.bel⟩

theorem Rq.cross {w : World} {v : Value} {K D K' D' : Int} (h : Rq w v K D) (h0 : 0 < D') (he : K * D' = K' * D) : Rq w v K' D' := by
  obtain ⟨hD, s, n, d, h1, h2⟩ := h
  refine ⟨h0, s, n, d, h1, Int.eq_of_mul_eq_mul_right (show D ≠ 0 by omega) ?_⟩
  have : s * n * D' * D = s * n * D * D' := by grind
  rw [this, h2]
  grind
/-- the fields of a number, for a call -/
theorem Rm.flds {w : World} {v : Value} {s n d : Int} (h : Rm w v s n d) : ∃ a1 l1 c1 a2 l2 c2, v = .agg #[.int .i64 s, .slice a1 l1 c1, .slice a2 l2 c2] ∧ Nt w (.slice a1 l1 c1) n ∧ (s = 0 ∨ s ≠ 0 ∧ Nt w (.slice a2 l2 c2) d) := by
  obtain ⟨a1, l1, c1, a2, l2, c2, e, h1, h2⟩ := h.ex
  refine ⟨a1, l1, c1, a2, l2, c2, e, h1, ?_⟩
  rcases h2 with ⟨h, _⟩ | ⟨h3, _, _, _, h7⟩
  · exact .inl h
  · exact .inr ⟨by omega, h7⟩
theorem cop_dvd {a b c : Int} (h : Int.gcd a b = 1) (h1 : a ∣ b * c) : a ∣ c :=
  Int.natAbs_dvd_natAbs.1 (Nat.Coprime.dvd_of_dvd_mul_left h (by rw [← Int.natAbs_mul]; exact Int.natAbs_dvd_natAbs.2 h1))
/-- what is reduced is not greater -/
theorem Rm.sizes {w : World} {v : Value} {s n d K D : Int} (h : Rm w v s n d) (h0 : 0 < D) (he : s * n * D = K * d) : n ≤ K.natAbs ∧ d ≤ D := by
  have hp := h.pos
  obtain ⟨a1, l1, c1, a2, l2, c2, e, h1, h2⟩ := h.ex
  rcases h2 with ⟨h3, h4, h5, _⟩ | ⟨h3, h4, h5, h6, _⟩
  · omega
  · have hK : n * D = K.natAbs * d := by
      have e1 := congrArg Int.natAbs he
      rw [Int.natAbs_mul, Int.natAbs_mul, Int.natAbs_mul, show s.natAbs = 1 by omega, Nat.one_mul] at e1
      have e2 : ((n.natAbs * D.natAbs : Nat) : Int) = ((K.natAbs * d.natAbs : Nat) : Int) := by rw [e1]
      rw [Int.natCast_mul, Int.natCast_mul, Int.natAbs_of_nonneg (by omega : 0 ≤ n), Int.natAbs_of_nonneg (by omega : 0 ≤ D), Int.natAbs_of_nonneg (by omega : 0 ≤ d)] at e2
      exact e2
    have hk : (0 : Int) < K.natAbs := by
      apply Classical.byContradiction
      intro hc
      have : (K.natAbs : Int) = 0 := by omega
      rw [this, Int.zero_mul] at hK
      have := Int.mul_pos h4 h0
      omega
    constructor
    · refine Int.le_of_dvd hk ?_
      exact cop_dvd h6 ⟨D, by rw [hK]; exact Int.mul_comm _ _⟩
    · refine Int.le_of_dvd h0 ?_
      exact cop_dvd (by rw [Int.gcd_comm]; exact h6) ⟨K.natAbs, by rw [hK]; exact Int.mul_comm _ _⟩
/-- numbers that the calls below can take -/
def inR (K D : Int) : Prop := (K.natAbs : Int) < pw ^ 980 ∧ D < pw ^ 980
theorem p980 {a b : Int} (a0 : 0 ≤ a) (b0 : 0 ≤ b) (ha : a < pw ^ 980) (hb : b < pw ^ 980) : a * b < pw ^ 1960 := by
  rw [show 1960 = 980 + 980 from rfl, Int.pow_add]
  exact Int.lt_of_le_of_lt (Int.mul_le_mul_of_nonneg_left (Int.le_of_lt hb) a0) (Int.mul_lt_mul_of_pos_right ha (ppos _))
theorem p1960 : (pw : Int) ^ 1960 * 4 ≤ pw ^ 1990 := by
  rw [show 1990 = 1960 + 30 from rfl, Int.pow_add]
  exact Int.mul_le_mul_of_nonneg_left (show (4 : Int) ≤ pw ^ 30 by decide) (Int.le_of_lt (ppos _))
theorem big_of {x : Int} (h : x < pw ^ 1990) : x < big := by have := pow_mono (show 1990 ≤ 2000 by omega); unfold big; omega
theorem sgn_mul {s1 s2 : Int} (h1 : s1 = 0 ∨ s1 = 1 ∨ s1 = -1) (h2 : s2 = 0 ∨ s2 = 1 ∨ s2 = -1) : s1 * s2 = 0 ∨ s1 * s2 = 1 ∨ s1 * s2 = -1 := by
  rcases h1 with rfl | rfl | rfl <;> rcases h2 with rfl | rfl | rfl <;> decide
theorem Rm.sg {w : World} {v : Value} {s n d : Int} (h : Rm w v s n d) : s = 0 ∨ s = 1 ∨ s = -1 := by have := h.pos; omega

structure Two (w : World) (va vb : Value) (K1 D1 K2 D2 s1 n1 d1 s2 n2 d2 : Int) : Prop where
  a : Rm w va s1 n1 d1
  b : Rm w vb s2 n2 d2
  ea : s1 * n1 * D1 = K1 * d1
  eb : s2 * n2 * D2 = K2 * d2
  a0 : 0 < D1
  b0 : 0 < D2
  na : n1 < pw ^ 980
  nb : n2 < pw ^ 980
  da : d1 < pw ^ 980
  db : d2 < pw ^ 980
theorem two_of {w : World} {va vb : Value} {K1 D1 K2 D2 : Int} (h1 : Rq w va K1 D1) (h2 : Rq w vb K2 D2) (i1 : inR K1 D1) (i2 : inR K2 D2) : ∃ s1 n1 d1 s2 n2 d2, Two w va vb K1 D1 K2 D2 s1 n1 d1 s2 n2 d2 := by
  obtain ⟨p1, s1, n1, d1, h1, e1⟩ := h1
  obtain ⟨p2, s2, n2, d2, h2, e2⟩ := h2
  have b1 := h1.sizes p1 e1
  have b2 := h2.sizes p2 e2
  have := i1.1
  have := i1.2
  have := i2.1
  have := i2.2
  exact ⟨s1, n1, d1, s2, n2, d2, h1, h2, e1, e2, p1, p2, by omega, by omega, by omega, by omega⟩
theorem lt980 {x : Int} (h : x < pw ^ 980) : x < big ∧ x < pw ^ 1990 := by
  have h1 := pow_mono (show 980 ≤ 1990 by omega)
  exact ⟨big_of (by omega), by omega⟩
theorem lt1960 {x : Int} (h : x < pw ^ 1960) : x < big ∧ x < pw ^ 1990 := by
  have h1 := pow_mono (show 1960 ≤ 1990 by omega)
  exact ⟨big_of (by omega), by omega⟩

theorem mulR_any (w : World) (va vb : Value) (K1 D1 K2 D2 : Int) (h1 : Rq w va K1 D1) (h2 : Rq w vb K2 D2) (i1 : inR K1 D1) (i2 : inR K2 D2) :
    Calls Tryz.prog 110 #[va, vb] w (RqPost w (K1 * K2) (D1 * D2)) := by
  obtain ⟨s1, n1, d1, s2, n2, d2, T⟩ := two_of h1 h2 i1 i2
  obtain ⟨a1, l1, c1, a2, l2, c2, rfl, ha, ha2⟩ := T.a.flds
  obtain ⟨b1, m1, k1, b2, m2, k2, rfl, hb, hb2⟩ := T.b.flds
  have pa := T.a.pos
  have pb := T.b.pos
  have sg := sgn_mul T.a.sg T.b.sg
  have z1 := lt1960 (p980 pa.2.1 pb.2.1 T.na T.nb)
  have z2 := lt1960 (p980 (Int.le_of_lt pa.1) (Int.le_of_lt pb.1) T.da T.db)
  refine (mul_raw w s1 s2 a1 a2 b1 b2 l1 c1 l2 c2 m1 k1 m2 k2 (s1 * s2 * (n1 * n2)) (d1 * d2) d1 d2 (n1 * n2) (d1 * d2) (IntWalk.i64_in _ (by omega))
    (Lib.hid fun W hW => product_any W _ _ n1 n2 (ha.below hW) (hb.below hW) (lt980 T.na).1 (lt980 T.nb).1)
    (Lib.hid fun W hW => bottom_any W _ s1 n1 d1 (T.a.below hW))
    (Lib.hid fun W hW => bottom_any W _ s2 n2 d2 (T.b.below hW))
    (Lib.hid fun W va vb _ h1 h2 => product_any W va vb d1 d2 h1 h2 (lt980 T.da).1 (lt980 T.db).1)
    (Lib.hid fun W va vb _ h1 h2 => made_any W (s1 * s2) (n1 * n2) (d1 * d2) va vb (by omega) h1 h2 z1.1 z2.2 (Int.mul_pos pa.1 pb.1))).mono ?_
  rintro e w' ⟨v, rfl, hv, hb⟩
  refine ⟨v, rfl, hv.cross (Int.mul_pos T.a0 T.b0) ?_, hb⟩
  have e1 := T.ea
  have e2 := T.eb
  have : s1 * s2 * (n1 * n2) * (D1 * D2) = (s1 * n1 * D1) * (s2 * n2 * D2) := by grind
  rw [this, e1, e2]; grind

theorem sgn_n {w : World} {v : Value} {s n d : Int} (h : Rm w v s n d) (x : Int) : s = 0 ∧ n * x = 0 ∨ s = 1 ∨ s = -1 := by
  rcases h.pos.2.2 with ⟨h1, h2, _⟩ | ⟨h1, _⟩
  · exact .inl ⟨h1, by rw [h2, Int.zero_mul]⟩
  · exact .inr h1
theorem addR_any (w : World) (va vb : Value) (K1 D1 K2 D2 : Int) (h1 : Rq w va K1 D1) (h2 : Rq w vb K2 D2) (i1 : inR K1 D1) (i2 : inR K2 D2) :
    Calls Tryz.prog 77 #[va, vb] w (RqPost w (K1 * D2 + K2 * D1) (D1 * D2)) := by
  obtain ⟨s1, n1, d1, s2, n2, d2, T⟩ := two_of h1 h2 i1 i2
  obtain ⟨a1, l1, c1, a2, l2, c2, rfl, ha, ha2⟩ := T.a.flds
  obtain ⟨b1, m1, k1, b2, m2, k2, rfl, hb, hb2⟩ := T.b.flds
  have pa := T.a.pos
  have pb := T.b.pos
  have q1 := p980 pa.2.1 (Int.le_of_lt pb.1) T.na T.db
  have q2 := p980 pb.2.1 (Int.le_of_lt pa.1) T.nb T.da
  have q3 := lt1960 (p980 (Int.le_of_lt pa.1) (Int.le_of_lt pb.1) T.da T.db)
  have r1 := Int.mul_nonneg pa.2.1 (Int.le_of_lt pb.1)
  have r2 := Int.mul_nonneg pb.2.1 (Int.le_of_lt pa.1)
  refine (add_raw w s1 s2 a1 a2 b1 b2 l1 c1 l2 c2 m1 k1 m2 k2 d1 d2 (n1 * d2) (n2 * d1) (d1 * d2) (sgn_n T.a d2) (sgn_n T.b d1) r1 r2 (big_of (by have := p1960; omega))
    (Lib.hid fun W v hW hv => product_any W _ v n1 d2 (ha.below hW) hv (lt980 T.na).1 (lt980 T.db).1)
    (Lib.hid fun W v hW hv => product_any W _ v n2 d1 (hb.below hW) hv (lt980 T.nb).1 (lt980 T.da).1)
    (Lib.hid fun W hW => bottom_any W _ s1 n1 d1 (T.a.below hW))
    (Lib.hid fun W hW => bottom_any W _ s2 n2 d2 (T.b.below hW))
    (Lib.hid fun W va vb _ h1 h2 => product_any W va vb d1 d2 h1 h2 (lt980 T.da).1 (lt980 T.db).1)
    (Lib.hid fun W s va vb n _ hs h1 hn h2 => made_any W s n (d1 * d2) va vb hs h1 h2 hn q3.2 (Int.mul_pos pa.1 pb.1))).mono ?_
  rintro e w' ⟨v, rfl, hv, hb⟩
  refine ⟨v, rfl, hv.cross (Int.mul_pos T.a0 T.b0) ?_, hb⟩
  have e1 := T.ea
  have e2 := T.eb
  have : (s1 * (n1 * d2) + s2 * (n2 * d1)) * (D1 * D2) = (s1 * n1 * D1) * d2 * D2 + (s2 * n2 * D2) * d1 * D1 := by grind
  rw [this, e1, e2]; grind
theorem Rq.neg {w : World} {v : Value} {s n d K D : Int} (h : Rm w v (-s) n d) (h0 : 0 < D) (he : s * n * D = K * d) : Rq w v (-K) D :=
  ⟨h0, -s, n, d, h, by rw [Int.neg_mul, Int.neg_mul, he, Int.neg_mul]⟩
theorem negR_any (w : World) (v : Value) (K D : Int) (h : Rq w v K D) : Calls Tryz.prog 95 #[v] w (RqPost w (-K) D) := by
  obtain ⟨h0, s, n, d, h1, h2⟩ := h
  refine (neg_any w v s n d h1).mono ?_
  rintro e w' ⟨v, rfl, hv, hb⟩
  exact ⟨v, rfl, Rq.neg hv h0 h2, hb⟩
theorem subR_any (w : World) (va vb : Value) (K1 D1 K2 D2 : Int) (h1 : Rq w va K1 D1) (h2 : Rq w vb K2 D2) (i1 : inR K1 D1) (i2 : inR K2 D2) :
    Calls Tryz.prog 49 #[va, vb] w (RqPost w (K1 * D2 + -K2 * D1) (D1 * D2)) := by
  obtain ⟨s1, n1, d1, s2, n2, d2, T⟩ := two_of h1 h2 i1 i2
  obtain ⟨a1, l1, c1, a2, l2, c2, rfl, ha, ha2⟩ := T.a.flds
  obtain ⟨b1, m1, k1, b2, m2, k2, rfl, hb, hb2⟩ := T.b.flds
  exact sub_raw w s1 s2 a1 a2 b1 b2 l1 c1 l2 c2 m1 k1 m2 k2 n2 d2 _ _
    (Lib.hid fun W hW => neg_any W _ s2 n2 d2 (T.b.below hW))
    (Lib.hid fun W v hW hv => addR_any W _ v K1 D1 (-K2) D2 (h1.below hW) (Rq.neg hv T.b0 T.eb) i1 ⟨by rw [Int.natAbs_neg]; exact i2.1, i2.2⟩)
theorem quoR_any (w : World) (va vb : Value) (K1 D1 K2 D2 : Int) (h1 : Rq w va K1 D1) (h2 : Rq w vb K2 D2) (i1 : inR K1 D1) (i2 : inR K2 D2) (hK : K2 ≠ 0) :
    Calls Tryz.prog 106 #[va, vb] w fun e w' => ∃ v, e = .returned (.tuple #[v, .int .i64 0]) ∧ Rq w' v (if K2 < 0 then -(K1 * D2) else K1 * D2) (D1 * K2.natAbs) ∧ Below w.heap.size w w' := by
  obtain ⟨s1, n1, d1, s2, n2, d2, T⟩ := two_of h1 h2 i1 i2
  obtain ⟨a1, l1, c1, a2, l2, c2, rfl, ha, ha2⟩ := T.a.flds
  obtain ⟨b1, m1, k1, b2, m2, k2, rfl, hb, hb2⟩ := T.b.flds
  have pa := T.a.pos
  have pb := T.b.pos
  have e1 := T.ea
  have e2 := T.eb
  have hs2 : s2 ≠ 0 := by
    rintro rfl
    rw [Int.zero_mul, Int.zero_mul] at e2
    have := Int.mul_eq_zero.1 e2.symm
    omega
  have n20 : 0 < n2 := by omega
  have hb2' : Nt w (.slice b2 m2 k2) d2 := by
    rcases hb2 with h | h
    · exact absurd h hs2
    · exact h.2
  have sg := sgn_mul T.a.sg T.b.sg
  have z1 := lt1960 (p980 pa.2.1 (Int.le_of_lt pb.1) T.na T.db)
  have z2 := lt1960 (p980 (Int.le_of_lt pa.1) pb.2.1 T.da T.nb)
  refine (quo_raw w s1 s2 a1 a2 b1 b2 l1 c1 l2 c2 m1 k1 m2 k2 (s1 * s2 * (n1 * d2)) (d1 * n2) d1 (n1 * d2) (d1 * n2) (IntWalk.i64_in _ (by omega)) (by simp [hs2])
    (Lib.hid fun W hW => product_any W _ _ n1 d2 (ha.below hW) (hb2'.below hW) (lt980 T.na).1 (lt980 T.db).1)
    (Lib.hid fun W hW => bottom_any W _ s1 n1 d1 (T.a.below hW))
    (Lib.hid fun W va hW h1 => product_any W va _ d1 n2 h1 (hb.below hW) (lt980 T.da).1 (lt980 T.nb).1)
    (Lib.hid fun W va vb _ h1 h2 => made_any W (s1 * s2) (n1 * d2) (d1 * n2) va vb (by omega) h1 h2 z1.1 z2.2 (Int.mul_pos pa.1 n20))).mono ?_
  rintro e w' ⟨v, rfl, hv, hb⟩
  have hs : s2 = 1 ∧ 0 < K2 ∨ s2 = -1 ∧ K2 < 0 := by
    have q1 := Int.mul_pos n20 T.b0
    rcases (show s2 = 1 ∨ s2 = -1 by omega) with rfl | rfl
    · left
      refine ⟨rfl, ?_⟩
      rw [Int.one_mul] at e2
      apply Classical.byContradiction
      intro hc
      have := Int.mul_nonpos_of_nonpos_of_nonneg (show K2 ≤ 0 by omega) (Int.le_of_lt pb.1)
      omega
    · right
      refine ⟨rfl, ?_⟩
      rw [show (-1 : Int) * n2 * D2 = -(n2 * D2) by grind] at e2
      apply Classical.byContradiction
      intro hc
      have := Int.mul_nonneg (show 0 ≤ K2 by omega) (Int.le_of_lt pb.1)
      omega
  refine ⟨v, rfl, hv.cross (Int.mul_pos T.a0 (by omega)) ?_, hb⟩
  rcases hs with ⟨rfl, h⟩ | ⟨rfl, h⟩
  · rw [if_neg (by omega), Int.natAbs_of_nonneg (by omega)]
    have : s1 * 1 * (n1 * d2) * (D1 * K2) = (s1 * n1 * D1) * (K2 * d2) := by grind
    rw [this, e1, ← e2]; grind
  · rw [if_pos h, show ((K2.natAbs : Nat) : Int) = -K2 by omega]
    have : s1 * -1 * (n1 * d2) * (D1 * -K2) = (s1 * n1 * D1) * (K2 * d2) := by grind
    rw [this, e1, ← e2]; grind
end Go.Proofs.YtaeekmlnfjimjaaGreatDoor.R
/-
  The reference's numbers: comparison of numbers with a value, integers, powers of two, IsInt.
-/
namespace Go.Proofs.YtaeekmlnfjimjaaGreatDoor.R
open Go.RowKit Go.Shelf

theorem cmpI_sg {s1 s2 p r : Int} (h1 : s1 = 0 ∧ p = 0 ∨ (s1 = 1 ∨ s1 = -1) ∧ 0 < p) (h2 : s2 = 0 ∧ r = 0 ∨ (s2 = 1 ∨ s2 = -1) ∧ 0 < r) : (if s1 < s2 then -1 else if s2 < s1 then 1 else s1 * cmpI p r) = cmpI (s1 * p) (s2 * r) := by
  unfold cmpI
  rcases h1 with ⟨rfl, rfl⟩ | ⟨rfl | rfl, hp⟩ <;> rcases h2 with ⟨rfl, rfl⟩ | ⟨rfl | rfl, hr⟩ <;> simp <;> (repeat' split) <;> omega
theorem cmpR_any (w : World) (va vb : Value) (K1 D1 K2 D2 : Int) (h1 : Rq w va K1 D1) (h2 : Rq w vb K2 D2) (i1 : inR K1 D1) (i2 : inR K2 D2) :
    Calls Tryz.prog 69 #[va, vb] w fun e w' => e = .returned (.int .i64 (cmpI (K1 * D2) (K2 * D1))) ∧ Below w.heap.size w w' := by
  obtain ⟨s1, n1, d1, s2, n2, d2, T⟩ := two_of h1 h2 i1 i2
  obtain ⟨a1, l1, c1, a2, l2, c2, rfl, ha, ha2⟩ := T.a.flds
  obtain ⟨b1, m1, k1, b2, m2, k2, rfl, hb, hb2⟩ := T.b.flds
  have pa := T.a.pos
  have pb := T.b.pos
  have q1 := lt1960 (p980 pa.2.1 (Int.le_of_lt pb.1) T.na T.db)
  have q2 := lt1960 (p980 pb.2.1 (Int.le_of_lt pa.1) T.nb T.da)
  refine (cmp_raw w s1 s2 a1 a2 b1 b2 l1 c1 l2 c2 m1 k1 m2 k2 d1 d2 (n1 * d2) (n2 * d1) T.a.sg
    (Lib.hid fun W v hW hv => product_any W _ v n1 d2 (ha.below hW) hv (lt980 T.na).1 (lt980 T.db).1)
    (Lib.hid fun W v hW hv => product_any W _ v n2 d1 (hb.below hW) hv (lt980 T.nb).1 (lt980 T.da).1)
    (Lib.hid fun W hW => bottom_any W _ s1 n1 d1 (T.a.below hW))
    (Lib.hid fun W hW => bottom_any W _ s2 n2 d2 (T.b.below hW))
    (Lib.hid fun W va vb _ h1 h2 => compare_any W va vb (n1 * d2) (n2 * d1) h1 h2 q1.1 q2.1)).mono ?_
  rintro e w' ⟨rfl, hb⟩
  refine ⟨?_, hb⟩
  have t1 : s1 = 0 ∧ n1 * d2 = 0 ∨ (s1 = 1 ∨ s1 = -1) ∧ 0 < n1 * d2 := by
    rcases pa.2.2 with ⟨h, h', _⟩ | ⟨h, h'⟩
    · exact .inl ⟨h, by rw [h', Int.zero_mul]⟩
    · exact .inr ⟨h, Int.mul_pos h' pb.1⟩
  have t2 : s2 = 0 ∧ n2 * d1 = 0 ∨ (s2 = 1 ∨ s2 = -1) ∧ 0 < n2 * d1 := by
    rcases pb.2.2 with ⟨h, h', _⟩ | ⟨h, h'⟩
    · exact .inl ⟨h, by rw [h', Int.zero_mul]⟩
    · exact .inr ⟨h, Int.mul_pos h' pa.1⟩
  rw [cmpI_sg t1 t2, ← cmpI_mul (a := K1 * D2) (b := K2 * D1) (Int.mul_pos pa.1 pb.1), ← cmpI_mul (a := s1 * (n1 * d2)) (b := s2 * (n2 * d1)) (Int.mul_pos T.a0 T.b0)]
  have e1 := T.ea
  have e2 := T.eb
  have u1 : s1 * (n1 * d2) * (D1 * D2) = K1 * D2 * (d1 * d2) := by
    have : s1 * (n1 * d2) * (D1 * D2) = (s1 * n1 * D1) * (d2 * D2) := by grind
    rw [this, e1]; grind
  have u2 : s2 * (n2 * d1) * (D1 * D2) = K2 * D1 * (d1 * d2) := by
    have : s2 * (n2 * d1) * (D1 * D2) = (s2 * n2 * D2) * (d1 * D1) := by grind
    rw [this, e2]; grind
  rw [u1, u2]

theorem Rm.int {w : World} {v : Value} {s n d K D : Int} (h : Rm w v s n d) (h0 : 0 < D) (he : s * n * D = K * d) : (d = 1) = (D ∣ K) := by
  apply propext
  constructor
  · rintro rfl
    exact ⟨s * n, by rw [Int.mul_one] at he; rw [← he]; exact Int.mul_comm _ _⟩
  · rintro ⟨c, rfl⟩
    have hp := h.pos
    have e1 : s * n = c * d := Int.eq_of_mul_eq_mul_right (show D ≠ 0 by omega) (by rw [he]; grind)
    obtain ⟨bo, lb, cb, bo2, lb2, cb2, rfl, h1, h2⟩ := h.ex
    rcases h2 with ⟨_, _, h, _⟩ | ⟨h3, h4, h5, h6, _⟩
    · exact h
    · have h7 : d ∣ n * 1 := by
        rw [Int.mul_one]
        rcases h3 with rfl | rfl
        · exact ⟨c, by rw [Int.one_mul] at e1; rw [e1]; exact Int.mul_comm _ _⟩
        · exact ⟨-c, by grind⟩
      have := Int.le_of_dvd (by decide) (cop_dvd (by rw [Int.gcd_comm]; exact h6) h7)
      omega
set_option maxRecDepth 100000 in
set_option maxHeartbeats 1000000 in
theorem isIntR_any (w : World) (v : Value) (K D : Int) (h : Rq w v K D) (hi : inR K D) : Calls Tryz.prog 178 #[v] w fun e w' => e = .returned (.bool (decide (D ∣ K))) ∧ Below w.heap.size w w' := by
  obtain ⟨h0, s, n, d, h1, h2⟩ := h
  obtain ⟨a1, l1, c1, a2, l2, c2, rfl, -, -⟩ := h1.flds
  have HI := h1.int h0 h2
  have hd : d < big := by have := (h1.sizes h0 h2).2; have := hi.2; exact (lt980 (by omega)).1
  have hb := (Below.refl w.heap.size w).alloc (Nat.le_refl _) (.cells #[.int .i64 s, .slice a1 l1 c1, .slice a2 l2 c2] 65)
  have HX := Lib.hid hb
  have HB := Lib.hid (bottom_any _ _ s n d (h1.below hb))
  have HD := Lib.hid hd
  have HH := Lib.hid HI
  clear hb h1 h2 HI hd hi
  go_enter Tryz.func178, Tryz.ntmps178
  go_wp2_with fail
  refine HB.out.mono ?_
  rintro e w1 ⟨v1, rfl, hv1, hb1⟩
  obtain ⟨bo3, lo3, co3, rfl⟩ := hv1.shape
  have HB1 := Lib.hid hb1
  have HV1 := Lib.hid hv1
  clear hv1 hb1 HB
  go_wp2_with fail
  refine (one_any _).mono ?_
  rintro e w2 ⟨v2, rfl, hv2, hb2⟩
  obtain ⟨bo4, lo4, co4, rfl⟩ := hv2.shape
  have HC := Lib.hid (compare_any w2 _ _ d 1 (HV1.out.below hb2) hv2 HD.out (Int.lt_of_lt_of_le (show (1 : Int) < pw ^ 1 by decide) (pow_mono (by omega))))
  have HB2 := Lib.hid (HB1.out.trans (hb2.mono HB1.out.size))
  clear hv2 hb2
  go_wp2_with fail
  refine HC.out.mono ?_
  rintro e w3 ⟨rfl, hd⟩
  have HB3 := Lib.hid (HX.out.trans ((HB2.out.trans (hd.below _)).mono HX.out.size))
  clear HC hd
  have hc : (cmpI d 1 == 0) = decide (D ∣ K) := by rw [cmpI_zero]; exact decide_eq_decide.2 (by rw [HH.out])
  go_wp2_with fail
  go_ret
  exact ⟨rfl, HB3.out⟩

theorem two_pw (n : Nat) : (2 : Int) ^ (29 * n) ≤ pw ^ n := by
  induction n with
  | zero => simp
  | succ n ih =>
    rw [show 29 * (n + 1) = 29 * n + 29 by omega, Int.pow_add, Int.pow_succ pw n]
    exact Int.mul_le_mul ih (show (2 : Int) ^ 29 ≤ 1000000000 by decide) (by decide) (Int.le_of_lt (ppos _))
theorem p2_pw {k : Nat} (h : k ≤ 28000) : (2 : Int) ^ k < pw ^ 980 := by
  have h1 := two_pw 980
  have h2 := p2_le (show k + 1 ≤ 29 * 980 by omega)
  rw [Int.pow_succ] at h2
  have := p2pos k
  omega
set_option maxRecDepth 100000 in
set_option maxHeartbeats 1000000 in
theorem powerOf_any (k : Nat) : ∀ (w : World), k ≤ 28000 → Calls Tryz.prog 166 #[.int .i64 k] w (NewNt w (2 ^ k)) := by
  induction k using Nat.strongRecOn with
  | _ k ih =>
    intro w hk
    by_cases h0 : k = 0
    · subst h0
      go_enter Tryz.func166, Tryz.ntmps166
      go_wp2_with fail
      refine (one_any _).mono ?_
      rintro e w1 ⟨v1, rfl, hv1, hb1⟩
      have HV := Lib.hid (And.intro hv1 hb1)
      clear hv1 hb1
      go_wp2_with fail
      go_ret
      exact ⟨_, rfl, HV.out.1, HV.out.2⟩
    · obtain ⟨j, hj⟩ : ∃ j : Nat, k / 2 = j := ⟨_, rfl⟩
      have IH := Lib.hid (ih j (by omega) w (by omega))
      have hk0 : ((k : Int) == 0) = false := by simp; omega
      have hd : Int.tdiv (k : Int) 2 = (j : Int) := by rw [Int.tdiv_eq_ediv_of_nonneg (by omega)]; omega
      have hm : Int.tmod (k : Int) 2 = (k : Int) % 2 := Int.tmod_eq_emod_of_nonneg (by omega)
      have hw1 : IntKind.i64.wrap (j : Int) = (j : Int) := IntWalk.i64_in _ (by omega)
      have hw2 : IntKind.i64.wrap ((k : Int) % 2) = (k : Int) % 2 := IntWalk.i64_in _ (by omega)
      have HK := Lib.hid (And.intro hk hj)
      clear ih h0 hk hj
      have HL : Hid ((2 : Int) ^ j < big) := Lib.hid (lt980 (p2_pw (by have := HK.out; omega))).1
      go_enter Tryz.func166, Tryz.ntmps166
      go_wp2_with fail
      refine IH.out.mono ?_
      rintro e w1 ⟨v1, rfl, hv1, hb1⟩
      obtain ⟨bo3, lo3, co3, rfl⟩ := hv1.shape
      have HP := Lib.hid (product_any w1 _ _ _ _ hv1 hv1 HL.out HL.out)
      have HB1 := Lib.hid hb1
      clear hv1 hb1 IH
      go_wp2_with fail
      refine HP.out.mono ?_
      rintro e w2 ⟨v2, rfl, hv2, hb2⟩
      obtain ⟨bo4, lo4, co4, rfl⟩ := hv2.shape
      have HB2 := Lib.hid (HB1.out.trans (hb2.mono HB1.out.size))
      rw [← Int.pow_add] at hv2
      have HV2 := Lib.hid hv2
      clear hv2 hb2 HP
      by_cases ho : (k : Int) % 2 = 1
      · have hb : (2 : Int) ^ (j + j) < big := (lt980 (p2_pw (by have := HK.out; omega))).1
        have HS := Lib.hid (sum_any w2 _ _ _ _ HV2.out HV2.out hb hb)
        clear hb
        go_wp2_with fail
        refine HS.out.mono ?_
        rintro e w3 ⟨v3, rfl, hv3, hb3⟩
        obtain ⟨bo5, lo5, co5, rfl⟩ := hv3.shape
        have HB3 := Lib.hid (HB2.out.trans (hb3.mono HB2.out.size))
        have HV3 := Lib.hid hv3
        have HO := Lib.hid ho
        clear hv3 hb3 HS
        go_wp2_with fail
        go_ret
        refine ⟨_, rfl, ?_, HB3.out⟩
        have e : (2 : Int) ^ k = 2 ^ (j + j) + 2 ^ (j + j) := by
          rw [show k = j + j + 1 by have := HO.out; have := HK.out; omega, Int.pow_succ]
          omega
        rw [e]; exact HV3.out
      · have ho' : ((k : Int) % 2 == 1) = false := by simp; omega
        have HO := Lib.hid ho
        clear ho
        go_wp2_with fail
        go_ret
        refine ⟨_, rfl, ?_, HB2.out⟩
        rw [show j + j = k by have := HO.out; have := HK.out; omega] at HV2
        exact HV2.out
end Go.Proofs.YtaeekmlnfjimjaaGreatDoor.R
/-
  The reference's numbers: shifts, integers, powers of two.
-/
namespace Go.Proofs.YtaeekmlnfjimjaaGreatDoor.R
open Go.RowKit Go.Shelf

/-- the box of an argument and that of the result -/
structure Tha (w W : World) (g : Nat) (A C : Array Value) : Prop where
  bel : Below w.heap.size w W
  a : Box W g A
  c : Box W (g + 1) C
theorem Tha.next {w W W' : World} {g : Nat} {A C : Array Value} (h : Tha w W g A C) (hb : Below W.heap.size W W') : Tha w W' g A C :=
  ⟨h.bel.trans (hb.mono h.bel.size), h.a.below hb, h.c.below hb⟩

set_option maxRecDepth 100000 in
set_option maxHeartbeats 2000000 in
theorem shift_neg (w : World) (s1 : Int) (a1 a2 : Option Addr) (l1 c1 l2 c2 : Nat) (K D d1 d x k j : Int) (hk : k < 0) (hj : -k = j) (hw : IntKind.i64.wrap j = j)
    (KA : Hid (∀ W, Below w.heap.size w W → Calls Tryz.prog 133 #[.agg #[.int .i64 s1, .slice a1 l1 c1, .slice a2 l2 c2]] W (NewNt W d1)))
    (KT : Hid (∀ W, Below w.heap.size w W → Calls Tryz.prog 166 #[.int .i64 j] W (NewNt W x)))
    (KP : Hid (∀ W va vb, Below w.heap.size w W → Nt W va d1 → Nt W vb x → Calls Tryz.prog 132 #[va, vb] W (NewNt W d)))
    (KM : Hid (∀ W vb, Below w.heap.size w W → Nt W vb d → Calls Tryz.prog 139 #[.int .i64 s1, .slice a1 l1 c1, vb] W (RqPost W K D))) :
    Calls Tryz.prog 93 #[.agg #[.int .i64 s1, .slice a1 l1 c1, .slice a2 l2 c2], .int .i64 k] w (RqPost w K D) := by
  go_enter Tryz.func93, Tryz.ntmps93
  go_wp2_with fail
  obtain ⟨hA, hB, hW0⟩ := boxes2 w #[.int .i64 s1, .slice a1 l1 c1, .slice a2 l2 c2] zcells 65
  obtain ⟨g, hg⟩ : ∃ g, w.heap.size = g := ⟨_, rfl⟩
  have HT0 : Tha w _ w.heap.size _ _ := ⟨hW0, hA, hB⟩
  rw [hg] at HT0
  have HG := Lib.hid hg
  rw [hg] at ⊢
  clear hA hB hW0 hg
  generalize (w.alloc (.cells #[.int .i64 s1, .slice a1 l1 c1, .slice a2 l2 c2] 65)).alloc (.cells zcells 65) = W0 at HT0 ⊢
  have hst : ∀ (U1 U2 : World), Hid (Tha w U1 g #[.int .i64 s1, .slice a1 l1 c1, .slice a2 l2 c2] zcells) → Below U1.heap.size U1 U2 → Hid (Tha w U2 g #[.int .i64 s1, .slice a1 l1 c1, .slice a2 l2 c2] zcells) ∧ U2.cell? ⟨g, 0, none⟩ = some (.int .i64 s1) ∧ U2.cell? ⟨g, 1, none⟩ = some (.slice a1 l1 c1) ∧ U2.cell? ⟨g, 2, none⟩ = some (.slice a2 l2 c2) := fun U1 U2 h hb =>
    have h2 := h.out.next hb
    ⟨Lib.hid h2, h2.a.cell 0, h2.a.cell 1, h2.a.cell 2⟩
  have HSt := Lib.hid hst
  clear hst
  have HT := Lib.hid HT0
  have hc0 := HT0.a.cell
  clear HT0
  obtain ⟨HA0, rA0_0, rA0_1, rA0_2⟩ := HSt.out _ _ HT (drew_below W0)
  go_region_held3 (fun w' => w'.cell? ⟨g, 0, none⟩ = some (.int .i64 s1) ∧ w'.cell? ⟨g, 1, none⟩ = some (.slice a1 l1 c1) ∧ w'.cell? ⟨g, 2, none⟩ = some (.slice a2 l2 c2)) (first | exact ⟨rA4_0, rA4_1, rA4_2⟩ | exact ⟨rA3_0, rA3_1, rA3_2⟩ | exact ⟨rA2_0, rA2_1, rA2_2⟩ | exact ⟨rA1_0, rA1_1, rA1_2⟩ | exact ⟨rA0_0, rA0_1, rA0_2⟩ | (simp [go_sem, *]; done) | go_keep)
    (first
      | (go_at_call 133; (with_reducible refine (KA.out _ HA0.out.bel).mono ?_); rintro en wA1 ⟨zA1, rfl, hv, hb⟩; obtain ⟨oA1, lA1, cA1, rfl⟩ := hv.shape; obtain ⟨HA1, rA1_0, rA1_1, rA1_2⟩ := HSt.out _ _ HA0 hb; have VA1 := Lib.hid hv; clear hv hb)
      | (go_at_call 166; (with_reducible refine (KT.out _ HA1.out.bel).mono ?_); rintro en wA2 ⟨zA2, rfl, hv, hb⟩; obtain ⟨oA2, lA2, cA2, rfl⟩ := hv.shape; obtain ⟨HA2, rA2_0, rA2_1, rA2_2⟩ := HSt.out _ _ HA1 hb; have VA2 := Lib.hid hv; have TAVA1_2 := Lib.hid (VA1.out.below hb); clear hv hb)
      | (go_at_call 132; (with_reducible refine (KP.out _ _ _ HA2.out.bel TAVA1_2.out VA2.out).mono ?_); rintro en wA3 ⟨zA3, rfl, hv, hb⟩; obtain ⟨oA3, lA3, cA3, rfl⟩ := hv.shape; obtain ⟨HA3, rA3_0, rA3_1, rA3_2⟩ := HSt.out _ _ HA2 hb; have VA3 := Lib.hid hv; have TAVA1_3 := Lib.hid (TAVA1_2.out.below hb); have TAVA2_3 := Lib.hid (VA2.out.below hb); clear hv hb)
      | (go_at_call 139; (with_reducible refine (KM.out _ _ HA3.out.bel VA3.out).mono ?_); rintro en wA4 ⟨zA4, rfl, hv, hb⟩; obtain ⟨sA4, oA4, lA4, cA4, qA4, mA4, kA4, rfl⟩ := hv.shape; obtain ⟨HA4, rA4_0, rA4_1, rA4_2⟩ := HSt.out _ _ HA3 hb; have VA4 := Lib.hid hv; have TAVA1_4 := Lib.hid (TAVA1_3.out.below hb); have TAVA2_4 := Lib.hid (TAVA2_3.out.below hb); have TAVA3_4 := Lib.hid (VA3.out.below hb); have cC := HA4.out.c.cell; have fC := HA4.out.c.free; have lC := HA4.out.c.lt; clear hv hb))
  clear rA0_0 rA0_1 rA0_2 rA1_0 rA1_1 rA1_2 rA2_0 rA2_1 rA2_2 rA3_0 rA3_1 rA3_2 rA4_0 rA4_1 rA4_2
  have NAVA1 := TAVA1_4
  have NAVA2 := TAVA2_4
  have NAVA3 := TAVA3_4
  go_wp2_with fail
  refine bodyPost_ret (v := .agg #[.int .i64 sA4, .slice oA4 lA4 cA4, .slice qA4 mA4 kA4]) (by simp [results, Tryz.results93, go_sem, cC, lC]) rfl ?_
  have ho := stored_only (g + 1) wA4 (.int .i64 sA4) (.slice oA4 lA4 cA4) (.slice qA4 mA4 kA4)
  exact ⟨_, rfl, VA4.out.only HA4.out.c ho, HA4.out.bel.trans (ho.below HA4.out.bel.size (by have := HG.out; omega))⟩

set_option maxRecDepth 100000 in
set_option maxHeartbeats 2000000 in
theorem shift_pos (w : World) (s1 : Int) (a1 a2 : Option Addr) (l1 c1 l2 c2 : Nat) (K D d1 n x k : Int) (hk : ¬ k < 0)
    (KA : Hid (∀ W, Below w.heap.size w W → Calls Tryz.prog 133 #[.agg #[.int .i64 s1, .slice a1 l1 c1, .slice a2 l2 c2]] W (NewNt W d1)))
    (KT : Hid (∀ W, Below w.heap.size w W → Calls Tryz.prog 166 #[.int .i64 k] W (NewNt W x)))
    (KP : Hid (∀ W vb, Below w.heap.size w W → Nt W vb x → Calls Tryz.prog 132 #[.slice a1 l1 c1, vb] W (NewNt W n)))
    (KM : Hid (∀ W va vb, Below w.heap.size w W → Nt W va n → Nt W vb d1 → Calls Tryz.prog 139 #[.int .i64 s1, va, vb] W (RqPost W K D))) :
    Calls Tryz.prog 93 #[.agg #[.int .i64 s1, .slice a1 l1 c1, .slice a2 l2 c2], .int .i64 k] w (RqPost w K D) := by
  go_enter Tryz.func93, Tryz.ntmps93
  go_wp2_with fail
  obtain ⟨hA, hB, hW0⟩ := boxes2 w #[.int .i64 s1, .slice a1 l1 c1, .slice a2 l2 c2] zcells 65
  obtain ⟨g, hg⟩ : ∃ g, w.heap.size = g := ⟨_, rfl⟩
  have HT0 : Tha w _ w.heap.size _ _ := ⟨hW0, hA, hB⟩
  rw [hg] at HT0
  have HG := Lib.hid hg
  rw [hg] at ⊢
  clear hA hB hW0 hg
  generalize (w.alloc (.cells #[.int .i64 s1, .slice a1 l1 c1, .slice a2 l2 c2] 65)).alloc (.cells zcells 65) = W0 at HT0 ⊢
  have hst : ∀ (U1 U2 : World), Hid (Tha w U1 g #[.int .i64 s1, .slice a1 l1 c1, .slice a2 l2 c2] zcells) → Below U1.heap.size U1 U2 → Hid (Tha w U2 g #[.int .i64 s1, .slice a1 l1 c1, .slice a2 l2 c2] zcells) ∧ U2.cell? ⟨g, 0, none⟩ = some (.int .i64 s1) ∧ U2.cell? ⟨g, 1, none⟩ = some (.slice a1 l1 c1) ∧ U2.cell? ⟨g, 2, none⟩ = some (.slice a2 l2 c2) := fun U1 U2 h hb =>
    have h2 := h.out.next hb
    ⟨Lib.hid h2, h2.a.cell 0, h2.a.cell 1, h2.a.cell 2⟩
  have HSt := Lib.hid hst
  clear hst
  have HT := Lib.hid HT0
  have hc0 := HT0.a.cell
  clear HT0
  obtain ⟨HA0, rA0_0, rA0_1, rA0_2⟩ := HSt.out _ _ HT (drew_below W0)
  go_region_held3 (fun w' => w'.cell? ⟨g, 0, none⟩ = some (.int .i64 s1) ∧ w'.cell? ⟨g, 1, none⟩ = some (.slice a1 l1 c1) ∧ w'.cell? ⟨g, 2, none⟩ = some (.slice a2 l2 c2)) (first | exact ⟨rA4_0, rA4_1, rA4_2⟩ | exact ⟨rA3_0, rA3_1, rA3_2⟩ | exact ⟨rA2_0, rA2_1, rA2_2⟩ | exact ⟨rA1_0, rA1_1, rA1_2⟩ | exact ⟨rA0_0, rA0_1, rA0_2⟩ | (simp [go_sem, *]; done) | go_keep)
    (first
      | (go_at_call 166; (with_reducible refine (KT.out _ HA0.out.bel).mono ?_); rintro en wA1 ⟨zA1, rfl, hv, hb⟩; obtain ⟨oA1, lA1, cA1, rfl⟩ := hv.shape; obtain ⟨HA1, rA1_0, rA1_1, rA1_2⟩ := HSt.out _ _ HA0 hb; have VA1 := Lib.hid hv; clear hv hb)
      | (go_at_call 132; (with_reducible refine (KP.out _ _ HA1.out.bel VA1.out).mono ?_); rintro en wA2 ⟨zA2, rfl, hv, hb⟩; obtain ⟨oA2, lA2, cA2, rfl⟩ := hv.shape; obtain ⟨HA2, rA2_0, rA2_1, rA2_2⟩ := HSt.out _ _ HA1 hb; have VA2 := Lib.hid hv; have TAVA1_2 := Lib.hid (VA1.out.below hb); clear hv hb)
      | (go_at_call 133; (with_reducible refine (KA.out _ HA2.out.bel).mono ?_); rintro en wA3 ⟨zA3, rfl, hv, hb⟩; obtain ⟨oA3, lA3, cA3, rfl⟩ := hv.shape; obtain ⟨HA3, rA3_0, rA3_1, rA3_2⟩ := HSt.out _ _ HA2 hb; have VA3 := Lib.hid hv; have TAVA1_3 := Lib.hid (TAVA1_2.out.below hb); have TAVA2_3 := Lib.hid (VA2.out.below hb); clear hv hb)
      | (go_at_call 139; (with_reducible refine (KM.out _ _ _ HA3.out.bel TAVA2_3.out VA3.out).mono ?_); rintro en wA4 ⟨zA4, rfl, hv, hb⟩; obtain ⟨sA4, oA4, lA4, cA4, qA4, mA4, kA4, rfl⟩ := hv.shape; obtain ⟨HA4, rA4_0, rA4_1, rA4_2⟩ := HSt.out _ _ HA3 hb; have VA4 := Lib.hid hv; have TAVA1_4 := Lib.hid (TAVA1_3.out.below hb); have TAVA2_4 := Lib.hid (TAVA2_3.out.below hb); have TAVA3_4 := Lib.hid (VA3.out.below hb); have cC := HA4.out.c.cell; have fC := HA4.out.c.free; have lC := HA4.out.c.lt; clear hv hb))
  clear rA0_0 rA0_1 rA0_2 rA1_0 rA1_1 rA1_2 rA2_0 rA2_1 rA2_2 rA3_0 rA3_1 rA3_2 rA4_0 rA4_1 rA4_2
  have NAVA1 := TAVA1_4
  have NAVA2 := TAVA2_4
  have NAVA3 := TAVA3_4
  go_wp2_with fail
  refine bodyPost_ret (v := .agg #[.int .i64 sA4, .slice oA4 lA4 cA4, .slice qA4 mA4 kA4]) (by simp [results, Tryz.results93, go_sem, cC, lC]) rfl ?_
  have ho := stored_only (g + 1) wA4 (.int .i64 sA4) (.slice oA4 lA4 cA4) (.slice qA4 mA4 kA4)
  exact ⟨_, rfl, VA4.out.only HA4.out.c ho, HA4.out.bel.trans (ho.below HA4.out.bel.size (by have := HG.out; omega))⟩
theorem shiftR_any (w : World) (v : Value) (K D k : Int) (h : Rq w v K D) (hi : inR K D) (k0 : -28000 ≤ k) (k1 : k ≤ 28000) :
    Calls Tryz.prog 93 #[v, .int .i64 k] w (RqPost w (K * 2 ^ k.toNat) (D * 2 ^ (-k).toNat)) := by
  obtain ⟨h0, s, n, d, h1, h2⟩ := h
  have hz := h1.sizes h0 h2
  have i1 := hi.1
  have i2 := hi.2
  have pa := h1.pos
  obtain ⟨a1, l1, c1, a2, l2, c2, rfl, ha, -⟩ := h1.flds
  by_cases hk : k < 0
  · obtain ⟨j, hj⟩ : ∃ j : Nat, -k = j := ⟨(-k).toNat, by omega⟩
    rw [show k.toNat = 0 by omega, show (-k).toNat = j by omega, Int.pow_zero, Int.mul_one]
    have hp := p2_pw (show j ≤ 28000 by omega)
    have z := lt1960 (p980 (Int.le_of_lt pa.1) (Int.le_of_lt (p2pos j)) (by omega) hp)
    refine (shift_neg w s a1 a2 l1 c1 l2 c2 (s * n) (d * 2 ^ j) d (d * 2 ^ j) (2 ^ j) k j hk hj (IntWalk.i64_in _ (by omega))
      (Lib.hid fun W hW => bottom_any W _ s n d (h1.below hW))
      (Lib.hid fun W hW => powerOf_any j W (by omega))
      (Lib.hid fun W va vb _ q1 q2 => product_any W va vb d (2 ^ j) q1 q2 (lt980 (by omega)).1 (lt980 hp).1)
      (Lib.hid fun W vb hW q => made_any W s n (d * 2 ^ j) _ vb h1.sg (ha.below hW) q (lt980 (by omega)).1 z.2 (Int.mul_pos pa.1 (p2pos j)))).mono ?_
    rintro e w' ⟨v, rfl, hv, hb⟩
    refine ⟨v, rfl, hv.cross (Int.mul_pos h0 (p2pos j)) ?_, hb⟩
    rw [← Int.mul_assoc, h2, Int.mul_assoc]
  · obtain ⟨j, rfl⟩ : ∃ j : Nat, k = j := ⟨k.toNat, by omega⟩
    rw [show ((j : Nat) : Int).toNat = j by omega, show (-((j : Nat) : Int)).toNat = 0 by omega, Int.pow_zero, Int.mul_one]
    have hp := p2_pw (show j ≤ 28000 by omega)
    have z := lt1960 (p980 pa.2.1 (Int.le_of_lt (p2pos j)) (by omega) hp)
    refine (shift_pos w s a1 a2 l1 c1 l2 c2 (s * (n * 2 ^ j)) d d (n * 2 ^ j) (2 ^ j) j hk
      (Lib.hid fun W hW => bottom_any W _ s n d (h1.below hW))
      (Lib.hid fun W hW => powerOf_any j W (by omega))
      (Lib.hid fun W vb hW q2 => product_any W _ vb n (2 ^ j) (ha.below hW) q2 (lt980 (by omega)).1 (lt980 hp).1)
      (Lib.hid fun W va vb hW q1 q2 => made_any W s (n * 2 ^ j) d va vb h1.sg q1 q2 z.1 (lt980 (by omega)).2 pa.1)).mono ?_
    rintro e w' ⟨v, rfl, hv, hb⟩
    refine ⟨v, rfl, hv.cross h0 ?_, hb⟩
    have : s * (n * 2 ^ j) * D = s * n * D * 2 ^ j := by grind
    rw [this, h2]; grind

set_option maxRecDepth 100000 in
set_option maxHeartbeats 1000000 in
theorem intR_any (w : World) (x : Int) (x0 : -9223372036854775808 ≤ x) (x1 : x ≤ 9223372036854775807) : Calls Tryz.prog 73 #[.int .i64 x] w (RqPost w x 1) := by
  have hX := (Below.refl w.heap.size w).alloc (Nat.le_refl _) (.cells zcells 65)
  have hB := Box.new w zcells 65
  have HX := Lib.hid hX
  have HB := Lib.hid hB
  have one_lt : (1 : Int) < pw ^ 1990 := Int.lt_of_lt_of_le (show (1 : Int) < pw ^ 1 by decide) (pow_mono (by omega))
  have HN := Lib.hid (natural_any (w.alloc (.cells zcells 65)) x.natAbs (by omega) (by omega))
  have HM : Hid (∀ W s va vb, (s = 0 ∨ s = 1 ∨ s = -1) → Nt W va x.natAbs → Nt W vb 1 → Calls Tryz.prog 139 #[.int .i64 s, va, vb] W (RqPost W (s * x.natAbs) 1)) := Lib.hid fun W s va vb hs h1 h2 =>
    made_any W s _ 1 va vb hs h1 h2 (by
      have h3 : (18446744073709551616 : Int) < pw ^ 3 := by decide
      have h4 : pw ^ 3 ≤ big := pow_mono (by omega)
      omega) one_lt (by decide)
  clear hX hB one_lt
  obtain ⟨y, hy⟩ : ∃ y : Int, (x.natAbs : Int) = y := ⟨_, rfl⟩
  rw [hy] at HN HM
  by_cases hx : x < 0
  · obtain rfl : x = -y := by omega
    have q1 : IntKind.i64.wrap (-y + 1) = -y + 1 := IntWalk.i64_in _ (by omega)
    have q2 : IntKind.i64.wrap (-(-y + 1)) = y - 1 := by rw [IntWalk.i64_in _ (by omega)]; omega
    have q3 : IntKind.u64.wrap (y - 1) = y - 1 := IntWalk.u64_in _ (by omega)
    have q4 : IntKind.u64.wrap (y - 1 + 1) = y := by rw [IntWalk.u64_in _ (by omega)]; omega
    go_enter Tryz.func73, Tryz.ntmps73
    go_wp2_with fail
    refine HN.out.mono ?_
    rintro e w1 ⟨v1, rfl, hv1, hb1⟩
    obtain ⟨o1, l1, c1, rfl⟩ := hv1.shape
    have V1 := Lib.hid hv1
    have B1 := Lib.hid hb1
    clear hv1 hb1 HN
    go_wp2_with fail
    refine (one_any w1).mono ?_
    rintro e w2 ⟨v2, rfl, hv2, hb2⟩
    obtain ⟨o2, l2, c2, rfl⟩ := hv2.shape
    have V2 := Lib.hid hv2
    have V12 := Lib.hid (V1.out.below hb2)
    have B2 := Lib.hid (B1.out.trans (hb2.mono B1.out.size))
    clear hv2 hb2
    go_wp2_with fail
    refine (HM.out w2 ((-1 : Int)) _ _ (by omega) V12.out V2.out).mono ?_
    rintro e w3 ⟨v3, rfl, hv3, hb3⟩
    obtain ⟨s3, o3, l3, c3, q3', m3, k3, rfl⟩ := hv3.shape
    have B3 := Lib.hid (B2.out.trans (hb3.mono B2.out.size))
    have V3 := Lib.hid hv3
    have hC := HB.out.below B3.out
    have HC := Lib.hid hC
    have cC := hC.cell
    have fC := hC.free
    have lC := hC.lt
    clear hv3 hb3 hC
    go_wp2_with fail
    refine bodyPost_ret (v := .agg #[.int .i64 s3, .slice o3 l3 c3, .slice q3' m3 k3]) (by simp [results, Tryz.results73, go_sem, cC, lC]) rfl ?_
    have ho := stored_only w.heap.size w3 (.int .i64 s3) (.slice o3 l3 c3) (.slice q3' m3 k3)
    have hV := V3.out.only HC.out ho
    rw [show (-1 : Int) * y = -y by omega] at hV
    exact ⟨_, rfl, hV, (HX.out.trans (B3.out.mono (by have := HX.out.size; exact this))).trans (ho.below (by have := (HX.out.trans (B3.out.mono (by have := HX.out.size; exact this))).size; exact this) (Nat.le_refl _))⟩
  · obtain rfl : x = y := by omega
    have q1 : IntKind.u64.wrap x = x := IntWalk.u64_in _ (by omega)
    go_enter Tryz.func73, Tryz.ntmps73
    go_wp2_with fail
    refine HN.out.mono ?_
    rintro e w1 ⟨v1, rfl, hv1, hb1⟩
    obtain ⟨o1, l1, c1, rfl⟩ := hv1.shape
    have V1 := Lib.hid hv1
    have B1 := Lib.hid hb1
    clear hv1 hb1 HN
    go_wp2_with fail
    refine (one_any w1).mono ?_
    rintro e w2 ⟨v2, rfl, hv2, hb2⟩
    obtain ⟨o2, l2, c2, rfl⟩ := hv2.shape
    have V2 := Lib.hid hv2
    have V12 := Lib.hid (V1.out.below hb2)
    have B2 := Lib.hid (B1.out.trans (hb2.mono B1.out.size))
    clear hv2 hb2
    go_wp2_with fail
    refine (HM.out w2 ((1 : Int)) _ _ (by omega) V12.out V2.out).mono ?_
    rintro e w3 ⟨v3, rfl, hv3, hb3⟩
    obtain ⟨s3, o3, l3, c3, q3', m3, k3, rfl⟩ := hv3.shape
    have B3 := Lib.hid (B2.out.trans (hb3.mono B2.out.size))
    have V3 := Lib.hid hv3
    have hC := HB.out.below B3.out
    have HC := Lib.hid hC
    have cC := hC.cell
    have fC := hC.free
    have lC := hC.lt
    clear hv3 hb3 hC
    go_wp2_with fail
    refine bodyPost_ret (v := .agg #[.int .i64 s3, .slice o3 l3 c3, .slice q3' m3 k3]) (by simp [results, Tryz.results73, go_sem, cC, lC]) rfl ?_
    have ho := stored_only w.heap.size w3 (.int .i64 s3) (.slice o3 l3 c3) (.slice q3' m3 k3)
    have hV := V3.out.only HC.out ho
    rw [show (1 : Int) * x = x by omega] at hV
    exact ⟨_, rfl, hV, (HX.out.trans (B3.out.mono (by have := HX.out.size; exact this))).trans (ho.below (by have := (HX.out.trans (B3.out.mono (by have := HX.out.size; exact this))).size; exact this) (Nat.le_refl _))⟩
theorem inR_int {x : Int} (h : (x.natAbs : Int) < 18446744073709551616) : inR x 1 := by
  have h3 : (18446744073709551616 : Int) < pw ^ 3 := by decide
  have h4 : pw ^ 3 ≤ pw ^ 980 := pow_mono (by omega)
  exact ⟨by omega, by omega⟩
set_option maxRecDepth 100000 in
set_option maxHeartbeats 1000000 in
theorem twoR_any (w : World) (k : Int) (k0 : -28000 ≤ k) (k1 : k ≤ 28000) : Calls Tryz.prog 78 #[.int .i64 k] w (RqPost w (2 ^ k.toNat) (2 ^ (-k).toNat)) := by
  have hX := (Below.refl w.heap.size w).alloc (Nat.le_refl _) (.cells zcells 65)
  have hB := Box.new w zcells 65
  have HX := Lib.hid hX
  have HB := Lib.hid hB
  have HS : Hid (∀ W v, Rq W v 1 1 → Calls Tryz.prog 93 #[v, .int .i64 k] W (RqPost W (2 ^ k.toNat) (2 ^ (-k).toNat))) := Lib.hid fun W v h => by
    have := shiftR_any W v 1 1 k h (inR_int (by decide)) k0 k1
    rwa [Int.one_mul, Int.one_mul] at this
  clear hX hB
  go_enter Tryz.func78, Tryz.ntmps78
  go_wp2_with fail
  refine (intR_any _ 1 (by decide) (by decide)).mono ?_
  rintro e w1 ⟨v1, rfl, hv1, hb1⟩
  obtain ⟨s1, o1, l1, c1, q1, m1, k1', rfl⟩ := hv1.shape
  have V1 := Lib.hid hv1
  have B1 := Lib.hid hb1
  clear hv1 hb1
  go_wp2_with fail
  refine (HS.out _ _ V1.out).mono ?_
  rintro e w3 ⟨v3, rfl, hv3, hb3⟩
  obtain ⟨s3, o3, l3, c3, q3', m3, k3, rfl⟩ := hv3.shape
  have B3 := Lib.hid (B1.out.trans (hb3.mono B1.out.size))
  have V3 := Lib.hid hv3
  have hC := HB.out.below B3.out
  have HC := Lib.hid hC
  have cC := hC.cell
  have fC := hC.free
  have lC := hC.lt
  clear hv3 hb3 hC HS
  go_wp2_with fail
  refine bodyPost_ret (v := .agg #[.int .i64 s3, .slice o3 l3 c3, .slice q3' m3 k3]) (by simp [results, Tryz.results78, go_sem, cC, lC]) rfl ?_
  have ho := stored_only w.heap.size w3 (.int .i64 s3) (.slice o3 l3 c3) (.slice q3' m3 k3)
  have hV := V3.out.only HC.out ho
  exact ⟨_, rfl, hV, (HX.out.trans (B3.out.mono (by have := HX.out.size; exact this))).trans (ho.below (by have := (HX.out.trans (B3.out.mono (by have := HX.out.size; exact this))).size; exact this) (Nat.le_refl _))⟩
end Go.Proofs.YtaeekmlnfjimjaaGreatDoor.R
/-
  The reference's numbers: Floor and Ceil.
-/
namespace Go.Proofs.YtaeekmlnfjimjaaGreatDoor.R
open Go.RowKit Go.Shelf

set_option maxRecDepth 100000 in
set_option maxHeartbeats 2000000 in
theorem floor_raw (w : World) (s1 : Int) (a1 a2 : Option Addr) (l1 c1 l2 c2 : Nat) (n d1 D : Int) (K : Int) (n0 : 0 ≤ n) (hs : s1 = 0 ∨ s1 = 1 ∨ s1 = -1) (hd : 0 < d1) (hn : n < pw ^ 980)
    (hK : K = s1 * (if s1 < 0 ∧ n % d1 ≠ 0 then n / d1 + 1 else n / d1))
    (KA : Hid (∀ W, Below w.heap.size w W → Calls Tryz.prog 133 #[.agg #[.int .i64 s1, .slice a1 l1 c1, .slice a2 l2 c2]] W (NewNt W d1)))
    (KD : Hid (∀ W vb, Below w.heap.size w W → Nt W vb d1 → Calls Tryz.prog 177 #[.slice a1 l1 c1, vb] W (DivPost W n d1))) :
    Calls Tryz.prog 111 #[.agg #[.int .i64 s1, .slice a1 l1 c1, .slice a2 l2 c2]] w (RqPost w K 1) := by
  have hq0 : 0 ≤ n / d1 := Int.ediv_nonneg n0 (by omega)
  have hq1 : n / d1 ≤ n := Int.ediv_le_self _ n0
  have HQ := Lib.hid (And.intro hq0 hq1)
  have HNn := Lib.hid hn
  have KO : Hid (∀ W, Below w.heap.size w W → Calls Tryz.prog 141 #[] W (NewNt W 1)) := Lib.hid fun W _ => one_any W
  have HK := Lib.hid hK
  have HD0 := Lib.hid (And.intro hd n0)
  have one_lt : Hid ((1 : Int) < pw ^ 980) := Lib.hid (Int.lt_of_lt_of_le (show (1 : Int) < pw ^ 1 by decide) (pow_mono (by omega)))
  clear hq0 hq1 hn hK hd n0
  go_enter Tryz.func111, Tryz.ntmps111
  go_wp2_with fail
  obtain ⟨hA, hB, hW0⟩ := boxes2 w #[.int .i64 s1, .slice a1 l1 c1, .slice a2 l2 c2] zcells 65
  obtain ⟨g, hg⟩ : ∃ g, w.heap.size = g := ⟨_, rfl⟩
  have HT0 : Tha w _ w.heap.size _ _ := ⟨hW0, hA, hB⟩
  rw [hg] at HT0
  have HG := Lib.hid hg
  rw [hg] at ⊢
  clear hA hB hW0 hg
  generalize (w.alloc (.cells #[.int .i64 s1, .slice a1 l1 c1, .slice a2 l2 c2] 65)).alloc (.cells zcells 65) = W0 at HT0 ⊢
  have hst : ∀ (U1 U2 : World), Hid (Tha w U1 g #[.int .i64 s1, .slice a1 l1 c1, .slice a2 l2 c2] zcells) → Below U1.heap.size U1 U2 → Hid (Tha w U2 g #[.int .i64 s1, .slice a1 l1 c1, .slice a2 l2 c2] zcells) ∧ U2.cell? ⟨g, 0, none⟩ = some (.int .i64 s1) ∧ U2.cell? ⟨g, 1, none⟩ = some (.slice a1 l1 c1) ∧ U2.cell? ⟨g, 2, none⟩ = some (.slice a2 l2 c2) := fun U1 U2 h hb =>
    have h2 := h.out.next hb
    ⟨Lib.hid h2, h2.a.cell 0, h2.a.cell 1, h2.a.cell 2⟩
  have HSt := Lib.hid hst
  clear hst
  have HT := Lib.hid HT0
  have hc0 := HT0.a.cell
  clear HT0
  obtain ⟨HA0, rA0_0, rA0_1, rA0_2⟩ := HSt.out _ _ HT (drew_below W0)
  go_region_held3 (fun w' => w'.cell? ⟨g, 0, none⟩ = some (.int .i64 s1) ∧ w'.cell? ⟨g, 1, none⟩ = some (.slice a1 l1 c1) ∧ w'.cell? ⟨g, 2, none⟩ = some (.slice a2 l2 c2)) (first | exact ⟨rA2_0, rA2_1, rA2_2⟩ | exact ⟨rA1_0, rA1_1, rA1_2⟩ | exact ⟨rA0_0, rA0_1, rA0_2⟩)
    (first
      | (go_at_call 133; (with_reducible refine (KA.out _ HA0.out.bel).mono ?_); rintro en wA1 ⟨zA1, rfl, hv, hb⟩; obtain ⟨oA1, lA1, cA1, rfl⟩ := hv.shape; obtain ⟨HA1, rA1_0, rA1_1, rA1_2⟩ := HSt.out _ _ HA0 hb; have VA1 := Lib.hid hv; clear hv hb)
      | (go_at_call 177; (with_reducible refine (KD.out _ _ HA1.out.bel VA1.out).mono ?_); rintro en wA2 ⟨zq, zr, rfl, hv, hr, hb⟩; obtain ⟨oq, lq, cq, rfl⟩ := hv.shape; obtain ⟨orr, lr, cr, rfl⟩ := hr.shape; have VR := Lib.hid hr; obtain ⟨HA2, rA2_0, rA2_1, rA2_2⟩ := HSt.out _ _ HA1 hb; have VA2 := Lib.hid hv; have TAVA1_2 := Lib.hid (VA1.out.below hb); clear hv hr hb))
  clear rA0_0 rA0_1 rA0_2 rA1_0 rA1_1 rA1_2 rA2_0 rA2_1 rA2_2
  have NAVA1 := TAVA1_2
  have hcA := HA2.out.a.cell
  have hrl : (lr = 0 ∧ n % d1 = 0) ∨ (0 < lr ∧ n % d1 ≠ 0) := by
    rcases VR.out with ⟨h1, p, cap, e, _⟩ | ⟨b, off, cap, zs, e, h⟩
    · cases e; exact .inl ⟨rfl, h1⟩
    · cases e; exact .inr ⟨h.pos, by have := h.npos; omega⟩
  -- the quotient that is taken, and the world behind it
  by_cases hneg : s1 < 0 ∧ n % d1 ≠ 0
  · have hlr : 0 < lr := by omega
    have hs0 := hneg.1
    have HK2 : Hid (K = s1 * (n / d1 + 1)) := Lib.hid (by have := HK.out; rwa [if_pos hneg] at this)
    clear hneg hrl
    go_wp2_with fail
    refine (one_any _).mono ?_
    rintro e w3 ⟨v3, rfl, hv, hb⟩
    obtain ⟨o3, l3, c3, rfl⟩ := hv.shape
    have H3 := Lib.hid (HA2.out.next hb)
    have KS := Lib.hid (sum_any w3 _ _ _ 1 (VA2.out.below hb) hv (lt980 (by have := HQ.out; have := HNn.out; omega)).1 (lt980 one_lt.out).1)
    clear hv hb
    go_wp2_with fail
    refine KS.out.mono ?_
    rintro e w4 ⟨v4, rfl, hv, hb⟩
    obtain ⟨o4, l4, c4, rfl⟩ := hv.shape
    have H4 := Lib.hid (H3.out.next hb)
    have VQ4 := Lib.hid hv
    have KM : Hid (∀ W va vb, Below w.heap.size w W → Nt W va (n / d1 + 1) → Nt W vb 1 → Calls Tryz.prog 139 #[.int .i64 s1, va, vb] W (RqPost W K 1)) := Lib.hid fun W va vb _ h1 h2 => by
      have := made_any W s1 _ 1 va vb hs h1 h2 (lt1960 (by have := HQ.out; have := HNn.out; have := p980 (show (0 : Int) ≤ 1 by decide) (show (0 : Int) ≤ 1 by decide) one_lt.out one_lt.out; have h4 := pow_mono (show 981 ≤ 1960 by omega); rw [show 981 = 980 + 1 from rfl, Int.pow_succ, show pw ^ 980 * pw = 1000000000 * pw ^ 980 by rw [Int.mul_comm]; rfl] at h4; omega)).1 (lt980 one_lt.out).2 (by decide)
      rw [HK2.out]; exact this
    clear hv hb hcA KS
    go_wp2_with fail
    obtain ⟨HB0, rB0_0, rB0_1, rB0_2⟩ := HSt.out _ _ H4 (drew_below w4)
    have VQ4B0 := Lib.hid (VQ4.out.below (drew_below w4))
    go_region_held3 (fun w' => w'.cell? ⟨g, 0, none⟩ = some (.int .i64 s1) ∧ w'.cell? ⟨g, 1, none⟩ = some (.slice a1 l1 c1) ∧ w'.cell? ⟨g, 2, none⟩ = some (.slice a2 l2 c2)) (first | exact ⟨rB2_0, rB2_1, rB2_2⟩ | exact ⟨rB1_0, rB1_1, rB1_2⟩ | exact ⟨rB0_0, rB0_1, rB0_2⟩ | (simp [go_sem, *]; done) | go_keep)
      (first
        | (go_at_call 141; (with_reducible refine (KO.out _ HB0.out.bel).mono ?_); rintro en wB1 ⟨zB1, rfl, hv, hb⟩; obtain ⟨oB1, lB1, cB1, rfl⟩ := hv.shape; obtain ⟨HB1, rB1_0, rB1_1, rB1_2⟩ := HSt.out _ _ HB0 hb; have VB1 := Lib.hid hv; have TBVQ4_1 := Lib.hid (VQ4B0.out.below hb); clear hv hb)
        | (go_at_call 139; (with_reducible refine (KM.out _ _ _ HB1.out.bel TBVQ4_1.out VB1.out).mono ?_); rintro en wB2 ⟨zB2, rfl, hv, hb⟩; obtain ⟨sB2, oB2, lB2, cB2, qB2, mB2, kB2, rfl⟩ := hv.shape; obtain ⟨HB2, rB2_0, rB2_1, rB2_2⟩ := HSt.out _ _ HB1 hb; have VB2 := Lib.hid hv; have TBVQ4_2 := Lib.hid (TBVQ4_1.out.below hb); have TBVB1_2 := Lib.hid (VB1.out.below hb); have cC := HB2.out.c.cell; have fC := HB2.out.c.free; have lC := HB2.out.c.lt; clear hv hb))
    clear rB0_0 rB0_1 rB0_2 rB1_0 rB1_1 rB1_2 rB2_0 rB2_1 rB2_2
    have NBVQ4 := TBVQ4_2
    have NBVB1 := TBVB1_2
    go_wp2_with fail
    refine bodyPost_ret (v := .agg #[.int .i64 sB2, .slice oB2 lB2 cB2, .slice qB2 mB2 kB2]) (by simp [results, Tryz.results111, go_sem, cC, lC]) rfl ?_
    have ho := stored_only (g + 1) wB2 (.int .i64 sB2) (.slice oB2 lB2 cB2) (.slice qB2 mB2 kB2)
    exact ⟨_, rfl, VB2.out.only HB2.out.c ho, HB2.out.bel.trans (ho.below HB2.out.bel.size (by have := HG.out; omega))⟩
  · have HK2 : Hid (K = s1 * (n / d1)) := Lib.hid (by have := HK.out; rwa [if_neg hneg] at this)
    have KM : Hid (∀ W va vb, Below w.heap.size w W → Nt W va (n / d1) → Nt W vb 1 → Calls Tryz.prog 139 #[.int .i64 s1, va, vb] W (RqPost W K 1)) := Lib.hid fun W va vb _ h1 h2 => by
      have := made_any W s1 _ 1 va vb hs h1 h2 (lt980 (by have := HQ.out; have := HNn.out; omega)).1 (lt980 one_lt.out).2 (by decide)
      rw [HK2.out]; exact this
    have H4 := HA2
    have VQ4 := VA2
    by_cases hs0 : s1 < 0
    case' pos =>
      have hlr : lr = 0 := by omega
      subst hlr
    all_goals
      clear hneg hrl
      go_wp2_with fail
      obtain ⟨HB0, rB0_0, rB0_1, rB0_2⟩ := HSt.out _ _ H4 (drew_below wA2)
      have VQ4B0 := Lib.hid (VQ4.out.below (drew_below wA2))
      go_region_held3 (fun w' => w'.cell? ⟨g, 0, none⟩ = some (.int .i64 s1) ∧ w'.cell? ⟨g, 1, none⟩ = some (.slice a1 l1 c1) ∧ w'.cell? ⟨g, 2, none⟩ = some (.slice a2 l2 c2)) (first | exact ⟨rB2_0, rB2_1, rB2_2⟩ | exact ⟨rB1_0, rB1_1, rB1_2⟩ | exact ⟨rB0_0, rB0_1, rB0_2⟩ | (simp [go_sem, *]; done) | go_keep)
        (first
          | (go_at_call 141; (with_reducible refine (KO.out _ HB0.out.bel).mono ?_); rintro en wB1 ⟨zB1, rfl, hv, hb⟩; obtain ⟨oB1, lB1, cB1, rfl⟩ := hv.shape; obtain ⟨HB1, rB1_0, rB1_1, rB1_2⟩ := HSt.out _ _ HB0 hb; have VB1 := Lib.hid hv; have TBVQ4_1 := Lib.hid (VQ4B0.out.below hb); clear hv hb)
          | (go_at_call 139; (with_reducible refine (KM.out _ _ _ HB1.out.bel TBVQ4_1.out VB1.out).mono ?_); rintro en wB2 ⟨zB2, rfl, hv, hb⟩; obtain ⟨sB2, oB2, lB2, cB2, qB2, mB2, kB2, rfl⟩ := hv.shape; obtain ⟨HB2, rB2_0, rB2_1, rB2_2⟩ := HSt.out _ _ HB1 hb; have VB2 := Lib.hid hv; have TBVQ4_2 := Lib.hid (TBVQ4_1.out.below hb); have TBVB1_2 := Lib.hid (VB1.out.below hb); have cC := HB2.out.c.cell; have fC := HB2.out.c.free; have lC := HB2.out.c.lt; clear hv hb))
      clear rB0_0 rB0_1 rB0_2 rB1_0 rB1_1 rB1_2 rB2_0 rB2_1 rB2_2
      have NBVQ4 := TBVQ4_2
      have NBVB1 := TBVB1_2
      go_wp2_with fail
      refine bodyPost_ret (v := .agg #[.int .i64 sB2, .slice oB2 lB2 cB2, .slice qB2 mB2 kB2]) (by simp [results, Tryz.results111, go_sem, cC, lC]) rfl ?_
      have ho := stored_only (g + 1) wB2 (.int .i64 sB2) (.slice oB2 lB2 cB2) (.slice qB2 mB2 kB2)
      exact ⟨_, rfl, VB2.out.only HB2.out.c ho, HB2.out.bel.trans (ho.below HB2.out.bel.size (by have := HG.out; omega))⟩
theorem floor_val {s n d : Int} (hs : s = 0 ∧ n = 0 ∨ s = 1 ∨ s = -1) (hd : 0 < d) (n0 : 0 ≤ n) : s * (if s < 0 ∧ n % d ≠ 0 then n / d + 1 else n / d) = (s * n) / d := by
  have e := Int.mul_ediv_add_emod n d
  have r0 := Int.emod_nonneg n (show d ≠ 0 by omega)
  have r1 := Int.emod_lt_of_pos n hd
  rcases hs with ⟨rfl, rfl⟩ | rfl | rfl
  · simp
  · rw [if_neg (by omega), Int.one_mul, Int.one_mul]
  · split
    · rename_i h
      symm
      rw [Int.ediv_eq_iff_of_pos hd]
      generalize n / d = q at *
      generalize n % d = r at *
      constructor <;> grind
    · rename_i h
      have hr : n % d = 0 := by omega
      symm
      rw [Int.ediv_eq_iff_of_pos hd]
      generalize n / d = q at *
      rw [hr] at e
      constructor <;> grind
theorem floor_eq {s n d K D : Int} (hd : 0 < d) (hD : 0 < D) (he : s * n * D = K * d) : (s * n) / d = K / D := by
  rw [← Int.mul_ediv_mul_of_pos_left (s * n) d hD, he, Int.mul_comm d D, ← Int.mul_ediv_mul_of_pos_left K D hd]
theorem floorR_any (w : World) (v : Value) (K D : Int) (h : Rq w v K D) (hi : inR K D) : Calls Tryz.prog 111 #[v] w (RqPost w (K / D) 1) := by
  obtain ⟨h0, s, n, d, h1, h2⟩ := h
  have hz := h1.sizes h0 h2
  have i1 := hi.1
  have i2 := hi.2
  have pa := h1.pos
  obtain ⟨a1, l1, c1, a2, l2, c2, rfl, ha, -⟩ := h1.flds
  exact floor_raw w s a1 a2 l1 c1 l2 c2 n d D (K / D) pa.2.1 h1.sg pa.1 (by omega) (by rw [floor_val (by omega) pa.1 pa.2.1, floor_eq pa.1 h0 h2])
    (Lib.hid fun W hW => bottom_any W _ s n d (h1.below hW))
    (Lib.hid fun W vb hW hv => divided_any W _ vb n d (ha.below hW) hv (lt980 (by omega)).1 (lt980 (by omega)).2 (by omega))
end Go.Proofs.YtaeekmlnfjimjaaGreatDoor.R
/-
  The reference's numbers: Int64 of a small natural number.
-/
namespace Go.Proofs.YtaeekmlnfjimjaaGreatDoor.R
open Go.RowKit Go.Shelf

/-- the box of an argument -/
structure Tho (w W : World) (g : Nat) (A : Array Value) : Prop where
  bel : Below w.heap.size w W
  a : Box W g A
theorem Tho.next {w W W' : World} {g : Nat} {A : Array Value} (h : Tho w W g A) (hb : Below W.heap.size W W') : Tho w W' g A :=
  ⟨h.bel.trans (hb.mono h.bel.size), h.a.below hb⟩

set_option maxRecDepth 100000 in
set_option maxHeartbeats 2000000 in
theorem int64_raw (w : World) (s1 : Int) (a1 a2 : Option Addr) (l1 c1 l2 c2 : Nat) (x n d : Int) (h : Rm w (.agg #[.int .i64 s1, .slice a1 l1 c1, .slice a2 l2 c2]) s1 n d) (he : s1 * n * 1 = x * d) (x0 : 0 ≤ x) (x1 : x < 4294967296) :
    Calls Tryz.prog 165 #[.agg #[.int .i64 s1, .slice a1 l1 c1, .slice a2 l2 c2]] w fun e w' => e = .returned (.tuple #[.int .i64 x, .int .i64 0]) ∧ Below w.heap.size w w' := by
  have hq : Rq w (.agg #[.int .i64 s1, .slice a1 l1 c1, .slice a2 l2 c2]) x 1 := ⟨by decide, s1, n, d, h, he⟩
  have KI := Lib.hid (fun W (hW : Below w.heap.size w W) => isIntR_any W _ x 1 (hq.below hW) (inR_int (by omega)))
  have KI1 : Hid (∀ W, Below w.heap.size w W → Calls Tryz.prog 73 #[.int .i64 (-9223372036854775808)] W (RqPost W (-9223372036854775808) 1)) := Lib.hid fun W _ => intR_any W _ (by decide) (by decide)
  have KI2 : Hid (∀ W, Below w.heap.size w W → Calls Tryz.prog 73 #[.int .i64 9223372036854775807] W (RqPost W 9223372036854775807 1)) := Lib.hid fun W _ => intR_any W _ (by decide) (by decide)
  have KC1 : Hid (∀ W vb, Below w.heap.size w W → Rq W vb (-9223372036854775808) 1 → Calls Tryz.prog 69 #[.agg #[.int .i64 s1, .slice a1 l1 c1, .slice a2 l2 c2], vb] W fun e w' => e = .returned (.int .i64 1) ∧ Below W.heap.size W w') := Lib.hid fun W vb hW hv => by
    have := cmpR_any W _ vb x 1 _ 1 (hq.below hW) hv (inR_int (by omega)) (inR_int (by decide))
    rwa [cmpI_gt (by omega)] at this
  have KC2 : Hid (∀ W vb, Below w.heap.size w W → Rq W vb 9223372036854775807 1 → Calls Tryz.prog 69 #[.agg #[.int .i64 s1, .slice a1 l1 c1, .slice a2 l2 c2], vb] W fun e w' => e = .returned (.int .i64 (-1)) ∧ Below W.heap.size W w') := Lib.hid fun W vb hW hv => by
    have := cmpR_any W _ vb x 1 _ 1 (hq.below hW) hv (inR_int (by omega)) (inR_int (by decide))
    rwa [cmpI_lt (by omega)] at this
  have hsn : s1 * n = x ∧ (x = 0 ∧ n = 0 ∨ s1 = 1 ∧ n = x) := by
    have hd := h.int (K := x) (D := 1) (by decide) he
    have hd1 : d = 1 := hd.mpr (Int.one_dvd _)
    rw [hd1, Int.mul_one, Int.mul_one] at he
    refine ⟨he, ?_⟩
    rcases h.pos.2.2 with ⟨q1, q2, _⟩ | ⟨q1 | q1, q2⟩
    · exact .inl ⟨by rw [← he, q2, Int.mul_zero], q2⟩
    · exact .inr ⟨q1, by rw [← he, q1, Int.one_mul]⟩
    · rw [q1] at he; omega
  have hdv : (decide ((1 : Int) ∣ x)) = true := by simp
  obtain ⟨a1', l1', c1', a2', l2', c2', e, ha, -⟩ := h.flds
  cases e
  have HN := Lib.hid ha
  have HS := Lib.hid hsn
  clear hq h he ha hsn
  go_enter Tryz.func165, Tryz.ntmps165
  go_wp2_with fail
  obtain ⟨g, hg⟩ : ∃ g, w.heap.size = g := ⟨_, rfl⟩
  have hX := (Below.refl w.heap.size w).alloc (Nat.le_refl _) (.cells #[.int .i64 s1, .slice a1 l1 c1, .slice a2 l2 c2] 65)
  have HT0 : Tho w _ w.heap.size _ := ⟨hX, Box.new w #[.int .i64 s1, .slice a1 l1 c1, .slice a2 l2 c2] 65⟩
  rw [hg] at HT0
  rw [hg] at ⊢
  clear hX hg
  generalize w.alloc (.cells #[.int .i64 s1, .slice a1 l1 c1, .slice a2 l2 c2] 65) = W0 at HT0 ⊢
  have hst : ∀ (U1 U2 : World), Hid (Tho w U1 g #[.int .i64 s1, .slice a1 l1 c1, .slice a2 l2 c2]) → Below U1.heap.size U1 U2 → Hid (Tho w U2 g #[.int .i64 s1, .slice a1 l1 c1, .slice a2 l2 c2]) ∧ U2.cell? ⟨g, 0, none⟩ = some (.int .i64 s1) ∧ U2.cell? ⟨g, 1, none⟩ = some (.slice a1 l1 c1) ∧ U2.cell? ⟨g, 2, none⟩ = some (.slice a2 l2 c2) := fun U1 U2 h hb =>
    have h2 := h.out.next hb
    ⟨Lib.hid h2, h2.a.cell 0, h2.a.cell 1, h2.a.cell 2⟩
  have HSt := Lib.hid hst
  clear hst
  have HT := Lib.hid HT0
  clear HT0
  refine (KI.out _ HT.out.bel).mono ?_
  rintro e w2 ⟨rfl, hb⟩
  obtain ⟨H2, p0, p1, p2⟩ := HSt.out _ _ HT hb
  rw [hdv]
  clear hb
  go_wp2_with fail
  obtain ⟨HA0, rA0_0, rA0_1, rA0_2⟩ := HSt.out _ _ H2 (drew_below w2)
  go_region_held3 (fun w' => w'.cell? ⟨g, 0, none⟩ = some (.int .i64 s1) ∧ w'.cell? ⟨g, 1, none⟩ = some (.slice a1 l1 c1) ∧ w'.cell? ⟨g, 2, none⟩ = some (.slice a2 l2 c2)) (first | exact ⟨rA4_0, rA4_1, rA4_2⟩ | exact ⟨rA3_0, rA3_1, rA3_2⟩ | exact ⟨rA2_0, rA2_1, rA2_2⟩ | exact ⟨rA1_0, rA1_1, rA1_2⟩ | exact ⟨rA0_0, rA0_1, rA0_2⟩)
    (first
      | (go_at_call 73; (with_reducible refine (KI1.out _ HA0.out.bel).mono ?_); rintro en wA1 ⟨zA1, rfl, hv, hb⟩; obtain ⟨sA1, oA1, lA1, cA1, qA1, mA1, kA1, rfl⟩ := hv.shape; obtain ⟨HA1, rA1_0, rA1_1, rA1_2⟩ := HSt.out _ _ HA0 hb; have VA1 := Lib.hid hv; clear hv hb)
      | (go_at_call 69; (with_reducible refine (KC1.out _ _ HA1.out.bel VA1.out).mono ?_); rintro en wA2 ⟨rfl, hb⟩; obtain ⟨HA2, rA2_0, rA2_1, rA2_2⟩ := HSt.out _ _ HA1 hb; have TAVA1_2 := Lib.hid (VA1.out.below hb); clear hb)
      | (go_at_call 73; (with_reducible refine (KI2.out _ HA2.out.bel).mono ?_); rintro en wA3 ⟨zA3, rfl, hv, hb⟩; obtain ⟨sA3, oA3, lA3, cA3, qA3, mA3, kA3, rfl⟩ := hv.shape; obtain ⟨HA3, rA3_0, rA3_1, rA3_2⟩ := HSt.out _ _ HA2 hb; have VA3 := Lib.hid hv; have TAVA1_3 := Lib.hid (TAVA1_2.out.below hb); clear hv hb)
      | (go_at_call 69; (with_reducible refine (KC2.out _ _ HA3.out.bel VA3.out).mono ?_); rintro en wA4 ⟨rfl, hb⟩; obtain ⟨HA4, rA4_0, rA4_1, rA4_2⟩ := HSt.out _ _ HA3 hb; have TAVA1_4 := Lib.hid (TAVA1_3.out.below hb); have TAVA3_4 := Lib.hid (VA3.out.below hb); clear hb))
  clear rA0_0 rA0_1 rA0_2 rA1_0 rA1_1 rA1_2 rA2_0 rA2_1 rA2_2 rA3_0 rA3_1 rA3_2 rA4_0 rA4_1 rA4_2
  have NAVA1 := TAVA1_4
  have NAVA3 := TAVA3_4
  have hcA := HA4.out.a.cell
  have HB0 := Lib.hid HA4.out.bel
  have HNX : Hid (n = x) := Lib.hid (by have := HS.out; omega)
  have hD := (HN.out.below HA4.out.bel).dg
  obtain ⟨p, cap, zs, e, hD, hv, hc⟩ := hD
  cases e
  have HDg := Lib.hid hD
  have HV := Lib.hid hv
  have hcap := hD.cap
  have HC0 := Lib.hid hc
  clear hD hv hc HN
  obtain ⟨l, HL⟩ : ∃ l, Hid (zs.length = l) := ⟨_, Lib.hid rfl⟩
  have hl := HL.out
  rw [hl] at hcap hcA HA4 ⊢
  clear hl
  have hll : l ≤ 2 := by
    rw [← HL.out]
    exact len_of_lt HDg.out.wd HC0.out HV.out (by rw [HNX.out]; exact Int.lt_trans x1 (show (4294967296 : Int) < pw ^ 2 by decide))
  have qq : IntKind.i64.wrap ((l : Int) - 1) = (l : Int) - 1 := IntWalk.i64_in _ (by omega)
  have qq2 : IntKind.i64.wrap ((zs.length : Int) - 1) = (l : Int) - 1 := by rw [HL.out]; exact qq
  go_wp2_with fail
  go_loopw [4, 5] (fun u v wr => ∃ m : Nat, m ≤ l ∧ u = .int .i64 (nv (zs.drop m)) ∧ v = .int .i64 ((m : Int) - 1) ∧ Hid (Below wA4.heap.size wA4 wr)) (fun _ v _ => (intOf v + 1).toNat)
  case atStart => exact ⟨l, Nat.le_refl _, by rw [← HL.out, List.drop_length]; rfl, rfl, Lib.hid (Below.refl _ _)⟩
  case round =>
    clear qq qq2
    obtain ⟨m, hm, rfl, rfl, hbi⟩ := hrel
    rcases m with _ | m
    · have hx : nv (zs.drop 0) = x := by rw [List.drop_zero, HV.out, HNX.out]
      rw [hx]
      clear hx
      go_wp2_with fail
      go_ret2
      exact ⟨rfl, HB0.out.trans (hbi.out.mono HB0.out.size)⟩
    · have e : (((m + 1 : Nat) : Int) - 1) = (m : Int) := by omega
      rw [e]
      clear e
      obtain ⟨b, off, rfl, hb, hrow⟩ := HDg.out.row (by intro e; rw [e] at HL; have := HL.out; simp at this; omega)
      have hz := nv_drop (za := zs) (m := m) (by rw [HL.out]; omega)
      have hle : nv (zs.drop m) ≤ x := by
        have h1 := nv_take_drop zs m (by rw [HL.out]; omega)
        rw [HV.out, HNX.out] at h1
        have h2 := nv_nonneg (Wd_take HDg.out.wd m)
        have h3 := Int.mul_le_mul_of_nonneg_right (show (1 : Int) ≤ pw ^ m from ppos m) (nv_nonneg (Wd_drop HDg.out.wd m))
        omega
      have hp0 := nv_nonneg (Wd_drop HDg.out.wd (m + 1))
      have hs1 : s1 = 1 := by
        have h1 : 0 < n := by
          rw [← HV.out]
          exact nv_pos HDg.out.wd HC0.out (by intro e; rw [e] at HL; have := HL.out; simp at this; omega)
        have := HS.out
        omega
      obtain ⟨a0, a1'⟩ := gd_bounds HDg.out.wd m
      have cA := (hbi.out.cell (p := ⟨b, off + m, none⟩) hb).trans (hrow m (by rw [HL.out]; omega))
      have hbx := HA4.out.a.below hbi.out
      have cX := hbx.cell
      have HZ := Lib.hid hz
      rw [show pw = 1000000000 from rfl] at hz
      subst hs1
      generalize gd zs m = z at *
      generalize nv (zs.drop (m + 1)) = acc at *
      obtain ⟨acc', HZ3⟩ : ∃ a, Hid (nv (zs.drop m) = a) := ⟨_, Lib.hid rfl⟩
      rw [HZ3.out] at hz hle
      have r1 : IntKind.i64.wrap (1000000000 * acc) = 1000000000 * acc := IntWalk.i64_in _ (by omega)
      have r2 : IntKind.i64.wrap (1 * z) = z := by rw [Int.one_mul]; exact IntWalk.i64_in _ (by omega)
      have r2' : IntKind.i64.wrap z = z := IntWalk.i64_in _ (by omega)
      have r3 : IntKind.i64.wrap (1000000000 * acc + z) = 1000000000 * acc + z := IntWalk.i64_in _ (by omega)
      have HZ2 : Hid (acc' = 1000000000 * acc + z) := Lib.hid (by omega)
      clear hz hrow hb hbx hcA HZ
      go_wp2_with fail
      go_quiet (fail)
      go_wp2_with fail
      go_roundw
      case rel => exact ⟨m, by omega, by rw [HZ3.out, HZ2.out], by go_num, Lib.hid (hbi.out.trans ((Drw.step wr nq).below _))⟩
      case measure => simp [intOf] <;> omega
end Go.Proofs.YtaeekmlnfjimjaaGreatDoor.R
/-
  The reference's formats: Check, asked, bias, top, Normal.
-/
namespace Go.Proofs.YtaeekmlnfjimjaaGreatDoor.R
open Go.RowKit Go.Shelf

set_option maxRecDepth 100000 in
theorem check_any (w : World) (E P : Int) :
    Calls Tryz.prog 164 #[.agg #[.int .i64 E, .int .i64 P]] w fun e w' => e = .returned (.int .i64 (if Fmt E P then 0 else 2)) ∧ Below w.heap.size w w' := by
  have hb := (Below.refl w.heap.size w).alloc (Nat.le_refl _) (.cells #[.int .i64 E, .int .i64 P] 23)
  have HB := Lib.hid hb
  clear hb
  by_cases h1 : E < 2
  · rw [if_neg (fun h => by have := h.1; omega)]
    go_enter Tryz.func164, Tryz.ntmps164
    go_wp2_with fail
    go_ret
    exact ⟨rfl, HB.out⟩
  by_cases h2 : 11 < E
  · rw [if_neg (fun h => by have := h.2.1; omega)]
    go_enter Tryz.func164, Tryz.ntmps164
    go_wp2_with fail
    go_ret
    exact ⟨rfl, HB.out⟩
  by_cases h3 : P < 2
  · rw [if_neg (fun h => by have := h.2.2.1; omega)]
    go_enter Tryz.func164, Tryz.ntmps164
    go_wp2_with fail
    go_ret
    exact ⟨rfl, HB.out⟩
  by_cases h4 : 113 < P
  · rw [if_neg (fun h => by have := h.2.2.2.1; omega)]
    go_enter Tryz.func164, Tryz.ntmps164
    go_wp2_with fail
    go_ret
    exact ⟨rfl, HB.out⟩
  have q : IntKind.i64.wrap (E + P) = E + P := IntWalk.i64_in _ (by omega)
  by_cases h5 : E + P < 5
  · rw [if_neg (fun h => by have := h.2.2.2.2; omega)]
    go_enter Tryz.func164, Tryz.ntmps164
    go_wp2_with fail
    go_ret
    exact ⟨rfl, HB.out⟩
  · rw [if_pos ⟨by omega, by omega, by omega, by omega, by omega⟩]
    go_enter Tryz.func164, Tryz.ntmps164
    go_wp2_with fail
    go_ret
    exact ⟨rfl, HB.out⟩

set_option maxRecDepth 100000 in
set_option maxHeartbeats 1000000 in
theorem bias_any (w : World) (E P : Int) (h0 : 2 ≤ E) (h1 : E ≤ 11) : Calls Tryz.prog 94 #[.agg #[.int .i64 E, .int .i64 P]] w fun e w' => e = .returned (.int .i64 (biasOf E)) ∧ Below w.heap.size w w' := by
  have hb := (Below.refl w.heap.size w).alloc (Nat.le_refl _) (.cells #[.int .i64 E, .int .i64 P] 23)
  have HB := Lib.hid hb
  have HC := Lib.hid (Box.new w #[.int .i64 E, .int .i64 P] 23)
  obtain ⟨b0, b1⟩ := bias_range h0 h1
  have HBb : Hid (2 ^ (E - 1).toNat = biasOf E + 1) := Lib.hid (by unfold biasOf; omega)
  have q0 : IntKind.i64.wrap (biasOf E + 1 - 1) = biasOf E := by rw [show biasOf E + 1 - 1 = biasOf E by omega]; exact IntWalk.i64_in _ (by omega)
  clear hb
  generalize hbo : biasOf E = bo at *
  clear hbo
  go_enter Tryz.func94, Tryz.ntmps94
  go_wp2_with fail
  generalize w.alloc (.cells #[.int .i64 E, .int .i64 P] 23) = W0 at *
  go_loopw [3, 4] (fun u v wr => ∃ (i : Nat) (x : Int), (i : Int) + 1 ≤ E ∧ u = .int .i64 x ∧ v = .int .i64 ((i : Int) + 1) ∧ Hid (x = 2 ^ i ∧ wr = W0)) (fun _ v _ => (E - intOf v).toNat)
  case atStart => exact ⟨0, 1, by omega, rfl, rfl, Lib.hid ⟨rfl, rfl⟩⟩
  case round =>
    obtain ⟨i, x, hi, rfl, rfl, hr⟩ := hrel
    obtain ⟨hx, hw⟩ := hr.out
    subst hw
    have cA := HC.out.cell
    have HX := Lib.hid hx
    have x1 : 1 ≤ x ∧ x ≤ 1024 := by
      have h2 := p2_le (show i ≤ 10 by omega)
      have h3 := p2pos i
      have h4 : (2 : Int) ^ 10 = 1024 := by decide
      omega
    clear hx hr
    by_cases hlt : (i : Int) + 1 < E
    · have q1 : IntKind.i64.wrap (2 * x) = 2 * x := IntWalk.i64_in _ (by omega)
      have q2 : IntKind.i64.wrap ((i : Int) + 1 + 1) = (i : Int) + 1 + 1 := IntWalk.i64_in _ (by omega)
      go_wp2_with fail
      go_roundw
      case rel => exact ⟨i + 1, 2 * x, by omega, rfl, by go_num, Lib.hid ⟨by rw [HX.out, Int.pow_succ, Int.mul_comm], by trivial⟩⟩
      case measure => simp [intOf] <;> omega
    · obtain rfl : x = bo + 1 := by
        have h5 := HX.out
        have h6 := HBb.out
        rw [show (E - 1).toNat = i by omega] at h6
        omega
      go_wp2_with fail
      go_ret
      exact ⟨rfl, HB.out⟩
set_option maxRecDepth 100000 in
theorem top_any (w : World) (E P : Int) (h0 : 2 ≤ E) (h1 : E ≤ 11) : Calls Tryz.prog 92 #[.agg #[.int .i64 E, .int .i64 P]] w fun e w' => e = .returned (.int .i64 (2 * biasOf E + 1)) ∧ Below w.heap.size w w' := by
  have hb := (Below.refl w.heap.size w).alloc (Nat.le_refl _) (.cells #[.int .i64 E, .int .i64 P] 23)
  have HB := Lib.hid hb
  have KB : Hid (∀ W, Calls Tryz.prog 94 #[.agg #[.int .i64 E, .int .i64 P]] W fun e w' => e = .returned (.int .i64 (biasOf E)) ∧ Below W.heap.size W w') := Lib.hid fun W => bias_any W E P h0 h1
  obtain ⟨b0, b1⟩ := bias_range h0 h1
  have q1 : IntKind.i64.wrap (2 * biasOf E) = 2 * biasOf E := IntWalk.i64_in _ (by omega)
  have q2 : IntKind.i64.wrap (2 * biasOf E + 1) = 2 * biasOf E + 1 := IntWalk.i64_in _ (by omega)
  clear hb
  go_enter Tryz.func92, Tryz.ntmps92
  go_wp2_with fail
  refine (KB.out _).mono ?_
  rintro e w1 ⟨rfl, hb⟩
  have HB1 := Lib.hid (HB.out.trans (hb.mono HB.out.size))
  clear hb
  go_wp2_with fail
  go_ret
  exact ⟨rfl, HB1.out⟩
end Go.Proofs.YtaeekmlnfjimjaaGreatDoor.R
