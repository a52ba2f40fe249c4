/-
  The reference's numbers: product, sum, comparison, quotient.
-/
import Derived.Test.YtaeekmlnfjimjaaGreatDoorP19
import Derived.Test.YtaeekmlnfjimjaaGreatDoorP29
set_option linter.unusedVariables false
set_option linter.unusedSimpArgs false
set_option linter.unusedSectionVars false
namespace Go.Proofs.YtaeekmlnfjimjaaGreatDoor.R
open Go.RowKit Go.Shelf

theorem Rm.shape {w : World} {v : Value} {s n d : Int} (h : Rm w v s n d) : ∃ s' bo lb cb bo2 lb2 cb2, v = .agg #[.int .i64 s', .slice bo lb cb, .slice bo2 lb2 cb2] := by
  obtain ⟨bo, lb, cb, bo2, lb2, cb2, rfl, _⟩ := h.ex
  exact ⟨_, _, _, _, _, _, _, rfl⟩
theorem Rq.shape {w : World} {v : Value} {K D : Int} (h : Rq w v K D) : ∃ s' bo lb cb bo2 lb2 cb2, v = .agg #[.int .i64 s', .slice bo lb cb, .slice bo2 lb2 cb2] := by
  obtain ⟨_, s, n, d, h, _⟩ := h
  exact h.shape
theorem Rm.only {w w' : World} {g : Nat} {v : Value} {s n d : Int} (h : Rm w v s n d) (hB : Box w g zcells) (ho : Only g w w') : Rm w' v s n d := by
  obtain ⟨bo, lb, cb, bo2, lb2, cb2, rfl, h1, h2⟩ := h.ex
  refine ⟨_, _, _, _, _, _, rfl, h1.only hB ho, ?_⟩
  rcases h2 with h | ⟨h3, h4, h5, h6, h7⟩
  · exact .inl h
  · exact .inr ⟨h3, h4, h5, h6, h7.only hB ho⟩
theorem Rq.only {w w' : World} {g : Nat} {v : Value} {K D : Int} (h : Rq w v K D) (hB : Box w g zcells) (ho : Only g w w') : Rq w' v K D := by
  obtain ⟨h0, s, n, d, h1, h2⟩ := h
  exact ⟨h0, s, n, d, h1.only hB ho, h2⟩

set_option maxRecDepth 100000 in
set_option maxHeartbeats 2000000 in
theorem mul_raw (w : World) (s1 s2 : Int) (a1 a2 b1 b2 : Option Addr) (l1 c1 l2 c2 m1 k1 m2 k2 : Nat) (K D d1 d2 n d : Int) (hw : IntKind.i64.wrap (s1 * s2) = s1 * s2)
    (K1 : Hid (∀ W, Below w.heap.size w W → Calls Tryz.prog 132 #[.slice a1 l1 c1, .slice b1 m1 k1] W (NewNt W n)))
    (KA : Hid (∀ W, Below w.heap.size w W → Calls Tryz.prog 133 #[.agg #[.int .i64 s1, .slice a1 l1 c1, .slice a2 l2 c2]] W (NewNt W d1)))
    (KB : Hid (∀ W, Below w.heap.size w W → Calls Tryz.prog 133 #[.agg #[.int .i64 s2, .slice b1 m1 k1, .slice b2 m2 k2]] W (NewNt W d2)))
    (KP : Hid (∀ W va vb, Below w.heap.size w W → Nt W va d1 → Nt W vb d2 → Calls Tryz.prog 132 #[va, vb] W (NewNt W d)))
    (KM : Hid (∀ W va vb, Below w.heap.size w W → Nt W va n → Nt W vb d → Calls Tryz.prog 139 #[.int .i64 (s1 * s2), va, vb] W (RqPost W K D))) :
    Calls Tryz.prog 110 #[.agg #[.int .i64 s1, .slice a1 l1 c1, .slice a2 l2 c2], .agg #[.int .i64 s2, .slice b1 m1 k1, .slice b2 m2 k2]] w (RqPost w K D) := by
  go_enter Tryz.func110, Tryz.ntmps110
  go_wp2_with fail
  obtain ⟨hA, hB, hC, hW0⟩ := boxes3 w #[.int .i64 s1, .slice a1 l1 c1, .slice a2 l2 c2] #[.int .i64 s2, .slice b1 m1 k1, .slice b2 m2 k2] zcells 65
  obtain ⟨g, hg⟩ : ∃ g, w.heap.size = g := ⟨_, rfl⟩
  have HT0 : Thr w _ w.heap.size _ _ _ := ⟨hW0, hA, hB, hC⟩
  rw [hg] at HT0
  have HG := Lib.hid hg
  rw [hg] at ⊢
  clear hA hB hC hW0 hg
  generalize ((w.alloc (.cells #[.int .i64 s1, .slice a1 l1 c1, .slice a2 l2 c2] 65)).alloc (.cells #[.int .i64 s2, .slice b1 m1 k1, .slice b2 m2 k2] 65)).alloc (.cells zcells 65) = W0 at HT0 ⊢
  have hst : ∀ (U1 U2 : World), Hid (Thr w U1 g #[.int .i64 s1, .slice a1 l1 c1, .slice a2 l2 c2] #[.int .i64 s2, .slice b1 m1 k1, .slice b2 m2 k2] zcells) → Below U1.heap.size U1 U2 → Hid (Thr w U2 g #[.int .i64 s1, .slice a1 l1 c1, .slice a2 l2 c2] #[.int .i64 s2, .slice b1 m1 k1, .slice b2 m2 k2] zcells) ∧ U2.cell? ⟨g, 0, none⟩ = some (.int .i64 s1) ∧ U2.cell? ⟨g, 1, none⟩ = some (.slice a1 l1 c1) ∧ U2.cell? ⟨g, 2, none⟩ = some (.slice a2 l2 c2) ∧ U2.cell? ⟨g + 1, 0, none⟩ = some (.int .i64 s2) ∧ U2.cell? ⟨g + 1, 1, none⟩ = some (.slice b1 m1 k1) ∧ U2.cell? ⟨g + 1, 2, none⟩ = some (.slice b2 m2 k2) := fun U1 U2 h hb =>
    have h2 := h.out.next hb
    ⟨Lib.hid h2, h2.a.cell 0, h2.a.cell 1, h2.a.cell 2, h2.b.cell 0, h2.b.cell 1, h2.b.cell 2⟩
  have HSt := Lib.hid hst
  clear hst
  have HT := Lib.hid HT0
  have hc0 := HT0.a.cell
  have hc1 := HT0.b.cell
  clear HT0
  obtain ⟨HA0, rA0_0, rA0_1, rA0_2, rA0_3, rA0_4, rA0_5⟩ := HSt.out _ _ HT (drew_below W0)
  go_region_held3 (fun w' => w'.cell? ⟨g, 0, none⟩ = some (.int .i64 s1) ∧ w'.cell? ⟨g, 1, none⟩ = some (.slice a1 l1 c1) ∧ w'.cell? ⟨g, 2, none⟩ = some (.slice a2 l2 c2) ∧ w'.cell? ⟨g + 1, 0, none⟩ = some (.int .i64 s2) ∧ w'.cell? ⟨g + 1, 1, none⟩ = some (.slice b1 m1 k1) ∧ w'.cell? ⟨g + 1, 2, none⟩ = some (.slice b2 m2 k2)) (first | exact ⟨rA5_0, rA5_1, rA5_2, rA5_3, rA5_4, rA5_5⟩ | exact ⟨rA4_0, rA4_1, rA4_2, rA4_3, rA4_4, rA4_5⟩ | exact ⟨rA3_0, rA3_1, rA3_2, rA3_3, rA3_4, rA3_5⟩ | exact ⟨rA2_0, rA2_1, rA2_2, rA2_3, rA2_4, rA2_5⟩ | exact ⟨rA1_0, rA1_1, rA1_2, rA1_3, rA1_4, rA1_5⟩ | exact ⟨rA0_0, rA0_1, rA0_2, rA0_3, rA0_4, rA0_5⟩ | (simp [go_sem, *]; done) | go_keep)
    (first
      | (go_at_call 132; (with_reducible refine (K1.out _ HA0.out.bel).mono ?_); rintro en wA1 ⟨zA1, rfl, hv, hb⟩; obtain ⟨oA1, lA1, cA1, rfl⟩ := hv.shape; obtain ⟨HA1, rA1_0, rA1_1, rA1_2, rA1_3, rA1_4, rA1_5⟩ := HSt.out _ _ HA0 hb; have VA1 := Lib.hid hv; clear hv hb)
      | (go_at_call 133; (with_reducible refine (KA.out _ HA1.out.bel).mono ?_); rintro en wA2 ⟨zA2, rfl, hv, hb⟩; obtain ⟨oA2, lA2, cA2, rfl⟩ := hv.shape; obtain ⟨HA2, rA2_0, rA2_1, rA2_2, rA2_3, rA2_4, rA2_5⟩ := HSt.out _ _ HA1 hb; have VA2 := Lib.hid hv; have TAVA1_2 := Lib.hid (VA1.out.below hb); clear hv hb)
      | (go_at_call 133; (with_reducible refine (KB.out _ HA2.out.bel).mono ?_); rintro en wA3 ⟨zA3, rfl, hv, hb⟩; obtain ⟨oA3, lA3, cA3, rfl⟩ := hv.shape; obtain ⟨HA3, rA3_0, rA3_1, rA3_2, rA3_3, rA3_4, rA3_5⟩ := HSt.out _ _ HA2 hb; have VA3 := Lib.hid hv; have TAVA1_3 := Lib.hid (TAVA1_2.out.below hb); have TAVA2_3 := Lib.hid (VA2.out.below hb); clear hv hb)
      | (go_at_call 132; (with_reducible refine (KP.out _ _ _ HA3.out.bel TAVA2_3.out VA3.out).mono ?_); rintro en wA4 ⟨zA4, rfl, hv, hb⟩; obtain ⟨oA4, lA4, cA4, rfl⟩ := hv.shape; obtain ⟨HA4, rA4_0, rA4_1, rA4_2, rA4_3, rA4_4, rA4_5⟩ := HSt.out _ _ HA3 hb; have VA4 := Lib.hid hv; have TAVA1_4 := Lib.hid (TAVA1_3.out.below hb); have TAVA2_4 := Lib.hid (TAVA2_3.out.below hb); have TAVA3_4 := Lib.hid (VA3.out.below hb); clear hv hb)
      | (go_at_call 139; (with_reducible refine (KM.out _ _ _ HA4.out.bel TAVA1_4.out VA4.out).mono ?_); rintro en wA5 ⟨zA5, rfl, hv, hb⟩; obtain ⟨sA5, oA5, lA5, cA5, qA5, mA5, kA5, rfl⟩ := hv.shape; obtain ⟨HA5, rA5_0, rA5_1, rA5_2, rA5_3, rA5_4, rA5_5⟩ := HSt.out _ _ HA4 hb; have VA5 := Lib.hid hv; have TAVA1_5 := Lib.hid (TAVA1_4.out.below hb); have TAVA2_5 := Lib.hid (TAVA2_4.out.below hb); have TAVA3_5 := Lib.hid (TAVA3_4.out.below hb); have TAVA4_5 := Lib.hid (VA4.out.below hb); have cC := HA5.out.c.cell; have fC := HA5.out.c.free; have lC := HA5.out.c.lt; clear hv hb))
  clear rA0_0 rA0_1 rA0_2 rA0_3 rA0_4 rA0_5 rA1_0 rA1_1 rA1_2 rA1_3 rA1_4 rA1_5 rA2_0 rA2_1 rA2_2 rA2_3 rA2_4 rA2_5 rA3_0 rA3_1 rA3_2 rA3_3 rA3_4 rA3_5 rA4_0 rA4_1 rA4_2 rA4_3 rA4_4 rA4_5 rA5_0 rA5_1 rA5_2 rA5_3 rA5_4 rA5_5
  have NAVA1 := TAVA1_5
  have NAVA2 := TAVA2_5
  have NAVA3 := TAVA3_5
  have NAVA4 := TAVA4_5
  go_wp2_with fail
  refine bodyPost_ret (v := .agg #[.int .i64 sA5, .slice oA5 lA5 cA5, .slice qA5 mA5 kA5]) (by simp [results, Tryz.results110, go_sem, cC, lC]) rfl ?_
  have ho := stored_only (g + 1 + 1) wA5 (.int .i64 sA5) (.slice oA5 lA5 cA5) (.slice qA5 mA5 kA5)
  exact ⟨_, rfl, VA5.out.only HA5.out.c ho, HA5.out.bel.trans (ho.below HA5.out.bel.size (by have := HG.out; omega))⟩

set_option maxRecDepth 100000 in
set_option maxHeartbeats 4000000 in
theorem add_raw (w : World) (s1 s2 : Int) (a1 a2 b1 b2 : Option Addr) (l1 c1 l2 c2 m1 k1 m2 k2 : Nat) (d1 d2 p r d : Int)
    (hs1 : s1 = 0 ∧ p = 0 ∨ s1 = 1 ∨ s1 = -1) (hs2 : s2 = 0 ∧ r = 0 ∨ s2 = 1 ∨ s2 = -1) (p0 : 0 ≤ p) (r0 : 0 ≤ r) (hpr : p + r < big)
    (KP1 : Hid (∀ W va, Below w.heap.size w W → Nt W va d2 → Calls Tryz.prog 132 #[.slice a1 l1 c1, va] W (NewNt W p)))
    (KP2 : Hid (∀ W va, Below w.heap.size w W → Nt W va d1 → Calls Tryz.prog 132 #[.slice b1 m1 k1, va] W (NewNt W r)))
    (KA : Hid (∀ W, Below w.heap.size w W → Calls Tryz.prog 133 #[.agg #[.int .i64 s1, .slice a1 l1 c1, .slice a2 l2 c2]] W (NewNt W d1)))
    (KB : Hid (∀ W, Below w.heap.size w W → Calls Tryz.prog 133 #[.agg #[.int .i64 s2, .slice b1 m1 k1, .slice b2 m2 k2]] W (NewNt W d2)))
    (KP : Hid (∀ W va vb, Below w.heap.size w W → Nt W va d1 → Nt W vb d2 → Calls Tryz.prog 132 #[va, vb] W (NewNt W d)))
    (KM : Hid (∀ W s va vb n, Below w.heap.size w W → (s = 0 ∨ s = 1 ∨ s = -1) → Nt W va n → n < big → Nt W vb d → Calls Tryz.prog 139 #[.int .i64 s, va, vb] W (RqPost W (s * n) d))) :
    Calls Tryz.prog 77 #[.agg #[.int .i64 s1, .slice a1 l1 c1, .slice a2 l2 c2], .agg #[.int .i64 s2, .slice b1 m1 k1, .slice b2 m2 k2]] w (RqPost w (s1 * p + s2 * r) d) := by
  have hbp : p < big := by omega
  have hbr : r < big := by omega
  have KS : Hid (∀ W va vb, Below w.heap.size w W → Nt W va p → Nt W vb r → Calls Tryz.prog 143 #[va, vb] W (NewNt W (p + r))) := Lib.hid fun W va vb _ h1 h2 => sum_any W va vb p r h1 h2 hbp hbr
  have KC : Hid (∀ W va vb, Nt W va p → Nt W vb r → Calls Tryz.prog 131 #[va, vb] W (DrewPost W (.int .i64 (cmpI p r)))) := Lib.hid fun W va vb h1 h2 => compare_any W va vb p r h1 h2 hbp hbr
  have HBd : Hid (p + r < big ∧ p < big ∧ r < big) := Lib.hid ⟨hpr, hbp, hbr⟩
  clear hpr hbp hbr
  go_enter Tryz.func77, Tryz.ntmps77
  go_wp2_with fail
  obtain ⟨hA, hB, hC, hW0⟩ := boxes3 w #[.int .i64 s1, .slice a1 l1 c1, .slice a2 l2 c2] #[.int .i64 s2, .slice b1 m1 k1, .slice b2 m2 k2] zcells 65
  obtain ⟨g, hg⟩ : ∃ g, w.heap.size = g := ⟨_, rfl⟩
  have HT0 : Thr w _ w.heap.size _ _ _ := ⟨hW0, hA, hB, hC⟩
  rw [hg] at HT0
  have HG := Lib.hid hg
  rw [hg] at ⊢
  clear hA hB hC hW0 hg
  generalize ((w.alloc (.cells #[.int .i64 s1, .slice a1 l1 c1, .slice a2 l2 c2] 65)).alloc (.cells #[.int .i64 s2, .slice b1 m1 k1, .slice b2 m2 k2] 65)).alloc (.cells zcells 65) = W0 at HT0 ⊢
  have hst : ∀ (U1 U2 : World), Hid (Thr w U1 g #[.int .i64 s1, .slice a1 l1 c1, .slice a2 l2 c2] #[.int .i64 s2, .slice b1 m1 k1, .slice b2 m2 k2] zcells) → Below U1.heap.size U1 U2 → Hid (Thr w U2 g #[.int .i64 s1, .slice a1 l1 c1, .slice a2 l2 c2] #[.int .i64 s2, .slice b1 m1 k1, .slice b2 m2 k2] zcells) ∧ U2.cell? ⟨g, 0, none⟩ = some (.int .i64 s1) ∧ U2.cell? ⟨g, 1, none⟩ = some (.slice a1 l1 c1) ∧ U2.cell? ⟨g, 2, none⟩ = some (.slice a2 l2 c2) ∧ U2.cell? ⟨g + 1, 0, none⟩ = some (.int .i64 s2) ∧ U2.cell? ⟨g + 1, 1, none⟩ = some (.slice b1 m1 k1) ∧ U2.cell? ⟨g + 1, 2, none⟩ = some (.slice b2 m2 k2) := fun U1 U2 h hb =>
    have h2 := h.out.next hb
    ⟨Lib.hid h2, h2.a.cell 0, h2.a.cell 1, h2.a.cell 2, h2.b.cell 0, h2.b.cell 1, h2.b.cell 2⟩
  have HSt := Lib.hid hst
  clear hst
  have HT := Lib.hid HT0
  have hc0 := HT0.a.cell
  have hc1 := HT0.b.cell
  clear HT0
  obtain ⟨HA0, rA0_0, rA0_1, rA0_2, rA0_3, rA0_4, rA0_5⟩ := HSt.out _ _ HT (drew_below W0)
  go_region_held3 (fun w' => w'.cell? ⟨g, 0, none⟩ = some (.int .i64 s1) ∧ w'.cell? ⟨g, 1, none⟩ = some (.slice a1 l1 c1) ∧ w'.cell? ⟨g, 2, none⟩ = some (.slice a2 l2 c2) ∧ w'.cell? ⟨g + 1, 0, none⟩ = some (.int .i64 s2) ∧ w'.cell? ⟨g + 1, 1, none⟩ = some (.slice b1 m1 k1) ∧ w'.cell? ⟨g + 1, 2, none⟩ = some (.slice b2 m2 k2)) (first | exact ⟨rA4_0, rA4_1, rA4_2, rA4_3, rA4_4, rA4_5⟩ | exact ⟨rA3_0, rA3_1, rA3_2, rA3_3, rA3_4, rA3_5⟩ | exact ⟨rA2_0, rA2_1, rA2_2, rA2_3, rA2_4, rA2_5⟩ | exact ⟨rA1_0, rA1_1, rA1_2, rA1_3, rA1_4, rA1_5⟩ | exact ⟨rA0_0, rA0_1, rA0_2, rA0_3, rA0_4, rA0_5⟩)
    (first
      | (go_at_call 133; (with_reducible refine (KB.out _ HA0.out.bel).mono ?_); rintro en wA1 ⟨zA1, rfl, hv, hb⟩; obtain ⟨oA1, lA1, cA1, rfl⟩ := hv.shape; obtain ⟨HA1, rA1_0, rA1_1, rA1_2, rA1_3, rA1_4, rA1_5⟩ := HSt.out _ _ HA0 hb; have VA1 := Lib.hid hv; clear hv hb)
      | (go_at_call 132; (with_reducible refine (KP1.out _ _ HA1.out.bel VA1.out).mono ?_); rintro en wA2 ⟨zA2, rfl, hv, hb⟩; obtain ⟨oA2, lA2, cA2, rfl⟩ := hv.shape; obtain ⟨HA2, rA2_0, rA2_1, rA2_2, rA2_3, rA2_4, rA2_5⟩ := HSt.out _ _ HA1 hb; have VA2 := Lib.hid hv; have TAVA1_2 := Lib.hid (VA1.out.below hb); clear hv hb)
      | (go_at_call 133; (with_reducible refine (KA.out _ HA2.out.bel).mono ?_); rintro en wA3 ⟨zA3, rfl, hv, hb⟩; obtain ⟨oA3, lA3, cA3, rfl⟩ := hv.shape; obtain ⟨HA3, rA3_0, rA3_1, rA3_2, rA3_3, rA3_4, rA3_5⟩ := HSt.out _ _ HA2 hb; have VA3 := Lib.hid hv; have TAVA1_3 := Lib.hid (TAVA1_2.out.below hb); have TAVA2_3 := Lib.hid (VA2.out.below hb); clear hv hb)
      | (go_at_call 132; (with_reducible refine (KP2.out _ _ HA3.out.bel VA3.out).mono ?_); rintro en wA4 ⟨zA4, rfl, hv, hb⟩; obtain ⟨oA4, lA4, cA4, rfl⟩ := hv.shape; obtain ⟨HA4, rA4_0, rA4_1, rA4_2, rA4_3, rA4_4, rA4_5⟩ := HSt.out _ _ HA3 hb; have VA4 := Lib.hid hv; have TAVA1_4 := Lib.hid (TAVA1_3.out.below hb); have TAVA2_4 := Lib.hid (TAVA2_3.out.below hb); have TAVA3_4 := Lib.hid (VA3.out.below hb); clear hv hb))
  clear rA0_0 rA0_1 rA0_2 rA0_3 rA0_4 rA0_5 rA1_0 rA1_1 rA1_2 rA1_3 rA1_4 rA1_5 rA2_0 rA2_1 rA2_2 rA2_3 rA2_4 rA2_5 rA3_0 rA3_1 rA3_2 rA3_3 rA3_4 rA3_5 rA4_0 rA4_1 rA4_2 rA4_3 rA4_4 rA4_5
  have NAVA1 := TAVA1_4
  have NAVA2 := TAVA2_4
  have NAVA3 := TAVA3_4
  go_wp2_with fail
  obtain ⟨HB0, rB0_0, rB0_1, rB0_2, rB0_3, rB0_4, rB0_5⟩ := HSt.out _ _ HA4 (drew_below wA4)
  have NAVA2B0 := Lib.hid (NAVA2.out.below (drew_below wA4))
  have VA4B0 := Lib.hid (VA4.out.below (drew_below wA4))
  go_region_held3 (fun w' => w'.cell? ⟨g, 0, none⟩ = some (.int .i64 s1) ∧ w'.cell? ⟨g, 1, none⟩ = some (.slice a1 l1 c1) ∧ w'.cell? ⟨g, 2, none⟩ = some (.slice a2 l2 c2) ∧ w'.cell? ⟨g + 1, 0, none⟩ = some (.int .i64 s2) ∧ w'.cell? ⟨g + 1, 1, none⟩ = some (.slice b1 m1 k1) ∧ w'.cell? ⟨g + 1, 2, none⟩ = some (.slice b2 m2 k2)) (first | exact ⟨rB3_0, rB3_1, rB3_2, rB3_3, rB3_4, rB3_5⟩ | exact ⟨rB2_0, rB2_1, rB2_2, rB2_3, rB2_4, rB2_5⟩ | exact ⟨rB1_0, rB1_1, rB1_2, rB1_3, rB1_4, rB1_5⟩ | exact ⟨rB0_0, rB0_1, rB0_2, rB0_3, rB0_4, rB0_5⟩)
    (first
      | (go_at_call 133; (with_reducible refine (KA.out _ HB0.out.bel).mono ?_); rintro en wB1 ⟨zB1, rfl, hv, hb⟩; obtain ⟨oB1, lB1, cB1, rfl⟩ := hv.shape; obtain ⟨HB1, rB1_0, rB1_1, rB1_2, rB1_3, rB1_4, rB1_5⟩ := HSt.out _ _ HB0 hb; have VB1 := Lib.hid hv; have TBNAVA2_1 := Lib.hid (NAVA2B0.out.below hb); have TBVA4_1 := Lib.hid (VA4B0.out.below hb); clear hv hb)
      | (go_at_call 133; (with_reducible refine (KB.out _ HB1.out.bel).mono ?_); rintro en wB2 ⟨zB2, rfl, hv, hb⟩; obtain ⟨oB2, lB2, cB2, rfl⟩ := hv.shape; obtain ⟨HB2, rB2_0, rB2_1, rB2_2, rB2_3, rB2_4, rB2_5⟩ := HSt.out _ _ HB1 hb; have VB2 := Lib.hid hv; have TBNAVA2_2 := Lib.hid (TBNAVA2_1.out.below hb); have TBVA4_2 := Lib.hid (TBVA4_1.out.below hb); have TBVB1_2 := Lib.hid (VB1.out.below hb); clear hv hb)
      | (go_at_call 132; (with_reducible refine (KP.out _ _ _ HB2.out.bel TBVB1_2.out VB2.out).mono ?_); rintro en wB3 ⟨zB3, rfl, hv, hb⟩; obtain ⟨oB3, lB3, cB3, rfl⟩ := hv.shape; obtain ⟨HB3, rB3_0, rB3_1, rB3_2, rB3_3, rB3_4, rB3_5⟩ := HSt.out _ _ HB2 hb; have VB3 := Lib.hid hv; have TBNAVA2_3 := Lib.hid (TBNAVA2_2.out.below hb); have TBVA4_3 := Lib.hid (TBVA4_2.out.below hb); have TBVB1_3 := Lib.hid (TBVB1_2.out.below hb); have TBVB2_3 := Lib.hid (VB2.out.below hb); clear hv hb))
  clear rB0_0 rB0_1 rB0_2 rB0_3 rB0_4 rB0_5 rB1_0 rB1_1 rB1_2 rB1_3 rB1_4 rB1_5 rB2_0 rB2_1 rB2_2 rB2_3 rB2_4 rB2_5 rB3_0 rB3_1 rB3_2 rB3_3 rB3_4 rB3_5
  have NBNAVA2 := TBNAVA2_3
  have NBVA4 := TBVA4_3
  have NBVB1 := TBVB1_3
  have NBVB2 := TBVB2_3
  have HP := TBNAVA2_3
  have HR := TBVA4_3
  have HQ := VB3
  have hcA := HB3.out.a.cell
  have hcB := HB3.out.b.cell
  by_cases z1 : s1 = 0
  · subst z1
    go_wp2_with fail
    refine (KS.out _ _ _ HB3.out.bel HP.out HR.out).mono ?_
    rintro e w4 ⟨v4, rfl, hv, hb⟩
    obtain ⟨o4, l4, c4, rfl⟩ := hv.shape
    have H4 := Lib.hid (HB3.out.next hb)
    have V4 := Lib.hid hv
    have Q4 := Lib.hid (HQ.out.below hb)
    clear hv hb
    go_wp2_with fail
    refine (KM.out _ _ _ _ _ H4.out.bel (by omega) V4.out HBd.out.1 Q4.out).mono ?_
    rintro e w5 ⟨v5, rfl, hv, hb⟩
    obtain ⟨s5, o5, l5, c5, q5, m5, k5, rfl⟩ := hv.shape
    have H5 := Lib.hid (H4.out.next hb)
    have V5 := Lib.hid hv
    have cC := H5.out.c.cell
    have fC := H5.out.c.free
    have lC := H5.out.c.lt
    clear hv hb hcA hcB
    go_wp2_with fail
    refine bodyPost_ret (v := .agg #[.int .i64 s5, .slice o5 l5 c5, .slice q5 m5 k5]) (by simp [results, Tryz.results77, go_sem, cC, lC]) rfl ?_
    have ho := stored_only (g + 1 + 1) w5 (.int .i64 s5) (.slice o5 l5 c5) (.slice q5 m5 k5)
    refine ⟨_, rfl, ?_, H5.out.bel.trans (ho.below H5.out.bel.size (by have := HG.out; omega))⟩
    have hV := V5.out.only H5.out.c ho
    have e : s2 * (p + r) = 0 * p + s2 * r := by
      rcases hs1 with ⟨_, h⟩ | h | h
      · rw [h]; simp
      all_goals omega
    rw [← e]; exact hV
  · have z1' : (s1 == 0) = false := by simp [z1]
    by_cases z2 : s2 = 0
    · subst z2
      go_wp2_with fail
      refine (KS.out _ _ _ HB3.out.bel HP.out HR.out).mono ?_
      rintro e w4 ⟨v4, rfl, hv, hb⟩
      obtain ⟨o4, l4, c4, rfl⟩ := hv.shape
      have H4 := Lib.hid (HB3.out.next hb)
      have V4 := Lib.hid hv
      have Q4 := Lib.hid (HQ.out.below hb)
      clear hv hb
      go_wp2_with fail
      refine (KM.out _ _ _ _ _ H4.out.bel (by omega) V4.out HBd.out.1 Q4.out).mono ?_
      rintro e w5 ⟨v5, rfl, hv, hb⟩
      obtain ⟨s5, o5, l5, c5, q5, m5, k5, rfl⟩ := hv.shape
      have H5 := Lib.hid (H4.out.next hb)
      have V5 := Lib.hid hv
      have cC := H5.out.c.cell
      have fC := H5.out.c.free
      have lC := H5.out.c.lt
      clear hv hb hcA hcB
      go_wp2_with fail
      refine bodyPost_ret (v := .agg #[.int .i64 s5, .slice o5 l5 c5, .slice q5 m5 k5]) (by simp [results, Tryz.results77, go_sem, cC, lC]) rfl ?_
      have ho := stored_only (g + 1 + 1) w5 (.int .i64 s5) (.slice o5 l5 c5) (.slice q5 m5 k5)
      refine ⟨_, rfl, ?_, H5.out.bel.trans (ho.below H5.out.bel.size (by have := HG.out; omega))⟩
      have hV := V5.out.only H5.out.c ho
      have e : s1 * (p + r) = s1 * p + 0 * r := by
        rcases hs2 with ⟨_, h⟩ | h | h
        · rw [h]; simp
        all_goals omega
      rw [← e]; exact hV
    · have z2' : (s2 == 0) = false := by simp [z2]
      by_cases z3 : s1 = s2
      · have z3' : (s1 == s2) = true := by simp [z3]
        clear z1 z2
        have Z3 := Lib.hid z3
        clear z3
        go_wp2_with fail
        refine (KS.out _ _ _ HB3.out.bel HP.out HR.out).mono ?_
        rintro e w4 ⟨v4, rfl, hv, hb⟩
        obtain ⟨o4, l4, c4, rfl⟩ := hv.shape
        have H4 := Lib.hid (HB3.out.next hb)
        have V4 := Lib.hid hv
        have Q4 := Lib.hid (HQ.out.below hb)
        clear hv hb
        go_wp2_with fail
        refine (KM.out _ _ _ _ _ H4.out.bel (by omega) V4.out HBd.out.1 Q4.out).mono ?_
        rintro e w5 ⟨v5, rfl, hv, hb⟩
        obtain ⟨s5, o5, l5, c5, q5, m5, k5, rfl⟩ := hv.shape
        have H5 := Lib.hid (H4.out.next hb)
        have V5 := Lib.hid hv
        have cC := H5.out.c.cell
        have fC := H5.out.c.free
        have lC := H5.out.c.lt
        clear hv hb hcA hcB
        go_wp2_with fail
        refine bodyPost_ret (v := .agg #[.int .i64 s5, .slice o5 l5 c5, .slice q5 m5 k5]) (by simp [results, Tryz.results77, go_sem, cC, lC]) rfl ?_
        have ho := stored_only (g + 1 + 1) w5 (.int .i64 s5) (.slice o5 l5 c5) (.slice q5 m5 k5)
        refine ⟨_, rfl, ?_, H5.out.bel.trans (ho.below H5.out.bel.size (by have := HG.out; omega))⟩
        have hV := V5.out.only H5.out.c ho
        rw [show s1 * p + s2 * r = s1 * (p + r) by rw [← Z3.out, Int.mul_add]]; exact hV
      · have z3' : (s1 == s2) = false := by simp [z3]
        have E12 : Hid (s1 = -s2) := Lib.hid (by omega)
        clear z1 z2
        go_wp2_with fail
        refine (KC.out _ _ _ HP.out HR.out).mono ?_
        rintro e w8 ⟨rfl, hd⟩
        have H8 := Lib.hid (HB3.out.next (hd.below _))
        have HP8 := Lib.hid (HP.out.below (hd.below _))
        have HR8 := Lib.hid (HR.out.below (hd.below _))
        have HQ8 := Lib.hid (HQ.out.below (hd.below _))
        clear hd hcA hcB
        by_cases hlt : p < r
        · have hcm : cmpI p r = -1 := cmpI_lt hlt
          rw [hcm]
          have KD2 : Hid (∀ W va vb, Below w.heap.size w W → Nt W va r → Nt W vb p → Calls Tryz.prog 144 #[va, vb] W (NewNt W (r - p))) := Lib.hid fun W va vb _ h1 h2 => difference_any W va vb r p h1 h2 HBd.out.2.2 (by omega)
          have KMC : Hid (∀ W va vb, Below w.heap.size w W → Nt W va (r - p) → Nt W vb d → Calls Tryz.prog 139 #[.int .i64 s2, va, vb] W (RqPost W (s2 * (r - p)) d)) := Lib.hid fun W va vb hW h1 h2 => KM.out W s2 va vb (r - p) hW (by omega) h1 (by have := HBd.out.2.2; omega) h2
          go_wp2_with fail
          obtain ⟨HC0, rC0_0, rC0_1, rC0_2, rC0_3, rC0_4, rC0_5⟩ := HSt.out _ _ H8 (drew_below w8)
          have HP8C0 := Lib.hid (HP8.out.below (drew_below w8))
          have HR8C0 := Lib.hid (HR8.out.below (drew_below w8))
          have HQ8C0 := Lib.hid (HQ8.out.below (drew_below w8))
          go_region_held3 (fun w' => w'.cell? ⟨g, 0, none⟩ = some (.int .i64 s1) ∧ w'.cell? ⟨g, 1, none⟩ = some (.slice a1 l1 c1) ∧ w'.cell? ⟨g, 2, none⟩ = some (.slice a2 l2 c2) ∧ w'.cell? ⟨g + 1, 0, none⟩ = some (.int .i64 s2) ∧ w'.cell? ⟨g + 1, 1, none⟩ = some (.slice b1 m1 k1) ∧ w'.cell? ⟨g + 1, 2, none⟩ = some (.slice b2 m2 k2)) (first | exact ⟨rC2_0, rC2_1, rC2_2, rC2_3, rC2_4, rC2_5⟩ | exact ⟨rC1_0, rC1_1, rC1_2, rC1_3, rC1_4, rC1_5⟩ | exact ⟨rC0_0, rC0_1, rC0_2, rC0_3, rC0_4, rC0_5⟩ | (simp [go_sem, *]; done) | go_keep)
            (first
              | (go_at_call 144; (with_reducible refine (KD2.out _ _ _ HC0.out.bel HR8C0.out HP8C0.out).mono ?_); rintro en wC1 ⟨zC1, rfl, hv, hb⟩; obtain ⟨oC1, lC1, cC1, rfl⟩ := hv.shape; obtain ⟨HC1, rC1_0, rC1_1, rC1_2, rC1_3, rC1_4, rC1_5⟩ := HSt.out _ _ HC0 hb; have VC1 := Lib.hid hv; have TCHP8_1 := Lib.hid (HP8C0.out.below hb); have TCHR8_1 := Lib.hid (HR8C0.out.below hb); have TCHQ8_1 := Lib.hid (HQ8C0.out.below hb); clear hv hb)
              | (go_at_call 139; (with_reducible refine (KMC.out _ _ _ HC1.out.bel VC1.out TCHQ8_1.out).mono ?_); rintro en wC2 ⟨zC2, rfl, hv, hb⟩; obtain ⟨sC2, oC2, lC2, cC2, qC2, mC2, kC2, rfl⟩ := hv.shape; obtain ⟨HC2, rC2_0, rC2_1, rC2_2, rC2_3, rC2_4, rC2_5⟩ := HSt.out _ _ HC1 hb; have VC2 := Lib.hid hv; have TCHP8_2 := Lib.hid (TCHP8_1.out.below hb); have TCHR8_2 := Lib.hid (TCHR8_1.out.below hb); have TCHQ8_2 := Lib.hid (TCHQ8_1.out.below hb); have TCVC1_2 := Lib.hid (VC1.out.below hb); have cC := HC2.out.c.cell; have fC := HC2.out.c.free; have lC := HC2.out.c.lt; clear hv hb))
          clear rC0_0 rC0_1 rC0_2 rC0_3 rC0_4 rC0_5 rC1_0 rC1_1 rC1_2 rC1_3 rC1_4 rC1_5 rC2_0 rC2_1 rC2_2 rC2_3 rC2_4 rC2_5
          have NCHP8 := TCHP8_2
          have NCHR8 := TCHR8_2
          have NCHQ8 := TCHQ8_2
          have NCVC1 := TCVC1_2
          go_wp2_with fail
          refine bodyPost_ret (v := .agg #[.int .i64 sC2, .slice oC2 lC2 cC2, .slice qC2 mC2 kC2]) (by simp [results, Tryz.results77, go_sem, cC, lC]) rfl ?_
          have ho := stored_only (g + 1 + 1) wC2 (.int .i64 sC2) (.slice oC2 lC2 cC2) (.slice qC2 mC2 kC2)
          refine ⟨_, rfl, ?_, HC2.out.bel.trans (ho.below HC2.out.bel.size (by have := HG.out; omega))⟩
          have hV := VC2.out.only HC2.out.c ho
          rw [show s1 * p + s2 * r = s2 * (r - p) by rw [E12.out, Int.mul_sub, Int.neg_mul]; omega]; exact hV
        · have hcm : ¬ cmpI p r < 0 := by unfold cmpI; rw [if_neg hlt]; split <;> omega
          have KD1 : Hid (∀ W va vb, Below w.heap.size w W → Nt W va p → Nt W vb r → Calls Tryz.prog 144 #[va, vb] W (NewNt W (p - r))) := Lib.hid fun W va vb _ h1 h2 => difference_any W va vb p r h1 h2 HBd.out.2.1 (by omega)
          have KMD : Hid (∀ W va vb, Below w.heap.size w W → Nt W va (p - r) → Nt W vb d → Calls Tryz.prog 139 #[.int .i64 s1, va, vb] W (RqPost W (s1 * (p - r)) d)) := Lib.hid fun W va vb hW h1 h2 => KM.out W s1 va vb (p - r) hW (by omega) h1 (by have := HBd.out.2.1; omega) h2
          go_wp2_with fail
          obtain ⟨HD0, rD0_0, rD0_1, rD0_2, rD0_3, rD0_4, rD0_5⟩ := HSt.out _ _ H8 (drew_below w8)
          have HP8D0 := Lib.hid (HP8.out.below (drew_below w8))
          have HR8D0 := Lib.hid (HR8.out.below (drew_below w8))
          have HQ8D0 := Lib.hid (HQ8.out.below (drew_below w8))
          go_region_held3 (fun w' => w'.cell? ⟨g, 0, none⟩ = some (.int .i64 s1) ∧ w'.cell? ⟨g, 1, none⟩ = some (.slice a1 l1 c1) ∧ w'.cell? ⟨g, 2, none⟩ = some (.slice a2 l2 c2) ∧ w'.cell? ⟨g + 1, 0, none⟩ = some (.int .i64 s2) ∧ w'.cell? ⟨g + 1, 1, none⟩ = some (.slice b1 m1 k1) ∧ w'.cell? ⟨g + 1, 2, none⟩ = some (.slice b2 m2 k2)) (first | exact ⟨rD2_0, rD2_1, rD2_2, rD2_3, rD2_4, rD2_5⟩ | exact ⟨rD1_0, rD1_1, rD1_2, rD1_3, rD1_4, rD1_5⟩ | exact ⟨rD0_0, rD0_1, rD0_2, rD0_3, rD0_4, rD0_5⟩ | (simp [go_sem, *]; done) | go_keep)
            (first
              | (go_at_call 144; (with_reducible refine (KD1.out _ _ _ HD0.out.bel HP8D0.out HR8D0.out).mono ?_); rintro en wD1 ⟨zD1, rfl, hv, hb⟩; obtain ⟨oD1, lD1, cD1, rfl⟩ := hv.shape; obtain ⟨HD1, rD1_0, rD1_1, rD1_2, rD1_3, rD1_4, rD1_5⟩ := HSt.out _ _ HD0 hb; have VD1 := Lib.hid hv; have TDHP8_1 := Lib.hid (HP8D0.out.below hb); have TDHR8_1 := Lib.hid (HR8D0.out.below hb); have TDHQ8_1 := Lib.hid (HQ8D0.out.below hb); clear hv hb)
              | (go_at_call 139; (with_reducible refine (KMD.out _ _ _ HD1.out.bel VD1.out TDHQ8_1.out).mono ?_); rintro en wD2 ⟨zD2, rfl, hv, hb⟩; obtain ⟨sD2, oD2, lD2, cD2, qD2, mD2, kD2, rfl⟩ := hv.shape; obtain ⟨HD2, rD2_0, rD2_1, rD2_2, rD2_3, rD2_4, rD2_5⟩ := HSt.out _ _ HD1 hb; have VD2 := Lib.hid hv; have TDHP8_2 := Lib.hid (TDHP8_1.out.below hb); have TDHR8_2 := Lib.hid (TDHR8_1.out.below hb); have TDHQ8_2 := Lib.hid (TDHQ8_1.out.below hb); have TDVD1_2 := Lib.hid (VD1.out.below hb); have cC := HD2.out.c.cell; have fC := HD2.out.c.free; have lC := HD2.out.c.lt; clear hv hb))
          clear rD0_0 rD0_1 rD0_2 rD0_3 rD0_4 rD0_5 rD1_0 rD1_1 rD1_2 rD1_3 rD1_4 rD1_5 rD2_0 rD2_1 rD2_2 rD2_3 rD2_4 rD2_5
          have NDHP8 := TDHP8_2
          have NDHR8 := TDHR8_2
          have NDHQ8 := TDHQ8_2
          have NDVD1 := TDVD1_2
          go_wp2_with fail
          refine bodyPost_ret (v := .agg #[.int .i64 sD2, .slice oD2 lD2 cD2, .slice qD2 mD2 kD2]) (by simp [results, Tryz.results77, go_sem, cC, lC]) rfl ?_
          have ho := stored_only (g + 1 + 1) wD2 (.int .i64 sD2) (.slice oD2 lD2 cD2) (.slice qD2 mD2 kD2)
          refine ⟨_, rfl, ?_, HD2.out.bel.trans (ho.below HD2.out.bel.size (by have := HG.out; omega))⟩
          have hV := VD2.out.only HD2.out.c ho
          rw [show s1 * p + s2 * r = s1 * (p - r) by rw [show s2 = -s1 by have := E12.out; omega, Int.mul_sub, Int.neg_mul]; omega]; exact hV
end Go.Proofs.YtaeekmlnfjimjaaGreatDoor.R
