/-
  Regions that draw their order: one operation more, and all of them.
-/
import Derived.Test.YtjdjmeiahchblaaGreatDoorCanP
namespace Go.Canon

section
variable {P : Program} {call : CF → St → Option (Value × St)} {all : Array Oper} {sz : Nat} {l : List Ent} {tmE tm0 : Tree Value} {s0 sE : St} {F : Nat} {ρ0 : Map} {w0 : World}

/-- of two operations that must not meet, the one is among those that have come up exactly if the text says so -/
theorem ord_done {D : Nat → Bool} (hb : backB all = true) (hcl : Closed all D) {i j : Nat} {o : Oper} (hi : i < all.size) (hj : all[j]? = some o) (hD : D j = false) (hr : ∀ e ∈ o.after.toList, Region.binds .any e = true → D e.on = true) (h : Ord all i j) : D i = true ↔ i < j := by
  rcases h with ⟨h1, h2⟩ | ⟨h1, h2⟩
  · exact ⟨fun _ => h1, fun _ => hcl.prior_ready hb hj hr i h2⟩
  · refine ⟨fun h3 => ?_, fun h3 => by omega⟩
    have := hcl.prior hb i hi h3 j h2
    rw [hD] at this; cases this

theorem RI.start (hl : l.length = all.size) (h0 : sF l sE 0 = s0) (ht : tmF l tmE 0 = tm0) (ho : ∀ i, i < all.size → OneOp l sE i) (hsteps : ∀ i o, all[i]? = some o → StepAt P call all sz o l tmE sE i)
    {a : Act} {w1 : World} (hfr : Fresh ρ0 s0 sE) (hi : Inv F ρ0 s0 w0) (hg : GR P ρ0) (htm : TRel ρ0 tm0 sz a.tmps) (hw : w1.heap = w0.heap ∧ w1.os = w0.os ∧ w1.output = w0.output ∧ w1.tape = w0.tape) :
    RI P all sz l tmE s0 sE F ρ0 w0 (fun i => decide (all.size ≤ i)) ρ0 w1 a.tmps := by
  have hE := sF_end (sE := sE) hl
  have m : Mono s0 sE := by have := mono_le ho (Nat.zero_le all.size) (Nat.le_refl _); rwa [h0, hE] at this
  have i1 := hi.drew hw.1
  refine ⟨i1.inj, i1.lt, hg, ?_, htm.1, ?_, ?_, ?_, ?_⟩
  · intro b hF k hk hcons hb
    -- nobody who writes it comes before k
    have hno : ∀ i, 0 ≤ i → i < k → (wF l i).testBit b = false := by
      intro i _ hi2
      cases hwb : (wF l i).testBit b with
      | false => rfl
      | true =>
        have := (hcons i (by omega) hwb).2 hi2
        simp at this; omega
    have hb0 : b < s0.n := by
      apply Classical.byContradiction
      intro hn
      obtain ⟨q, q1, q2, q3⟩ := made ho (b := b) k 0 (by omega) (by rw [h0]; omega) (by rwa [Nat.zero_add])
      rw [hno q q1 (by omega)] at q3; cases q3
    rw [get_le ho (Nat.zero_le k) hk hno (by rw [h0]; exact hb0), h0]
    exact i1.at_ b hb0 hF
  · intro t k hk hcons
    have hno : ∀ i p, 0 ≤ i → i < k → all[i]? = some p → p.dst ≠ some t := by
      intro i p _ hi2 hp hd
      have := (hcons i p hp hd).2 hi2
      simp at this; omega
    rw [tm_le hsteps (Nat.zero_le k) hk hno, ht]
    exact htm.2 t
  · intro i hi2 _ b h1 h2
    refine hfr b ?_ ?_
    · have := (mono_le ho (Nat.zero_le i) (by omega)).n; rw [h0] at this; omega
    · have := (mono_le ho (show i + 1 ≤ all.size by omega) (Nat.le_refl _)).n; rw [hE] at this; omega
  · refine ⟨.refl _, m.n, m.get, fun _ _ _ => rfl, fun _ _ => rfl, fun _ _ => .inl rfl, fun c _ _ => by rw [hw.1], by rw [hw.1]; exact Nat.le_refl _, fun b c h1 h2 h3 => ?_, hw.2.1, hw.2.2.1, hw.2.2.2⟩
    rw [hfr b h1 h2] at h3; cases h3
  · intro j o hj hD
    have : j < all.size := (Array.getElem?_eq_some_iff.1 hj).1
    simp at hD; omega

/-- one operation more -/
theorem RI.step (hP : NG P) (hcall : RunOk P call) (hl : l.length = all.size) (h0 : sF l sE 0 = s0) (ho : ∀ i, i < all.size → OneOp l sE i) (hsteps : ∀ i o, all[i]? = some o → StepAt P call all sz o l tmE sE i)
    (hok : okRegion all = true) (hc : confAll (bef all) [] l = true) (hF : Sub sE.fp F) {D : Nat → Bool} {ρ : Map} {w : World} {a : Act} (hR : RI P all sz l tmE s0 sE F ρ0 w0 D ρ w a.tmps)
    {j : Nat} {o : Oper} (hj : all[j]? = some o) (hD : D j = false) (hr : ∀ e ∈ o.after.toList, Region.binds .any e = true → D e.on = true) :
    ∃ ρ1 w1 v', RI P all sz l tmE s0 sE F ρ0 w0 (fun i => i == j || D i) ρ1 w1 (a.put o.dst v').tmps ∧
      ∀ (b : Frame) (rest : List Nat) (k : List Item) (cs : List Frame), Steps P (lone (b.atR a (.inRegion all (j :: rest) :: k)) cs w) (lone (b.atR (a.put o.dst v') (.inRegion all rest :: k)) cs w1) := by
  have hE := sF_end (sE := sE) hl
  have hjn : j < all.size := (Array.getElem?_eq_some_iff.1 hj).1
  unfold okRegion at hok
  rw [Bool.and_eq_true] at hok
  obtain ⟨hb, hap⟩ := hok
  have hoj := ho j hjn
  have mE : Mono (sF l sE (j + 1)) sE := by have := mono_le ho (show j + 1 ≤ all.size by omega) (Nat.le_refl _); rwa [hE] at this
  have m0 : Mono s0 (sF l sE j) := by have := mono_le ho (Nat.zero_le j) (by omega); rwa [h0] at this
  -- what is looked at is what the text's order has there
  have looks : ∀ t, t ∈ o.looksAt all → VRel ρ (((tmF l tmE j).get t).getD undef) (a.tmps.getD t undef) := by
    intro t htl
    refine hR.tmp t j (by omega) fun i p hi hd => ?_
    by_cases hij : i = j
    · subst hij; rw [hD]; simp
    · exact ord_done hb hR.closed (Array.getElem?_eq_some_iff.1 hi).1 hj hD hr (apart_ord hap hi hj hij hd (.inl htl))
  have hwant : Region.wanted o (yielded all a.tmps) = Region.wanted o (yieldedT all (tmF l tmE j)) := by
    refine wanted_eq (ρ := ρ) fun g wt hg t ht => looks t ?_
    simp [Oper.looksAt, hg, ht]
  have closed' : Closed all (fun i => i == j || D i) := by
    intro q p hq hDq e he hbe
    by_cases hqj : q = j
    · subst hqj
      rw [hj] at hq
      injection hq with hq
      subst hq
      simp [hr e he hbe]
    · have : D q = true := by simpa [hqj] using hDq
      simp [hR.closed q p hq this e he hbe]
  -- who comes behind j and must not meet it has not come up
  have later : ∀ i, i < all.size → j < i → Ord all i j → D i = false := by
    intro i hi hji hord
    have := ord_done hb hR.closed hi hj hD hr hord
    cases hDi : D i with
    | false => rfl
    | true => have := this.1 hDi; omega
  -- the temporaries behind it
  have tmps' : ∀ (ρ1 : Map) (x x' : Value), le ρ ρ1 → VRel ρ1 x x' → putC (tmF l tmE j) sz o.dst x = some (tmF l tmE (j + 1)) →
      (a.put o.dst x').tmps.size = sz ∧ ∀ t k, k ≤ all.size → (∀ i p, all[i]? = some p → p.dst = some t → ((i == j || D i) = true ↔ i < k)) → VRel ρ1 (((tmF l tmE k).get t).getD undef) ((a.put o.dst x').tmps.getD t undef) := by
    intro ρ1 x x' hl1 hx hp
    have hs : (a.put o.dst x').tmps.size = sz := by
      have := hR.size
      cases o.dst <;> simp [Act.put, this]
    refine ⟨hs, fun t k hk hcons => ?_⟩
    by_cases hd : o.dst = some t
    · have hjk : j < k := (hcons j o hj hd).1 (by simp)
      have hno : ∀ i p, j + 1 ≤ i → i < k → all[i]? = some p → p.dst ≠ some t := by
        intro i p h1 h2 hp2 hd2
        have h3 := (hcons i p hp2 hd2).2 h2
        have h4 : D i = true := by
          have : (i == j) = false := by simp; omega
          rw [this, Bool.false_or] at h3; exact h3
        have h5 := later i (by omega) (by omega) (apart_ord hap hp2 hj (by omega) hd2 (.inr hd))
        rw [h5] at h4; cases h4
      rw [tm_le hsteps (show j + 1 ≤ k by omega) hk hno]
      unfold putC at hp
      rw [hd] at hp
      simp only at hp
      split at hp
      · rename_i hdl
        injection hp with hp
        rw [← hp, Tree.get_set 40 _ _ _ _ hdl.2, if_pos rfl]
        have hts := hR.size
        simp only [hd, Act.put, Array.getD_eq_getD_getElem?, Array.getElem?_setIfInBounds, if_true]
        rw [if_pos (by rw [hts]; exact hdl.1)]
        exact hx
      · cases hp
    · have h1 := hR.tmp t k hk fun i p hi hd2 => by
        have := hcons i p hi hd2
        have hij : i ≠ j := by
          intro e; subst e
          rw [hj] at hi
          injection hi with hi
          subst hi
          exact hd hd2
        have e1 : (i == j) = false := by simpa using hij
        rw [e1, Bool.false_or] at this
        exact this
      have h2 : (a.put o.dst x').tmps.getD t undef = a.tmps.getD t undef := by
        cases hdd : o.dst with
        | none => rfl
        | some d =>
          have hne : d ≠ t := fun e => hd (e ▸ hdd)
          simp [Act.put, Array.getD_eq_getD_getElem?, Array.getElem?_setIfInBounds_ne hne]
      rw [h2]
      exact h1.mono hl1
  rcases hsteps j o hj with ⟨hw, hokop, v, s1, hop, hput, hs, hrr, hww⟩ | ⟨hw, hput, hs, hrr, hww⟩
  · obtain ⟨m1, h1⟩ := doOp_ok hP hcall hop
    have hfp : Sub s1.fp F := by
      have a1 : Sub s1.r F := by
        rw [← hrr]; exact (hoj.r.trans mE.r).trans ((Sub.orl _ _).trans hF)
      have a2 : Sub s1.w F := by
        rw [← hww]; exact (hoj.w.trans mE.w).trans ((Sub.orr _ _).trans hF)
      exact a1.or a2
    have hn1 : s1.n = (sF l sE (j + 1)).n := by rw [hs]; rfl
    have ht1 : s1.t = (sF l sE (j + 1)).t := by rw [hs]; rfl
    have hinv : Inv s1.fp ρ (sF l sE j).zero w := by
      refine ⟨fun b hbn hfb => ?_, hR.inj, hR.lt⟩
      refine hR.mem b (hfp b hfb) j (by omega) (fun i hi hwi => ?_) hbn
      by_cases hij : i = j
      · subst hij; rw [hD]; simp
      · refine ord_done hb hR.closed hi hj hD hr (conf_ord hc (by omega) (by omega) hij hwi ?_)
        rw [hrr, hww]
        simpa [St.fp, Nat.testBit_or] using hfb
    have hfresh : Fresh ρ (sF l sE j).zero s1 := fun b k1 k2 => hR.fresh j hjn hD b k1 (by rw [← hn1]; exact k2)
    obtain ⟨ρ1, w1, v', i1, e1, hv, hd⟩ := h1 s1.fp (.refl _) ρ w a hfresh hinv hR.gr (fun x hx => evT_rel hR.gr (fun t ht => looks t (by
      subst ht
      refine List.mem_append_left _ (List.mem_filterMap.2 ⟨.tmp t, by simpa using hx, rfl⟩))) (okOp_mem hokop x hx))
    obtain ⟨ts1, ts2⟩ := tmps' ρ1 v v' e1.le hv hput
    refine ⟨ρ1, w1, v', ⟨i1.inj, i1.lt, hR.gr.mono e1.le, ?_, ts1, ts2, ?_, ?_, closed'⟩, fun b rest k cs => hd b all j rest k cs hj (by rw [hwant]; exact hw)⟩
    · intro b hFb k hk hcons hbk
      cases hwb : (wF l j).testBit b with
      | true =>
        have hjk : j < k := (hcons j hjn hwb).1 (by simp)
        have hno : ∀ i, j + 1 ≤ i → i < k → (wF l i).testBit b = false := by
          intro i k1 k2
          cases hwi : (wF l i).testBit b with
          | false => rfl
          | true =>
            have h3 := (hcons i (by omega) hwi).2 k2
            have h4 : D i = true := by
              have : (i == j) = false := by simp; omega
              rw [this, Bool.false_or] at h3; exact h3
            have h5 := later i (by omega) (by omega) (conf_ord hc (by omega) (by omega) (by omega) hwi (.inr hwb))
            rw [h5] at h4; cases h4
        have hbn : b < (sF l sE (j + 1)).n := by
          apply Classical.byContradiction
          intro hn
          obtain ⟨q, q1, q2, q3⟩ := made ho (b := b) (k - (j + 1)) (j + 1) (by omega) (by omega) (by rwa [show j + 1 + (k - (j + 1)) = k by omega])
          rw [hno q q1 (by omega)] at q3; cases q3
        rw [get_le ho (show j + 1 ≤ k by omega) hk hno hbn, ← ht1]
        refine i1.at_ b (by rw [hn1]; exact hbn) ?_
        rw [hww] at hwb
        simp [St.fp, Nat.testBit_or, hwb]
      | false =>
        have h1 := hR.mem b hFb k hk (fun i hi hwi => by
          have hij : i ≠ j := by intro e; subst e; rw [hwb] at hwi; cases hwi
          have := hcons i hi hwi
          have e1 : (i == j) = false := by simpa using hij
          rw [e1, Bool.false_or] at this
          exact this) hbk
        have hsw : s1.w.testBit b = false := by rw [← hww]; exact hwb
        refine h1.keep e1.le ?_ fun c hcb => ?_
        · by_cases k1 : b < (sF l sE j).n
          · exact e1.same b k1 hsw
          · by_cases k2 : b < s1.n
            · have := m1.nw b (by simp only [St.zero]; omega) k2
              rw [this] at hsw; cases hsw
            · exact e1.far b (by omega)
        · refine e1.heap c (hR.lt b c hcb) fun b2 _ k2 k3 => ?_
          have := hR.inj b2 b c k3 hcb
          subst this
          rw [k2] at hsw; cases hsw
    · intro i hi hDi b k1 k2
      have hij : i ≠ j := by
        intro e; subst e; simp at hDi
      have hDi2 : D i = false := by
        have e1 : (i == j) = false := by simpa using hij
        rw [e1, Bool.false_or] at hDi; exact hDi
      have hnone := hR.fresh i hi hDi2 b k1 k2
      rcases Nat.lt_or_gt_of_ne hij with hlt | hlt
      · have : (sF l sE (i + 1)).n ≤ (sF l sE j).n := (mono_le ho (show i + 1 ≤ j by omega) (by omega)).n
        rcases e1.old b (by simp only [St.zero]; omega) with q | ⟨q, _⟩
        · exact q.trans hnone
        · rw [hnone] at q; cases q
      · have : (sF l sE (j + 1)).n ≤ (sF l sE i).n := (mono_le ho (show j + 1 ≤ i by omega) (by omega)).n
        exact (e1.far b (by omega)).trans hnone
    · refine hR.ext.insert e1 m0.n (by rw [hn1]; exact mE.n) ?_
      rw [← hww]; exact hoj.w.trans mE.w
  · obtain ⟨ts1, ts2⟩ := tmps' ρ undef undef (.refl _) (undef_rel ρ) hput
    refine ⟨ρ, w, undef, ⟨hR.inj, hR.lt, hR.gr, ?_, ts1, ts2, ?_, hR.ext, closed'⟩, fun b rest k cs => ?_⟩
    · intro b hFb k hk hcons hbk
      refine hR.mem b hFb k hk (fun i hi hwi => ?_) hbk
      have hij : i ≠ j := by intro e; subst e; rw [hww] at hwi; simp at hwi
      have := hcons i hi hwi
      have e1 : (i == j) = false := by simpa using hij
      rw [e1, Bool.false_or] at this
      exact this
    · intro i hi hDi b k1 k2
      have hij : i ≠ j := by
        intro e; subst e; simp at hDi
      have e1 : (i == j) = false := by simpa using hij
      rw [e1, Bool.false_or] at hDi
      exact hR.fresh i hi hDi b k1 k2
    · have hs := stepR_op_skip (P := P) (b := b) (a := a) (k := k) (cs := cs) (w := w) (ops := all) (i := j) (rest := rest) (by
        rw [hj, Option.map_some, Option.getD_some, hwant]
        exact hw)
      rw [hj] at hs
      exact .one hs

theorem RI.every (hP : NG P) (hcall : RunOk P call) (hl : l.length = all.size) (h0 : sF l sE 0 = s0) (ho : ∀ i, i < all.size → OneOp l sE i) (hsteps : ∀ i o, all[i]? = some o → StepAt P call all sz o l tmE sE i)
    (hok : okRegion all = true) (hc : confAll (bef all) [] l = true) (hF : Sub sE.fp F) {D : Nat → Bool} {order : List Nat} (hval : Val all D order) :
    ∀ (ρ : Map) (w : World) (a : Act), RI P all sz l tmE s0 sE F ρ0 w0 D ρ w a.tmps →
      ∃ ρ1 w1 a1 D1, RI P all sz l tmE s0 sE F ρ0 w0 D1 ρ1 w1 a1.tmps ∧ (∀ i, i < all.size → D1 i = true) ∧ a1.defers = a.defers ∧
        ∀ (b : Frame) (k : List Item) (cs : List Frame), Steps P (lone (b.atR a (.inRegion all order :: k)) cs w) (lone (b.atR a1 k) cs w1) := by
  induction hval with
  | done D hall => intro ρ w a hR; exact ⟨ρ, w, a, D, hR, hall, rfl, fun b k cs => .one stepR_region_end⟩
  | next D j o l' hj hD hr _ ih =>
    intro ρ w a hR
    obtain ⟨ρ1, w1, v', hR1, hs⟩ := hR.step hP hcall hl h0 ho hsteps hok hc hF hj hD hr
    obtain ⟨ρ2, w2, a2, D2, hR2, hall, hdf, hs2⟩ := ih ρ1 w1 (a.put o.dst v') hR1
    exact ⟨ρ2, w2, a2, D2, hR2, hall, hdf.trans (put_defers _ _ _), fun b k cs => (hs b l' k cs).trans (hs2 b k cs)⟩
end

/-- **a region that draws its order** -/
theorem doOpsD_ok {P : Program} (hP : NG P) (hm : P.follows .mixedOrders = true) {call : CF → St → Option (Value × St)} (hcall : RunOk P call) {all : Array Oper} {sz : Nat} {tm tmE : Tree Value} {s sE : St} {l : List Ent}
    (h : doOpsD P call all sz all.toList tm s = some (l, tmE, sE)) (hok : okRegion all = true) (hc : confAll (bef all) [] l = true) :
    Mono s sE ∧ ∀ F, Sub sE.fp F → ∀ ρ w a, Fresh ρ s sE → Inv F ρ s w → GR P ρ → TRel ρ tm sz a.tmps →
      ∀ (id fn : Nat), ∃ ρ1 w1 a1, Inv F ρ1 sE w1 ∧ Ext sE.w ρ ρ1 s sE w w1 ∧ TRel ρ1 tmE sz a1.tmps ∧ a1.defers = a.defers ∧
        ∀ (b : Frame) (k : List Item) (cs : List Frame), b.fn = fn → Steps P (lone (b.atR a (.code (.region id all true) :: k)) cs w) (lone (b.atR a1 k) cs w1) := by
  obtain ⟨hl, ht0, hs0, hst⟩ := doOpsD_steps _ _ _ _ _ _ h
  have hl : l.length = all.size := by simpa using hl
  have hsteps : ∀ i o, all[i]? = some o → StepAt P call all sz o l tmE sE i := fun i o ho => hst i o (by simpa using ho)
  have ho : ∀ i, i < all.size → OneOp l sE i := fun i hi => oneOp hP hcall (hsteps i all[i] (Array.getElem?_eq_getElem hi))
  have hE := sF_end (sE := sE) hl
  have m : Mono s sE := by have := mono_le ho (Nat.zero_le all.size) (Nat.le_refl _); rwa [hs0, hE] at this
  refine ⟨m, fun F hF ρ w a hfr hi hg htm id fn => ?_⟩
  have hok2 := hok
  unfold okRegion at hok2
  rw [Bool.and_eq_true] at hok2
  have hR := RI.start (w1 := { w with drawn := w.drawn + 1 }) hl hs0 ht0 ho hsteps hfr hi hg htm ⟨rfl, rfl, rfl, rfl⟩
  obtain ⟨ρ1, w1, a1, D1, hR1, hall, hdf, hs⟩ := RI.every hP hcall hl hs0 ho hsteps hok hc hF (val_schedule hok2.1 (w.tape w.drawn (.order fn id))) ρ _ a hR
  refine ⟨ρ1, w1, a1, ⟨?_, hR1.inj, hR1.lt⟩, hR1.ext, ⟨hR1.size, fun t => ?_⟩, hdf, fun b k cs hbf => ?_⟩
  · intro b hb hFb
    have := hR1.mem b hFb all.size (Nat.le_refl _) (fun i hi _ => ⟨fun _ => hi, fun _ => hall i hi⟩) (by rw [hE]; exact hb)
    rwa [hE] at this
  · have := hR1.tmp t all.size (Nat.le_refl _) (fun i p hi _ => ⟨fun _ => (Array.getElem?_eq_some_iff.1 hi).1, fun h => hall i h⟩)
    rwa [tmF_end hl] at this
  · have h1 := stepR_region_draw (P := P) (b := b) (a := a) (k := k) (cs := cs) (w := w) (ops := all) (id := id)
    rw [hm, hbf] at h1
    exact .head h1 (hs b k cs)
end Go.Canon
