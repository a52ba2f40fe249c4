/-
  The reference's difference.
-/
import Derived.Test.YtaeekmlnfjimjaaGreatDoorP15
set_option linter.unusedVariables false
set_option linter.unusedSimpArgs false
set_option linter.unusedSectionVars false
namespace Go.Proofs.YtaeekmlnfjimjaaGreatDoor.R
open Go.RowKit Go.Shelf

/-- a row that the call fills -/
def OwnR (w : World) (base g cap : Nat) (L : List Int) : Prop := w.ownsRow base 2 1 (.slice (some ⟨g, 0, none⟩) L.length cap) L.length (L.map (Value.int .i64))
theorem OwnR.row {w : World} {base g cap : Nat} {L : List Int} (h : OwnR w base g cap L) : Row w g 0 L ∧ Typ w g ∧ L.length ≤ cap := by
  refine ⟨fun i hi => ?_, ?_, ?_⟩
  · have := World.ownsRow.cells h (g := g) rfl i (.int .i64 (gd L i)) (by rw [List.getElem?_map, List.getElem?_eq_getElem hi, gd_get hi]; rfl)
    simp only [Addr.add] at this
    by_cases h0 : i = 0
    · subst h0; simpa using this
    · simpa [h0] using this
  · obtain ⟨_, h2⟩ := h
    rcases h2 with ⟨h', _⟩ | ⟨g', cap', cur, h', _, hh, h3, _⟩
    · cases h'
    · injection h' with h7 h8 h9
      injection h7 with h7
      injection h7 with h7
      subst h7
      exact ⟨_, _, hh⟩
  · obtain ⟨_, h2⟩ := h
    rcases h2 with ⟨h', _⟩ | ⟨g', cap', cur, h', _, _, h3, _⟩
    · cases h'
    · injection h' with h7 h8 h9
      omega
theorem nv_snoc (L : List Int) (d : Int) : nv (L ++ [d]) = nv L + pw ^ L.length * d := by
  rw [nv_append]; simp [nv]

theorem own_step {w1 : World} {base g cap i : Nat} {L : List Int} {D : Int} (h : w1.ownsRow base 2 1 (.slice (some ⟨g, 0, none⟩) (i + 1) cap) (i + 1) (L.map (Value.int .i64) ++ [.int .i64 D])) (hl : L.length = i) : OwnR w1 base g cap (L ++ [D]) := by
  unfold OwnR; simpa [hl] using h

structure DifInv (za zb : List Int) (i : Nat) (c : Int) (L : List Int) : Prop where
  len : L.length = i
  wd : Wd L
  c0 : 0 ≤ c
  c1 : c ≤ 1
  val : nv L = nv (za.take i) - nv (zb.take i) + c * pw ^ i
theorem dif_step {za zb : List Int} {i : Nat} {c : Int} {L : List Int} (ha : Wd za) (hb : Wd zb) (h : DifInv za zb i c L) :
    DifInv za zb (i + 1) (if gd za i - c - gd zb i < 0 then 1 else 0) (L ++ [if gd za i - c - gd zb i < 0 then gd za i - c - gd zb i + 1000000000 else gd za i - c - gd zb i]) := by
  obtain ⟨a0, a1⟩ := gd_bounds ha i
  obtain ⟨b0, b1⟩ := gd_bounds hb i
  have c0 := h.c0
  have c1 := h.c1
  refine ⟨by simp [h.len], Wd_append.2 ⟨h.wd, Wd_cons.2 ⟨?_, Wd_nil⟩⟩, by split <;> omega, by split <;> omega, ?_⟩
  · show _ ∧ _ < (1000000000 : Int)
    split <;> omega
  · rw [nv_snoc, h.val, h.len, nv_take_all, nv_take_all, Int.pow_succ]
    have e : pw = 1000000000 := rfl
    generalize hp : pw ^ i = A
    rw [e]
    split <;> grind
set_option maxRecDepth 100000 in
set_option maxHeartbeats 2000000 in
theorem dif_raw (w : World) (p : Option Addr) (cap : Nat) (za : List Int) (q : Option Addr) (cap2 : Nat) (zb : List Int) (ha : Dg w p cap za) (hb : Dg w q cap2 zb) (hl : za.length ≤ 2000) (hl2 : zb.length ≤ za.length) (hle : nv zb ≤ nv za) :
    Calls Tryz.prog 144 #[.slice p za.length cap, .slice q zb.length cap2] w (NewNt w (nv za - nv zb)) := by
  have hcap := ha.cap
  have hcap2 := hb.cap
  have H := Lib.hid ha
  have H2 := Lib.hid hb
  have HLE := Lib.hid hle
  clear ha hb hle
  obtain ⟨l, hl'⟩ : ∃ l, za.length = l := ⟨_, rfl⟩
  obtain ⟨k, hk'⟩ : ∃ k, zb.length = k := ⟨_, rfl⟩
  have HL := Lib.hid hl'
  have HK := Lib.hid hk'
  rw [hl'] at hl hl2 hcap ⊢
  rw [hk'] at hl2 hcap2 ⊢
  clear hl' hk'
  obtain ⟨i0, hi, hz0, hz1, hz2⟩ := info_parts infoI
  go_enter Tryz.func144, Tryz.ntmps144
  go_wp2_with (at_make; refine wpList_make_own _ rfl _ _ 63 rfl w.heap.size 2 i0 (.int .i64 0) 1 Tryz.underlying63 hi hz0 hz1 _ _ _ l rfl rfl rfl ?b2 ?b3 (Nat.le_refl _) ?_)
  case b2 => rw [hz2]; omega
  case b3 => unfold maxLen; omega
  intro w0 hown0 hgrow0
  generalize hg : w.heap.size = g at hown0
  have HG := Lib.hid hg
  have HB0 := Lib.hid (below_made hgrow0)
  rw [hg] at HB0
  clear hg hgrow0
  have HO : Hid (OwnR w0 g g l []) := Lib.hid hown0
  clear hown0
  go_wp2_with fail
  go_loopw [5, 6, 7] (fun out u v wr => ∃ (i : Nat) (c : Int) (L : List Int), i ≤ l ∧ 0 ≤ c ∧ c ≤ 1 ∧ out = .slice (some ⟨g, 0, none⟩) i l ∧ u = .int .i64 c ∧ v = .int .i64 i ∧ Hid (Below g w wr ∧ OwnR wr g g l L ∧ DifInv za zb i c L)) (fun _ _ v _ => l - (intOf v).toNat)
  case atStart => exact ⟨0, 0, [], Nat.zero_le _, by omega, by omega, rfl, rfl, rfl, Lib.hid ⟨HB0.out, HO.out, ⟨rfl, Wd_nil, by omega, by omega, by simp [nv]⟩⟩⟩
  case round =>
    obtain ⟨i, c, L, him, c0, c1, rfl, rfl, rfl, hr⟩ := hrel
    by_cases hlt : i < l
    · obtain ⟨b, off, rfl, hb, hrow⟩ := H.out.row (by intro e; rw [e] at HL; have := HL.out; simp at this; omega)
      have cA := (hr.out.1.cell (p := ⟨b, off + i, none⟩) (by have := HG.out; simp; omega)).trans (hrow i (by rw [HL.out]; omega))
      obtain ⟨a0, a1⟩ := gd_bounds H.out.wd i
      obtain ⟨b0, b1⟩ := gd_bounds H2.out.wd i
      have HLn : Hid (L.length = i) := Lib.hid hr.out.2.2.len
      have HS := Lib.hid (dif_step H.out.wd H2.out.wd hr.out.2.2)
      have HBw := Lib.hid hr.out.1
      have HOw : Hid (wr.ownsRow g 2 1 (.slice (some ⟨g, 0, none⟩) i l) i (L.map (Value.int .i64))) := Lib.hid (by have h := hr.out.2.1; unfold OwnR at h; rwa [HLn.out] at h)
      by_cases hk : i < k
      case' pos =>
        obtain ⟨b2, off2, rfl, hb2, hrow2⟩ := H2.out.row (by intro e; rw [e] at HK; have := HK.out; simp at this; omega)
        have cB := (hr.out.1.cell (p := ⟨b2, off2 + i, none⟩) (by have := HG.out; simp; omega)).trans (hrow2 i (by rw [HK.out]; omega))
        clear hb2 hrow2
      case' neg =>
        have hz : gd zb i = 0 := gd_over (by rw [HK.out]; omega)
        rw [hz] at HS
        clear hz
      all_goals
        clear hr hb hrow
        generalize gd za i = x at *
        try generalize gd zb i = y at *
      · have hw1 : IntKind.i64.wrap (x - c) = x - c := IntWalk.i64_in _ (by omega)
        skip
        by_cases hneg : x - c < 0
        · have hw3 : IntKind.i64.wrap (x - c + 1000000000) = x - c + 1000000000 := IntWalk.i64_in _ (by omega)
          all_goals skip
          · have HS' : Hid (DifInv za zb (i + 1) 1 (L ++ [x - c + 1000000000])) := Lib.hid (by have h := HS.out; rw [show x - c - 0 = x - c by omega] at h; rwa [if_pos hneg, if_pos hneg] at h)
            clear HS
            go_wp2_with (at_builtin; refine wpList_append_fits _ rfl (.tmp 38) (.tmp 40) 63 rfl g 2 i0 1 Tryz.underlying63 hi hz1 g i l (L.map (Value.int .i64)) rfl (HOw.out.alloc _) ⟨wr.heap.size, 0, none⟩ 1 1 [.int .i64 (x - c + 1000000000)] rfl rfl (by intro t u ht; match t, ht with | 0, ht => simp at ht; subst ht; simp [Addr.add, go_sem]) (by intro u hu; simp at hu; subst hu; rfl) (by omega) ?_; intro w1 hown1 hgrow1)
            go_roundw
            case rel => exact ⟨i + 1, 1, L ++ [x - c + 1000000000], by omega, by omega, by omega, rfl, rfl, by go_num, Lib.hid ⟨(HBw.out.alloc (by have := HBw.out.size; have := HG.out; omega) _).grown hgrow1 (by have := HBw.out.size; have := HG.out; simp; omega) (fun _ hk => by cases hk; exact Nat.le_refl _), own_step hown1 HLn.out, HS'.out⟩⟩
            case measure => simp [intOf] <;> omega
        · skip
          · have HS' : Hid (DifInv za zb (i + 1) 0 (L ++ [x - c])) := Lib.hid (by have h := HS.out; rw [show x - c - 0 = x - c by omega] at h; rwa [if_neg hneg, if_neg hneg] at h)
            clear HS
            go_wp2_with (at_builtin; refine wpList_append_fits _ rfl (.tmp 38) (.tmp 40) 63 rfl g 2 i0 1 Tryz.underlying63 hi hz1 g i l (L.map (Value.int .i64)) rfl (HOw.out.alloc _) ⟨wr.heap.size, 0, none⟩ 1 1 [.int .i64 (x - c)] rfl rfl (by intro t u ht; match t, ht with | 0, ht => simp at ht; subst ht; simp [Addr.add, go_sem]) (by intro u hu; simp at hu; subst hu; rfl) (by omega) ?_; intro w1 hown1 hgrow1)
            go_roundw
            case rel => exact ⟨i + 1, 0, L ++ [x - c], by omega, by omega, by omega, rfl, rfl, by go_num, Lib.hid ⟨(HBw.out.alloc (by have := HBw.out.size; have := HG.out; omega) _).grown hgrow1 (by have := HBw.out.size; have := HG.out; simp; omega) (fun _ hk => by cases hk; exact Nat.le_refl _), own_step hown1 HLn.out, HS'.out⟩⟩
            case measure => simp [intOf] <;> omega
      · have hw1 : IntKind.i64.wrap (x - c) = x - c := IntWalk.i64_in _ (by omega)
        have hw2 : IntKind.i64.wrap (x - c - y) = x - c - y := IntWalk.i64_in _ (by omega)
        by_cases hneg : x - c - y < 0
        · have hw3 : IntKind.i64.wrap (x - c - y + 1000000000) = x - c - y + 1000000000 := IntWalk.i64_in _ (by omega)
          all_goals skip
          · have HS' : Hid (DifInv za zb (i + 1) 1 (L ++ [x - c - y + 1000000000])) := Lib.hid (by have h := HS.out; rwa [if_pos hneg, if_pos hneg] at h)
            clear HS
            go_wp2_with (at_builtin; refine wpList_append_fits _ rfl (.tmp 38) (.tmp 40) 63 rfl g 2 i0 1 Tryz.underlying63 hi hz1 g i l (L.map (Value.int .i64)) rfl (HOw.out.alloc _) ⟨wr.heap.size, 0, none⟩ 1 1 [.int .i64 (x - c - y + 1000000000)] rfl rfl (by intro t u ht; match t, ht with | 0, ht => simp at ht; subst ht; simp [Addr.add, go_sem]) (by intro u hu; simp at hu; subst hu; rfl) (by omega) ?_; intro w1 hown1 hgrow1)
            go_roundw
            case rel => exact ⟨i + 1, 1, L ++ [x - c - y + 1000000000], by omega, by omega, by omega, rfl, rfl, by go_num, Lib.hid ⟨(HBw.out.alloc (by have := HBw.out.size; have := HG.out; omega) _).grown hgrow1 (by have := HBw.out.size; have := HG.out; simp; omega) (fun _ hk => by cases hk; exact Nat.le_refl _), own_step hown1 HLn.out, HS'.out⟩⟩
            case measure => simp [intOf] <;> omega
        · skip
          · have HS' : Hid (DifInv za zb (i + 1) 0 (L ++ [x - c - y])) := Lib.hid (by have h := HS.out; rwa [if_neg hneg, if_neg hneg] at h)
            clear HS
            go_wp2_with (at_builtin; refine wpList_append_fits _ rfl (.tmp 38) (.tmp 40) 63 rfl g 2 i0 1 Tryz.underlying63 hi hz1 g i l (L.map (Value.int .i64)) rfl (HOw.out.alloc _) ⟨wr.heap.size, 0, none⟩ 1 1 [.int .i64 (x - c - y)] rfl rfl (by intro t u ht; match t, ht with | 0, ht => simp at ht; subst ht; simp [Addr.add, go_sem]) (by intro u hu; simp at hu; subst hu; rfl) (by omega) ?_; intro w1 hown1 hgrow1)
            go_roundw
            case rel => exact ⟨i + 1, 0, L ++ [x - c - y], by omega, by omega, by omega, rfl, rfl, by go_num, Lib.hid ⟨(HBw.out.alloc (by have := HBw.out.size; have := HG.out; omega) _).grown hgrow1 (by have := HBw.out.size; have := HG.out; simp; omega) (fun _ hk => by cases hk; exact Nat.le_refl _), own_step hown1 HLn.out, HS'.out⟩⟩
            case measure => simp [intOf] <;> omega
    · have hie : i = l := by omega
      subst hie
      clear hlt him
      have HBw := Lib.hid hr.out.1
      have HOw := Lib.hid hr.out.2.1.row
      have HI := Lib.hid hr.out.2.2
      clear hr
      have hcut := trim_any g 0 i L wr (by rw [HI.out.len]; omega) (by rw [HI.out.len]; exact Nat.le_refl _) HOw.out.1
      rw [HI.out.len] at hcut
      have HC := Lib.hid hcut
      clear hcut
      go_wp2_with fail
      refine HC.out.mono ?_
      rintro e w' ⟨rfl, m', hm1, hm2, hm3, rfl⟩
      go_wp2_with fail
      go_ret
      refine ⟨_, rfl, ?_, by rw [HG.out]; exact HBw.out⟩
      have hv := HI.out.val
      rw [show za.take i = za by rw [← HL.out, List.take_length], List.take_of_length_le (by rw [HK.out]; omega)] at hv
      have hlt := nv_lt HI.out.wd
      rw [HI.out.len] at hlt
      have hle := HLE.out
      have hc : c = 0 := by
        rcases (show c = 0 ∨ c = 1 by omega) with h | h
        · exact h
        · rw [h] at hv; omega
      rw [hc, Int.zero_mul, Int.add_zero] at hv
      rw [← hv]
      exact nt_trim HOw.out.1 HOw.out.2.1 HI.out.wd (by rw [HI.out.len]; exact Nat.le_refl _) m' hm1 hm2 hm3
end Go.Proofs.YtaeekmlnfjimjaaGreatDoor.R
/-
  The reference's sum.
-/
namespace Go.Proofs.YtaeekmlnfjimjaaGreatDoor.R
open Go.RowKit Go.Shelf

theorem top_ne {L : List Int} (hw : Wd L) (hne : L ≠ []) (h : pw ^ (L.length - 1) ≤ nv L) : gd L (L.length - 1) ≠ 0 := by
  intro h0
  have hl : 0 < L.length := List.length_pos_iff.2 hne
  have h1 := nv_take_all L (L.length - 1)
  rw [show L.length - 1 + 1 = L.length by omega, List.take_length, h0, Int.mul_zero, Int.add_zero] at h1
  have h2 := nv_lt (Wd_take hw (L.length - 1))
  rw [List.length_take, Nat.min_eq_left (by omega)] at h2
  omega
structure SumInv (za zb : List Int) (i : Nat) (c : Int) (L : List Int) : Prop where
  len : L.length = i
  wd : Wd L
  c0 : 0 ≤ c
  c1 : c ≤ 1
  val : nv L + c * pw ^ i = nv (za.take i) + nv (zb.take i)
  top : i ≤ max za.length zb.length ∨ pw ^ (i - 1) ≤ nv L
theorem sum_step {za zb : List Int} {i : Nat} {c : Int} {L : List Int} (ha : Wd za) (hb : Wd zb) (h : SumInv za zb i c L) (hi : i < max za.length zb.length ∨ c = 1) :
    SumInv za zb (i + 1) ((c + gd za i + gd zb i) / 1000000000) (L ++ [(c + gd za i + gd zb i) % 1000000000]) := by
  obtain ⟨a0, a1⟩ := gd_bounds ha i
  obtain ⟨b0, b1⟩ := gd_bounds hb i
  have c0 := h.c0
  have c1 := h.c1
  have hval : nv (L ++ [(c + gd za i + gd zb i) % 1000000000]) + (c + gd za i + gd zb i) / 1000000000 * pw ^ (i + 1) = nv (za.take (i + 1)) + nv (zb.take (i + 1)) := by
    rw [nv_snoc, h.len, nv_take_all, nv_take_all, Int.pow_succ]
    have hv := h.val
    have e := Int.mul_ediv_add_emod (c + gd za i + gd zb i) 1000000000
    generalize (c + gd za i + gd zb i) / 1000000000 = q at *
    generalize hr : (c + gd za i + gd zb i) % 1000000000 = r at *
    have e2 : r = c + gd za i + gd zb i - pw * q := by rw [pw_eq]; omega
    rw [e2]
    generalize pw ^ i = A at *
    grind
  refine ⟨by simp [h.len], Wd_append.2 ⟨h.wd, Wd_cons.2 ⟨?_, Wd_nil⟩⟩, by omega, by omega, hval, ?_⟩
  · show _ ∧ _ < (1000000000 : Int)
    omega
  · rcases (show i < max za.length zb.length ∨ (max za.length zb.length ≤ i ∧ c = 1) by omega) with hi | ⟨hi, hc⟩
    · left; omega
    · right
      have e1 : gd za i = 0 := gd_over (by omega)
      have e2 : gd zb i = 0 := gd_over (by omega)
      have hn := nv_nonneg h.wd
      rw [e1, e2, hc, nv_snoc, h.len, show i + 1 - 1 = i by omega]
      have : pw ^ i * ((1 + 0 + 0) % 1000000000) = pw ^ i := by
        rw [show ((1 + 0 + 0 : Int) % 1000000000) = 1 from rfl, Int.mul_one]
      omega
set_option maxRecDepth 100000 in
set_option maxHeartbeats 4000000 in
theorem sum_raw (w : World) (p : Option Addr) (cap : Nat) (za : List Int) (q : Option Addr) (cap2 : Nat) (zb : List Int) (ha : Dg w p cap za) (hb : Dg w q cap2 zb) (hl : za.length ≤ 2000) (hl2 : zb.length ≤ 2000) (ca : Can za) (cb : Can zb) :
    Calls Tryz.prog 143 #[.slice p za.length cap, .slice q zb.length cap2] w (NewNt w (nv za + nv zb)) := by
  have hcap := ha.cap
  have hcap2 := hb.cap
  have H := Lib.hid ha
  have H2 := Lib.hid hb
  have HC := Lib.hid (And.intro ca cb)
  clear ha hb ca cb
  obtain ⟨l, hl'⟩ : ∃ l, za.length = l := ⟨_, rfl⟩
  obtain ⟨k, hk'⟩ : ∃ k, zb.length = k := ⟨_, rfl⟩
  have HL := Lib.hid hl'
  have HK := Lib.hid hk'
  rw [hl'] at hl hcap ⊢
  rw [hk'] at hl2 hcap2 ⊢
  clear hl' hk'
  obtain ⟨n, hn⟩ : ∃ n, max l k = n := ⟨_, rfl⟩
  have hmx : max (l : Int) (k : Int) = (n : Int) := by omega
  have hw0 : IntKind.i64.wrap ((n : Int) + 1) = ((n + 1 : Nat) : Int) := IntWalk.i64_in _ (by omega)
  obtain ⟨i0, hi, hz0, hz1, hz2⟩ := info_parts infoI
  go_enter Tryz.func143, Tryz.ntmps143
  go_wp2_with (at_make; refine wpList_make_own _ rfl _ _ 63 rfl w.heap.size 2 i0 (.int .i64 0) 1 Tryz.underlying63 hi hz0 hz1 _ _ _ (n + 1) rfl rfl (by omega) ?b2 ?b3 (Nat.le_refl _) ?_)
  case b2 => rw [hz2]; omega
  case b3 => unfold maxLen; omega
  intro w0 hown0 hgrow0
  generalize hg : w.heap.size = g at hown0
  have HG := Lib.hid hg
  have HB0 := Lib.hid (below_made hgrow0)
  rw [hg] at HB0
  clear hg hgrow0 hmx hw0
  have HO : Hid (OwnR w0 g g (n + 1) []) := Lib.hid hown0
  clear hown0
  go_wp2_with fail
  go_loopw [5, 6, 7] (fun out u v wr => ∃ (i : Nat) (c : Int) (L : List Int), i ≤ n + 1 ∧ 0 ≤ c ∧ c ≤ 1 ∧ out = .slice (some ⟨g, 0, none⟩) i (n + 1) ∧ u = .int .i64 c ∧ v = .int .i64 i ∧ Hid (Below g w wr ∧ OwnR wr g g (n + 1) L ∧ SumInv za zb i c L)) (fun _ _ v _ => n + 1 - (intOf v).toNat)
  case atStart => exact ⟨0, 0, [], Nat.zero_le _, by omega, by omega, rfl, rfl, rfl, Lib.hid ⟨HB0.out, HO.out, ⟨rfl, Wd_nil, by omega, by omega, by simp [nv], .inl (Nat.zero_le _)⟩⟩⟩
  case round =>
    obtain ⟨i, c, L, him, c0, c1, rfl, rfl, rfl, hr⟩ := hrel
    by_cases hgo : i < n ∨ c = 1
    · have hin : i ≤ n := by
        rcases hgo with h | h
        · omega
        · apply Classical.byContradiction
          intro hc
          obtain rfl : i = n + 1 := by omega
          have hv := hr.out.2.2.val
          have h1 := nv_nonneg hr.out.2.2.wd
          have h2 := nv_lt (Wd_take H.out.wd (n + 1))
          have h3 := nv_lt (Wd_take H2.out.wd (n + 1))
          have h4 : pw ^ (za.take (n + 1)).length ≤ pw ^ n := pow_mono (by rw [List.length_take, HL.out]; omega)
          have h5 : pw ^ (zb.take (n + 1)).length ≤ pw ^ n := pow_mono (by rw [List.length_take, HK.out]; omega)
          rw [h, Int.one_mul, Int.pow_succ, show pw = 1000000000 from rfl] at hv
          rw [show pw = 1000000000 from rfl] at h4 h5
          have h6 := ppos n
          rw [show pw = 1000000000 from rfl] at h6 h2 h3
          omega
      obtain ⟨a0, a1⟩ := gd_bounds H.out.wd i
      obtain ⟨b0, b1⟩ := gd_bounds H2.out.wd i
      have HLn : Hid (L.length = i) := Lib.hid hr.out.2.2.len
      have HS := Lib.hid (sum_step H.out.wd H2.out.wd hr.out.2.2 (by rw [HL.out, HK.out]; omega))
      have HBw := Lib.hid hr.out.1
      have HOw : Hid (wr.ownsRow g 2 1 (.slice (some ⟨g, 0, none⟩) i (n + 1)) i (L.map (Value.int .i64))) := Lib.hid (by have h := hr.out.2.1; unfold OwnR at h; rwa [HLn.out] at h)
      have hx0 : ¬ i < l → gd za i = 0 := fun h => gd_over (by rw [HL.out]; omega)
      have hy0 : ¬ i < k → gd zb i = 0 := fun h => gd_over (by rw [HK.out]; omega)
      have CA : Hid (i < l → ∃ b off, p = some ⟨b, off, none⟩ ∧ wr.cell? ⟨b, off + i, none⟩ = some (.int .i64 (gd za i))) := Lib.hid fun h => by
        obtain ⟨b, off, rfl, hb, hrow⟩ := H.out.row (by intro e; rw [e] at HL; have := HL.out; simp at this; omega)
        exact ⟨b, off, rfl, (hr.out.1.cell (p := ⟨b, off + i, none⟩) (by have := HG.out; simp; omega)).trans (hrow i (by rw [HL.out]; omega))⟩
      have CB : Hid (i < k → ∃ b off, q = some ⟨b, off, none⟩ ∧ wr.cell? ⟨b, off + i, none⟩ = some (.int .i64 (gd zb i))) := Lib.hid fun h => by
        obtain ⟨b, off, rfl, hb, hrow⟩ := H2.out.row (by intro e; rw [e] at HK; have := HK.out; simp at this; omega)
        exact ⟨b, off, rfl, (hr.out.1.cell (p := ⟨b, off + i, none⟩) (by have := HG.out; simp; omega)).trans (hrow i (by rw [HK.out]; omega))⟩
      clear hr
      generalize gd za i = x at *
      generalize gd zb i = y at *
      by_cases h1 : i < l
      · obtain ⟨b, off, hp, cA⟩ := CA.out h1
        have HPp := Lib.hid H.out
        clear H CA hx0
        subst hp
        by_cases h2 : i < k
        · obtain ⟨b2, off2, hp2, cB⟩ := CB.out h2
          clear H2 CB hy0 HPp
          subst hp2
          have hw1 : IntKind.i64.wrap (c + x) = c + x := IntWalk.i64_in _ (by omega)
          have hw2 : IntKind.i64.wrap (c + x + y) = c + x + y := IntWalk.i64_in _ (by omega)
          have hd1 : Int.tdiv (c + x + y) 1000000000 = (c + x + y) / 1000000000 := Int.tdiv_eq_ediv_of_nonneg (by omega)
          have hd2 : Int.tmod (c + x + y) 1000000000 = (c + x + y) % 1000000000 := Int.tmod_eq_emod_of_nonneg (by omega)
          have hw3 : IntKind.i64.wrap ((c + x + y) / 1000000000) = (c + x + y) / 1000000000 := IntWalk.i64_in _ (by omega)
          have hw4 : IntKind.i64.wrap ((c + x + y) % 1000000000) = (c + x + y) % 1000000000 := IntWalk.i64_in _ (by omega)
          have HS' : Hid (SumInv za zb (i + 1) ((c + x + y) / 1000000000) (L ++ [(c + x + y) % 1000000000])) := Lib.hid (by have h := HS.out; rwa [show c + x + y = c + x + y by omega] at h)
          clear HS
          go_wp2_with (at_builtin; refine wpList_append_fits _ rfl (.tmp 51) (.tmp 54) 63 rfl g 2 i0 1 Tryz.underlying63 hi hz1 g i (n + 1) (L.map (Value.int .i64)) rfl (HOw.out.alloc _) ⟨wr.heap.size, 0, none⟩ 1 1 [.int .i64 ((c + x + y) % 1000000000)] rfl rfl (by intro t u ht; match t, ht with | 0, ht => simp at ht; subst ht; simp [Addr.add, go_sem]) (by intro u hu; simp at hu; subst hu; rfl) (by omega) ?_; intro w1 hown1 hgrow1)
          go_roundw
          case rel => exact ⟨i + 1, _, L ++ [(c + x + y) % 1000000000], by omega, by omega, by omega, rfl, rfl, by go_num, Lib.hid ⟨(HBw.out.alloc (by have := HBw.out.size; have := HG.out; omega) _).grown hgrow1 (by have := HBw.out.size; have := HG.out; simp; omega) (fun _ hk => by cases hk; exact Nat.le_refl _), own_step hown1 HLn.out, HS'.out⟩⟩
          case measure => simp [intOf] <;> omega
        · have hz := hy0 h2
          subst hz
          clear hy0 CB
          have hw1 : IntKind.i64.wrap (c + x) = c + x := IntWalk.i64_in _ (by omega)
          have hd1 : Int.tdiv (c + x) 1000000000 = (c + x) / 1000000000 := Int.tdiv_eq_ediv_of_nonneg (by omega)
          have hd2 : Int.tmod (c + x) 1000000000 = (c + x) % 1000000000 := Int.tmod_eq_emod_of_nonneg (by omega)
          have hw3 : IntKind.i64.wrap ((c + x) / 1000000000) = (c + x) / 1000000000 := IntWalk.i64_in _ (by omega)
          have hw4 : IntKind.i64.wrap ((c + x) % 1000000000) = (c + x) % 1000000000 := IntWalk.i64_in _ (by omega)
          have HS' : Hid (SumInv za zb (i + 1) ((c + x) / 1000000000) (L ++ [(c + x) % 1000000000])) := Lib.hid (by have h := HS.out; rwa [show c + x + 0 = c + x by omega] at h)
          clear HS
          go_wp2_with (at_builtin; refine wpList_append_fits _ rfl (.tmp 51) (.tmp 54) 63 rfl g 2 i0 1 Tryz.underlying63 hi hz1 g i (n + 1) (L.map (Value.int .i64)) rfl (HOw.out.alloc _) ⟨wr.heap.size, 0, none⟩ 1 1 [.int .i64 ((c + x) % 1000000000)] rfl rfl (by intro t u ht; match t, ht with | 0, ht => simp at ht; subst ht; simp [Addr.add, go_sem]) (by intro u hu; simp at hu; subst hu; rfl) (by omega) ?_; intro w1 hown1 hgrow1)
          go_roundw
          case rel => exact ⟨i + 1, _, L ++ [(c + x) % 1000000000], by omega, by omega, by omega, rfl, rfl, by go_num, Lib.hid ⟨(HBw.out.alloc (by have := HBw.out.size; have := HG.out; omega) _).grown hgrow1 (by have := HBw.out.size; have := HG.out; simp; omega) (fun _ hk => by cases hk; exact Nat.le_refl _), own_step hown1 HLn.out, HS'.out⟩⟩
          case measure => simp [intOf] <;> omega
      · have hz := hx0 h1
        subst hz
        clear hx0 CA
        by_cases h2 : i < k
        · obtain ⟨b2, off2, hp2, cB⟩ := CB.out h2
          clear H2 CB hy0
          subst hp2
          have hw1 : IntKind.i64.wrap (c + y) = c + y := IntWalk.i64_in _ (by omega)
          have hd1 : Int.tdiv (c + y) 1000000000 = (c + y) / 1000000000 := Int.tdiv_eq_ediv_of_nonneg (by omega)
          have hd2 : Int.tmod (c + y) 1000000000 = (c + y) % 1000000000 := Int.tmod_eq_emod_of_nonneg (by omega)
          have hw3 : IntKind.i64.wrap ((c + y) / 1000000000) = (c + y) / 1000000000 := IntWalk.i64_in _ (by omega)
          have hw4 : IntKind.i64.wrap ((c + y) % 1000000000) = (c + y) % 1000000000 := IntWalk.i64_in _ (by omega)
          have HS' : Hid (SumInv za zb (i + 1) ((c + y) / 1000000000) (L ++ [(c + y) % 1000000000])) := Lib.hid (by have h := HS.out; rwa [show c + 0 + y = c + y by omega] at h)
          clear HS
          go_wp2_with (at_builtin; refine wpList_append_fits _ rfl (.tmp 51) (.tmp 54) 63 rfl g 2 i0 1 Tryz.underlying63 hi hz1 g i (n + 1) (L.map (Value.int .i64)) rfl (HOw.out.alloc _) ⟨wr.heap.size, 0, none⟩ 1 1 [.int .i64 ((c + y) % 1000000000)] rfl rfl (by intro t u ht; match t, ht with | 0, ht => simp at ht; subst ht; simp [Addr.add, go_sem]) (by intro u hu; simp at hu; subst hu; rfl) (by omega) ?_; intro w1 hown1 hgrow1)
          go_roundw
          case rel => exact ⟨i + 1, _, L ++ [(c + y) % 1000000000], by omega, by omega, by omega, rfl, rfl, by go_num, Lib.hid ⟨(HBw.out.alloc (by have := HBw.out.size; have := HG.out; omega) _).grown hgrow1 (by have := HBw.out.size; have := HG.out; simp; omega) (fun _ hk => by cases hk; exact Nat.le_refl _), own_step hown1 HLn.out, HS'.out⟩⟩
          case measure => simp [intOf] <;> omega
        · have hz := hy0 h2
          subst hz
          clear hy0 CB
          obtain rfl : c = 1 := by omega
          have hd1 : Int.tdiv 1 1000000000 = ((1 : Int)) / 1000000000 := Int.tdiv_eq_ediv_of_nonneg (by omega)
          have hd2 : Int.tmod 1 1000000000 = ((1 : Int)) % 1000000000 := Int.tmod_eq_emod_of_nonneg (by omega)
          have hw3 : IntKind.i64.wrap (((1 : Int)) / 1000000000) = ((1 : Int)) / 1000000000 := IntWalk.i64_in _ (by omega)
          have hw4 : IntKind.i64.wrap (((1 : Int)) % 1000000000) = ((1 : Int)) % 1000000000 := IntWalk.i64_in _ (by omega)
          have HS' : Hid (SumInv za zb (i + 1) (((1 : Int)) / 1000000000) (L ++ [((1 : Int)) % 1000000000])) := Lib.hid (by have h := HS.out; rwa [show (1 : Int) + 0 + 0 = 1 by omega] at h)
          clear HS
          go_wp2_with (at_builtin; refine wpList_append_fits _ rfl (.tmp 51) (.tmp 54) 63 rfl g 2 i0 1 Tryz.underlying63 hi hz1 g i (n + 1) (L.map (Value.int .i64)) rfl (HOw.out.alloc _) ⟨wr.heap.size, 0, none⟩ 1 1 [.int .i64 (((1 : Int)) % 1000000000)] rfl rfl (by intro t u ht; match t, ht with | 0, ht => simp at ht; subst ht; simp [Addr.add, go_sem]) (by intro u hu; simp at hu; subst hu; rfl) (by omega) ?_; intro w1 hown1 hgrow1)
          go_roundw
          case rel => exact ⟨i + 1, _, L ++ [((1 : Int)) % 1000000000], by omega, by omega, by omega, rfl, rfl, by go_num, Lib.hid ⟨(HBw.out.alloc (by have := HBw.out.size; have := HG.out; omega) _).grown hgrow1 (by have := HBw.out.size; have := HG.out; simp; omega) (fun _ hk => by cases hk; exact Nat.le_refl _), own_step hown1 HLn.out, HS'.out⟩⟩
          case measure => simp [intOf] <;> omega
    · have hc : c = 0 := by omega
      subst hc
      have hin : n ≤ i := by omega
      have HBw := Lib.hid hr.out.1
      have HOw := Lib.hid hr.out.2.1.row
      have HI := Lib.hid hr.out.2.2
      clear hr
      go_wp2_with fail
      go_ret
      refine ⟨.slice (some ⟨g, 0, none⟩) i (n + 1), rfl, ?_, by rw [HG.out]; exact HBw.out⟩
      have hv := HI.out.val
      rw [List.take_of_length_le (by rw [HL.out]; omega), List.take_of_length_le (by rw [HK.out]; omega), Int.zero_mul, Int.add_zero] at hv
      have hlen := HI.out.len
      by_cases h0 : L = []
      · subst h0
        simp at hlen
        subst hlen
        rw [← hv]
        exact .inl ⟨rfl, _, _, rfl, fun h => by cases h⟩
      · have hpos : 0 < L.length := List.length_pos_iff.2 h0
        have htop : pw ^ (L.length - 1) ≤ nv L := by
          rcases HI.out.top with h | h
          · rw [HL.out, HK.out] at h
            have hin2 : i = n := by omega
            have na := nv_nonneg H.out.wd
            have nb := nv_nonneg H2.out.wd
            rcases (show l = n ∨ k = n by omega) with e | e
            · have := nv_ge H.out.wd HC.out.1 (by intro e2; rw [e2] at HL; have := HL.out; simp at this; omega)
              rw [HL.out, e, ← hin2, ← hlen] at this
              omega
            · have := nv_ge H2.out.wd HC.out.2 (by intro e2; rw [e2] at HK; have := HK.out; simp at this; omega)
              rw [HK.out, e, ← hin2, ← hlen] at this
              omega
          · rw [hlen]; exact h
        rw [← hv]
        refine .inr ⟨g, 0, n + 1, L, by rw [hlen], ⟨by have := HOw.out.2.2; exact this, hpos, HOw.out.2.1.lt, HI.out.wd, top_ne HI.out.wd h0 htop, rfl, HOw.out.1, HOw.out.2.1⟩⟩
theorem sum_any (w : World) (va vb : Value) (x y : Int) (ha : Nt w va x) (hb : Nt w vb y) (hx : x < big) (hy : y < big) :
    Calls Tryz.prog 143 #[va, vb] w (NewNt w (x + y)) := by
  obtain ⟨p, cap, za, rfl, da, rfl, ca⟩ := ha.dg
  obtain ⟨q, cap2, zb, rfl, db, rfl, cb⟩ := hb.dg
  exact sum_raw w p cap za q cap2 zb da db (len_of_lt da.wd ca rfl hx) (len_of_lt db.wd cb rfl hy) ca cb
theorem difference_any (w : World) (va vb : Value) (x y : Int) (ha : Nt w va x) (hb : Nt w vb y) (hx : x < big) (hle : y ≤ x) :
    Calls Tryz.prog 144 #[va, vb] w (NewNt w (x - y)) := by
  obtain ⟨p, cap, za, rfl, da, rfl, ca⟩ := ha.dg
  obtain ⟨q, cap2, zb, rfl, db, rfl, cb⟩ := hb.dg
  refine dif_raw w p cap za q cap2 zb da db (len_of_lt da.wd ca rfl hx) ?_ hle
  apply Classical.byContradiction
  intro hc
  by_cases h0 : zb = []
  · subst h0; simp at hc
  · have := nv_len_lt da.wd db.wd cb h0 (by omega)
    omega
end Go.Proofs.YtaeekmlnfjimjaaGreatDoor.R
/-
  The reference's long division: the math of one digit.
-/
namespace Go.Proofs.YtaeekmlnfjimjaaGreatDoor.R
open Go.RowKit Go.Shelf

/-- what is known of the divisor: its top digit -/
theorem top_bounds {zb : List Int} (hw : Wd zb) (hc : Can zb) (hne : zb ≠ []) : gd zb (zb.length - 1) * pw ^ (zb.length - 1) ≤ nv zb ∧ nv zb < (gd zb (zb.length - 1) + 1) * pw ^ (zb.length - 1) ∧ 1 ≤ gd zb (zb.length - 1) := by
  have hl : 0 < zb.length := List.length_pos_iff.2 hne
  have h1 := nv_take_all zb (zb.length - 1)
  rw [show zb.length - 1 + 1 = zb.length by omega, List.take_length] at h1
  have h2 := nv_lt (Wd_take hw (zb.length - 1))
  rw [List.length_take, Nat.min_eq_left (by omega)] at h2
  have h3 := nv_nonneg (Wd_take hw (zb.length - 1))
  obtain ⟨t0, t1⟩ := gd_bounds hw (zb.length - 1)
  have h4 := hc hne
  rw [Int.mul_comm] at h1
  rw [Int.add_mul, Int.one_mul]
  exact ⟨by omega, by omega, by omega⟩
/-- the two top digits of what is left, k digits to the divisor -/
theorem head_bounds {zr : List Int} (hw : Wd zr) {k : Nat} (hk : 0 < k) (h1 : zr.length ≤ k + 1) : (gd zr (k - 1) + 1000000000 * gd zr k) * pw ^ (k - 1) ≤ nv zr ∧ nv zr < (gd zr (k - 1) + 1000000000 * gd zr k + 1) * pw ^ (k - 1) := by
  have e1 := nv_take_all zr (k - 1)
  have e2 := nv_take_all zr k
  rw [show k - 1 + 1 = k by omega] at e1
  rw [List.take_of_length_le (by omega)] at e2
  have h2 := nv_lt (Wd_take hw (k - 1))
  have h3 := nv_nonneg (Wd_take hw (k - 1))
  have h4 : pw ^ (zr.take (k - 1)).length ≤ pw ^ (k - 1) := pow_mono (by rw [List.length_take]; omega)
  have h5 : pw ^ k = 1000000000 * pw ^ (k - 1) := by
    rw [show k = (k - 1) + 1 by omega, Int.pow_succ, show k - 1 + 1 - 1 = k - 1 by omega, show pw = 1000000000 from rfl]; exact Int.mul_comm _ _
  rw [h5] at e2
  rw [Int.add_mul, Int.add_mul, Int.add_mul, Int.one_mul, Int.mul_assoc]
  generalize pw ^ (k - 1) = P at *
  have e3 : 1000000000 * P * gd zr k = 1000000000 * (gd zr k * P) := by grind
  have e4 : P * gd zr (k - 1) = gd zr (k - 1) * P := Int.mul_comm _ _
  omega
/-- between what the quotient's digit lies -/
theorem digit_bounds {x t r y P : Int} (hP : 0 < P) (t1 : 1 ≤ t) (hx : 0 ≤ x) (r1 : x * P ≤ r) (r2 : r < (x + 1) * P) (y1 : t * P ≤ y) (y2 : y < (t + 1) * P) : x / (t + 1) ≤ r / y ∧ r / y ≤ (x + 1) / t := by
  have hy : 0 < y := by have := Int.mul_pos (show 0 < t by omega) hP; omega
  have hr : 0 ≤ r := by have := Int.mul_nonneg hx (Int.le_of_lt hP); omega
  constructor
  · rw [Int.le_ediv_iff_mul_le hy]
    have h1 := Int.ediv_mul_le x (show t + 1 ≠ 0 by omega)
    have h0 : 0 ≤ x / (t + 1) := Int.ediv_nonneg hx (by omega)
    have h2 := Int.mul_le_mul_of_nonneg_left (show y ≤ (t + 1) * P by omega) h0
    have h3 := Int.mul_le_mul_of_nonneg_right h1 (Int.le_of_lt hP)
    have e : x / (t + 1) * ((t + 1) * P) = x / (t + 1) * (t + 1) * P := (Int.mul_assoc _ _ _).symm
    omega
  · rw [Int.le_ediv_iff_mul_le (show 0 < t by omega)]
    have h1 := Int.ediv_mul_le r (show y ≠ 0 by omega)
    have h0 : 0 ≤ r / y := Int.ediv_nonneg hr (by omega)
    have h2 := Int.mul_le_mul_of_nonneg_left y1 h0
    have e : r / y * (t * P) = r / y * t * P := (Int.mul_assoc _ _ _).symm
    have h3 : r / y * t * P < (x + 1) * P := by omega
    have := Int.lt_of_mul_lt_mul_right h3 (Int.le_of_lt hP)
    omega
/-- what divided's loop keeps, m digits to come: the quotient's row, what is left -/
structure DvdInv (g : Nat) (za : List Int) (y : Int) (m : Nat) (w : World) (R : Int) (L : List Int) : Prop where
  len : L.length = za.length
  wd : Wd L
  val : nv L = pw ^ m * (nv (za.drop m) / y)
  rest : R = nv (za.drop m) % y
  low : ∀ j, j < m → gd L j = 0
  blk : Blk w g L
theorem nv_drop {za : List Int} {m : Nat} (hm : m < za.length) : nv (za.drop m) = gd za m + pw * nv (za.drop (m + 1)) := by
  rw [List.drop_eq_getElem_cons hm, gd_get hm]; rfl
theorem dvd_step {g : Nat} {za : List Int} {y : Int} {m : Nat} {w w2 : World} {R : Int} {L : List Int} (hm : m < za.length) (hw : Wd za) (y0 : 0 < y) (h : DvdInv g za y (m + 1) w R L) (q : Int) (hq : q = (gd za m + pw * R) / y) (hB : Blk w2 g (L.set m q)) :
    DvdInv g za y m w2 ((gd za m + pw * R) % y) (L.set m q) := by
  obtain ⟨z0, z1⟩ := gd_bounds hw m
  have hD := nv_drop (za := za) hm
  have hR := h.rest
  have hr0 : 0 ≤ R := hR ▸ Int.emod_nonneg _ (by omega)
  have hr1 : R < y := hR ▸ Int.emod_lt_of_pos _ y0
  have e1 := Int.mul_ediv_add_emod (nv (za.drop (m + 1))) y
  rw [← hR] at e1
  have hn := nv_nonneg (Wd_drop hw (m + 1))
  have hval := h.val
  generalize hQ : nv (za.drop (m + 1)) / y = Q at *
  have e2 : nv (za.drop m) = (gd za m + pw * R) + y * (pw * Q) := by rw [hD, ← e1]; grind
  have e3 : nv (za.drop m) / y = q + pw * Q := by rw [e2, Int.add_mul_ediv_left _ _ (by omega), hq]
  have e4 : nv (za.drop m) % y = (gd za m + pw * R) % y := by rw [e2, Int.add_mul_emod_self_left]
  have hp0 : 0 ≤ gd za m + pw * R := by have := Int.mul_nonneg (Int.le_of_lt pw_pos) hr0; omega
  have q0 : 0 ≤ q := hq ▸ Int.ediv_nonneg hp0 (by omega)
  have q1 : q < pw := by
    rw [hq, Int.ediv_lt_iff_lt_mul y0]
    have := Int.mul_le_mul_of_nonneg_left (show R ≤ y - 1 by omega) (Int.le_of_lt pw_pos)
    rw [Int.mul_sub, Int.mul_one] at this
    have : gd za m < pw := z1
    omega
  refine ⟨by simp [h.len], Wd_set h.wd ⟨q0, q1⟩, ?_, e4.symm, ?_, hB⟩
  · rw [nv_set _ _ _ (by rw [h.len]; exact hm), h.low m (by omega), hval, e3, Int.pow_succ]; grind
  · intro j hj
    rw [gd_set_ne (by omega)]
    exact h.low j (by omega)
end Go.Proofs.YtaeekmlnfjimjaaGreatDoor.R
