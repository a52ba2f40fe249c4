/-
  Numbers behind tokens, for this program: what stands behind a token is a value of exact.Num; the contracts of packages exact and floats as answers of calls.
-/
import Derived.Test.YtjomebgpnokboaaGreatDoorP19
import Derived.Test.YtjomebgpnokboaaGreatDoorP06
set_option linter.unusedVariables false
set_option linter.unusedSimpArgs false
set_option linter.unusedSectionVars false
namespace Go.Proofs.YtjomebgpnokboaaGreatDoor
open Go.RowKit Go.Shelf Go.Canon

abbrev UT (w w1 : World) : Prop := U 24 w w1
theorem Ns.u {w w1 : World} {b off cap : Nat} {zs : List Int} {n : Int} (h : Ns w b off cap zs n) (hu : UT w w1) : Ns w1 b off cap zs n := by
  obtain ⟨c, f, hb⟩ := h.ty
  have get : ∀ i, i < zs.length → ∃ c' f', w1.heap[b]? = some (.cells c' 24 f') ∧ c'[off + i]? = some (.int .u64 (gd zs i)) := by
    intro i hi
    have h1 := h.row i hi
    unfold World.cell? at h1
    simp only [hb, Option.isSome_none, Bool.false_eq_true, if_false] at h1
    exact hu b c f (off + i) _ hb h1
  obtain ⟨c0, f0, h0, _⟩ := get 0 h.pos
  refine { h with row := fun i hi => ?_, lt := (Array.getElem?_eq_some_iff.1 h0).1, ty := ⟨c0, f0, h0⟩ }
  obtain ⟨c', f', k1, k2⟩ := get i hi
  unfold World.cell?
  simp [k1, k2]
theorem Nt.u {w w1 : World} {v : Value} {n : Int} (h : Nt w v n) (hu : UT w w1) : Nt w1 v n := by
  rcases h with h | ⟨b, off, cap, zs, e, h⟩
  · exact .inl h
  · exact .inr ⟨b, off, cap, zs, e, h.u hu⟩
theorem Nm.u {w w1 : World} {v : Value} {s : Bool} {t b e : Int} (h : Nm w v s t b e) (hu : UT w w1) : Nm w1 v s t b e := by
  obtain ⟨bo, lb, cb, bo2, lb2, cb2, h1, h2, h3⟩ := h.ex
  exact ⟨bo, lb, cb, bo2, lb2, cb2, h1, h2.u hu, h3.imp id (fun h => ⟨h.1, h.2.u hu⟩)⟩
theorem Dn.u {w w1 : World} {v : Value} {K k : Int} (h : Dn w v K k) (hu : UT w w1) : Dn w1 v K k := by
  obtain ⟨s, t, e, h1, h2⟩ := h
  exact ⟨s, t, e, h1.u hu, h2⟩

def tabO (o : Obj) : Prop := ∃ c e f, o = .cells c e f ∧ ∀ j, j < Lib.deBruijn64tab.length → c[j]? = some (.int .u8 (Lib.deBruijn64tab.getD j 0))
def isG (w : World) (t : Nat) (d : List Int) (x : Array Value) : Prop := t = 0 ∧ ∃ K k, d = [K, k] ∧ Dn w (.agg x) K k
instance gh : Ghosts where
  gm := true
  ty := 24
  is := isG
  keep := fun ⟨h0, K, k, h1, h2⟩ hu => ⟨h0, K, k, h1, h2.u hu⟩
  fact := fun _ o => tabO o
theorem is_dn {w : World} {K k : Int} {x : Array Value} : Ghosts.is w 0 [K, k] x ↔ Dn w (.agg x) K k := by
  constructor
  · rintro ⟨_, K', k', e, h⟩
    injection e with e1 e; injection e with e2 _
    subst e1 e2
    exact h
  · intro h; exact ⟨rfl, K, k, rfl, h⟩

theorem Dr.neg {s : Bool} {t e K k : Int} (h : Dr s t e K k) : s = decide (K < 0) := by
  rcases h with ⟨_, rfl, _, rfl⟩ | ⟨_, hp, j, _, rfl⟩
  · rfl
  · have := Int.mul_pos hp (p2pos j)
    cases s
    · simp [sg]; omega
    · simp only [sg, if_true, Int.neg_mul]
      rw [decide_eq_true (by omega)]
theorem numG : NumG where
  gm := rfl
  shape := fun {w K k x} h => by
    obtain ⟨s, t, e, h1, h2⟩ := is_dn.1 h
    obtain ⟨bo, lb, cb, bo2, lb2, cb2, h3, _⟩ := h1.ex
    injection h3 with h3
    exact ⟨_, _, _, by rw [h3, h2.neg], rfl, rfl, rfl⟩
  zero := fun w => is_dn.2 ⟨false, 0, 0, ⟨none, 0, 0, none, 0, 0, rfl, .zero w, .inl ⟨rfl, rfl⟩⟩, .inl ⟨rfl, rfl, rfl, rfl⟩⟩

def TT : Tabs := ⟨0, []⟩
theorem envOf {T : Tabs} (hT : T.g = 0) {w : World} (h : EnvT T w) : Env w := by
  obtain ⟨⟨o, h1, c, e, f, rfl, h2⟩, _⟩ := h
  rw [hT] at h1
  refine ⟨fun j hj => ?_, (Array.getElem?_eq_some_iff.1 h1).1⟩
  unfold World.cell?
  simp [h1, h2 j hj]

/-- a number as a result -/
def numT (K : Int) : Value := .agg #[.bool (decide (K < 0)), .complex .f64 0 1, .complex .f64 0 2, .complex .f64 0 3]
def resN (K k : Int) : Res := ⟨some (K, k), numT K⟩
def resNE (K k e : Int) : Res := ⟨some (K, k), .tuple #[numT K, .int .i64 e]⟩
theorem num_rel {w : World} {K k : Int} {x : Array Value} (h : Ghosts.is w 0 [K, k] x) (ρ : Map) (n : Nat) (hn : ρ n = .num x) : VRel ρ (numV n K) (.agg x) := by
  obtain ⟨p, q, r, rfl, t1, t2, t3⟩ := numG.shape h
  exact VRel.agg_of (LRel.arel (l := [_, _, _, _]) (l' := [_, _, _, _]) ⟨.bool _, .tok _ 1 _ _ hn rfl t1, .tok _ 2 _ _ hn rfl t2, .tok _ 3 _ _ hn rfl t3, trivial⟩)
theorem resN_is {w : World} {v : Value} {K k : Int} (h : Dn w v K k) : ResIs w (resN K k) v := by
  obtain ⟨s, bo, lb, cb, bo2, lb2, cb2, e, rfl⟩ := h.shape
  exact ⟨_, is_dn.2 h, fun ρ n hn => num_rel (is_dn.2 h) ρ n hn⟩
theorem resNE_is {w : World} {v : Value} {K k e : Int} (h : Dn w v K k) : ResIs w (resNE K k e) (.tuple #[v, .int .i64 e]) := by
  obtain ⟨s, bo, lb, cb, bo2, lb2, cb2, e', rfl⟩ := h.shape
  exact ⟨_, is_dn.2 h, fun ρ n hn => VRel.tuple_of (LRel.arel (l := [_, _]) (l' := [_, _]) ⟨num_rel (is_dn.2 h) ρ n hn, .int _ _, trivial⟩)⟩

theorem con_mk {g : FuncId} {xs : List Ar} {R : Res} (h : ∀ w, Env w → ∀ l : List Value, AreArs w xs l → Calls Tryz.prog g ⟨l⟩ w fun e w1 => ∃ v', e = .returned v' ∧ ResIs w1 R v' ∧ Below w.heap.size w w1) : Con Tryz.prog TT g xs R :=
  fun w _ he args' ha => h w (envOf rfl he) args'.toList ha
theorem areArs_cons {w : World} {a : Ar} {xs : List Ar} {l : List Value} (h : AreArs w (a :: xs) l) : ∃ v vs, l = v :: vs ∧ IsAr w a v ∧ AreArs w xs vs := by
  cases l with
  | nil => exact h.elim
  | cons v vs => exact ⟨v, vs, rfl, h.1, h.2⟩
theorem areArs_nil {w : World} {l : List Value} (h : AreArs w [] l) : l = [] := by
  cases l with
  | nil => rfl
  | cons v vs => exact h.elim
theorem isAr_n {w : World} {K k : Int} {v : Value} (h : IsAr w (.n K k) v) : Dn w v K k := by
  obtain ⟨x, e, h1⟩ := h
  rw [e]; exact is_dn.1 h1
theorem isAr_v {w : World} {x v : Value} (h : IsAr w (.v x) v) : v = x := h
theorem ars_n {w : World} {K k : Int} {l : List Value} (h : AreArs w [.n K k] l) : ∃ v, l = [v] ∧ Dn w v K k := by
  obtain ⟨v, vs, rfl, h1, h2⟩ := areArs_cons h
  rw [areArs_nil h2]
  exact ⟨v, rfl, isAr_n h1⟩
theorem ars_nn {w : World} {K k L l0 : Int} {l : List Value} (h : AreArs w [.n K k, .n L l0] l) : ∃ v u, l = [v, u] ∧ Dn w v K k ∧ Dn w u L l0 := by
  obtain ⟨v, vs, rfl, h1, h2⟩ := areArs_cons h
  obtain ⟨u, rfl, h3⟩ := ars_n h2
  exact ⟨v, u, rfl, isAr_n h1, h3⟩
theorem ars_v {w : World} {y : Value} {l : List Value} (h : AreArs w [.v y] l) : l = [y] := by
  obtain ⟨v, vs, rfl, h1, h2⟩ := areArs_cons h
  rw [areArs_nil h2, isAr_v h1]
theorem ars_nv {w : World} {K k : Int} {y : Value} {l : List Value} (h : AreArs w [.n K k, .v y] l) : ∃ v, l = [v, y] ∧ Dn w v K k := by
  obtain ⟨v, vs, rfl, h1, h2⟩ := areArs_cons h
  rw [ars_v h2]
  exact ⟨v, rfl, isAr_n h1⟩
theorem ars_vv {w : World} {x y : Value} {l : List Value} (h : AreArs w [.v x, .v y] l) : l = [x, y] := by
  obtain ⟨v, vs, rfl, h1, h2⟩ := areArs_cons h
  rw [ars_v h2, isAr_v h1]
theorem ars_vn {w : World} {K k : Int} {y : Value} {l : List Value} (h : AreArs w [.v y, .n K k] l) : ∃ v, l = [y, v] ∧ Dn w v K k := by
  obtain ⟨v, vs, rfl, h1, h2⟩ := areArs_cons h
  obtain ⟨u, rfl, h3⟩ := ars_n h2
  rw [isAr_v h1]
  exact ⟨u, rfl, h3⟩
theorem ars_vvv {w : World} {x y z : Value} {l : List Value} (h : AreArs w [.v x, .v y, .v z] l) : l = [x, y, z] := by
  obtain ⟨v, vs, rfl, h1, h2⟩ := areArs_cons h
  rw [ars_vv h2, isAr_v h1]

/-! numbers in another step -/
theorem Dr.lower {s : Bool} {t e K k : Int} (h : Dr s t e K k) (j : Nat) : Dr s t e (K * 2 ^ j) (k - j) := by
  rcases h with ⟨h1, h2, h3, rfl⟩ | ⟨h1, h2, i, h3, rfl⟩
  · exact .inl ⟨h1, h2, h3, by simp⟩
  · exact .inr ⟨h1, h2, i + j, by omega, by rw [Int.mul_assoc, ← Int.pow_add]⟩
theorem Dn.lower {w : World} {v : Value} {K k : Int} (h : Dn w v K k) (m : Int) (hm : m ≤ k) : Dn w v (K * 2 ^ (k - m).toNat) m := by
  obtain ⟨s, t, e, h1, h2⟩ := h
  have := h2.lower (k - m).toNat
  rw [show k - ((k - m).toNat : Int) = m by omega] at this
  exact ⟨s, t, e, h1, this⟩

/-! the answers -/
def sgI (K : Int) : Int := if K = 0 then 0 else if K < 0 then -1 else 1
def inB (K k : Int) : Prop := -sml < K ∧ K < sml ∧ -50000 ≤ k ∧ k ≤ 50000
instance (K k : Int) : Decidable (inB K k) := by unfold inB; infer_instance
def upK (K1 k1 k2 : Int) : Int := K1 * 2 ^ (k1 - min k1 k2).toNat

theorem sign_con (K k : Int) : Con Tryz.prog TT 7 [.n K k] ⟨none, .int .i64 (sgI K)⟩ := con_mk fun w hE l ha => by
  obtain ⟨v, rfl, s, t, e, h1, h2⟩ := ars_n ha
  refine (sign_any w v s t 1 e h1).mono ?_
  rintro en w1 ⟨rfl, hb⟩
  refine ⟨_, rfl, ?_, hb⟩
  show Value.int .i64 (sgnI s t) = .int .i64 (sgI K)
  congr 1
  have hn := h2.neg
  rcases h2 with ⟨rfl, rfl, _, rfl⟩ | ⟨ho, hp, j, _, rfl⟩
  · rfl
  · have hne : sg s t * 2 ^ j ≠ 0 := by
      have := Int.mul_pos hp (p2pos j)
      cases s
      · have e : sg false t = t := rfl
        rw [e]; omega
      · have e : sg true t * 2 ^ j = -(t * 2 ^ j) := Int.neg_mul _ _
        omega
    unfold sgnI sgI
    rw [if_neg (by omega), if_neg hne]
    cases s
    · have : ¬ (sg false t * 2 ^ j < 0) := by simpa using hn.symm
      simp [this]
    · have : sg true t * 2 ^ j < 0 := by simpa using hn.symm
      simp [this]
theorem neg_con (K k : Int) : Con Tryz.prog TT 38 [.n K k] (resN (-K) k) := con_mk fun w hE l ha => by
  obtain ⟨v, rfl, h⟩ := ars_n ha
  refine (neg_dn w v K k h).mono ?_
  rintro en w1 ⟨v', rfl, h1, hb⟩
  exact ⟨_, rfl, resN_is h1, hb⟩
theorem abs_con (K k : Int) : Con Tryz.prog TT 148 [.n K k] (resN K.natAbs k) := con_mk fun w hE l ha => by
  obtain ⟨v, rfl, h⟩ := ars_n ha
  refine (abs_dn w v K k h).mono ?_
  rintro en w1 ⟨v', rfl, h1, hb⟩
  exact ⟨_, rfl, resN_is h1, hb⟩
theorem add_con (K k L l : Int) (h1 : inB (upK K k l) (min k l)) (h2 : inB (upK L l k) (min k l)) : Con Tryz.prog TT 9 [.n K k, .n L l] (resN (upK K k l + upK L l k) (min k l)) := con_mk fun w hE x ha => by
  obtain ⟨v, u, rfl, a, b⟩ := ars_nn ha
  have a' := a.lower (min k l) (by omega)
  have b' := b.lower (min k l) (by omega)
  rw [show (l - min k l) = (l - min l k) by omega] at b'
  obtain ⟨p1, p2, p3, p4⟩ := h1
  obtain ⟨q1, q2, _, _⟩ := h2
  refine (add_any w hE v u _ _ _ a' b' ⟨p1, p2⟩ ⟨q1, q2⟩ ⟨p3, p4⟩).mono ?_
  rintro en w1 ⟨v', rfl, h1, hb⟩
  exact ⟨_, rfl, resN_is h1, hb⟩
theorem sub_con (K k L l : Int) (h1 : inB (upK K k l) (min k l)) (h2 : inB (upK L l k) (min k l)) : Con Tryz.prog TT 13 [.n K k, .n L l] (resN (upK K k l - upK L l k) (min k l)) := con_mk fun w hE x ha => by
  obtain ⟨v, u, rfl, a, b⟩ := ars_nn ha
  have a' := a.lower (min k l) (by omega)
  have b' := b.lower (min k l) (by omega)
  rw [show (l - min k l) = (l - min l k) by omega] at b'
  obtain ⟨p1, p2, p3, p4⟩ := h1
  obtain ⟨q1, q2, _, _⟩ := h2
  refine (sub_any w hE v u _ _ _ a' b' ⟨p1, p2⟩ ⟨q1, q2⟩ ⟨p3, p4⟩).mono ?_
  rintro en w1 ⟨v', rfl, h1, hb⟩
  exact ⟨_, rfl, resN_is h1, hb⟩
theorem cmp_con (K k L l : Int) (h1 : inB (upK K k l) (min k l)) (h2 : inB (upK L l k) (min k l)) : Con Tryz.prog TT 8 [.n K k, .n L l] ⟨none, .int .i64 (cmpI (upK K k l) (upK L l k))⟩ := con_mk fun w hE x ha => by
  obtain ⟨v, u, rfl, a, b⟩ := ars_nn ha
  have a' := a.lower (min k l) (by omega)
  have b' := b.lower (min k l) (by omega)
  rw [show (l - min k l) = (l - min l k) by omega] at b'
  obtain ⟨p1, p2, p3, p4⟩ := h1
  obtain ⟨q1, q2, _, _⟩ := h2
  refine (cmp_any w v u _ _ _ a' b' ⟨p1, p2⟩ ⟨q1, q2⟩ ⟨p3, p4⟩).mono ?_
  rintro en w1 ⟨rfl, hb⟩
  exact ⟨_, rfl, rfl, hb⟩
end Go.Proofs.YtjomebgpnokboaaGreatDoor
/-
  Answers of calls: the contracts of words, machines and numbers.
-/
namespace Go.Proofs.YtjomebgpnokboaaGreatDoor
open Go.RowKit Go.Shelf Go.Canon

theorem gTT : TT.g < Tryz.prog.globals.size := of_decide_eq_true (by kernel_rfl)
theorem mixedP : Tryz.prog.follows .mixedOrders = true := by kernel_rfl
theorem noCountP : NG Tryz.prog := ng_of (by kernel_rfl)
theorem roTT : ∀ p ∈ TT.ro, p.1 < Tryz.prog.globals.size ∧ p.2.all (ground 3) = true := fun p hp => by cases hp

/-! words -/
def wordV (X : Int) : Value := .agg #[.int .u64 (X / 18446744073709551616), .int .u64 (X % 18446744073709551616)]
def wX (v : Value) : Int := match v with
  | .agg x => match x.toList with
    | [.int .u64 h, .int .u64 l] => h * 18446744073709551616 + l
    | _ => 0
  | _ => 0
def wB (v : Value) : Bool := match v with
  | .agg x => match x.toList with
    | [.int .u64 h, .int .u64 l] => decide (0 ≤ h ∧ h < 18446744073709551616 ∧ 0 ≤ l ∧ l < 18446744073709551616)
    | _ => false
  | _ => false
theorem wB_ok {v : Value} (h : wB v = true) : ∃ a b, v = .agg #[.int .u64 a, .int .u64 b] ∧ Wn a b (wX v) := by
  unfold wB at h
  split at h
  · rename_i x
    split at h
    · rename_i a b hx
      have e : x = #[.int .u64 a, .int .u64 b] := Array.ext' hx
      subst e
      obtain ⟨h1, h2, h3, h4⟩ := of_decide_eq_true h
      exact ⟨a, b, rfl, h1, h2, h3, h4, rfl⟩
    · cases h
  · cases h
theorem wordV_of {h l X : Int} (w : Wn h l X) : (.agg #[.int .u64 h, .int .u64 l] : Value) = wordV X := by
  obtain ⟨a, b, c, d, rfl⟩ := w
  unfold wordV
  rw [show (h * 18446744073709551616 + l) / 18446744073709551616 = h by omega, show (h * 18446744073709551616 + l) % 18446744073709551616 = l by omega]
theorem con_w {g : FuncId} {xs : List Ar} {X : Int} (h : ∀ w, Env w → ∀ l : List Value, AreArs w xs l → Calls Tryz.prog g ⟨l⟩ w (WPost w X)) : Con Tryz.prog TT g xs ⟨none, wordV X⟩ :=
  con_mk fun w hE l ha => (h w hE l ha).mono fun e w1 ⟨a, b, h1, h2, h3⟩ => ⟨_, h1, wordV_of h2, h3⟩

theorem plus_con {a b : Value} (ha : wB a = true) (hb : wB b = true) : Con Tryz.prog TT 108 [.v a, .v b] ⟨none, wordV ((wX a + wX b) % two128)⟩ := con_w fun w hE l hl => by
  obtain ⟨h1, l1, rfl, w1⟩ := wB_ok ha
  obtain ⟨h2, l2, rfl, w2⟩ := wB_ok hb
  rw [ars_vv hl]
  exact plus_any w _ _ _ _ _ _ w1 w2
theorem minus_con {a b : Value} (ha : wB a = true) (hb : wB b = true) : Con Tryz.prog TT 126 [.v a, .v b] ⟨none, wordV ((wX a - wX b) % two128)⟩ := con_w fun w hE l hl => by
  obtain ⟨h1, l1, rfl, w1⟩ := wB_ok ha
  obtain ⟨h2, l2, rfl, w2⟩ := wB_ok hb
  rw [ars_vv hl]
  exact minus_any w _ _ _ _ _ _ w1 w2
theorem less_con {a b : Value} (ha : wB a = true) (hb : wB b = true) : Con Tryz.prog TT 122 [.v a, .v b] ⟨none, .bool (decide (wX a < wX b))⟩ := con_mk fun w hE l hl => by
  obtain ⟨h1, l1, rfl, w1⟩ := wB_ok ha
  obtain ⟨h2, l2, rfl, w2⟩ := wB_ok hb
  rw [ars_vv hl]
  exact (less_any w _ _ _ _ _ _ w1 w2).mono fun e w1 h => ⟨_, h.1, rfl, h.2⟩
theorem left_con {a : Value} {k : Int} (ha : wB a = true) (h0 : 0 ≤ k) (h1 : k ≤ 127) : Con Tryz.prog TT 119 [.v a, .v (.int .i64 k)] ⟨none, wordV (wX a * 2 ^ k.toNat % two128)⟩ := con_w fun w hE l hl => by
  obtain ⟨h1, l1, rfl, w1⟩ := wB_ok ha
  rw [ars_vv hl]
  obtain ⟨n, rfl⟩ := Int.eq_ofNat_of_zero_le h0
  exact wleft_any w _ _ _ w1 n (by omega)
theorem right_con {a : Value} {k : Int} (ha : wB a = true) (h0 : 0 ≤ k) (h1 : k ≤ 127) : Con Tryz.prog TT 78 [.v a, .v (.int .i64 k)] ⟨none, wordV (wX a / 2 ^ k.toNat)⟩ := con_w fun w hE l hl => by
  obtain ⟨h1, l1, rfl, w1⟩ := wB_ok ha
  rw [ars_vv hl]
  obtain ⟨n, rfl⟩ := Int.eq_ofNat_of_zero_le h0
  exact wright_any w _ _ _ w1 n (by omega)

/-! machines -/
instance (E P : Int) : Decidable (Fmt E P) := by unfold Fmt; infer_instance
def machV (E P m : Int) : Value := .agg #[.int .i64 E, .int .i64 P, .int .i64 m]
theorem one_con : Con Tryz.prog TT 121 [] ⟨none, wordV 1⟩ := con_mk fun w hE l hl => by
  rw [areArs_nil hl]
  exact (one_any w).mono fun e w1 h => ⟨_, h.1, wordV_of ⟨by omega, by omega, by omega, by omega, by omega⟩, h.2⟩
theorem bit_con {k : Int} (h0 : 0 ≤ k) (h1 : k ≤ 127) : Con Tryz.prog TT 109 [.v (.int .i64 k)] ⟨none, wordV (2 ^ k.toNat)⟩ := con_w fun w hE l hl => by
  rw [ars_v hl]; exact bit_any w k h0 h1
theorem check_con (E P : Int) : Con Tryz.prog TT 19 [.v (.agg #[.int .i64 E, .int .i64 P])] ⟨none, .int .i64 (if Fmt E P then 0 else 2)⟩ := con_mk fun w hE l hl => by
  rw [ars_v hl]
  by_cases h : Fmt E P
  · rw [if_pos h]; exact (check_yes w E P h).mono fun e w1 h => ⟨_, h.1, rfl, h.2⟩
  · rw [if_neg h]; exact (check_no w E P h).mono fun e w1 h => ⟨_, h.1, rfl, h.2⟩
theorem bias_con {E P m : Int} (h : Fmt E P) : Con Tryz.prog TT 77 [.v (machV E P m)] ⟨none, .int .i64 (biasOf E)⟩ := con_mk fun w hE l hl => by
  rw [ars_v hl]
  exact (bias_any w E P m h.1 h.2.1).mono fun e w1 h => ⟨_, h.1, rfl, by rw [h.2]; exact (Below.refl _ _).alloc (Nat.le_refl _) _⟩
theorem lowest_con {E P m : Int} (h : Fmt E P) : Con Tryz.prog TT 76 [.v (machV E P m)] ⟨none, .int .i64 (1 - biasOf E)⟩ := con_mk fun w hE l hl => by
  rw [ars_v hl]
  exact (lowest_any w E P m h.1 h.2.1).mono fun e w1 h => ⟨_, h.1, rfl, h.2⟩
def fineOf (E P : Int) : Int := 1 - biasOf E - P + 1
theorem finest_con {E P m : Int} (h : Fmt E P) : Con Tryz.prog TT 43 [.v (machV E P m)] ⟨none, .int .i64 (fineOf E P)⟩ := con_mk fun w hE l hl => by
  rw [ars_v hl]
  exact (finest_any w E P m h.1 h.2.1 h.2.2.1 h.2.2.2.1).mono fun e w1 h => ⟨_, h.1, rfl, h.2⟩
theorem infinity_con {E P m : Int} (h : Fmt E P) : Con Tryz.prog TT 105 [.v (machV E P m)] ⟨none, wordV (infOf E P)⟩ := con_w fun w hE l hl => by
  rw [ars_v hl]; exact infinity_any w E P m h
theorem quiet_con {E P m : Int} (h : Fmt E P) : Con Tryz.prog TT 82 [.v (machV E P m)] ⟨none, wordV (quietOf E P)⟩ := con_w fun w hE l hl => by
  rw [ars_v hl]; exact quiet_any w E P m h
def sizeOf' (E P X : Int) : Int := if X < signOf E P then X else X - signOf E P
theorem unsigned_con {E P m : Int} {a : Value} (h : Fmt E P) (ha : wB a = true) : Con Tryz.prog TT 106 [.v (machV E P m), .v a] ⟨none, .tuple #[.bool (decide (signOf E P ≤ wX a)), wordV (sizeOf' E P (wX a))]⟩ := con_mk fun w hE l hl => by
  obtain ⟨h1, l1, rfl, w1⟩ := wB_ok ha
  rw [ars_vv hl]
  unfold sizeOf'
  by_cases hX : wX (.agg #[.int .u64 h1, .int .u64 l1]) < signOf E P
  · rw [if_pos hX, decide_eq_false (by omega)]
    refine (unsigned_pos w E P m _ _ _ h w1 hX).mono ?_
    rintro e w2 ⟨a, b, k1, k2, k3⟩
    exact ⟨_, k1, by rw [wordV_of k2]; rfl, k3⟩
  · rw [if_neg hX, decide_eq_true (by omega)]
    refine (unsigned_neg w E P m _ _ _ h w1 (by omega)).mono ?_
    rintro e w2 ⟨a, b, k1, k2, k3⟩
    exact ⟨_, k1, by rw [wordV_of k2]; rfl, k3⟩
theorem signedT_con {E P m : Int} {a : Value} (h : Fmt E P) (ha : wB a = true) (hX : wX a < signOf E P) : Con Tryz.prog TT 65 [.v (machV E P m), .v (.bool true), .v a] ⟨none, wordV (wX a + signOf E P)⟩ := con_w fun w hE l hl => by
  obtain ⟨h1, l1, rfl, w1⟩ := wB_ok ha
  rw [ars_vvv hl]
  exact signed_yes w E P m _ _ _ h w1 hX
theorem signedF_con {E P m : Int} {a : Value} (ha : wB a = true) : Con Tryz.prog TT 65 [.v (machV E P m), .v (.bool false), .v a] ⟨none, wordV (wX a)⟩ := con_mk fun w hE l hl => by
  obtain ⟨h1, l1, rfl, w1⟩ := wB_ok ha
  rw [ars_vvv hl]
  exact (signed_no w E P m _ _).mono fun e w2 h => ⟨_, h.1, wordV_of w1, h.2⟩

/-! numbers -/
theorem pow_fact {t : Int} {j : Nat} (h : t * 2 ^ j < sml) (h0 : 0 < t) : j < 60000 := exp_lt h0 h
def logI (K k : Int) : Int := if K = 0 then 0 else blen K.natAbs - 1 + k
def logE (K : Int) : Int := if K = 0 then 8 else 0
theorem log_con {K k : Int} (hb : inB K k) : Con Tryz.prog TT 114 [.n K k] ⟨none, .tuple #[.int .i64 (logI K k), .int .i64 (logE K)]⟩ := con_mk fun w hE l ha => by
  obtain ⟨v, rfl, s, t, e, h1, h2⟩ := ars_n ha
  obtain ⟨p1, p2, p3, p4⟩ := hb
  obtain ⟨b0, b1, b2⟩ := h2.bounds ⟨p1, p2⟩ ⟨p3, p4⟩
  rcases h2 with ⟨rfl, rfl, rfl, rfl⟩ | ⟨ho, hp, j, rfl, rfl⟩
  · obtain ⟨bo, la, ca, rfl, ht⟩ := h1.nilb
    have hz := ht.nil
    injection hz with z1 z2 z3
    subst z1 z2 z3
    exact (Log_zero w false none 0 0 0).mono fun e w1 h => ⟨_, h.1, rfl, h.2⟩
  · have hq := Int.mul_pos hp (p2pos j)
    have hk : (sg s t * 2 ^ j).natAbs = (t * 2 ^ j).toNat := by
      cases s
      · have e : sg false t = t := rfl
        rw [e]; omega
      · have e : sg true t * 2 ^ j = -(t * 2 ^ j) := Int.neg_mul _ _
        rw [e]; omega
    have hne : sg s t * 2 ^ j ≠ 0 := by
      intro h0; rw [h0] at hk; simp at hk; omega
    have e1 : logI (sg s t * 2 ^ j) k = blen t - 1 + (k + j) := by
      unfold logI
      rw [if_neg hne, hk, show (((t * 2 ^ j).toNat : Nat) : Int) = t * 2 ^ j by omega, blen_mul hp]
      omega
    rw [e1, show logE (sg s t * 2 ^ j) = 0 by unfold logE; rw [if_neg hne]]
    exact (Log_nil w v s t _ h1 b2 hp b0 b1).mono fun e w1 h => ⟨_, h.1, rfl, h.2⟩
def isI' (K k : Int) : Bool := decide (K * 2 ^ k.toNat % 2 ^ (-k).toNat = 0)
def floorK (K k : Int) : Int := K * 2 ^ k.toNat / 2 ^ (-k).toNat
theorem Dn.flat {w : World} {v : Value} {K k : Int} (h : Dn w v K k) : Dn w v (K * 2 ^ k.toNat) (-((-k).toNat : Int)) := by
  by_cases hk : 0 ≤ k
  · have := h.lower 0 hk
    rw [show k - 0 = k by omega] at this
    rw [show (-((-k).toNat : Int)) = 0 by omega]
    exact this
  · rw [show k.toNat = 0 by omega, show (-((-k).toNat : Int)) = k by omega]
    simpa using h
theorem isInt_con (K k : Int) : Con Tryz.prog TT 140 [.n K k] ⟨none, .bool (isI' K k)⟩ := con_mk fun w hE l ha => by
  obtain ⟨v, rfl, h⟩ := ars_n ha
  obtain ⟨s, t, e, h1, h2, h3⟩ := h.flat.isInt
  refine (isInt_any w v s t 1 e h1 (by omega)).mono ?_
  rintro en w1 ⟨rfl, hb⟩
  refine ⟨_, rfl, ?_, hb⟩
  show Value.bool _ = .bool _
  congr 1
  unfold isI'
  rw [decide_eq_true (show (1 : Int) = 1 from rfl), Bool.true_and]
  congr 1
  apply propext
  generalize (-k).toNat = m at *
  rcases h2 with ⟨rfl, rfl, rfl, h0⟩ | ⟨ho, hp, j, he, h0⟩
  · rw [h0]; simp
  · rw [h0]
    by_cases hj : m ≤ j
    · constructor
      · intro _
        obtain ⟨d, rfl⟩ := Nat.exists_eq_add_of_le hj
        rw [Int.pow_add, Int.mul_comm (2 ^ m), ← Int.mul_assoc]
        exact Int.mul_emod_left _ _
      · intro _; omega
    · constructor
      · intro _; omega
      · intro hd
        exfalso
        obtain ⟨d, rfl⟩ : ∃ d, m = j + (d + 1) := ⟨m - j - 1, by omega⟩
        obtain ⟨q, hq⟩ := Int.dvd_of_emod_eq_zero hd
        rw [Int.pow_add, Int.mul_comm (2 ^ j), Int.mul_assoc, Int.mul_comm (2 ^ j) q, ← Int.mul_assoc] at hq
        have hc := Int.eq_of_mul_eq_mul_right (Int.ne_of_gt (p2pos j)) hq
        rw [Int.pow_succ, Int.mul_comm (2 ^ d) 2, Int.mul_assoc] at hc
        cases s
        · have e : sg false t = t := rfl
          rw [e] at hc; omega
        · have e : sg true t = -t := rfl
          rw [e] at hc; omega
theorem floor_con {K k : Int} (h1 : -sml < K * 2 ^ k.toNat) (h2 : K * 2 ^ k.toNat < sml) (h3 : -50000 ≤ k) : Con Tryz.prog TT 149 [.n K k] (resN (floorK K k) 0) := con_mk fun w hE l ha => by
  obtain ⟨v, rfl, h⟩ := ars_n ha
  refine (floor_any w hE v _ _ h.flat ⟨h1, h2⟩ (by omega)).mono ?_
  rintro en w1 ⟨v', rfl, h1, hb⟩
  exact ⟨_, rfl, resN_is h1, hb⟩
theorem shifted_con {K k d : Int} (hb : inB K k) (h1 : -20000 ≤ d) (h2 : d ≤ 20000) : Con Tryz.prog TT 75 [.n K k, .v (.int .i64 d)] (resN K (k + d)) := con_mk fun w hE l ha => by
  obtain ⟨v, rfl, h⟩ := ars_nv ha
  obtain ⟨p1, p2, p3, p4⟩ := hb
  refine (shifted_any w v K k d h ⟨p1, p2⟩ ⟨p3, p4⟩ ⟨h1, h2⟩).mono ?_
  rintro en w1 ⟨v', rfl, h1, hb⟩
  exact ⟨_, rfl, resN_is h1, hb⟩
theorem power_con {d : Int} (h1 : -20000 ≤ d) (h2 : d ≤ 20000) : Con Tryz.prog TT 42 [.v (.int .i64 d)] (resN 1 d) := con_mk fun w hE l ha => by
  rw [ars_v ha]
  refine (power_any w hE d ⟨h1, h2⟩).mono ?_
  rintro en w1 ⟨v', rfl, h1, hb⟩
  exact ⟨_, rfl, resN_is h1, hb⟩
theorem toNum_con {a : Value} (ha : wB a = true) (hX : wX a < 2 ^ 124) : Con Tryz.prog TT 125 [.v a] (resN (wX a) 0) := con_mk fun w hE l hl => by
  obtain ⟨h1, l1, rfl, w1⟩ := wB_ok ha
  rw [ars_v hl]
  refine (toNum_any w hE _ _ _ w1 hX).mono ?_
  rintro en w1 ⟨v', rfl, h1, hb⟩
  exact ⟨_, rfl, resN_is h1, hb⟩
theorem toWord_con {K k : Int} (h0 : 0 ≤ k) (h1 : 0 ≤ K * 2 ^ k.toNat) (h2 : K * 2 ^ k.toNat < 2 ^ 124) : Con Tryz.prog TT 141 [.n K k] ⟨none, wordV (K * 2 ^ k.toNat)⟩ := con_w fun w hE l ha => by
  obtain ⟨v, rfl, h⟩ := ars_n ha
  have := h.flat
  rw [show (-((-k).toNat : Int)) = 0 by omega] at this
  exact toWord_any w hE v _ this h1 h2
end Go.Proofs.YtjomebgpnokboaaGreatDoor
/-
  The contracts as answers of calls.
-/
namespace Go.Proofs.YtjomebgpnokboaaGreatDoor
open Go.RowKit Go.Shelf Go.Canon

def mach3 (v : Value) : Option (Int × Int × Int) := match v with
  | .agg x => match x.toList with
    | [.int .i64 E, .int .i64 P, .int .i64 m] => some (E, P, m)
    | _ => none
  | _ => none
theorem mach3_ok {v : Value} {E P m : Int} (h : mach3 v = some (E, P, m)) : v = machV E P m := by
  unfold mach3 at h
  split at h
  · rename_i x
    split at h
    · rename_i a b c hx
      injection h with h; injection h with h1 h; injection h with h2 h3
      subst h1 h2 h3
      exact congrArg Value.agg (Array.ext' hx)
    · cases h
  · cases h
def fmt2 (v : Value) : Option (Int × Int) := match v with
  | .agg x => match x.toList with
    | [.int .i64 E, .int .i64 P] => some (E, P)
    | _ => none
  | _ => none
theorem fmt2_ok {v : Value} {E P : Int} (h : fmt2 v = some (E, P)) : v = .agg #[.int .i64 E, .int .i64 P] := by
  unfold fmt2 at h
  split at h
  · rename_i x
    split at h
    · rename_i a b hx
      injection h with h; injection h with h1 h2
      subst h1 h2
      exact congrArg Value.agg (Array.ext' hx)
    · cases h
  · cases h

def plusS (xs : List Ar) : Option Res := match xs with
  | [.v a, .v b] => some (⟨none, wordV ((wX a + wX b) % two128)⟩ : Res)
  | _ => none
def plusP (xs : List Ar) : Bool := match xs with
  | [.v a, .v b] => wB a && wB b
  | _ => false
def plusO : CF → St → Option (Value × St) := oracle 108 (conSpec TT plusP plusS)
theorem plusO_ok : RunOkE Tryz.prog plusO := con_oracle numG gTT roTT fun xs R h hp => by
  unfold plusS at h
  split at h
  · injection h with h
    subst h
    unfold plusP at hp; rw [Bool.and_eq_true] at hp; exact plus_con hp.1 hp.2
  · cases h

def minusS (xs : List Ar) : Option Res := match xs with
  | [.v a, .v b] => some (⟨none, wordV ((wX a - wX b) % two128)⟩ : Res)
  | _ => none
def minusP (xs : List Ar) : Bool := match xs with
  | [.v a, .v b] => wB a && wB b
  | _ => false
def minusO : CF → St → Option (Value × St) := oracle 126 (conSpec TT minusP minusS)
theorem minusO_ok : RunOkE Tryz.prog minusO := con_oracle numG gTT roTT fun xs R h hp => by
  unfold minusS at h
  split at h
  · injection h with h
    subst h
    unfold minusP at hp; rw [Bool.and_eq_true] at hp; exact minus_con hp.1 hp.2
  · cases h

def lessS (xs : List Ar) : Option Res := match xs with
  | [.v a, .v b] => some (⟨none, .bool (decide (wX a < wX b))⟩ : Res)
  | _ => none
def lessP (xs : List Ar) : Bool := match xs with
  | [.v a, .v b] => wB a && wB b
  | _ => false
def lessO : CF → St → Option (Value × St) := oracle 122 (conSpec TT lessP lessS)
theorem lessO_ok : RunOkE Tryz.prog lessO := con_oracle numG gTT roTT fun xs R h hp => by
  unfold lessS at h
  split at h
  · injection h with h
    subst h
    unfold lessP at hp; rw [Bool.and_eq_true] at hp; exact less_con hp.1 hp.2
  · cases h

def leftS (xs : List Ar) : Option Res := match xs with
  | [.v a, .v (.int .i64 k)] => some (⟨none, wordV (wX a * 2 ^ k.toNat % two128)⟩ : Res)
  | _ => none
def leftP (xs : List Ar) : Bool := match xs with
  | [.v a, .v (.int .i64 k)] => wB a && decide (0 ≤ k ∧ k ≤ 127)
  | _ => false
def leftO : CF → St → Option (Value × St) := oracle 119 (conSpec TT leftP leftS)
theorem leftO_ok : RunOkE Tryz.prog leftO := con_oracle numG gTT roTT fun xs R h hp => by
  unfold leftS at h
  split at h
  · injection h with h
    subst h
    unfold leftP at hp; rw [Bool.and_eq_true] at hp; exact left_con hp.1 (of_decide_eq_true hp.2).1 (of_decide_eq_true hp.2).2
  · cases h

def rightS (xs : List Ar) : Option Res := match xs with
  | [.v a, .v (.int .i64 k)] => some (⟨none, wordV (wX a / 2 ^ k.toNat)⟩ : Res)
  | _ => none
def rightP (xs : List Ar) : Bool := match xs with
  | [.v a, .v (.int .i64 k)] => wB a && decide (0 ≤ k ∧ k ≤ 127)
  | _ => false
def rightO : CF → St → Option (Value × St) := oracle 78 (conSpec TT rightP rightS)
theorem rightO_ok : RunOkE Tryz.prog rightO := con_oracle numG gTT roTT fun xs R h hp => by
  unfold rightS at h
  split at h
  · injection h with h
    subst h
    unfold rightP at hp; rw [Bool.and_eq_true] at hp; exact right_con hp.1 (of_decide_eq_true hp.2).1 (of_decide_eq_true hp.2).2
  · cases h

def oneS (xs : List Ar) : Option Res := match xs with
  | [] => some (⟨none, wordV 1⟩ : Res)
  | _ => none
def oneP (xs : List Ar) : Bool := match xs with
  | [] => true
  | _ => false
def oneO : CF → St → Option (Value × St) := oracle 121 (conSpec TT oneP oneS)
theorem oneO_ok : RunOkE Tryz.prog oneO := con_oracle numG gTT roTT fun xs R h hp => by
  unfold oneS at h
  split at h
  · injection h with h
    subst h
    exact one_con
  · cases h

def bitS (xs : List Ar) : Option Res := match xs with
  | [.v (.int .i64 k)] => some (⟨none, wordV (2 ^ k.toNat)⟩ : Res)
  | _ => none
def bitP (xs : List Ar) : Bool := match xs with
  | [.v (.int .i64 k)] => decide (0 ≤ k ∧ k ≤ 127)
  | _ => false
def bitO : CF → St → Option (Value × St) := oracle 109 (conSpec TT bitP bitS)
theorem bitO_ok : RunOkE Tryz.prog bitO := con_oracle numG gTT roTT fun xs R h hp => by
  unfold bitS at h
  split at h
  · injection h with h
    subst h
    unfold bitP at hp; exact bit_con (of_decide_eq_true hp).1 (of_decide_eq_true hp).2
  · cases h

def signS (xs : List Ar) : Option Res := match xs with
  | [.n K k] => some (⟨none, .int .i64 (sgI K)⟩ : Res)
  | _ => none
def signP (xs : List Ar) : Bool := match xs with
  | [.n K k] => true
  | _ => false
def signO : CF → St → Option (Value × St) := oracle 7 (conSpec TT signP signS)
theorem signO_ok : RunOkE Tryz.prog signO := con_oracle numG gTT roTT fun xs R h hp => by
  unfold signS at h
  split at h
  · injection h with h
    subst h
    exact sign_con _ _
  · cases h

def negS (xs : List Ar) : Option Res := match xs with
  | [.n K k] => some (resN (-K) k : Res)
  | _ => none
def negP (xs : List Ar) : Bool := match xs with
  | [.n K k] => true
  | _ => false
def negO : CF → St → Option (Value × St) := oracle 38 (conSpec TT negP negS)
theorem negO_ok : RunOkE Tryz.prog negO := con_oracle numG gTT roTT fun xs R h hp => by
  unfold negS at h
  split at h
  · injection h with h
    subst h
    exact neg_con _ _
  · cases h

def absS (xs : List Ar) : Option Res := match xs with
  | [.n K k] => some (resN K.natAbs k : Res)
  | _ => none
def absP (xs : List Ar) : Bool := match xs with
  | [.n K k] => true
  | _ => false
def absO : CF → St → Option (Value × St) := oracle 148 (conSpec TT absP absS)
theorem absO_ok : RunOkE Tryz.prog absO := con_oracle numG gTT roTT fun xs R h hp => by
  unfold absS at h
  split at h
  · injection h with h
    subst h
    exact abs_con _ _
  · cases h

def addS (xs : List Ar) : Option Res := match xs with
  | [.n K k, .n L l] => some (resN (upK K k l + upK L l k) (min k l) : Res)
  | _ => none
def addP (xs : List Ar) : Bool := match xs with
  | [.n K k, .n L l] => decide (inB (upK K k l) (min k l)) && decide (inB (upK L l k) (min k l))
  | _ => false
def addO : CF → St → Option (Value × St) := oracle 9 (conSpec TT addP addS)
theorem addO_ok : RunOkE Tryz.prog addO := con_oracle numG gTT roTT fun xs R h hp => by
  unfold addS at h
  split at h
  · injection h with h
    subst h
    unfold addP at hp; rw [Bool.and_eq_true] at hp; exact add_con _ _ _ _ (of_decide_eq_true hp.1) (of_decide_eq_true hp.2)
  · cases h

def subS (xs : List Ar) : Option Res := match xs with
  | [.n K k, .n L l] => some (resN (upK K k l - upK L l k) (min k l) : Res)
  | _ => none
def subP (xs : List Ar) : Bool := match xs with
  | [.n K k, .n L l] => decide (inB (upK K k l) (min k l)) && decide (inB (upK L l k) (min k l))
  | _ => false
def subO : CF → St → Option (Value × St) := oracle 13 (conSpec TT subP subS)
theorem subO_ok : RunOkE Tryz.prog subO := con_oracle numG gTT roTT fun xs R h hp => by
  unfold subS at h
  split at h
  · injection h with h
    subst h
    unfold subP at hp; rw [Bool.and_eq_true] at hp; exact sub_con _ _ _ _ (of_decide_eq_true hp.1) (of_decide_eq_true hp.2)
  · cases h

def cmpS (xs : List Ar) : Option Res := match xs with
  | [.n K k, .n L l] => some (⟨none, .int .i64 (cmpI (upK K k l) (upK L l k))⟩ : Res)
  | _ => none
def cmpP (xs : List Ar) : Bool := match xs with
  | [.n K k, .n L l] => decide (inB (upK K k l) (min k l)) && decide (inB (upK L l k) (min k l))
  | _ => false
def cmpO : CF → St → Option (Value × St) := oracle 8 (conSpec TT cmpP cmpS)
theorem cmpO_ok : RunOkE Tryz.prog cmpO := con_oracle numG gTT roTT fun xs R h hp => by
  unfold cmpS at h
  split at h
  · injection h with h
    subst h
    unfold cmpP at hp; rw [Bool.and_eq_true] at hp; exact cmp_con _ _ _ _ (of_decide_eq_true hp.1) (of_decide_eq_true hp.2)
  · cases h

def logS (xs : List Ar) : Option Res := match xs with
  | [.n K k] => some (⟨none, .tuple #[.int .i64 (logI K k), .int .i64 (logE K)]⟩ : Res)
  | _ => none
def logP (xs : List Ar) : Bool := match xs with
  | [.n K k] => decide (inB K k)
  | _ => false
def logO : CF → St → Option (Value × St) := oracle 114 (conSpec TT logP logS)
theorem logO_ok : RunOkE Tryz.prog logO := con_oracle numG gTT roTT fun xs R h hp => by
  unfold logS at h
  split at h
  · injection h with h
    subst h
    unfold logP at hp; exact log_con (of_decide_eq_true hp)
  · cases h

def isIntS (xs : List Ar) : Option Res := match xs with
  | [.n K k] => some (⟨none, .bool (isI' K k)⟩ : Res)
  | _ => none
def isIntP (xs : List Ar) : Bool := match xs with
  | [.n K k] => true
  | _ => false
def isIntO : CF → St → Option (Value × St) := oracle 140 (conSpec TT isIntP isIntS)
theorem isIntO_ok : RunOkE Tryz.prog isIntO := con_oracle numG gTT roTT fun xs R h hp => by
  unfold isIntS at h
  split at h
  · injection h with h
    subst h
    exact isInt_con _ _
  · cases h

def floorS (xs : List Ar) : Option Res := match xs with
  | [.n K k] => some (resN (floorK K k) 0 : Res)
  | _ => none
def floorP (xs : List Ar) : Bool := match xs with
  | [.n K k] => decide (-sml < K * 2 ^ k.toNat ∧ K * 2 ^ k.toNat < sml ∧ -50000 ≤ k)
  | _ => false
def floorO : CF → St → Option (Value × St) := oracle 149 (conSpec TT floorP floorS)
theorem floorO_ok : RunOkE Tryz.prog floorO := con_oracle numG gTT roTT fun xs R h hp => by
  unfold floorS at h
  split at h
  · injection h with h
    subst h
    unfold floorP at hp; obtain ⟨h1, h2, h3⟩ := of_decide_eq_true hp; exact floor_con h1 h2 h3
  · cases h

def shiftedS (xs : List Ar) : Option Res := match xs with
  | [.n K k, .v (.int .i64 d)] => some (resN K (k + d) : Res)
  | _ => none
def shiftedP (xs : List Ar) : Bool := match xs with
  | [.n K k, .v (.int .i64 d)] => decide (inB K k ∧ -20000 ≤ d ∧ d ≤ 20000)
  | _ => false
def shiftedO : CF → St → Option (Value × St) := oracle 75 (conSpec TT shiftedP shiftedS)
theorem shiftedO_ok : RunOkE Tryz.prog shiftedO := con_oracle numG gTT roTT fun xs R h hp => by
  unfold shiftedS at h
  split at h
  · injection h with h
    subst h
    unfold shiftedP at hp; obtain ⟨h1, h2, h3⟩ := of_decide_eq_true hp; exact shifted_con h1 h2 h3
  · cases h

def powerS (xs : List Ar) : Option Res := match xs with
  | [.v (.int .i64 d)] => some (resN 1 d : Res)
  | _ => none
def powerP (xs : List Ar) : Bool := match xs with
  | [.v (.int .i64 d)] => decide (-20000 ≤ d ∧ d ≤ 20000)
  | _ => false
def powerO : CF → St → Option (Value × St) := oracle 42 (conSpec TT powerP powerS)
theorem powerO_ok : RunOkE Tryz.prog powerO := con_oracle numG gTT roTT fun xs R h hp => by
  unfold powerS at h
  split at h
  · injection h with h
    subst h
    unfold powerP at hp; obtain ⟨h2, h3⟩ := of_decide_eq_true hp; exact power_con h2 h3
  · cases h

def toNumS (xs : List Ar) : Option Res := match xs with
  | [.v a] => some (resN (wX a) 0 : Res)
  | _ => none
def toNumP (xs : List Ar) : Bool := match xs with
  | [.v a] => wB a && decide (wX a < 2 ^ 124)
  | _ => false
def toNumO : CF → St → Option (Value × St) := oracle 125 (conSpec TT toNumP toNumS)
theorem toNumO_ok : RunOkE Tryz.prog toNumO := con_oracle numG gTT roTT fun xs R h hp => by
  unfold toNumS at h
  split at h
  · injection h with h
    subst h
    unfold toNumP at hp; rw [Bool.and_eq_true] at hp; exact toNum_con hp.1 (of_decide_eq_true hp.2)
  · cases h

def toWordS (xs : List Ar) : Option Res := match xs with
  | [.n K k] => some (⟨none, wordV (K * 2 ^ k.toNat)⟩ : Res)
  | _ => none
def toWordP (xs : List Ar) : Bool := match xs with
  | [.n K k] => decide (0 ≤ k ∧ 0 ≤ K * 2 ^ k.toNat ∧ K * 2 ^ k.toNat < 2 ^ 124)
  | _ => false
def toWordO : CF → St → Option (Value × St) := oracle 141 (conSpec TT toWordP toWordS)
theorem toWordO_ok : RunOkE Tryz.prog toWordO := con_oracle numG gTT roTT fun xs R h hp => by
  unfold toWordS at h
  split at h
  · injection h with h
    subst h
    unfold toWordP at hp; obtain ⟨h1, h2, h3⟩ := of_decide_eq_true hp; exact toWord_con h1 h2 h3
  · cases h

def biasS (xs : List Ar) : Option Res := match xs with
  | [.v a] => match mach3 a with
    | some (E, P, _) => some (⟨none, .int .i64 (biasOf E)⟩ : Res)
    | none => none
  | _ => none
def biasP (xs : List Ar) : Bool := match xs with
  | [.v a] => match mach3 a with
    | some (E, P, _) => decide (Fmt E P)
    | none => false
  | _ => false
def biasO : CF → St → Option (Value × St) := oracle 77 (conSpec TT biasP biasS)
theorem biasO_ok : RunOkE Tryz.prog biasO := con_oracle numG gTT roTT fun xs R h hp => by
  unfold biasS at h
  split at h
  · split at h
    · rename_i hm
      injection h with h
      subst h
      unfold biasP at hp
      simp only [hm] at hp
      rw [mach3_ok hm]
      exact bias_con (of_decide_eq_true hp)
    · cases h
  · cases h

def lowestS (xs : List Ar) : Option Res := match xs with
  | [.v a] => match mach3 a with
    | some (E, P, _) => some (⟨none, .int .i64 (1 - biasOf E)⟩ : Res)
    | none => none
  | _ => none
def lowestP (xs : List Ar) : Bool := match xs with
  | [.v a] => match mach3 a with
    | some (E, P, _) => decide (Fmt E P)
    | none => false
  | _ => false
def lowestO : CF → St → Option (Value × St) := oracle 76 (conSpec TT lowestP lowestS)
theorem lowestO_ok : RunOkE Tryz.prog lowestO := con_oracle numG gTT roTT fun xs R h hp => by
  unfold lowestS at h
  split at h
  · split at h
    · rename_i hm
      injection h with h
      subst h
      unfold lowestP at hp
      simp only [hm] at hp
      rw [mach3_ok hm]
      exact lowest_con (of_decide_eq_true hp)
    · cases h
  · cases h

def finestS (xs : List Ar) : Option Res := match xs with
  | [.v a] => match mach3 a with
    | some (E, P, _) => some (⟨none, .int .i64 (fineOf E P)⟩ : Res)
    | none => none
  | _ => none
def finestP (xs : List Ar) : Bool := match xs with
  | [.v a] => match mach3 a with
    | some (E, P, _) => decide (Fmt E P)
    | none => false
  | _ => false
def finestO : CF → St → Option (Value × St) := oracle 43 (conSpec TT finestP finestS)
theorem finestO_ok : RunOkE Tryz.prog finestO := con_oracle numG gTT roTT fun xs R h hp => by
  unfold finestS at h
  split at h
  · split at h
    · rename_i hm
      injection h with h
      subst h
      unfold finestP at hp
      simp only [hm] at hp
      rw [mach3_ok hm]
      exact finest_con (of_decide_eq_true hp)
    · cases h
  · cases h

def infinityS (xs : List Ar) : Option Res := match xs with
  | [.v a] => match mach3 a with
    | some (E, P, _) => some (⟨none, wordV (infOf E P)⟩ : Res)
    | none => none
  | _ => none
def infinityP (xs : List Ar) : Bool := match xs with
  | [.v a] => match mach3 a with
    | some (E, P, _) => decide (Fmt E P)
    | none => false
  | _ => false
def infinityO : CF → St → Option (Value × St) := oracle 105 (conSpec TT infinityP infinityS)
theorem infinityO_ok : RunOkE Tryz.prog infinityO := con_oracle numG gTT roTT fun xs R h hp => by
  unfold infinityS at h
  split at h
  · split at h
    · rename_i hm
      injection h with h
      subst h
      unfold infinityP at hp
      simp only [hm] at hp
      rw [mach3_ok hm]
      exact infinity_con (of_decide_eq_true hp)
    · cases h
  · cases h

def quietS (xs : List Ar) : Option Res := match xs with
  | [.v a] => match mach3 a with
    | some (E, P, _) => some (⟨none, wordV (quietOf E P)⟩ : Res)
    | none => none
  | _ => none
def quietP (xs : List Ar) : Bool := match xs with
  | [.v a] => match mach3 a with
    | some (E, P, _) => decide (Fmt E P)
    | none => false
  | _ => false
def quietO : CF → St → Option (Value × St) := oracle 82 (conSpec TT quietP quietS)
theorem quietO_ok : RunOkE Tryz.prog quietO := con_oracle numG gTT roTT fun xs R h hp => by
  unfold quietS at h
  split at h
  · split at h
    · rename_i hm
      injection h with h
      subst h
      unfold quietP at hp
      simp only [hm] at hp
      rw [mach3_ok hm]
      exact quiet_con (of_decide_eq_true hp)
    · cases h
  · cases h

def checkS (xs : List Ar) : Option Res := match xs with
  | [.v a] => match fmt2 a with
    | some (E, P) => some (⟨none, .int .i64 (if Fmt E P then 0 else 2)⟩ : Res)
    | none => none
  | _ => none
def checkO : CF → St → Option (Value × St) := oracle 19 (conSpec TT (fun _ => true) checkS)
theorem checkO_ok : RunOkE Tryz.prog checkO := con_oracle numG gTT roTT fun xs R h hp => by
  unfold checkS at h
  split at h
  · split at h
    · rename_i hm
      injection h with h
      subst h
      rw [fmt2_ok hm]
      exact check_con _ _
    · cases h
  · cases h
def unsignedS (xs : List Ar) : Option Res := match xs with
  | [.v a, .v b] => match mach3 a with
    | some (E, P, _) => some (⟨none, .tuple #[.bool (decide (signOf E P ≤ wX b)), wordV (sizeOf' E P (wX b))]⟩ : Res)
    | none => none
  | _ => none
def unsignedP (xs : List Ar) : Bool := match xs with
  | [.v a, .v b] => match mach3 a with
    | some (E, P, _) => decide (Fmt E P) && wB b
    | none => false
  | _ => false
def unsignedO : CF → St → Option (Value × St) := oracle 106 (conSpec TT unsignedP unsignedS)
theorem unsignedO_ok : RunOkE Tryz.prog unsignedO := con_oracle numG gTT roTT fun xs R h hp => by
  unfold unsignedS at h
  split at h
  · split at h
    · rename_i hm
      injection h with h
      subst h
      unfold unsignedP at hp
      simp only [hm, Bool.and_eq_true] at hp
      rw [mach3_ok hm]
      exact unsigned_con (of_decide_eq_true hp.1) hp.2
    · cases h
  · cases h
def signedS (xs : List Ar) : Option Res := match xs with
  | [.v a, .v (.bool s), .v b] => match mach3 a, s with
    | some (E, P, _), true => some (⟨none, wordV (wX b + signOf E P)⟩ : Res)
    | some _, false => some (⟨none, wordV (wX b)⟩ : Res)
    | none, _ => none
  | _ => none
def signedP (xs : List Ar) : Bool := match xs with
  | [.v a, .v (.bool _), .v b] => match mach3 a with
    | some (E, P, _) => decide (Fmt E P) && (wB b && decide (wX b < signOf E P))
    | none => false
  | _ => false
def signedO : CF → St → Option (Value × St) := oracle 65 (conSpec TT signedP signedS)
theorem signedO_ok : RunOkE Tryz.prog signedO := con_oracle numG gTT roTT fun xs R h hp => by
  unfold signedS at h
  split at h
  · split at h
    · rename_i hm
      injection h with h
      subst h
      unfold signedP at hp
      simp only [hm, Bool.and_eq_true] at hp
      rw [mach3_ok hm]
      exact signedT_con (of_decide_eq_true hp.1) hp.2.1 (of_decide_eq_true hp.2.2)
    · rename_i q hm
      obtain ⟨E, P, m⟩ := q
      injection h with h
      subst h
      unfold signedP at hp
      simp only [hm, Bool.and_eq_true] at hp
      rw [mach3_ok hm]
      exact signedF_con hp.2.1
    · cases h
  · cases h
end Go.Proofs.YtjomebgpnokboaaGreatDoor
/-
  The step of a number, by runs with unknown numbers.
-/
namespace Go.Proofs.YtjomebgpnokboaaGreatDoor
open Go.RowKit Go.Shelf Go.Canon

def osTab : List Value := [.int .i64 0, .int .i64 1, .int .i64 2, .int .i64 4, .int .i64 3]
def TR : Tabs := ⟨0, [(1, osTab)]⟩
theorem gTR : TR.g < Tryz.prog.globals.size := of_decide_eq_true (by kernel_rfl)
theorem sizeP : Tryz.prog.globals.size < 2 ^ 38 := of_decide_eq_true (by kernel_rfl)
theorem roTR : ∀ p ∈ TR.ro, p.1 < Tryz.prog.globals.size ∧ p.2.all (ground 3) = true ∧ p.1 ≠ TR.g := fun p hp => by
  rcases List.mem_cons.1 hp with rfl | hp
  · exact ⟨of_decide_eq_true (by kernel_rfl), rfl, by decide⟩
  · cases hp
theorem roTR2 : ∀ p ∈ TR.ro, p.1 < Tryz.prog.globals.size ∧ p.2.all (ground 3) = true := fun p hp => ⟨(roTR p hp).1, (roTR p hp).2.1⟩
theorem con_sym {call : CF → St → Option (Value × St)} (hcall : RunOkE Tryz.prog call) {g : Nat} {xs : List Ar} {an : List Bool} {n : Nat} {v : Value} {o : Option CObj} {cs : List (Bool × Bool)}
    (h : conRun Tryz.prog TR call 1000 g xs an n = some (v, o, cs)) (hcs : ∀ c ∈ cs, c.1 = c.2) (hlen : xs.length < 2 ^ 38) (hgr : ∀ x, Ar.v x ∈ xs → ground 9 x = true) {R : Res} (hfit : Fits R n v o) : Con Tryz.prog TR g xs R :=
  con_of_run numG noCountP mixedP gTR roTR sizeP hcall hlen hgr h hcs hfit
/-- a plain result -/
theorem con_plain {call : CF → St → Option (Value × St)} (hcall : RunOkE Tryz.prog call) {g : Nat} {xs : List Ar} {an : List Bool} {v : Value} {o : Option CObj} {cs : List (Bool × Bool)}
    (h : conRun Tryz.prog TR call 1000 g xs an 0 = some (v, o, cs)) (hcs : ∀ c ∈ cs, c.1 = c.2) (hlen : xs.length < 2 ^ 38) (hgr : ∀ x, Ar.v x ∈ xs → ground 9 x = true) {t : Value} (hv : v = t) (hg : ground 9 t = true) : Con Tryz.prog TR g xs ⟨none, t⟩ :=
  con_sym hcall h hcs hlen hgr ⟨hv, hg⟩
theorem wrapI {x : Int} (h : -9223372036854775808 ≤ x ∧ x ≤ 9223372036854775807) : IntKind.i64.wrap x = x := IntWalk.i64_in x h

theorem logI_range {K k : Int} (h : inB K k) : -50000 ≤ logI K k ∧ logI K k ≤ 110000 := by
  obtain ⟨h1, h2, h3, h4⟩ := h
  unfold logI
  split
  · omega
  · rename_i h0
    have hp : 0 < (K.natAbs : Int) := by omega
    have h5 : (K.natAbs : Int) < sml := by omega
    have h6 : blen K.natAbs ≤ 60000 := (blen_lt (by omega)).2 h5
    have h7 := (blen_spec hp).2.2
    omega
def stepOf (E P K k : Int) : Int := if K = 0 then fineOf E P else (if 1 - biasOf E > logI K k then 1 - biasOf E else logI K k) - P + 1
def stepC : CF → St → Option (Value × St) := orElse logO (orElse finestO lowestO)
theorem stepC_ok : RunOkE Tryz.prog stepC := orElse_ok logO_ok (orElse_ok finestO_ok lowestO_ok)
set_option maxRecDepth 1000000 in
theorem step_run (E P m K k : Int) : conRun Tryz.prog TR stepC 1000 118 [.v (machV E P m), .n K k] [false, true] 0 =
  some (.int .i64 (IntKind.i64.wrap (IntKind.i64.wrap ((if 1 - biasOf E > logI K k then 1 - biasOf E else logI K k) - P) + 1)), some (.fact 0), [(true, true), (decide (Fmt E P), true), (logE K != 0, false), (decide (inB K k), true), (decide (K < 0) == decide (K < 0), true)]) := by kernel_rfl
set_option maxRecDepth 1000000 in
theorem step_run0 (E P m K k : Int) : conRun Tryz.prog TR stepC 1000 118 [.v (machV E P m), .n K k] [true, true] 0 =
  some (.int .i64 (fineOf E P), some (.fact 0), [(decide (Fmt E P), true), (logE K != 0, true), (decide (inB K k), true), (decide (K < 0) == decide (K < 0), true)]) := by kernel_rfl
theorem groundMN (E P m K k : Int) : ∀ x, Ar.v x ∈ [Ar.v (machV E P m), .n K k] → ground 9 x = true := fun x hx => by
  simp at hx; subst hx; rfl
theorem step_con {E P m K k : Int} (h : Fmt E P) (hb : inB K k) : Con Tryz.prog TR 118 [.v (machV E P m), .n K k] ⟨none, .int .i64 (stepOf E P K k)⟩ := by
  have hl := logI_range hb
  have hbr := bias_range h.1 h.2.1
  have hf := h
  obtain ⟨f1, f2, f3, f4, f5⟩ := h
  by_cases h0 : K = 0
  · subst h0
    refine con_plain stepC_ok (step_run0 E P m 0 k) (by simp [hf, hb, logE]) (by simp) (groundMN E P m 0 k) ?_ rfl
    unfold stepOf; rw [if_pos rfl]
  · refine con_plain stepC_ok (step_run E P m K k) (by simp [hf, hb, logE, h0]) (by simp) (groundMN E P m K k) ?_ rfl
    unfold stepOf; rw [if_neg h0]
    rw [wrapI (x := (if 1 - biasOf E > logI K k then 1 - biasOf E else logI K k) - P) (by split <;> omega), wrapI (by split <;> omega)]
def stepS (xs : List Ar) : Option Res := match xs with
  | [.v a, .n K k] => match mach3 a with
    | some (E, P, _) => some (⟨none, .int .i64 (stepOf E P K k)⟩ : Res)
    | none => none
  | _ => none
def stepP (xs : List Ar) : Bool := match xs with
  | [.v a, .n K k] => match mach3 a with
    | some (E, P, _) => decide (Fmt E P) && decide (inB K k)
    | none => false
  | _ => false
def stepO : CF → St → Option (Value × St) := oracle 118 (conSpec TR stepP stepS)
theorem stepO_ok : RunOkE Tryz.prog stepO := con_oracle numG gTR roTR2 fun xs R h hp => by
  unfold stepS at h
  split at h
  · split at h
    · rename_i hm
      injection h with h
      subst h
      unfold stepP at hp
      simp only [hm, Bool.and_eq_true] at hp
      rw [mach3_ok hm]
      exact step_con (of_decide_eq_true hp.1) (of_decide_eq_true hp.2)
    · cases h
  · cases h
end Go.Proofs.YtjomebgpnokboaaGreatDoor
