/-
  FloatsDiffers: the paths of the law.
-/
import Derived.Test.YtjomebgpnokboaaGreatDoorP26
import Derived.OpenShut
import Derived.WideShapes
set_option linter.unusedVariables false
set_option linter.unusedSimpArgs false
set_option linter.unusedSectionVars false
namespace Go.Proofs.YtjomebgpnokboaaGreatDoor
open Go.RowKit Go.Shelf Go.Canon

def wv (h l : Int) : Value := .agg #[.int .u64 h, .int .u64 l]
def opV (E P m ah al bh bl ch cl : Int) : Value := .agg #[.int .i64 E, .int .i64 P, .int .i64 m, .int .u64 ah, .int .u64 al, .int .u64 bh, .int .u64 bl, .int .u64 ch, .int .u64 cl]
def lawC (s : CF → St → Option (Value × St)) : CF → St → Option (Value × St) := orElse awakeO (orElse valueO (orElse s (orElse signO (orElse addO (orElse cmpO subO)))))
theorem lawC_ok {s : CF → St → Option (Value × St)} (h : RunOkE Tryz.prog s) : RunOkE Tryz.prog (lawC s) := orElse_ok awakeO_ok (orElse_ok valueO_ok (orElse_ok h (orElse_ok signO_ok (orElse_ok addO_ok (orElse_ok cmpO_ok subO_ok)))))
noncomputable def diffRun (s : CF → St → Option (Value × St)) (E P m ah al bh bl ch cl : Int) (an : List Bool) : Option (Value × Option CObj × List (Bool × Bool)) := conRun Tryz.prog TL (nest (lawC s) 1) 1000 3 [.v (opV E P m ah al bh bl ch cl)] an 0
/-- both words are read: the first one only, both -/
def dA (E P ah al : Int) : Int := vErr E P (wX (wv ah al))
def dV (E P ah al : Int) : Int := vK E P (wX (wv ah al))
def lcs0 (ah al bh bl : Int) : List (Bool × Bool) := [(true, true), (wB (wv bh bl), true), (true, true), (wB (wv ah al), true)]
def lcs1 (E P ah al bh bl : Int) (i : Bool) : List (Bool × Bool) := (dA E P ah al == 0, i) :: lcs0 ah al bh bl
def lcs2 (E P ah al bh bl : Int) (i : Bool) : List (Bool × Bool) := (dA E P bh bl == 0, i) :: lcs1 E P ah al bh bl true
def lcs4 (l : List (Bool × Bool)) : List (Bool × Bool) := (true, true) :: (true, true) :: (true, true) :: (true, true) :: l
def lcsE (l : List (Bool × Bool)) : List (Bool × Bool) := (true, true) :: (true, true) :: l
def nP (K : Int) : Bool × Bool := (decide (K < 0) == decide (K < 0), true)
def lcsS (K : Int) (b : Bool) (l : List (Bool × Bool)) : List (Bool × Bool) := (decide (sgI K < 0), b) :: (true, true) :: nP K :: l
/-- K is compared with 2 L -/
def dbl (f L : Int) : Int := upK L f f + upK L f f
def pP (K k L l : Int) : Bool := decide (inB (upK K k l) (min k l)) && decide (inB (upK L l k) (min k l))
def lcsC (f K L : Int) (b : Bool) (l : List (Bool × Bool)) : List (Bool × Bool) :=
  (decide (cmpI (upK K f (min f f)) (upK (dbl f L) (min f f) f) > 0), b) :: (pP K f (dbl f L) (min f f), true) :: nP (dbl f L) :: nP K :: (pP L f L f, true) :: nP L :: nP L :: l
def lcs5 (E P ah al bh bl : Int) (a : Bool) : List (Bool × Bool) := lcsS (dV E P ah al) a (lcs4 (lcs2 E P ah al bh bl true))
def lcs6 (E P ah al bh bl : Int) (b : Bool) : List (Bool × Bool) := lcsS (dV E P bh bl) b (lcs5 E P ah al bh bl false)
def lcs7 (E P ah al bh bl : Int) (b : Bool) : List (Bool × Bool) := lcsC (fineOf E P) (dV E P ah al) (dV E P bh bl) b (lcs6 E P ah al bh bl false)
def lcs8 (E P ah al bh bl : Int) (b : Bool) : List (Bool × Bool) := lcsC (fineOf E P) (dV E P bh bl) (dV E P ah al) b (lcs7 E P ah al bh bl false)
def sPr (E P m ah al bh bl : Int) : Bool := wB (wv ah al) && (wB (wv bh bl) && (decide (0 ≤ m ∧ m ≤ 4) && (vErr E P (wX (wv ah al)) == 0 && vErr E P (wX (wv bh bl)) == 0)))
def sBr (E P m ah al bh bl : Int) : Bool := wB (wv ah al) && (wB (wv bh bl) && (!decide (0 ≤ m ∧ m ≤ 4) && decide (Fmt E P)))
def lcs9 (m : Int) (p b : Bool) (l : List (Bool × Bool)) : List (Bool × Bool) := (decide (m < 0), b) :: (true, true) :: (true, true) :: (p, true) :: (true, true) :: l
def lcs10 (m : Int) (p b : Bool) (l : List (Bool × Bool)) : List (Bool × Bool) := (decide (m > 4), b) :: (true, true) :: lcs9 m p false l
/-- the word of the difference, its flags -/
def dW (E P m ah al bh bl : Int) : Int := arW E P m (opK E P (wX (wv ah al))) (-opK E P (wX (wv bh bl))) (negOf E P (wX (wv ah al))) (!negOf E P (wX (wv bh bl)))
def dF (E P m ah al bh bl : Int) : Int := arF E P m (opK E P (wX (wv ah al))) (-opK E P (wX (wv bh bl)))
def dD (f K L : Int) : Int := upK K f f - upK L f f
def lcs11 (E P m ah al bh bl : Int) (l : List (Bool × Bool)) : List (Bool × Bool) :=
  (cmpI (upK (vK E P (wX (wordV (dW E P m ah al bh bl)))) (fineOf E P) (min (fineOf E P) (fineOf E P))) (upK (dD (fineOf E P) (dV E P ah al) (dV E P bh bl)) (min (fineOf E P) (fineOf E P)) (fineOf E P)) == 0, true) ::
  (pP (vK E P (wX (wordV (dW E P m ah al bh bl)))) (fineOf E P) (dD (fineOf E P) (dV E P ah al) (dV E P bh bl)) (min (fineOf E P) (fineOf E P)), true) ::
  nP (dD (fineOf E P) (dV E P ah al) (dV E P bh bl)) :: nP (vK E P (wX (wordV (dW E P m ah al bh bl)))) ::
  (pP (dV E P ah al) (fineOf E P) (dV E P bh bl) (fineOf E P), true) :: nP (dV E P bh bl) :: nP (dV E P ah al) ::
  (dF E P m ah al bh bl == 0, true) :: (vErr E P (wX (wordV (dW E P m ah al bh bl))) == 0, true) :: (true, true) :: (true, true) :: (wB (wordV (dW E P m ah al bh bl)), true) :: l
set_option maxRecDepth 1000000 in
theorem diff_a (E P m ah al bh bl ch cl : Int) : diffRun subFO E P m ah al bh bl ch cl [false, true, true] = some (.bool true, some (.fact 0), lcsE (lcs4 (lcs1 E P ah al bh bl false))) := by kernel_rfl
set_option maxRecDepth 1000000 in
theorem diff_b (E P m ah al bh bl ch cl : Int) : diffRun subFO E P m ah al bh bl ch cl [true, false, true, true] = some (.bool true, some (.fact 0), lcsE (lcs4 (lcs2 E P ah al bh bl false))) := by kernel_rfl
set_option maxRecDepth 1000000 in
theorem diff_c (E P m ah al bh bl ch cl : Int) : diffRun subFO E P m ah al bh bl ch cl [true, true, true, true, true] = some (.bool true, some (.fact 0), lcsE (lcs5 E P ah al bh bl true)) := by kernel_rfl
set_option maxRecDepth 1000000 in
theorem diff_d (E P m ah al bh bl ch cl : Int) : diffRun subFO E P m ah al bh bl ch cl [true, true, false, true, true, true] = some (.bool true, some (.fact 0), lcsE (lcs6 E P ah al bh bl true)) := by kernel_rfl
set_option maxRecDepth 1000000 in
theorem diff_e (E P m ah al bh bl ch cl : Int) : diffRun subFO E P m ah al bh bl ch cl [true, true, false, false, true, true, true] = some (.bool true, some (.fact 0), lcsE (lcs7 E P ah al bh bl true)) := by kernel_rfl
set_option maxRecDepth 1000000 in
theorem diff_f (E P m ah al bh bl ch cl : Int) : diffRun subFO E P m ah al bh bl ch cl [true, true, false, false, false, true, true, true] = some (.bool true, some (.fact 0), lcsE (lcs8 E P ah al bh bl true)) := by kernel_rfl
set_option maxRecDepth 1000000 in
theorem diff_g (E P m ah al bh bl ch cl : Int) : diffRun subBO E P m ah al bh bl ch cl [true, true, false, false, false, false, true, true, true, true] = some (.bool true, some (.fact 0), lcsE ((true, true) :: lcs9 m (sBr E P m ah al bh bl) true (lcs8 E P ah al bh bl false))) := by kernel_rfl
set_option maxRecDepth 1000000 in
theorem diff_h (E P m ah al bh bl ch cl : Int) : diffRun subBO E P m ah al bh bl ch cl [true, true, false, false, false, false, false, true, true, true, true] = some (.bool true, some (.fact 0), lcsE ((true, true) :: lcs10 m (sBr E P m ah al bh bl) true (lcs8 E P ah al bh bl false))) := by kernel_rfl
set_option maxRecDepth 1000000 in
theorem diff_i (E P m ah al bh bl ch cl : Int) : diffRun subFO E P m ah al bh bl ch cl [true, true, false, false, false, false, false, false, true, true, true, true, true, true] = some (.bool true, some (.fact 0), lcsE (lcs11 E P m ah al bh bl (lcs10 m (sPr E P m ah al bh bl) false (lcs8 E P ah al bh bl false)))) := by kernel_rfl
end Go.Proofs.YtjomebgpnokboaaGreatDoor
/-
  FloatsDiffers: the law returns true whatever its argument. Condition: E, P, m any numbers, the halves of the words below 2^64.
-/
namespace Go.Proofs.YtjomebgpnokboaaGreatDoor
open Go.RowKit Go.Shelf Go.Canon

theorem vErr_of {E P X : Int} (h : Fmt E P) (h1 : X < 2 * signOf E P) (hk : kindOf E P X = 1 ∨ kindOf E P X = 2) : vErr E P X = 0 ∧ vK E P X = opK E P X := by
  have he : rdErr E P X = 0 := by unfold rdErr; rw [if_pos h, if_neg (by omega)]
  have hkd : rdKind E P X = kindOf E P X := by unfold rdKind; rw [if_pos he]
  have hv : vErr E P X = 0 := by unfold vErr; rw [if_pos he, hkd, if_pos (by omega)]
  exact ⟨hv, by unfold vK rdK; rw [if_pos hv, if_pos he]⟩
theorem kind_zero {E P X : Int} (h : X = 0 ∨ X = signOf E P) (hs : 0 < signOf E P) : kindOf E P X = 1 ∧ opK E P X = 0 := by
  have hz : sizW E P X = 0 := by
    unfold sizW sizeOf'
    rcases h with rfl | rfl
    · split <;> omega
    · split <;> omega
  have hk : kindOf E P X = 1 := by unfold kindOf; rw [if_pos hz]
  refine ⟨hk, ?_⟩
  unfold opK
  rw [hk]; simp
/-- the difference of numbers that are near each other is a value -/
theorem dif_ok {E P m X Y : Int} {na nb : Bool} (h : Fmt E P) (x0 : 0 ≤ X) (x1 : X < 2 * signOf E P) (y0 : 0 ≤ Y) (y1 : Y < 2 * signOf E P) (kx : kindOf E P X = 1 ∨ kindOf E P X = 2) (ky : kindOf E P Y = 1 ∨ kindOf E P Y = 2)
    (a0 : 0 ≤ opK E P X) (b0 : 0 ≤ opK E P Y) (ha : opK E P X ≤ 2 * opK E P Y) (hb : opK E P Y ≤ 2 * opK E P X) :
    arF E P m (opK E P X) (-opK E P Y) = 0 ∧ (0 ≤ arW E P m (opK E P X) (-opK E P Y) na nb ∧ arW E P m (opK E P X) (-opK E P Y) na nb < two128) ∧ vErr E P (arW E P m (opK E P X) (-opK E P Y) na nb) = 0 ∧ vK E P (arW E P m (opK E P X) (-opK E P Y) na nb) = opK E P X - opK E P Y := by
  have hsg := sign_range h
  by_cases hz : opK E P X + -opK E P Y = 0
  · have hF : arF E P m (opK E P X) (-opK E P Y) = 0 := by unfold arF; rw [if_pos hz]
    have hW : arW E P m (opK E P X) (-opK E P Y) na nb = 0 ∨ arW E P m (opK E P X) (-opK E P Y) na nb = signOf E P := by
      unfold arW
      rw [if_pos hz]
      generalize (if na = nb then na else decide (m = 4)) = t
      cases t
      · exact .inl rfl
      · exact .inr rfl
    generalize arW E P m (opK E P X) (-opK E P Y) na nb = W at hW
    obtain ⟨k1, k2⟩ := kind_zero hW hsg.1
    have hlt : 0 ≤ W ∧ W < 2 * signOf E P := by rcases hW with rfl | rfl <;> omega
    obtain ⟨v1, v2⟩ := vErr_of h hlt.2 (.inl k1)
    exact ⟨hF, ⟨hlt.1, by omega⟩, v1, by omega⟩
  · obtain ⟨da, ea, fa, _, da1, _⟩ := val_form h x0 x1 kx
    obtain ⟨db, eb, fb, _, db1, _⟩ := val_form h y0 y1 ky
    have hKl := opK_lt h x0 x1 kx
    have hLl := opK_lt h y0 y1 ky
    obtain ⟨d, e, hd, hd2⟩ := near_form h a0 b0 (show opK E P X = da * 2 ^ ea by omega) (show opK E P Y = db * 2 ^ eb by omega) da1 db1 ha hb
    have hF : arF E P m (opK E P X) (-opK E P Y) = rndF E P m (opK E P X - opK E P Y) (fineOf E P) := by unfold arF; rw [if_neg hz]; rfl
    have hW : arW E P m (opK E P X) (-opK E P Y) na nb = rndW E P m (opK E P X - opK E P Y) (fineOf E P) := by unfold arW; rw [if_neg hz]; rfl
    rw [hF, hW]
    obtain ⟨r1, r2, r3, r4, r5⟩ := rnd_exact (m := m) h (show opK E P X - opK E P Y ≠ 0 by omega) hd hd2 (by omega)
    obtain ⟨v1, v2⟩ := vErr_of h r3 (.inr r4)
    exact ⟨r1, ⟨r2, by omega⟩, v1, by omega⟩
theorem nP_ok (K : Int) : (nP K).1 = (nP K).2 := by simp [nP]
theorem sg_lt (K : Int) : decide (sgI K < 0) = decide (K < 0) := by
  unfold sgI
  by_cases h0 : K = 0
  · rw [if_pos h0, h0]
  · rw [if_neg h0]
    by_cases h1 : K < 0
    · rw [if_pos h1, decide_eq_true h1]; rfl
    · rw [if_neg h1, decide_eq_false h1]; rfl
theorem cm_gt (K L : Int) : decide (cmpI K L > 0) = decide (K > L) := by
  unfold cmpI
  by_cases h0 : K < L
  · rw [if_pos h0, decide_eq_false (show ¬K > L by omega)]; rfl
  · rw [if_neg h0]
    by_cases h1 : L < K
    · rw [if_pos h1, decide_eq_true (show K > L from h1)]; rfl
    · rw [if_neg h1, decide_eq_false (show ¬K > L from h1)]; rfl
theorem upK_min (K f : Int) : upK K f (min f f) = K := by rw [show min f f = f by omega, upK_same]
theorem upK_min' (K f : Int) : upK K (min f f) f = K := by rw [show min f f = f by omega, upK_same]
theorem dbl_eq (f L : Int) : dbl f L = L + L := by unfold dbl; rw [upK_same]
theorem dD_eq (f K L : Int) : dD f K L = K - L := by unfold dD; rw [upK_same, upK_same]
theorem pP_ok {K L k : Int} (h1 : -sml < K ∧ K < sml) (h2 : -sml < L ∧ L < sml) (h3 : -50000 ≤ k ∧ k ≤ 50000) : pP K k L k = true := by
  unfold pP
  rw [upK_same, upK_same, show min k k = k by omega, decide_eq_true (show inB K k from ⟨h1.1, h1.2, h3.1, h3.2⟩), decide_eq_true (show inB L k from ⟨h2.1, h2.2, h3.1, h3.2⟩)]; rfl
theorem pP_min {K L k : Int} (h1 : -sml < K ∧ K < sml) (h2 : -sml < L ∧ L < sml) (h3 : -50000 ≤ k ∧ k ≤ 50000) : pP K k L (min k k) = true := by
  rw [show min k k = k by omega]; exact pP_ok h1 h2 h3
theorem lcsC_ok {f K L : Int} {b : Bool} (hf : -50000 ≤ f ∧ f ≤ 50000) (h1 : -sml < 2 * K ∧ 2 * K < sml) (h2 : -sml < 2 * L ∧ 2 * L < sml) (hb : decide (K > 2 * L) = b) {l : List (Bool × Bool)} (hl : ∀ c ∈ l, c.1 = c.2) : ∀ c ∈ lcsC f K L b l, c.1 = c.2 := by
  unfold lcsC
  simp only [List.forall_mem_cons]
  refine ⟨?_, ?_, nP_ok _, nP_ok _, pP_ok ⟨by omega, by omega⟩ ⟨by omega, by omega⟩ hf, nP_ok _, nP_ok _, hl⟩
  · rw [upK_min, upK_min', cm_gt, dbl_eq, ← hb]
    congr 2; omega
  · rw [dbl_eq]; exact pP_min ⟨by omega, by omega⟩ ⟨by omega, by omega⟩ hf
theorem lcsE_ok {l : List (Bool × Bool)} (hl : ∀ c ∈ l, c.1 = c.2) : ∀ c ∈ lcsE l, c.1 = c.2 := by
  unfold lcsE; simp only [List.forall_mem_cons]; exact ⟨trivial, trivial, hl⟩
theorem lcs4_ok {l : List (Bool × Bool)} (hl : ∀ c ∈ l, c.1 = c.2) : ∀ c ∈ lcs4 l, c.1 = c.2 := by
  unfold lcs4; simp only [List.forall_mem_cons]; exact ⟨trivial, trivial, trivial, trivial, hl⟩
theorem lcsS_ok {K : Int} {b : Bool} (hb : decide (K < 0) = b) {l : List (Bool × Bool)} (hl : ∀ c ∈ l, c.1 = c.2) : ∀ c ∈ lcsS K b l, c.1 = c.2 := by
  unfold lcsS; simp only [List.forall_mem_cons]; exact ⟨by rw [sg_lt]; exact hb, trivial, nP_ok _, hl⟩
theorem lcs9_ok {m : Int} {p b : Bool} (hb : decide (m < 0) = b) (hp : p = true) {l : List (Bool × Bool)} (hl : ∀ c ∈ l, c.1 = c.2) : ∀ c ∈ lcs9 m p b l, c.1 = c.2 := by
  unfold lcs9; simp only [List.forall_mem_cons]; exact ⟨hb, trivial, trivial, hp, trivial, hl⟩
theorem lcs10_ok {m : Int} {p b : Bool} (h0 : decide (m < 0) = false) (hb : decide (m > 4) = b) (hp : p = true) {l : List (Bool × Bool)} (hl : ∀ c ∈ l, c.1 = c.2) : ∀ c ∈ lcs10 m p b l, c.1 = c.2 := by
  unfold lcs10; simp only [List.forall_mem_cons]; exact ⟨hb, trivial, lcs9_ok h0 hp hl⟩

theorem diff_con {E P m ah al bh bl ch cl : Int} (hA : wB (wv ah al) = true) (hB : wB (wv bh bl) = true) : Con Tryz.prog TL 3 [.v (opV E P m ah al bh bl ch cl)] ⟨none, .bool true⟩ := by
  have g : ∀ x, Ar.v x ∈ [Ar.v (opV E P m ah al bh bl ch cl)] → ground 9 x = true := fun x hx => by
    simp at hx; subst hx; rfl
  have fin : ∀ {s : CF → St → Option (Value × St)}, RunOkE Tryz.prog s → ∀ {an : List Bool} {o : Option CObj} {cs : List (Bool × Bool)}, diffRun s E P m ah al bh bl ch cl an = some (.bool true, o, lcsE cs) → (∀ c ∈ cs, c.1 = c.2) → Con Tryz.prog TL 3 [.v (opV E P m ah al bh bl ch cl)] ⟨none, .bool true⟩ :=
    fun hs _ _ _ h hcs => con_of_run numG noCountP mixedP gTL roTL sizeP (nest_ok (lawC_ok hs) 1) (by simp) g h (lcsE_ok hcs) ⟨rfl, rfl⟩
  have l0 : ∀ c ∈ lcs0 ah al bh bl, c.1 = c.2 := by
    unfold lcs0; simp only [List.forall_mem_cons]; exact ⟨trivial, hB, trivial, hA, fun c hc => by cases hc⟩
  by_cases eA : dA E P ah al = 0
  · have l1 : ∀ c ∈ lcs1 E P ah al bh bl true, c.1 = c.2 := by
      unfold lcs1; simp only [List.forall_mem_cons]; exact ⟨by rw [eA]; rfl, l0⟩
    by_cases eB : dA E P bh bl = 0
    · have l2 : ∀ c ∈ lcs2 E P ah al bh bl true, c.1 = c.2 := by
        unfold lcs2; simp only [List.forall_mem_cons]; exact ⟨by rw [eB]; rfl, l1⟩
      obtain ⟨hF, a1, kA, vA⟩ := vErr_zero eA
      obtain ⟨_, b1, kB, vB⟩ := vErr_zero eB
      have a0 := (wX_range hA).1
      have b0 := (wX_range hB).1
      have hK := opK_lt hF a0 a1 kA
      have hL := opK_lt hF b0 b1 kB
      have hm := max_sml hF
      have hbr := bias_range hF.1 hF.2.1
      have hf : -50000 ≤ fineOf E P ∧ fineOf E P ≤ 50000 := ⟨by have := hF.2.2.2.1; unfold fineOf; omega, by have := fine_le hF; omega⟩
      have vA' : dV E P ah al = opK E P (wX (wv ah al)) := vA
      have vB' : dV E P bh bl = opK E P (wX (wv bh bl)) := vB
      have hK2 : -sml < 2 * dV E P ah al ∧ 2 * dV E P ah al < sml := by rw [vA']; omega
      have hL2 : -sml < 2 * dV E P bh bl ∧ 2 * dV E P bh bl < sml := by rw [vB']; omega
      by_cases hK0 : dV E P ah al < 0
      · exact fin subFO_ok (diff_c E P m ah al bh bl ch cl) (lcsS_ok (decide_eq_true hK0) (lcs4_ok l2))
      have l5 : ∀ c ∈ lcs5 E P ah al bh bl false, c.1 = c.2 := lcsS_ok (decide_eq_false hK0) (lcs4_ok l2)
      by_cases hL0 : dV E P bh bl < 0
      · exact fin subFO_ok (diff_d E P m ah al bh bl ch cl) (lcsS_ok (decide_eq_true hL0) l5)
      have l6 : ∀ c ∈ lcs6 E P ah al bh bl false, c.1 = c.2 := lcsS_ok (decide_eq_false hL0) l5
      by_cases hKL : dV E P ah al > 2 * dV E P bh bl
      · exact fin subFO_ok (diff_e E P m ah al bh bl ch cl) (lcsC_ok hf hK2 hL2 (decide_eq_true hKL) l6)
      have l7 : ∀ c ∈ lcs7 E P ah al bh bl false, c.1 = c.2 := lcsC_ok hf hK2 hL2 (decide_eq_false hKL) l6
      by_cases hLK : dV E P bh bl > 2 * dV E P ah al
      · exact fin subFO_ok (diff_f E P m ah al bh bl ch cl) (lcsC_ok hf hL2 hK2 (decide_eq_true hLK) l7)
      have l8 : ∀ c ∈ lcs8 E P ah al bh bl false, c.1 = c.2 := lcsC_ok hf hL2 hK2 (decide_eq_false hLK) l7
      have eA' : vErr E P (wX (wv ah al)) = 0 := eA
      have eB' : vErr E P (wX (wv bh bl)) = 0 := eB
      by_cases hmd : 0 ≤ m ∧ m ≤ 4
      · have hs : sPr E P m ah al bh bl = true := by unfold sPr; rw [hA, hB, decide_eq_true hmd, eA', eB']; rfl
        have hd := dif_ok (m := m) (na := negOf E P (wX (wv ah al))) (nb := !negOf E P (wX (wv bh bl))) hF a0 a1 b0 b1 kA kB (by omega) (by omega) (by omega) (by omega)
        obtain ⟨hdF, hdR, hdE, hdK⟩ := hd
        have hdF : dF E P m ah al bh bl = 0 := hdF
        have hdE : vErr E P (dW E P m ah al bh bl) = 0 := hdE
        have hdK : vK E P (dW E P m ah al bh bl) = dV E P ah al - dV E P bh bl := by rw [vA', vB']; exact hdK
        refine fin subFO_ok (diff_i E P m ah al bh bl ch cl) ?_
        unfold lcs11
        simp only [List.forall_mem_cons, wX_wordV, dD_eq, hdK, hdF, hdE, upK_min, upK_min', cmpI_eq]
        exact ⟨rfl, pP_min ⟨by omega, by omega⟩ ⟨by omega, by omega⟩ hf, nP_ok _, nP_ok _, pP_ok ⟨by omega, by omega⟩ ⟨by omega, by omega⟩ hf, nP_ok _, nP_ok _, rfl, rfl, trivial, trivial, wB_wordV hdR.1 hdR.2,
          lcs10_ok (decide_eq_false (by omega)) (decide_eq_false (by omega)) hs l8⟩
      · have hs : sBr E P m ah al bh bl = true := by unfold sBr; rw [hA, hB, decide_eq_false hmd, decide_eq_true hF]; rfl
        by_cases h0 : m < 0
        · refine fin subBO_ok (diff_g E P m ah al bh bl ch cl) ?_
          simp only [List.forall_mem_cons]
          exact ⟨trivial, lcs9_ok (decide_eq_true h0) hs l8⟩
        · refine fin subBO_ok (diff_h E P m ah al bh bl ch cl) ?_
          simp only [List.forall_mem_cons]
          exact ⟨trivial, lcs10_ok (decide_eq_false h0) (decide_eq_true (by omega)) hs l8⟩
    · refine fin subFO_ok (diff_b E P m ah al bh bl ch cl) (lcs4_ok ?_)
      unfold lcs2; simp only [List.forall_mem_cons]; exact ⟨by simpa using eB, l1⟩
  · refine fin subFO_ok (diff_a E P m ah al bh bl ch cl) (lcs4_ok ?_)
    unfold lcs1; simp only [List.forall_mem_cons]; exact ⟨by simpa using eA, l0⟩
end Go.Proofs.YtjomebgpnokboaaGreatDoor
/-
  FloatsDiffers: its argument, read as data: nine numbers. No conditions.
-/
namespace Go.Proofs.YtjomebgpnokboaaGreatDoor
open Go.ChangeShapes Go.WideShapes Go.RowKit Go.Canon

theorem len2 {α : Type} {l : List α} (h : l.length = 2) : ∃ a0 a1, l = [a0, a1] := by
  match l, h with
  | [a0, a1], _ => exact ⟨a0, a1, rfl⟩
theorem len5 {α : Type} {l : List α} (h : l.length = 5) : ∃ a0 a1 a2 a3 a4, l = [a0, a1, a2, a3, a4] := by
  match l, h with
  | [a0, a1, a2, a3, a4], _ => exact ⟨a0, a1, a2, a3, a4, rfl⟩
theorem len9 {α : Type} {l : List α} (h : l.length = 9) : ∃ a0 a1 a2 a3 a4 a5 a6 a7 a8, l = [a0, a1, a2, a3, a4, a5, a6, a7, a8] := by
  match l, h with
  | [a0, a1, a2, a3, a4, a5, a6, a7, a8], _ => exact ⟨a0, a1, a2, a3, a4, a5, a6, a7, a8, rfl⟩
theorem c24 : Tryz.prog.cellsOf 24 = 1 := by kernel_rfl
theorem c3 : Tryz.prog.cellsOf 3 = 1 := by kernel_rfl
theorem c26 : Tryz.prog.cellsOf 26 = 2 := by kernel_rfl
theorem c23 : Tryz.prog.cellsOf 23 = 2 := by kernel_rfl
theorem c28 : Tryz.prog.cellsOf 28 = 9 := by kernel_rfl
section
variable {H : Type} {enc : TypeId × Value → H} {w : World} {base : Nat} {sp : Nat → Bool} {held : Bool} {fuel : Nat} {cs : List Value} {x : DataW H × List MemPlace}
def datW (h l : Int) : DataW H := .agg [.lit (.int .u64 h), .lit (.int .u64 l)]
def datF (h l : Int) : DataW H := .agg [.lit (.int .i64 h), .lit (.int .i64 l)]
theorem trod_word (h : DataW.trod enc Tryz.prog w base sp held fuel 26 cs = some x) : ∃ a b, cs = [.int .u64 a, .int .u64 b] ∧ x = (datW a b, []) ∧ (Lit.int .u64 a).wf = true ∧ (Lit.int .u64 b).wf = true := by
  obtain ⟨xs, n, _, rfl, hlen, hl, hf⟩ := DataW.trod_struct Tryz.underlying26 h
  rw [c26] at hlen
  obtain ⟨y0, y1, rfl⟩ := len2 (show xs.length = 2 from hl)
  obtain ⟨k0, k1, rfl⟩ := len2 hlen
  · clear h
    have h0 := hf 0 _ rfl
    have h1 := hf 1 _ rfl
    simp [c24] at h0 h1
    obtain ⟨a, e0, rfl, s0⟩ := DataW.trod_int Tryz.underlying24 h0
    obtain ⟨b, e1, rfl, s1⟩ := DataW.trod_int Tryz.underlying24 h1
    simp at e0 e1
    subst e0 e1
    exact ⟨a, b, rfl, rfl, s0, s1⟩
theorem trod_fmt (h : DataW.trod enc Tryz.prog w base sp held fuel 23 cs = some x) : ∃ a b, cs = [.int .i64 a, .int .i64 b] ∧ x = (datF a b, []) ∧ (Lit.int .i64 a).wf = true ∧ (Lit.int .i64 b).wf = true := by
  obtain ⟨xs, n, _, rfl, hlen, hl, hf⟩ := DataW.trod_struct Tryz.underlying23 h
  rw [c23] at hlen
  obtain ⟨y0, y1, rfl⟩ := len2 (show xs.length = 2 from hl)
  obtain ⟨k0, k1, rfl⟩ := len2 hlen
  · clear h
    have h0 := hf 0 _ rfl
    have h1 := hf 1 _ rfl
    simp [c3] at h0 h1
    obtain ⟨a, e0, rfl, s0⟩ := DataW.trod_int Tryz.underlying3 h0
    obtain ⟨b, e1, rfl, s1⟩ := DataW.trod_int Tryz.underlying3 h1
    simp at e0 e1
    subst e0 e1
    exact ⟨a, b, rfl, rfl, s0, s1⟩
def datO (E P m ah al bh bl ch cl : Int) : DataW H := .agg [datF E P, .lit (.int .i64 m), datW ah al, datW bh bl, datW ch cl]
theorem open_op {v : Value} {d : DataW H} {ps : List MemPlace} (h : DataW.Trod enc Tryz.prog w base sp held 28 v d ps) : ∃ E P m ah al bh bl ch cl, v = opV E P m ah al bh bl ch cl ∧ d = datO E P m ah al bh bl ch cl ∧ ps = [] ∧
    ((Lit.int .i64 E).wf = true ∧ (Lit.int .i64 P).wf = true ∧ (Lit.int .i64 m).wf = true) ∧ (Lit.int .u64 ah).wf = true ∧ (Lit.int .u64 al).wf = true ∧ (Lit.int .u64 bh).wf = true ∧ (Lit.int .u64 bl).wf = true ∧ (Lit.int .u64 ch).wf = true ∧ (Lit.int .u64 cl).wf = true := by
  obtain ⟨fuel, hy⟩ := h
  obtain ⟨xs, n, _, hx, hlen, hl, hf⟩ := DataW.trod_struct Tryz.underlying28 hy
  rw [c28] at hlen
  have hv : ∃ c : Array Value, v = .agg c := by
    cases v <;> first | exact ⟨_, rfl⟩ | simp [Value.cells] at hlen
  obtain ⟨c, rfl⟩ := hv
  obtain ⟨c⟩ := c
  have hcs : (Value.agg ⟨c⟩).cells.toList = c := rfl
  rw [hcs] at hlen hf
  obtain ⟨y0, y1, y2, y3, y4, rfl⟩ := len5 (show xs.length = 5 from hl)
  obtain ⟨k0, k1, k2, k3, k4, k5, k6, k7, k8, rfl⟩ := len9 hlen
  · clear hy
    have h0 := hf 0 _ rfl
    have h1 := hf 1 _ rfl
    have h2 := hf 2 _ rfl
    have h3 := hf 3 _ rfl
    have h4 := hf 4 _ rfl
    simp [c3, c23, c26] at h0 h1 h2 h3 h4
    obtain ⟨E, P, e0, rfl, sE, sP⟩ := trod_fmt h0
    obtain ⟨m, e1, rfl, sm⟩ := DataW.trod_int Tryz.underlying3 h1
    obtain ⟨ah, al, e2, rfl, s1, s2⟩ := trod_word h2
    obtain ⟨bh, bl, e3, rfl, s3, s4⟩ := trod_word h3
    obtain ⟨ch, cl, e4, rfl, s5, s6⟩ := trod_word h4
    simp at e0 e1 e2 e3 e4
    obtain ⟨rfl, rfl⟩ := e0
    obtain ⟨rfl, rfl⟩ := e2
    obtain ⟨rfl, rfl⟩ := e3
    obtain ⟨rfl, rfl⟩ := e4
    subst e1
    injection hx with hx1 hx2
    subst hx1 hx2
    exact ⟨E, P, m, ah, al, bh, bl, ch, cl, rfl, rfl, rfl, ⟨sE, sP, sm⟩, s1, s2, s3, s4, s5, s6⟩
theorem shut_op {E P m ah al bh bl ch cl : Int} (hi : (Lit.int .i64 E).wf = true ∧ (Lit.int .i64 P).wf = true ∧ (Lit.int .i64 m).wf = true)
    (s1 : (Lit.int .u64 ah).wf = true) (s2 : (Lit.int .u64 al).wf = true) (s3 : (Lit.int .u64 bh).wf = true) (s4 : (Lit.int .u64 bl).wf = true) (s5 : (Lit.int .u64 ch).wf = true) (s6 : (Lit.int .u64 cl).wf = true) :
    DataW.Trod enc Tryz.prog w base sp held 28 (opV E P m ah al bh bl ch cl) (datO E P m ah al bh bl ch cl) [] := by
  obtain ⟨i1, i2, i3⟩ := hi
  refine ⟨3, ?_⟩
  simp [DataW.trod, opV, datO, datW, datF, Value.cells, Tryz.underlying28, Tryz.underlying23, Tryz.underlying26, Tryz.underlying3, Tryz.underlying24, c3, c24, c26, c23, c28, i1, i2, i3, s1, s2, s3, s4, s5, s6, List.range, List.range.loop]
end
theorem wB_of {a b : Int} (h0 : (Lit.int .u64 a).wf = true) (h1 : (Lit.int .u64 b).wf = true) : wB (wv a b) = true := by
  have := bounds_u64 h0
  have := bounds_u64 h1
  show decide (0 ≤ a ∧ a < 18446744073709551616 ∧ 0 ≤ b ∧ b < 18446744073709551616) = true
  exact decide_eq_true ⟨by omega, by omega, by omega, by omega⟩
end Go.Proofs.YtjomebgpnokboaaGreatDoor
