/-
  Numbers with a divisor: contracts as answers of calls. The integer next to a quotient, and what is left (no program there).
-/
import Derived.Test.YtedhbbjlbgpafaaGreatDoorP19
set_option linter.unusedVariables false
set_option linter.unusedSimpArgs false
namespace Go.Proofs.YtedhbbjlbgpafaaGreatDoor
open Go.RowKit Go.Shelf Go.Canon
theorem int_con{n:Int}(h0: -9223372036854775808≤n)(h1:n≤9223372036854775807):Con Tryz.prog TT 80 [.v (.int .i64 n)] (resN n 0):=con_mk fun w hE l ha=>by
 rw[ars_v ha]
 refine(int_any w hE n h0 h1).mono ?_
 rintro en w1 ⟨v',rfl,h1,hb⟩
 exact⟨_,rfl,resN_is h1,hb⟩
def intS(xs:List Ar):Option Res:=match xs with
 |[.v (.int .i64 n)]=>some (resN n 0:Res)
 |_=>none
def intP(xs:List Ar):Bool:=match xs with
 |[.v (.int .i64 n)]=>decide (-9223372036854775808≤n∧n≤9223372036854775807)
 |_=>false
def intO:CF→St→Option (Value×St):=oracle 80 (conSpec TT intP intS)
theorem intO_ok:RunOkE Tryz.prog intO:=con_oracle numG gTT roTT fun xs R h hp=>by
 unfold intS at h
 split at h
 ·injection h with h
  subst h
  unfold intP at hp;obtain⟨h1,h2⟩:=of_decide_eq_true hp;exact int_con h1 h2
 ·cases h
end Go.Proofs.YtedhbbjlbgpafaaGreatDoor
