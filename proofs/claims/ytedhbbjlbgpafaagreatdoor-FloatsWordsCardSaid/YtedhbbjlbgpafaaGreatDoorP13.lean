/-
  Part of a proof. No conditions.
-/
import Derived.Test.YtedhbbjlbgpafaaGreatDoorP09
set_option linter.unusedVariables false
set_option linter.unusedSimpArgs false
namespace Go.Proofs.YtedhbbjlbgpafaaGreatDoor.R
def pw:Int:=1000000000
def nv:List Int→Int
 |[]=>0
 |z::zs=>z+pw*nv zs
def Wd(zs:List Int):Prop:= ∀z∈zs,0≤z∧z<pw
def gd(zs:List Int)(n:Nat):Int:=zs.getD n 0
theorem gd_get{zs:List Int}{n:Nat}(h:n<zs.length):gd zs n=zs[n]:=by simp[gd,h]
theorem gd_over{zs:List Int}{n:Nat}(h:zs.length≤n):gd zs n=0:=by simp[gd,h]
theorem gd_cons_zero(z:Int)(zs:List Int):gd (z::zs) 0=z:=by simp[gd]
theorem gd_cons_succ(z:Int)(zs:List Int)(n:Nat):gd (z::zs) (n+1)=gd zs n:=by simp[gd]
theorem gd_set_eq{zs:List Int}{j:Nat}{x:Int}(h:j<zs.length):gd (zs.set j x) j=x:=by simp[gd,h]
theorem gd_set_ne{zs:List Int}{i j:Nat}{x:Int}(h:i≠j):gd (zs.set j x) i=gd zs i:=by simp[gd,Ne.symm h]
end Go.Proofs.YtedhbbjlbgpafaaGreatDoor.R
namespace Go.Proofs.YtedhbbjlbgpafaaGreatDoor.R
open Go.RowKit Go.Shelf
def Row(w:World)(b off:Nat)(zs:List Int):Prop:= ∀i,i<zs.length→w.cell? ⟨b,off+i,none⟩=some (.int .i64 (gd zs i))
def Typ(w:World)(b:Nat):Prop:= ∃c f,w.heap[b]?=some (.cells c 2 f)
structure Ns(w:World)(b off cap:Nat)(zs:List Int)(n:Int):Prop where
 cap:zs.length≤cap
 pos:0<zs.length
 lt:b<w.heap.size
 wd:Wd zs
 top:gd zs (zs.length-1)≠0
 val:nv zs=n
 row:Row w b off zs
 ty:Typ w b
def Nt(w:World)(v:Value)(n:Int):Prop:=
 (n=0∧ ∃p cap,v=.slice p 0 cap∧(p=none→cap=0))∨ ∃(b off cap:Nat) (zs:List Int),v=.slice (some ⟨b,off,none⟩) zs.length cap∧Ns w b off cap zs n
theorem Nt.zero(w:World):Nt w (.slice none 0 0) 0:=.inl ⟨rfl,none,0,rfl,fun _=>rfl⟩
end Go.Proofs.YtedhbbjlbgpafaaGreatDoor.R
