/- Several texts of mine in one: CmdText CmdVars. -/
import Derived.Test.YtdkdjofnnnljjaaGreatDoorPCmdChk
import Derived.Test.YtdkdjofnnnljjaaGreatDoorPEnMem
import Derived.Lib.ItoaNum
import Derived.Lib.LaidU8
import Derived.OpenShut
namespace Go.Proofs.YtdkdjofnnnljjaaGreatDoor
open Go.RowKit
namespace Cm
def told(c:Cmd)(f:F):List UInt8:=if f.num=true then Lib.itoa (c.n f)else Qt.quote ⟨(c.s f).toArray⟩
def ws(c:Cmd):List (List UInt8):=word c.kind :: (fields c.kind).map (told c)
def line(c:Cmd):List UInt8:=Lib.join (ws c) [32]
def text(c:Cmd):List UInt8:=if check c=0 then line c else []
end Cm
theorem OwnsS.one(w:World)(B:Nat)(hB:B≤w.heap.size)(E:TypeId)(u:ByteArray):OwnsS (w.alloc (.cells #[.string u] E)) B E (.slice (some ⟨w.heap.size,0,none⟩) 1 1) [u]:=by
 refine⟨by simp, .inr ⟨w.heap.size,1,#[.string u],rfl,hB,heap_alloc_new w _,by simp,by unfold maxLen;omega,by simp, ?_⟩⟩
 simp
theorem FRow.row{w w' : World}{lo B b:Nat}{u v:Value}{fs:List Cm.F}{ls:List ByteArray}(h:FRow w lo u b fs)(ho:OwnsS w B 9 v ls)(hg:w.grownBy w' v.ownBlock):FRow w' lo u b fs:=by
 rcases h with ⟨rfl,rfl⟩ | ⟨g,h1,rfl,h2⟩
 ·exact .inl ⟨rfl,rfl⟩
 ·exact .inr ⟨g,h1,rfl,h2.kept hg (h2.not_row (by decide) ho)⟩
theorem OwnsS.kept{w w' : World}{B:Nat}{E:TypeId}{v:Value}{ls:List ByteArray}(h:OwnsS w B E v ls)(hb:Below w.heap.size w w'):OwnsS w' B E v ls:=by
 refine World.ownsRow.kept h (grown_of hb none) ?_
 cases v.ownBlock with
 | none=>exact .inl rfl
 | some k=>exact .inr (by simp)
theorem cells_of_strs{H:Type}{enc:TypeId × Value→H}{P:Program}{w:World}{base:Nat}{sp:Nat→Bool}{held:Bool}{fuel:Nat}{t e:TypeId}{n:Nat}{cs:List Value}{ls:List (List UInt8)}{p:List MemPlace}
 (ht:P.underlying t=some (.array n e)) (he:P.underlying e=some .string) (hce:P.cellsOf e=1) (hct:P.cellsOf t=n)
 (h:DataW.trod enc P w base sp held fuel t cs=some (.agg (ls.map fun l => .lit (.string l)),p)):cs=ls.map fun l=>Value.string ⟨l.toArray⟩:=by
 obtain⟨xs,m,_,hx,hl,hn,hel⟩:=DataW.trod_array ht h
 have hxs:(ls.map fun l=>(DataW.lit (.string l):DataW H))=xs.map (·.1):=by
  have:=congrArg Prod.fst hx
  simpa using this
 have hll:ls.length=n:=by
  have:=congrArg List.length hxs
  simp at this
  omega
 apply List.ext_getElem?
 intro i
 by_cases hi:i<n
 ·have h1:=hel i hi
  rw[hce,Nat.mul_one,List.getElem?_eq_getElem (by omega)]at h1
  obtain⟨s,e1,e2,_⟩:=DataW.trod_string he h1
  have h2:cs[i]? = some (.string s):=by
   have:=congrArg (·[0]?) e1
   simpa[List.getElem?_take,List.getElem?_drop] using this
  have h3:(xs.map (·.1))[i]? = some (DataW.lit (.string s.data.toList):DataW H):=by
   rw[List.getElem?_map,List.getElem?_eq_getElem (by omega),e2];rfl
  rw[← hxs]at h3
  simp only[List.getElem?_map,Option.map_eq_some_iff,DataW.lit.injEq,Lit.string.injEq]at h3
  obtain⟨l,hl1,rfl⟩:=h3
  rw[h2,List.getElem?_map,hl1]
  rfl
 ·rw[List.getElem?_eq_none (by omega),List.getElem?_eq_none (by simp;omega)]
theorem words_of{W:World}(h:Lib.VarReads Tryz.prog W "changeover/cmd.words" (.agg (Cm.wordList.map fun l => .lit (.string l)))):WordsIn W:=by
 obtain⟨g,t,cs,fuel,p,hg,ht,hvar,hd⟩:=h
 have hty:(Tryz.prog.globals[1]?).map (·.type)=some 247:=by kernel_rfl
 have hgn:Tryz.prog.globalNamed "changeover/cmd.words"=some 1:=by kernel_rfl
 obtain rfl:=Option.some.inj (hgn.symm.trans hg)
 obtain rfl:=Option.some.inj (hty.symm.trans ht)
 have e:=cells_of_strs (n:=9) Tryz.underlying247 Tryz.underlying9 (by kernel_rfl) (by kernel_rfl) hd
 unfold WordsIn
 rw[hvar, ← e]
end Go.Proofs.YtdkdjofnnnljjaaGreatDoor
