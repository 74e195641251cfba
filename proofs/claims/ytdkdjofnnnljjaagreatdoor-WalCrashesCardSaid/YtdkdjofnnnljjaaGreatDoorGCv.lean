/- Several texts of mine in one: CmdVars. -/
import Derived.Test.YtdkdjofnnnljjaaGreatDoorPGCw
import Derived.Test.YtdkdjofnnnljjaaGreatDoorPPkMath
import Derived.Test.YtdkdjofnnnljjaaGreatDoorShelf
import Derived.Lib.ItoaNum
import Derived.Lib.LaidU8
import Derived.OpenShut
namespace Go.Proofs.YtdkdjofnnnljjaaGreatDoor
open Go.RowKit
theorem vS{H:Type}{enc:TypeId × Value->H}{P:Program}{w:World}{base:Nat}{sp:Nat->Bool}{held:Bool}{fuel:Nat}{t e:TypeId}{n:Nat}{cs:List Value}{ls:List (List UInt8)}{p:List MemPlace}
 (ht:P.underlying t=some (.array n e)) (he:P.underlying e=some .string) (hce:P.cellsOf e=1) (hct:P.cellsOf t=n)
 (h:DataW.trod enc P w base sp held fuel t cs=some (.agg (ls.map fun l => .lit (.string l)),p)):cs=ls.map fun l=>Value.string ⟨l.toArray⟩:=by
 obtain⟨xs,m,_,hx,hl,hn,hel⟩:=DataW.trod_array ht h;have hxs:(ls.map fun l=>(DataW.lit (.string l):DataW H))=xs.map (·.1):=by
  have:=congrArg Prod.fst hx
  simpa using this
 have Zk:ls.length=n:=by
  have:=congrArg List.length hxs;simp at this
  omega
 apply List.ext_getElem?
 intro i
 by_cases hi:i<n
 ·have h1:=hel i hi
  rw[hce,Nat.mul_one,List.getElem?_eq_getElem (by omega)]at h1
  obtain⟨s,e1,e2,_⟩:=DataW.trod_string he h1;have h2:cs[i]? = some (.string s):=by
   have:=congrArg (·[0]?) e1
   simpa[List.getElem?_take,List.getElem?_drop] using this
  have h3:(xs.map (·.1))[i]? = some (DataW.lit (.string s.data.toList):DataW H):=by
   rw[List.getElem?_map,List.getElem?_eq_getElem (by omega),e2];rfl
  rw[<- hxs]at h3
  simp only[List.getElem?_map,Option.map_eq_some_iff,DataW.lit.injEq,Lit.string.injEq]at h3
  obtain⟨l,aH,rfl⟩:=h3;rw[h2,List.getElem?_map,aH]
  rfl
 ·rw[List.getElem?_eq_none (by omega),List.getElem?_eq_none (by simp;omega)]
theorem words_of{W:World}(h:Lib.VarReads Tryz.prog W "changeover/cmd.words" (.agg (Cm.mE.map fun l => .lit (.string l)))):bE W:=by
 obtain⟨g,t,cs,fuel,p,hg,ht,Qf,hd⟩:=h;have hty:(Tryz.prog.globals[1]?).map (·.type)=some 247:=by kernel_rfl
 have VJ:Tryz.prog.globalNamed "changeover/cmd.words"=some 1:=by kernel_rfl
 obtain rfl:=Option.some.inj (VJ.symm.trans hg);obtain rfl:=Option.some.inj (hty.symm.trans ht);have e:=vS (n:=9) Tryz.underlying247 Tryz.underlying9 (by kernel_rfl) (by kernel_rfl) hd
 unfold bE;rw[Qf, <- e]
end Go.Proofs.YtdkdjofnnnljjaaGreatDoor
