/- A record that came in. -/
import Derived.Test.YtdkdjofnnnljjaaGreatDoorPGRe
import Derived.Test.YtdkdjofnnnljjaaGreatDoorPGCr
import Derived.Test.YtdkdjofnnnljjaaGreatDoorPMsCame
namespace Go.Proofs.YtdkdjofnnnljjaaGreatDoor
open Go.RowKit
set_option maxRecDepth 20000
section
section
variable {H : Type} {enc : TypeId × Value -> H} {w : World} {b0 base : Nat} {held : Bool}
theorem QL(m:Nat)(cs:List Value)(y:DataW H × List MemPlace)(h:DataW.trod enc Tryz.prog w base (fun _=>true) held m 42 cs=some y) :
 ∃(a:Re.Rec) (vi:Value),cs=(Re.cells a vi).toList∧Reads w vi a.aw∧a.Fits∧a.cmd.aD 9223372036854775807:=by
 obtain⟨ys,n,_,_,hl,hlen,hat⟩:=DataW.trod_struct Tryz.underlying42 h;have hce:Tryz.prog.cellsOf 42=12:=by kernel_rfl
 have Fs:Tryz.prog.cellsOf 3=1:=by kernel_rfl
 have hcb:Tryz.prog.cellsOf 29=2:=by kernel_rfl
 have hcc:Tryz.prog.cellsOf 40=7:=by kernel_rfl
 have hcu:Tryz.prog.cellsOf 30=1:=by kernel_rfl
 have g0:=hat 0 _ rfl;have g1:=hat 1 _ rfl;have g2:=hat 2 _ rfl;have g3:=hat 3 _ rfl;have g4:=hat 4 _ rfl;rw[List.getElem?_eq_getElem (by rw[hlen];simp)]at g0 g1 g2 g3 g4
 obtain⟨kd,e0,a0,b0⟩:=gL Tryz.underlying3 g0 Fs;have g1' : DataW.trod enc Tryz.prog w base (fun _=>true) held n 29 ((cs.drop 1).take (Tryz.prog.cellsOf 29))=some _:=g1
 rw[hcb]at g1'
 obtain⟨b,e1,fb⟩:=Rj _ _ _ g1';have g2' : DataW.trod enc Tryz.prog w base (fun _=>true) held n 3 ((cs.drop 3).take (Tryz.prog.cellsOf 3))=some _:=g2
 obtain⟨ix,e2,a2,b2⟩:=gL Tryz.underlying3 g2' Fs;have TP : DataW.trod enc Tryz.prog w base (fun _=>true) held n 40 ((cs.drop 4).take (Tryz.prog.cellsOf 40))=some _:=g3
 rw[hcc]at TP
 obtain⟨c,e3,fc,sc⟩:=Ri _ _ _ TP;have g4' : DataW.trod enc Tryz.prog w base (fun _=>true) held n 30 ((cs.drop 11).take (Tryz.prog.cellsOf 30))=some _:=g4
 rw[hcu]at g4'
 obtain⟨vi,aw,e4,Xq⟩:=J6 _ _ _ g4';rw[hce]at hl
 obtain⟨c0,c1,c2,c3,c4,c5,c6,c7,c8,c9,c10,c11,rfl⟩ : ∃c0 c1 c2 c3 c4 c5 c6 c7 c8 c9 c10 c11,cs = [c0,c1,c2,c3,c4,c5,c6,c7,c8,c9,c10,c11]:=by
  match cs,hl with
  | [c0,c1,c2,c3,c4,c5,c6,c7,c8,c9,c10,c11],_=>exact⟨_,_,_,_,_,_,_,_,_,_,_,_,rfl⟩
 refine⟨⟨kd,b,ix,c,aw⟩,vi, ?_,Xq,⟨?_,fc⟩,sc⟩
 ·simp[Bl.cells]at e0 e1 e2 e3 e4
  simp[Cm.cells]at e3
  simp[Re.cells,e0,e1,e2,e3,e4]
 ·intro x hx
  simp only[Re.bX,List.mem_cons,List.not_mem_nil,or_false]at hx
  have:=fb.r0;have:=fb.r1;have:=fb.n0;have:=fb.n1;rcases hx with rfl | rfl | rfl | rfl<;>omega
end
end
end Go.Proofs.YtdkdjofnnnljjaaGreatDoor
