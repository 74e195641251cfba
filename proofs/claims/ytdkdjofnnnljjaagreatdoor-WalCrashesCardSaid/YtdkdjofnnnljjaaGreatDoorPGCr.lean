/- Several texts of mine in one: CmdEl GBl EnMem EnChk GCr. -/
import Derived.Test.YtdkdjofnnnljjaaGreatDoorRows
import Derived.Test.YtdkdjofnnnljjaaGreatDoorPGCw
import Derived.Test.YtdkdjofnnnljjaaGreatDoorPPkMath
import Derived.Test.YtdkdjofnnnljjaaGreatDoorPGPl
import Derived.Deep.MidRow
import Derived.Test.YtdkdjofnnnljjaaGreatDoorShelf
import Derived.Lib.ItoaNum
import Derived.Lib.LaidU8
import Derived.OpenShut
import Derived.Deep.RegionHeld3
namespace Go.Proofs.YtdkdjofnnnljjaaGreatDoor
open Go.RowKit
set_option maxRecDepth 20000
theorem Ri{H:Type}{enc:TypeId × Value->H}{w:World}{base:Nat}{sp:Nat->Bool}{held:Bool}(m:Nat)(cs:List Value)(y:DataW H × List MemPlace)
 (h:DataW.trod enc Tryz.prog w base sp held m 40 cs=some y) : ∃c:Cm.bW,cs=(Cm.cells c).toList∧c.Fits∧c.aD 9223372036854775807:=by
 obtain⟨ys,n,_,_,hl,hlen,hat⟩:=DataW.trod_struct Tryz.underlying40 h;have hce:Tryz.prog.cellsOf 40=7:=by kernel_rfl
 have Fs:Tryz.prog.cellsOf 3=1:=by kernel_rfl
 have hcs:Tryz.prog.cellsOf 9=1:=by kernel_rfl
 have g0:=hat 0 _ rfl;have g1:=hat 1 _ rfl;have g2:=hat 2 _ rfl;have g3:=hat 3 _ rfl;have g4:=hat 4 _ rfl;have g5:=hat 5 _ rfl;have g6:=hat 6 _ rfl;rw[List.getElem?_eq_getElem (by rw[hlen];simp)]at g0 g1 g2 g3 g4 g5 g6
 obtain⟨x0,e0,a0,b0⟩:=gL Tryz.underlying3 g0 Fs;obtain⟨x1,e1,a1,b1⟩:=gL Tryz.underlying3 g1 Fs;obtain⟨x2,e2,a2,b2⟩:=gL Tryz.underlying3 g2 Fs;obtain⟨x3,e3,a3⟩:=zg Tryz.underlying9 g3 hcs;obtain⟨x4,e4,a4⟩:=zg Tryz.underlying9 g4 hcs;obtain⟨x5,e5,a5⟩:=zg Tryz.underlying9 g5 hcs;obtain⟨x6,e6,a6,b6⟩:=gL Tryz.underlying3 g6 Fs;rw[hce]at hl
 match cs,hl with
 | [c0,c1,c2,c3,c4,c5,c6],_ =>
  simp at e0 e1 e2 e3 e4 e5 e6
  subst e0 e1 e2 e3 e4 e5 e6;refine⟨⟨x0,x1,x2,x6,x3.data.toList,x5.data.toList,x4.data.toList⟩,rfl,⟨a0,b0,a1,b1,a2,b2,a6,b6⟩,⟨?_, ?_, ?_⟩⟩
  ·show x3.size<=_;omega
  ·show x5.size<=_;omega
  ·show x4.size<=_;omega
end Go.Proofs.YtdkdjofnnnljjaaGreatDoor

namespace Go.Proofs.YtdkdjofnnnljjaaGreatDoor
open Go.RowKit
set_option maxHeartbeats 1600000
set_option maxRecDepth 20000
abbrev iP(w:World)(g:Nat)(b:Bl.dM):Prop:=ae w g 29 (Bl.cells b)
theorem iP.both{w:World}{g:Nat}{b:Bl.dM}(h:iP w g b):w.cell? ⟨g,0,none⟩=some (.int .i64 b.round)∧w.cell? ⟨g,1,none⟩=some (.int .i64 b.node) :=
 ⟨h.cell 0 _ rfl,h.cell 1 _ rfl⟩
theorem jq : Tryz.prog.eqGuardType Tryz.prog.depth 29=false:=by kernel_rfl
theorem iB(w:World)(c d:Bl.dM):(binOp .eql 29 (.agg (Bl.cells c)) (.agg (Bl.cells d))).run Tryz.prog w = .ok (.bool (decide (c=d))) w:=by
 have hu:=Tryz.underlying29;obtain⟨r,n⟩:=c;obtain⟨r', n'⟩:=d;dsimp only [Bl.cells];go_simp
 repeat' split
 all_goals simp_all
theorem sM(w:World)(c d:Bl.dM):(binOp .neq 29 (.agg (Bl.cells c)) (.agg (Bl.cells d))).run Tryz.prog w = .ok (.bool (!decide (c=d))) w:=by
 have hu:=Tryz.underlying29;obtain⟨r,n⟩:=c;obtain⟨r', n'⟩:=d;dsimp only [Bl.cells];go_simp
 repeat' split
 all_goals simp_all
theorem pP(w:World)(b:Bl.dM) : ∃w1,w.alloc (.cells (Bl.cells b) 29)=w1∧iP w1 w.heap.size b∧Below w.heap.size w w1∧w1.heap.size=w.heap.size+1 :=
 ⟨_,rfl,ae.new w _ _,(Below.refl _ w).alloc (Nat.le_refl _) _,by simp⟩
theorem uD(w:World)(a b:Bl.dM) : ∃w1,(w.alloc (.cells (Bl.cells a) 29)).alloc (.cells (Bl.cells b) 29)=w1∧iP w1 w.heap.size a∧iP w1 (w.heap.size+1) b∧Below w.heap.size w w1∧w1.heap.size=w.heap.size+2:=by
 refine⟨_,rfl,(ae.new w _ _).alloc _, ?_,((Below.refl _ w).alloc (Nat.le_refl _) _).alloc (by simp) _,by simp⟩
 have:=ae.new (w.alloc (.cells (Bl.cells a) 29)) 29 (Bl.cells b)
 simpa using this
theorem Eb(w:World)(g:Nat)(a:Bl.dM)(h:iP w g a):(loadVar 29 ⟨g,0,none⟩).run Tryz.prog w = .ok (.agg (Bl.cells a)) w :=
 run_loadVar_row w g _ _ (Bl.cells a) (0,0) _ h Tryz.underlying29 rfl (by kernel_rfl)
theorem AU{fn:Func}{R:Ending->World->Prop}{a:Act}{w:World}{p:Tmp}{g:Nat}{c:Bl.dM}(h:fn.results = #[.cell p 29])(hp:a.tmps.getD p undef = .pointer (some ⟨g,0,none⟩))
 (hl:iP w g c) (hd:a.defers = []) (hR:R (.returned (.agg (Bl.cells c))) w):bodyPost Tryz.prog fn R .ret a w:=by
 refine bodyPost_ret ?_ hd hR;rw[iA h,hp];simp[asAddr,Result.andThen,Eb w g c hl]
theorem Bl.cR(b:Bl.dM):(Bl.cells b).all (·.oneCell')=true:=by simp[Bl.cells,Value.oneCell']
theorem rD{ops:Array Oper}{rest:List Oper}{op:Oper}{a:Act}{w:World}{Q:Exit->Act->World->Prop}(hgd:op.guard=none)(x y:Operand)(ho:op.op = .store 29 x y)
 (g:Nat) (c0 c:Bl.dM) (hx:a.eval x = .pointer (some ⟨g,0,none⟩)) (hy:a.eval y = .agg (Bl.cells c)) (hl:iP w g c0)
 (h : ∀w', iP w' g c->w.grownBy w' (some g)->wpList Tryz.prog ops Q rest (a.put op.dst undef) w'):wpList Tryz.prog ops Q (op :: rest) a w:=by
 have h0 : ∀j,j<2->(w.cell? ⟨g,j,none⟩).isSome=true:=by
  intro j hj
  obtain⟨v,hv⟩ : ∃v,(Bl.cells c0)[j]? = some v:=⟨_,Array.getElem?_eq_getElem (show j<(Bl.cells c0).size from hj)⟩
  rw[hl.cell j v hv];rfl
 have hone:=Bl.cR c;have hL:iP ((w.setCell ⟨g,0,none⟩ (.int .i64 c.round)).setCell ⟨g,1,none⟩ (.int .i64 c.node)) g c:=(hl.set 0 _).set 1 _;have hG:w.grownBy ((w.setCell ⟨g,0,none⟩ (.int .i64 c.round)).setCell ⟨g,1,none⟩ (.int .i64 c.node)) (some g):=aM (au w g 0 _) (au _ g 1 _);have hf:=hl.free;refine wpList_store_mid hgd _ x y ho g 0 (Bl.cells c) hx hy (fun j hj => ?_) (by kernel_rfl) hone (h _ hL hG)
 rw[Nat.zero_add];exact⟨h0 j hj,hf j⟩
theorem Rj{H:Type}{enc:TypeId × Value->H}{w:World}{base:Nat}{sp:Nat->Bool}{held:Bool}(m:Nat)(cs:List Value)(y:DataW H × List MemPlace)
 (h:DataW.trod enc Tryz.prog w base sp held m 29 cs=some y) : ∃b:Bl.dM,cs=(Bl.cells b).toList∧b.Fits:=by
 obtain⟨ys,n,_,_,hl,hlen,hat⟩:=DataW.trod_struct Tryz.underlying29 h;have hce:Tryz.prog.cellsOf 29=2:=by kernel_rfl
 have Fs:Tryz.prog.cellsOf 3=1:=by kernel_rfl
 have g0:=hat 0 _ rfl;have g1:=hat 1 _ rfl;rw[List.getElem?_eq_getElem (by rw[hlen];simp)]at g0 g1
 obtain⟨r,e0,a0,b0⟩:=gL Tryz.underlying3 g0 Fs;obtain⟨nd,e1,a1,b1⟩:=gL Tryz.underlying3 g1 Fs;rw[hce]at hl
 match cs,hl with
 | [c0,c1],_ =>
  simp at e0 e1
  subst e0 e1;exact⟨⟨r,nd⟩,rfl,⟨a0,b0,a1,b1⟩⟩
abbrev lF(w:World)(v:Value)(l:List Bl.dM):Prop:=aQ w v 2 (l.map Bl.cells)
theorem lF.places{w:World}{ao:Option Addr}{n cap:Nat}{l:List Bl.dM}(h:lF w (.slice ao n cap) l)(hl:0<l.length) :
 ∃b off,ao=some ⟨b,off,none⟩∧b<w.heap.size ∧ ∀w', Below w.heap.size w w' -> ∀i c,l[i]? = some c->w'.cell? ⟨b,off+i*2,none⟩=some (.int .i64 c.round)∧w'.cell? ⟨b,off+i*2+1,none⟩=some (.int .i64 c.node):=by
 obtain⟨b,off,e,hlt,hc⟩:=aQ.places h (r0:=Bl.cells (l[0]'hl)) (u0 := .int .i64 (l[0]'hl).round) (by rw[List.getElem?_map,List.getElem?_eq_getElem hl];rfl) rfl
 refine⟨b,off,e,hlt,fun w' hb i c hi=>⟨?_, ?_⟩⟩
 ·exact hc w' hb i (Bl.cells c) (by rw[List.getElem?_map,hi];rfl) 0 _ rfl
 ·exact hc w' hb i (Bl.cells c) (by rw[List.getElem?_map,hi];rfl) 1 _ rfl
theorem yK(w:World)(ao:Option Addr)(n cap f:Nat)(hf:f<=n) :
 (Instr.slice 182 (.slice ao n cap) (some (.int .i64 (f:Int))) none none).run Tryz.prog w = .ok (sliced ao f n cap 2) w:=by
 have he:Tryz.prog.elem 182=29:=by kernel_rfl
 have hi:(Tryz.prog.info? 29).isSome=true:=by kernel_rfl
 obtain⟨i,hi⟩:=Option.isSome_iff_exists.1 hi;have hrun:=run_slice_l (P:=Tryz.prog) (w:=w) 182 ao n cap (by rw[he];exact Tryz.underlying182) .i64 (f:Int) (by omega) (by omega)
 rw[he]at hrun
 refine hrun.trans ?_;rw[run_sizeOf _ hi,show Tryz.prog.cellsOf 29=2 by kernel_rfl]
 simp only[Result.andThen,Int.toNat_natCast]
theorem sN(n m:Int)(w:World):Calls Tryz.prog 158 #[.int .i64 n, .int .i64 m] w (Says w (.bool (Bl.within n m))):=by
 by_cases h1:1<=n
 ·have d1:decide (1<=n)=true:=decide_eq_true h1
  by_cases h2:n<=m
  ·have d2:decide (n<=m)=true:=decide_eq_true h2
   go_enter Tryz.func158,Tryz.ntmps158
   go_wp2;go_ret;exact⟨by simp[Bl.within,d1,d2],rfl⟩
  ·have d2:decide (n<=m)=false:=decide_eq_false h2
   go_enter Tryz.func158,Tryz.ntmps158
   go_wp2;go_ret;exact⟨by simp[Bl.within,d1,d2],rfl⟩
 ·have d1:decide (1<=n)=false:=decide_eq_false h1
  go_enter Tryz.func158,Tryz.ntmps158
  go_wp2;go_ret;exact⟨by simp[Bl.within,d1],rfl⟩
theorem tO(b:Bl.dM)(w:World):Calls Tryz.prog 120 #[.agg (Bl.cells b)] w (Looks w (.bool (Bl.may b))):=by
 obtain⟨w1,e1,aH,aq,hz1⟩:=pP w b;obtain⟨p0,p1⟩:=iP.both aH;have aG:=aa aq;have heq:=fun W=>iB W b Bl.zero
 have hgd:=jq;obtain⟨t,ht⟩ : ∃t,t=decide (b=Bl.zero):=⟨_,rfl⟩;rw[<- ht]at heq
 have HT:=aa ht;obtain⟨r,hr⟩ : ∃r,r=Bl.within b.round 4294967296:=⟨_,rfl⟩;obtain⟨n,hn⟩ : ∃n,n=Bl.within b.node 9:=⟨_,rfl⟩;have HM:Hid (Bl.may b=(t || (r && n))):=by show _=_;rw[ht,hr,hn];rfl
 have HR:=aa hr;have HN:=aa hn;clear ht hr hn aH aq hz1;dsimp only [Bl.cells,Bl.zero]at heq
 go_enter Tryz.func120,Tryz.ntmps120
 cases t with
 | true =>
  go_wp2;go_ret;exact⟨by rw[HM.out];rfl,aG.out⟩
 | false =>
  go_wp2_with fail
  refine(sN b.round 4294967296 _).mono ?_;rintro e w2 ⟨rfl,rfl⟩;rw[<- HR.out];cases r with
  | false =>
   go_wp2;go_ret;exact⟨by rw[HM.out];rfl,aG.out⟩
  | true =>
   go_wp2_with fail
   refine(sN b.node 9 _).mono ?_;rintro e w2 ⟨rfl,rfl⟩;rw[<- HN.out];go_wp2;go_ret;exact⟨by rw[HM.out];rfl,aG.out⟩
theorem xj(a b:Bl.dM)(w:World):Calls Tryz.prog 123 #[.agg (Bl.cells a), .agg (Bl.cells b)] w (Looks w (.bool (Bl.less a b))):=by
 obtain⟨w1,e1,aH,hl2,aq,hz1⟩:=uD w a b;obtain⟨p0,p1⟩:=iP.both aH;obtain⟨q0,q1⟩:=iP.both hl2;have aG:=aa aq;clear aH hl2 aq hz1;by_cases h:a.round=b.round
 ·have hne:(a.round != b.round)=false:=by simpa using h
  have HL:Hid (Bl.less a b=decide (a.node<b.node)):=if_pos h;clear h
  go_enter Tryz.func123,Tryz.ntmps123
  go_wp2;go_ret;exact⟨bu HL.symm,aG.out⟩
 ·have hne:(a.round != b.round)=true:=by simpa using h
  have HL:Hid (Bl.less a b=decide (a.round<b.round)):=if_neg h;clear h
  go_enter Tryz.func123,Tryz.ntmps123
  go_wp2;go_ret;exact⟨bu HL.symm,aG.out⟩
theorem zt(a b:Bl.dM)(w:World):Calls Tryz.prog 107 #[.agg (Bl.cells a), .agg (Bl.cells b)] w (Looks w (.bool (Bl.less a b))):=by
 obtain⟨w1,e1,aH,hl2,aq,hz1⟩:=uD w a b;obtain⟨p0,p1⟩:=iP.both aH;obtain⟨q0,q1⟩:=iP.both hl2;have aG:=aa aq;clear aH hl2 aq hz1;by_cases h:a.round=b.round
 ·have hne:(a.round == b.round)=true:=by simpa using h
  have HL:Hid (Bl.less a b=decide (a.node<b.node)):=if_pos h;clear h
  go_enter Tryz.func107,Tryz.ntmps107
  go_wp2;go_ret;exact⟨bu HL.symm,aG.out⟩
 ·have hne:(a.round == b.round)=false:=by simpa using h
  have HL:Hid (Bl.less a b=decide (a.round<b.round)):=if_neg h;clear h
  go_enter Tryz.func107,Tryz.ntmps107
  go_wp2;go_ret;exact⟨bu HL.symm,aG.out⟩
theorem dc(b:Bl.dM)(w:World):Calls Tryz.prog 145 #[.agg (Bl.cells b)] w (Looks w (.bool (Bl.may b))):=by
 obtain⟨w1,e1,aH,aq,hz1⟩:=pP w b;obtain⟨p0,p1⟩:=iP.both aH;have aG:=aa aq;obtain⟨r,n⟩:=b;dsimp only at p0 p1
 obtain⟨t0,h0⟩ : ∃t,(r == 0)=t:=⟨_,rfl⟩;obtain⟨t1,h1⟩ : ∃t,(n == 0)=t:=⟨_,rfl⟩;obtain⟨t2,h2⟩ : ∃t,decide (1<=r)=t:=⟨_,rfl⟩;obtain⟨t3,h3⟩ : ∃t,decide (r<=4294967296)=t:=⟨_,rfl⟩;obtain⟨t4,h4⟩ : ∃t,decide (1<=n)=t:=⟨_,rfl⟩;obtain⟨t5,h5⟩ : ∃t,decide (n<=9)=t:=⟨_,rfl⟩;have HM:Hid (Bl.may ⟨r,n⟩=((t0 && t1) || ((t2 && t3) && (t4 && t5)))):=by
  show _=_;rw[<- h0, <- h1, <- h2, <- h3, <- h4, <- h5];simp only[Bl.may,Bl.zero,Bl.within,Bl.dM.mk.injEq,Bool.decide_and]
  rfl
 have HE:=aa e1;clear aH aq hz1;cases t0<;>cases t1<;>cases t2<;>(try cases t3)<;>(try cases t4)
 all_goals
  go_enter Tryz.func145,Tryz.ntmps145
  go_wp2;go_ret
  first
   | exact⟨by rw[HM.out];rfl,aG.out⟩
   | exact⟨by rw[HM.out, <- h5];rfl,aG.out⟩
end Go.Proofs.YtdkdjofnnnljjaaGreatDoor

namespace Go.Proofs.YtdkdjofnnnljjaaGreatDoor
open Go.RowKit
set_option maxHeartbeats 1600000
section
abbrev dL(w:World)(g:Nat)(e:En.bz):Prop:=ae w g 129 (En.cells e)
structure df(w:World)(g o:Nat)(e:En.bz):Prop where
 c0:w.cell? ⟨g,o,none⟩=some (.int .i64 e.index)
 c1:w.cell? ⟨g,o+1,none⟩=some (.int .i64 e.aF.round)
 c2:w.cell? ⟨g,o+2,none⟩=some (.int .i64 e.aF.node)
 c3:w.cell? ⟨g,o+3,none⟩=some (.int .i64 e.cmd.kind)
 c4:w.cell? ⟨g,o+4,none⟩=some (.int .i64 e.cmd.bD)
 c5:w.cell? ⟨g,o+5,none⟩=some (.int .i64 e.cmd.seq)
 c6:w.cell? ⟨g,o+6,none⟩=some (.string ⟨e.cmd.key.toArray⟩)
 c7:w.cell? ⟨g,o+7,none⟩=some (.string ⟨e.cmd.val.toArray⟩)
 c8:w.cell? ⟨g,o+8,none⟩=some (.string ⟨e.cmd.old.toArray⟩)
 c9:w.cell? ⟨g,o+9,none⟩=some (.int .i64 e.cmd.node)
theorem df.of{w:World}{g o:Nat}{e:En.bz}(h : ∀j u,(En.cells e)[j]? = some u->w.cell? ⟨g,o+j,none⟩=some u):df w g o e :=
 ⟨h 0 _ rfl,h 1 _ rfl,h 2 _ rfl,h 3 _ rfl,h 4 _ rfl,h 5 _ rfl,h 6 _ rfl,h 7 _ rfl,h 8 _ rfl,h 9 _ rfl⟩
theorem dL.pK{w:World}{g:Nat}{e:En.bz}(h:dL w g e):w.cell? ⟨g,0,none⟩=some (.int .i64 e.index)∧w.cell? ⟨g,1,none⟩=some (.int .i64 e.aF.round)∧w.cell? ⟨g,2,none⟩=some (.int .i64 e.aF.node)∧w.cell? ⟨g,3,none⟩=some (.int .i64 e.cmd.kind)∧w.cell? ⟨g,4,none⟩=some (.int .i64 e.cmd.bD)∧w.cell? ⟨g,5,none⟩=some (.int .i64 e.cmd.seq)∧w.cell? ⟨g,6,none⟩=some (.string ⟨e.cmd.key.toArray⟩)∧w.cell? ⟨g,7,none⟩=some (.string ⟨e.cmd.val.toArray⟩)∧w.cell? ⟨g,8,none⟩=some (.string ⟨e.cmd.old.toArray⟩)∧w.cell? ⟨g,9,none⟩=some (.int .i64 e.cmd.node) :=
 ⟨h.cell 0 _ rfl,h.cell 1 _ rfl,h.cell 2 _ rfl,h.cell 3 _ rfl,h.cell 4 _ rfl,h.cell 5 _ rfl,h.cell 6 _ rfl,h.cell 7 _ rfl,h.cell 8 _ rfl,h.cell 9 _ rfl⟩
theorem FN : Tryz.prog.eqGuardType Tryz.prog.depth 129=false:=by kernel_rfl
theorem En.ext_iff(a b:En.bz):a=b↔a.index=b.index∧a.aF.round=b.aF.round∧a.aF.node=b.aF.node∧a.cmd.kind=b.cmd.kind∧a.cmd.bD=b.cmd.bD∧a.cmd.seq=b.cmd.seq∧a.cmd.key=b.cmd.key∧a.cmd.val=b.cmd.val∧a.cmd.old=b.cmd.old∧a.cmd.node=b.cmd.node:=by
 obtain⟨i,⟨r,n⟩,k,cl,sq,nd,ky,od,vl⟩:=a;obtain⟨i', ⟨r', n'⟩,k', Wo, Wp, Wq, Ws, Wt, Wu⟩:=b;simp only[En.bz.mk.injEq,Bl.dM.mk.injEq,Cm.bW.mk.injEq]
 grind
theorem zQ(w:World)(a b:En.bz):(binOp .neq 129 (.agg (En.cells a)) (.agg (En.cells b))).run Tryz.prog w = .ok (.bool (!decide (a=b))) w:=by
 have hu:=Tryz.underlying129;have hb:=Tryz.underlying29;have hc:=Tryz.underlying40;rw[show decide (a=b)=decide (a.index=b.index∧a.aF.round=b.aF.round∧a.aF.node=b.aF.node∧a.cmd.kind=b.cmd.kind∧a.cmd.bD=b.cmd.bD∧a.cmd.seq=b.cmd.seq∧a.cmd.key=b.cmd.key∧a.cmd.val=b.cmd.val∧a.cmd.old=b.cmd.old∧a.cmd.node=b.cmd.node)from decide_eq_decide.2 (En.ext_iff a b)]
 obtain⟨i,⟨r,n⟩,k,cl,sq,nd,ky,od,vl⟩:=a;obtain⟨i', ⟨r', n'⟩,k', Wo, Wp, Wq, Ws, Wt, Wu⟩:=b;dsimp only [En.cells];go_simp
 repeat' split
 all_goals simp_all
theorem qG(w:World)(e:En.bz) : ∃w1,w.alloc (.cells (En.cells e) 129)=w1∧dL w1 w.heap.size e∧Below w.heap.size w w1∧w1.heap.size=w.heap.size+1 :=
 ⟨_,rfl,ae.new w _ _,(Below.refl _ w).alloc (Nat.le_refl _) _,by simp⟩
theorem En.cR(e:En.bz):(En.cells e).size=10∧(En.cells e).all (·.oneCell')=true:=⟨rfl,by simp[En.cells,Value.oneCell']⟩
theorem En.sized(l:List En.bz):dC 10 (l.map En.cells):=dC.map En.cR l
theorem Ik(w:World)(g:Nat)(e:En.bz)(h:dL w g e):(loadVar 129 ⟨g,0,none⟩).run Tryz.prog w = .ok (.agg (En.cells e)) w :=
 run_loadVar_row w g _ _ (En.cells e) (0,0) _ h Tryz.underlying129 rfl (by kernel_rfl)
theorem Cg{fn:Func}{R:Ending->World->Prop}{a:Act}{w:World}{p u:Tmp}{g:Nat}{e:En.bz}(h:fn.results = #[.cell p 129, .tmp u])(hp:a.tmps.getD p undef = .pointer (some ⟨g,0,none⟩))
 (hl:dL w g e) (hd:a.defers = []) (hR:R (.returned (.tuple #[.agg (En.cells e),a.tmps.getD u undef])) w):bodyPost Tryz.prog fn R .ret a w:=by
 refine bodyPost_ret ?_ hd hR;rw[jZ h,hp];simp[asAddr,Result.andThen,Ik w g e hl]
theorem En.vh(e:En.bz)(j:Nat)(h:j<10) : ∃v,(En.cells e)[j]? = some v:=⟨_,Array.getElem?_eq_getElem (show j<(En.cells e).size from h)⟩
theorem cq{ops:Array Oper}{rest:List Oper}{op:Oper}{a:Act}{w:World}{Q:Exit->Act->World->Prop}(hgd:op.guard=none)(x y:Operand)(ho:op.op = .store 129 x y)
 (g:Nat) (e0 e:En.bz) (hx:a.eval x = .pointer (some ⟨g,0,none⟩)) (hy:a.eval y = .agg (En.cells e)) (hl:dL w g e0)
 (h : ∀w', dL w' g e->w.grownBy w' (some g)->wpList Tryz.prog ops Q rest (a.put op.dst undef) w'):wpList Tryz.prog ops Q (op :: rest) a w:=by
 have h0 : ∀j,j<10->(w.cell? ⟨g,j,none⟩).isSome=true:=by
  intro j hj
  obtain⟨v,hv⟩:=En.vh e0 j hj;rw[hl.cell j v hv];rfl
 have hone:=(En.cR e).2;have hf:=hl.free;refine wpList_store_mid hgd _ x y ho g 0 (En.cells e) hx hy (fun j hj => ?_) (by kernel_rfl) hone (h _ (ae.whole hl rfl) (uV g _ _ _))
 rw[Nat.zero_add];exact⟨h0 j hj,hf j⟩
theorem cB{ops:Array Oper}{rest:List Oper}{op:Oper}{a:Act}{w:World}{Q:Exit->Act->World->Prop}(hgd:op.guard=none)(x:Operand)(ho:op.op = .load 129 x)
 (g o:Nat) (e:En.bz) (hx:a.eval x = .pointer (some ⟨g,o,none⟩)) (hl:df w g o e)
 (h:wpList Tryz.prog ops Q rest (a.put op.dst (.agg (En.cells e))) w):wpList Tryz.prog ops Q (op :: rest) a w :=
 wpList_load_mid hgd _ x ho g o hx (En.cells e).toList _ (fun j v hv=>by
  match j with
  | 0=>simp[En.cells]at hv;subst hv;exact hl.c0
  | 1=>simp[En.cells]at hv;subst hv;exact hl.c1
  | 2=>simp[En.cells]at hv;subst hv;exact hl.c2
  | 3=>simp[En.cells]at hv;subst hv;exact hl.c3
  | 4=>simp[En.cells]at hv;subst hv;exact hl.c4
  | 5=>simp[En.cells]at hv;subst hv;exact hl.c5
  | 6=>simp[En.cells]at hv;subst hv;exact hl.c6
  | 7=>simp[En.cells]at hv;subst hv;exact hl.c7
  | 8=>simp[En.cells]at hv;subst hv;exact hl.c8
  | 9=>simp[En.cells]at hv;subst hv;exact hl.c9
  | j+10=>simp[En.cells]at hv) Tryz.underlying129 rfl (by kernel_rfl) h
section
variable {H : Type} {enc : TypeId × Value -> H} {w : World} {b0 base : Nat} {held : Bool}
abbrev aW(w:World)(v:Value)(l:List En.bz):Prop:=aQ w v 10 (l.map En.cells)
end
theorem aW.shape{w:World}{v:Value}{l:List En.bz}(h:aW w v l) : ∃ao cap,v = .slice ao l.length cap∧l.length<=cap∧cap<=9223372036854775807:=by
 obtain⟨ao,cap,h1,h2,h3⟩:=aQ.shape h;rw[List.length_map]at h1 h2
 exact⟨ao,cap,h1,h2,h3⟩
theorem aW.places{w:World}{ao:Option Addr}{n cap:Nat}{l:List En.bz}(h:aW w (.slice ao n cap) l)(hl:0<l.length) :
 ∃b off,ao=some ⟨b,off,none⟩∧b<w.heap.size ∧ ∀w', Below w.heap.size w w' -> ∀i e,l[i]? = some e->df w' b (off+i*10) e:=by
 obtain⟨b,off,e,hlt,hc⟩:=aQ.places h (r0:=En.cells (l[0]'hl)) (u0 := .int .i64 (l[0]'hl).index) (by rw[List.getElem?_map,List.getElem?_eq_getElem hl];rfl) rfl
 refine⟨b,off,e,hlt,fun w' hb i c hi=>df.of fun j u hu => ?_⟩
 have:=hc w' hb i (En.cells c) (by rw[List.getElem?_map,hi];rfl) j u hu
 rwa[<- Nat.add_assoc]at this
theorem qH : (Tryz.prog.info? 129).map (fun i=>(i.zero,i.size,i.bytes))=some (some (.agg (En.cells En.zero)),10,104):=by kernel_rfl
theorem aW.dO{w w' : World}{b:Nat}{T:TypeId}{vs:Array Value}{v:Value}{l:List En.bz}(h:aW w v l)(hl:ae w b T vs)(hno : ∀(j:Nat) (x:ByteArray),vs[j]? ≠ some (.string x))(hg:w.grownBy w' (some b)):aW w' v l:=by
 cases l with
 | nil =>
  obtain⟨ao,cap,rfl,h1,h2,h3,h4⟩:=h;exact⟨ao,cap,rfl,h1,h2,h3,fun x hx i r hr=>by simp at hr⟩
 | cons e t =>
  obtain⟨ao,cap,rfl,h1,h2,h3,h4⟩:=h;refine⟨ao,cap,rfl,h1,h2,h3,fun x hx i r hr j u hu => ?_⟩
  have hc:=h4 x hx i r hr j u hu;have hs:w.cell? (x.add (0*10+6))=some (.string ⟨e.cmd.key.toArray⟩):=h4 x hx 0 (En.cells e) rfl 6 _ rfl;rw[<- hc];refine World.cell?_of_block ?_;have hlt:=World.block_lt_of_cell? w _ hc;rw[add_block]at hlt ⊢
  refine hg.block _ hlt ?_;intro hb
  obtain⟨blk,off,spot⟩:=x;obtain rfl:blk=b:=by simpa using hb
  have Ra:(Addr.add ⟨blk,off,spot⟩ (0*10+6))=⟨blk,off+6,none⟩:=by simp[Addr.add]
  rw[Ra]at hs
  have hl' : w.heap[blk]? = some (.cells vs T (0,0)):=hl;simp only[World.cell?,hl']at hs
  exact hno _ _ (by simpa using hs)
end
end Go.Proofs.YtdkdjofnnnljjaaGreatDoor

namespace Go.Proofs.YtdkdjofnnnljjaaGreatDoor
open Go.RowKit
set_option maxHeartbeats 1600000
set_option maxRecDepth 4000
theorem dL.at{w:World}{g:Nat}{e:En.bz}(h:dL w g e):df w g 0 e:=df.of fun j u hj=>by rw[Nat.zero_add];exact h.cell j u hj
theorem Ec(b:Int)(e:En.bz)(w:World)(hv:bE w)(hs:e.cmd.aD 140737488355328) :
 Calls Tryz.prog 187 #[.int .i64 b, .agg (En.cells e)] w (Looks w (.int .i64 (En.one b e))):=by
 obtain⟨w1,e1,aH,aq,hz1⟩:=qG w e;obtain⟨p0,p1,p2,_,_,_,_,_,_,_⟩:=dL.pK aH;have dh:=aa aH;have aG:=aa aq;have SA:=aa (hv.below aq);have qX:=tO e.aF w1;obtain⟨t,ht⟩ : ∃t,t=Bl.may e.aF:=⟨_,rfl⟩;rw[<- ht]at qX
 obtain⟨r,hr⟩ : ∃r,r=En.one b e:=⟨_,rfl⟩;rw[<- hr];unfold En.one En.bO at hr
 rw[<- ht]at hr
 obtain⟨y,hy⟩ : ∃y,y=Cm.check e.cmd:=⟨_,rfl⟩;have Rk:=fun W hW=>rK e.cmd W hW hs
 rw[<- hy]at hr Rk
 have Me:=aa Rk;clear aH aq hz1 hv ht hy Rk hs;by_cases h1:e.index<1
 ·have HZ:Hid (r=6):=by show _=_;rw[hr,decide_eq_false (show ¬ 1<=e.index by omega)];rfl
  clear hr qX
  go_enter Tryz.func187,Tryz.ntmps187
  go_wp2;go_ret;exact⟨by rw[HZ.out];rfl,aG.out⟩
 ·rw[decide_eq_true (show 1<=e.index by omega)]at hr
  by_cases h2:4294967296<e.index
  ·have HZ:Hid (r=6):=by show _=_;rw[hr,decide_eq_false (show ¬e.index<=4294967296 by omega)];rfl
   clear hr qX
   go_enter Tryz.func187,Tryz.ntmps187
   go_wp2;go_ret;exact⟨by rw[HZ.out];rfl,aG.out⟩
  ·rw[decide_eq_true (show e.index<=4294967296 by omega)]at hr
   cases t with
   | false =>
    have HZ:Hid (r=6):=by show _=_;rw[hr];rfl
    clear hr
    go_enter Tryz.func187,Tryz.ntmps187
    go_wp2_with (go_at_call 120;refine qX.mono ?_;rintro e' w2 ⟨rfl,dN⟩)
    go_ret;exact⟨by rw[HZ.out];rfl,aG.trans (dN.mono aG.size)⟩
   | true =>
    have hr' : r=if y≠0 then y else if e.index<=b then 12 else 0:=hr
    have HR:=aa hr';clear hr hr'
    go_enter Tryz.func187,Tryz.ntmps187
    go_wp2_with (go_at_call 120;refine qX.mono ?_;rintro e' w2 ⟨rfl,dN⟩;obtain⟨q0,q1,q2,q3,q4,q5,q6,q7,q8,q9⟩:=dL.pK (dh.below dN dh.lt);have ej:=aa (dh.below dN dh.lt);have XH:=aa (SA.below dN);have aR:=aa (aG.trans (dN.mono aG.size));clear dN p0 p1 p2)
    refine(Me.out _ XH.out).mono ?_;rintro e' w3 ⟨rfl,jx⟩;obtain⟨s0,_⟩:=dL.pK (ej.below jx ej.lt);have bh:=aa (aR.trans (jx.mono aR.size));clear jx q0 q1 q2 q3 q4 q5 q6 q7 q8 q9;by_cases hy:y=0
    ·subst hy
     by_cases hb:e.index<=b
     ·have HZ:Hid (r=12):=by show _=_;rw[HR.out,if_neg (by simp),if_pos hb]
      go_wp2;go_ret;exact⟨by rw[HZ.out];rfl,bh.out⟩
     ·have HZ:Hid (r=0):=by show _=_;rw[HR.out,if_neg (by simp),if_neg hb]
      go_wp2;go_ret;exact⟨by rw[HZ.out];rfl,bh.out⟩
    ·have hne:(y != 0)=true:=by simpa using hy
     have HZ:Hid (r=y):=by show _=_;rw[HR.out,if_pos hy]
     go_wp2;go_ret;exact⟨by rw[HZ.out];rfl,bh.out⟩
theorem Ed(v:Value)(l:List En.bz)(w:World)(hv:aW w v l)(hw:bE w)(hs : ∀e∈l,e.cmd.aD 140737488355328) :
 Calls Tryz.prog 159 #[v] w (Looks w (.int .i64 (En.check 0 l))):=by
 obtain⟨ao,cap,rfl,hc1,hc2⟩:=aW.shape hv;have HP:=aa (fun h=>aW.places hv h)
 have HS:=aa hs;have HW:=aa hw;obtain⟨n,hnn⟩ : ∃n,n=l.length:=⟨_,rfl⟩;rw[<- hnn]at hc1 ⊢
 have HN:=aa hnn;obtain⟨r,hr⟩ : ∃r,r=En.check 0 l:=⟨_,rfl⟩;rw[<- hr];have HR:=aa hr;have hnb:n<9223372036854775808:=by omega
 clear hv hnn hr hs hw
 go_enter Tryz.func159,Tryz.ntmps159
 go_wp2
 go_loopw [3,9] (fun y i wr => ∃(b:Int) (k:Nat),y = .int .i64 b∧i = .int .i64 (k:Int)∧k<=n∧Hid (r=En.check b (l.drop k))∧Below w.heap.size w wr) (fun _ i _=>n - (intOf i).toNat)
 case atStart=>exact⟨0,0,rfl,rfl,by omega,HR.out,Below.refl _ _⟩
 case round =>
  obtain⟨b,k,rfl,rfl,hk,HI,hB⟩:=hrel;have HB:=aa hB;clear hB;by_cases hlt:k<n
  ·obtain⟨e,he⟩ : ∃e,l[k]? = some e:=⟨_,List.getElem?_eq_getElem (by have:=HN.out;omega)⟩
   obtain⟨g,off,rfl,kH,hcell⟩:=HP.out (by have:=HN.out;omega)
   have HC:=aa (hcell wr HB.out k e he);have HST:=aa (HI.trans (En.C9 he b));have HSE:=aa (HS.out e (List.mem_of_getElem? he));obtain⟨y,hy⟩ : ∃y,y=En.one b e:=⟨_,rfl⟩;rw[<- hy]at HST
   have bY:=fun W hW=>Ec b e W hW HSE.out
   rw[<- hy]at bY
   have uP:=aa bY;clear hcell he hy bY;by_cases hy:y=0
   ·subst hy
    have HZ:Hid (r=En.check e.index (l.drop (k+1))):=by show _=_;rw[HST.out,if_neg (by simp)]
    go_wp2_with (first
     | (refine cB rfl _ rfl g (off+k*10) e rfl HC.out ?_)
     | (refine cq (by rfl) _ _ (by rfl) wr.heap.size En.zero e (by rfl) (by rfl) (ae.new _ _ _) ?_;intro w3 fk hg3;have fY:=aa fk;have bh:=aa ((HB.alloc HB.size _).grown hg3 (by simp;have:=HB.size;omega) (by rintro j hj;cases hj;exact HB.size));clear fk hg3)
     | (refine cB rfl _ rfl wr.heap.size 0 e rfl (dL.at fY.out) ?_)
     | (go_at_call 187;refine(uP.out _ (HW.below bh.out)).mono ?_;rintro e' w4 ⟨rfl,og⟩;obtain⟨q0,_⟩:=dL.pK (fY.below og fY.lt);have bJ:=aa (bh.trans (og.mono bh.size));clear og))
    go_roundw
    case rel=>exact⟨e.index,k+1,rfl,by go_num,by omega,HZ.out,bJ.out⟩
    case measure=>simp[intOf];omega
   ·have hne:(y != 0)=true:=by simpa using hy
    have HZ:Hid (r=y):=by show _=_;rw[HST.out,if_pos hy]
    go_wp2_with (first
     | (refine cB rfl _ rfl g (off+k*10) e rfl HC.out ?_)
     | (refine cq (by rfl) _ _ (by rfl) wr.heap.size En.zero e (by rfl) (by rfl) (ae.new _ _ _) ?_;intro w3 fk hg3;have fY:=aa fk;have bh:=aa ((HB.alloc HB.size _).grown hg3 (by simp;have:=HB.size;omega) (by rintro j hj;cases hj;exact HB.size));clear fk hg3)
     | (refine cB rfl _ rfl wr.heap.size 0 e rfl (dL.at fY.out) ?_)
     | (go_at_call 187;refine(uP.out _ (HW.below bh.out)).mono ?_;rintro e' w4 ⟨rfl,og⟩;obtain⟨q0,_⟩:=dL.pK (fY.below og fY.lt);have bJ:=aa (bh.trans (og.mono bh.size));clear og))
    go_ret;exact⟨by rw[HZ.out];rfl,bJ.out⟩
  ·have HZ:Hid (r=0):=by show _=_;rw[HI.out,List.drop_of_length_le (by have:=HN.out;omega)];rfl
   go_wp2;go_ret;exact⟨by rw[HZ.out];rfl,HB.out⟩
end Go.Proofs.YtdkdjofnnnljjaaGreatDoor

namespace Go.Proofs.YtdkdjofnnnljjaaGreatDoor
open Go.RowKit
set_option maxHeartbeats 1600000
set_option maxRecDepth 4000
section
theorem ed(k:Int)(w:World):Calls Tryz.prog 173 #[.int .i64 k] w (Says w (.bool (Cm.owned k))):=by
 unfold Cm.owned;by_cases h:2<=k
 ·have d:decide (2<=k)=true:=decide_eq_true h
  rw[d,Bool.true_and]
  go_enter Tryz.func173,Tryz.ntmps173
  go_wp2;go_ret;exact⟨rfl,rfl⟩
 ·have d:decide (2<=k)=false:=decide_eq_false h
  rw[d,Bool.false_and]
  go_enter Tryz.func173,Tryz.ntmps173
  go_wp2;go_ret;exact⟨rfl,rfl⟩
theorem bI(k:Int)(w:World):Calls Tryz.prog 174 #[.int .i64 k] w (Says w (.bool (Cm.cI k))):=by
 unfold Cm.cI;obtain⟨a,ha⟩ : ∃a,(k == 7)=a:=⟨_,rfl⟩;rw[ha];cases a with
 | true =>
  go_enter Tryz.func174,Tryz.ntmps174
  go_wp2;go_ret;exact⟨rfl,rfl⟩
 | false =>
  go_enter Tryz.func174,Tryz.ntmps174
  go_wp2;go_ret;exact⟨rfl,rfl⟩
def Cm.qI(c:Cm.bW):Int :=
 if c.kind<1∨8<c.kind then 5
 else if(Cm.owned c.kind=true∧(c.bD<1∨8<c.bD∨c.seq<1∨4294967296<c.seq))∨(Cm.cI c.kind=true∧(c.node<1∨9<c.node))then 6
 else if(Cm.owned c.kind=true∧Rn.key ⟨c.key.toArray⟩=false)∨(Cm.gW c.kind=true∧Rn.val ⟨c.val.toArray⟩=false)∨(c.kind=5∧Rn.val ⟨c.old.toArray⟩=false)then 7
 else if(Cm.owned c.kind=false∧(c.bD≠0∨c.seq≠0∨c.key ≠ []))∨(Cm.gW c.kind=false∧c.val ≠ [])∨(c.kind≠5∧c.old ≠ [])∨(Cm.cI c.kind=false∧c.node≠0)then 3
 else 0
theorem Cm.Ch(c:Cm.bW):Cm.qI c=Cm.check c:=by
 obtain⟨k,cl,sq,nd,ky,od,vl⟩:=c;unfold Cm.qI Cm.check Cm.alone Cm.within Cm.spelt Cm.SR;dsimp only;rcases Vs.kinds k with rfl | rfl | rfl | rfl | rfl | rfl | rfl | rfl | h
 rotate_right
 ·have:Cm.known k=false:=by simp[Cm.known];omega
  rw[if_pos h,if_pos this]
 all_goals
  simp[Cm.known,Cm.owned,Cm.cI,Cm.gW,Cm.fields,Cm.F.num,Cm.F.most,Cm.bW.n,Cm.bW.s,Cm.oG,Cm.bW.jU,Cm.bW.jV,Cm.aL];generalize Rn.key { data:=ky.toArray }=kx;generalize Rn.val { data:=vl.toArray }=vx;generalize Rn.val { data:=od.toArray }=ox
  grind
def Cm.Mf(k cl sq nd:Int)(kx vx ox ek ev eo:Bool):Int :=
 if k<1∨8<k then 5
 else if(Cm.owned k=true∧(cl<1∨8<cl∨sq<1∨4294967296<sq))∨(Cm.cI k=true∧(nd<1∨9<nd))then 6
 else if(Cm.owned k=true∧kx=false)∨(Cm.gW k=true∧vx=false)∨(k=5∧ox=false)then 7
 else if(Cm.owned k=false∧(cl≠0∨sq≠0∨ek=false))∨(Cm.gW k=false∧ev=false)∨(k≠5∧eo=false)∨(Cm.cI k=false∧nd≠0)then 3
 else 0
theorem Cm.Oq(c:Cm.bW):Cm.qI c=Cm.Mf c.kind c.bD c.seq c.node (Rn.key ⟨c.key.toArray⟩) (Rn.val ⟨c.val.toArray⟩) (Rn.val ⟨c.old.toArray⟩) (decide (c.key = [])) (decide (c.val = [])) (decide (c.old = [])):=by
 unfold Cm.qI Cm.Mf;simp
set_option linter.unusedVariables false
theorem Ee(w1 w:World)(cl sq nd:Int)(SK SV SO:ByteArray)(kx vx ox ek ev eo:Bool)(aq:Hid (Below w.heap.size w w1))(e1:w.alloc (.cells #[.int .i64 1, .int .i64 cl, .int .i64 sq, .string SK, .string SV, .string SO, .int .i64 nd] 40)=w1)
 (p0:w1.cell? ⟨w.heap.size,0,none⟩=some (.int .i64 1)) (p1:w1.cell? ⟨w.heap.size,1,none⟩=some (.int .i64 cl)) (p2:w1.cell? ⟨w.heap.size,2,none⟩=some (.int .i64 sq)) (p3:w1.cell? ⟨w.heap.size,3,none⟩=some (.string SK)) (p4:w1.cell? ⟨w.heap.size,4,none⟩=some (.string SV)) (p5:w1.cell? ⟨w.heap.size,5,none⟩=some (.string SO)) (p6:w1.cell? ⟨w.heap.size,6,none⟩=some (.int .i64 nd))
 (s1:Hid (SK.size<=140737488355328)) (s2:Hid (SV.size<=140737488355328)) (s3:Hid (SO.size<=140737488355328)) (q1:Hid (Rn.key SK=kx)) (q2:Hid (Rn.val SV=vx)) (q3:Hid (Rn.val SO=ox)) (t1:SK.toList.isEmpty=ek) (t2:SV.toList.isEmpty=ev) (t3:SO.toList.isEmpty=eo)
 (r:Int) (bC:Hid (r=if(cl≠0∨sq≠0∨ek=false)∨ev=false∨eo=false∨nd≠0 then 3 else 0)) :
 Calls Tryz.prog 147 #[.agg #[.int .i64 1, .int .i64 cl, .int .i64 sq, .string SK, .string SV, .string SO, .int .i64 nd]] w (Looks w (.int .i64 r)):=by
 go_enter Tryz.func147,Tryz.ntmps147
 go_wp2_with fail
 refine(ed _ _).mono ?_;rintro e w2 ⟨rfl,rfl⟩;rw[show Cm.owned 1=false from rfl]
 go_wp2_with fail
 all_goals first
  | (go_ret;refine⟨?_,aq.out⟩;first
   | (show Ending.returned (.int .i64 6)=_;rw[show r=6 by have h:=bC.out;grind])
   | (show Ending.returned (.int .i64 3)=_;rw[show r=3 by have h:=bC.out;grind])
   | (show Ending.returned (.int .i64 0)=_;rw[show r=0 by have h:=bC.out;grind])
   | (show Ending.returned (.int .i64 7)=_;rw[show r=7 by have h:=bC.out;grind]))
  | (refine(bI _ _).mono ?_;rintro e w2 ⟨rfl,rfl⟩;rw[show Cm.cI 1=false from rfl];go_wp2_with fail)
 all_goals first
  | (go_ret;refine⟨?_,aq.out⟩;first
   | (show Ending.returned (.int .i64 6)=_;rw[show r=6 by have h:=bC.out;grind])
   | (show Ending.returned (.int .i64 3)=_;rw[show r=3 by have h:=bC.out;grind])
   | (show Ending.returned (.int .i64 0)=_;rw[show r=0 by have h:=bC.out;grind])
   | (show Ending.returned (.int .i64 7)=_;rw[show r=7 by have h:=bC.out;grind]))
  | (refine(bI _ _).mono ?_;rintro e w2 ⟨rfl,rfl⟩;rw[show Cm.cI 1=false from rfl];go_wp2_with fail)
 all_goals (go_ret;refine⟨?_,aq.out⟩;first
  | (show Ending.returned (.int .i64 6)=_;rw[show r=6 by have h:=bC.out;grind])
  | (show Ending.returned (.int .i64 3)=_;rw[show r=3 by have h:=bC.out;grind])
  | (show Ending.returned (.int .i64 0)=_;rw[show r=0 by have h:=bC.out;grind])
  | (show Ending.returned (.int .i64 7)=_;rw[show r=7 by have h:=bC.out;grind]))
theorem Ef(w1 w:World)(cl sq nd:Int)(SK SV SO:ByteArray)(kx vx ox ek ev eo:Bool)(aq:Hid (Below w.heap.size w w1))(e1:w.alloc (.cells #[.int .i64 2, .int .i64 cl, .int .i64 sq, .string SK, .string SV, .string SO, .int .i64 nd] 40)=w1)
 (p0:w1.cell? ⟨w.heap.size,0,none⟩=some (.int .i64 2)) (p1:w1.cell? ⟨w.heap.size,1,none⟩=some (.int .i64 cl)) (p2:w1.cell? ⟨w.heap.size,2,none⟩=some (.int .i64 sq)) (p3:w1.cell? ⟨w.heap.size,3,none⟩=some (.string SK)) (p4:w1.cell? ⟨w.heap.size,4,none⟩=some (.string SV)) (p5:w1.cell? ⟨w.heap.size,5,none⟩=some (.string SO)) (p6:w1.cell? ⟨w.heap.size,6,none⟩=some (.int .i64 nd))
 (s1:Hid (SK.size<=140737488355328)) (s2:Hid (SV.size<=140737488355328)) (s3:Hid (SO.size<=140737488355328)) (q1:Hid (Rn.key SK=kx)) (q2:Hid (Rn.val SV=vx)) (q3:Hid (Rn.val SO=ox)) (t1:SK.toList.isEmpty=ek) (t2:SV.toList.isEmpty=ev) (t3:SO.toList.isEmpty=eo)
 (r:Int) (bC:Hid (r=if cl<1∨8<cl∨sq<1∨4294967296<sq then 6 else if kx=false∨vx=false then 7 else if eo=false∨nd≠0 then 3 else 0)) :
 Calls Tryz.prog 147 #[.agg #[.int .i64 2, .int .i64 cl, .int .i64 sq, .string SK, .string SV, .string SO, .int .i64 nd]] w (Looks w (.int .i64 r)):=by
 go_enter Tryz.func147,Tryz.ntmps147
 go_wp2_with fail
 refine(ed _ _).mono ?_;rintro e w2 ⟨rfl,rfl⟩;rw[show Cm.owned 2=true from rfl]
 go_wp2_with fail
 all_goals first
  | (go_ret;refine⟨?_,aq.out⟩;first
   | (show Ending.returned (.int .i64 6)=_;rw[show r=6 by have h:=bC.out;grind])
   | (show Ending.returned (.int .i64 3)=_;rw[show r=3 by have h:=bC.out;grind])
   | (show Ending.returned (.int .i64 0)=_;rw[show r=0 by have h:=bC.out;grind])
   | (show Ending.returned (.int .i64 7)=_;rw[show r=7 by have h:=bC.out;grind]))
  | (refine(bI _ _).mono ?_;rintro e w2 ⟨rfl,rfl⟩;rw[show Cm.cI 2=false from rfl];go_wp2_with fail)
 all_goals first
  | (go_ret;refine⟨?_,aq.out⟩;first
   | (show Ending.returned (.int .i64 6)=_;rw[show r=6 by have h:=bC.out;grind])
   | (show Ending.returned (.int .i64 3)=_;rw[show r=3 by have h:=bC.out;grind])
   | (show Ending.returned (.int .i64 0)=_;rw[show r=0 by have h:=bC.out;grind])
   | (show Ending.returned (.int .i64 7)=_;rw[show r=7 by have h:=bC.out;grind]))
  | (refine(lB SK _ s1.out).mono ?_;rintro e w2 ⟨rfl,rfl⟩;rw[q1.out];cases kx<;>go_wp2_with fail)
 all_goals first
  | (go_ret;refine⟨?_,aq.out⟩;first
   | (show Ending.returned (.int .i64 6)=_;rw[show r=6 by have h:=bC.out;grind])
   | (show Ending.returned (.int .i64 3)=_;rw[show r=3 by have h:=bC.out;grind])
   | (show Ending.returned (.int .i64 0)=_;rw[show r=0 by have h:=bC.out;grind])
   | (show Ending.returned (.int .i64 7)=_;rw[show r=7 by have h:=bC.out;grind]))
  | (refine(oU SV _ s2.out).mono ?_;rintro e w2 ⟨rfl,rfl⟩;rw[q2.out];cases vx<;>go_wp2_with fail)
 all_goals first
  | (go_ret;refine⟨?_,aq.out⟩;first
   | (show Ending.returned (.int .i64 6)=_;rw[show r=6 by have h:=bC.out;grind])
   | (show Ending.returned (.int .i64 3)=_;rw[show r=3 by have h:=bC.out;grind])
   | (show Ending.returned (.int .i64 0)=_;rw[show r=0 by have h:=bC.out;grind])
   | (show Ending.returned (.int .i64 7)=_;rw[show r=7 by have h:=bC.out;grind]))
  | (refine(bI _ _).mono ?_;rintro e w2 ⟨rfl,rfl⟩;rw[show Cm.cI 2=false from rfl];go_wp2_with fail)
 all_goals (go_ret;refine⟨?_,aq.out⟩;first
  | (show Ending.returned (.int .i64 6)=_;rw[show r=6 by have h:=bC.out;grind])
  | (show Ending.returned (.int .i64 3)=_;rw[show r=3 by have h:=bC.out;grind])
  | (show Ending.returned (.int .i64 0)=_;rw[show r=0 by have h:=bC.out;grind])
  | (show Ending.returned (.int .i64 7)=_;rw[show r=7 by have h:=bC.out;grind]))
theorem Eg(w1 w:World)(cl sq nd:Int)(SK SV SO:ByteArray)(kx vx ox ek ev eo:Bool)(aq:Hid (Below w.heap.size w w1))(e1:w.alloc (.cells #[.int .i64 3, .int .i64 cl, .int .i64 sq, .string SK, .string SV, .string SO, .int .i64 nd] 40)=w1)
 (p0:w1.cell? ⟨w.heap.size,0,none⟩=some (.int .i64 3)) (p1:w1.cell? ⟨w.heap.size,1,none⟩=some (.int .i64 cl)) (p2:w1.cell? ⟨w.heap.size,2,none⟩=some (.int .i64 sq)) (p3:w1.cell? ⟨w.heap.size,3,none⟩=some (.string SK)) (p4:w1.cell? ⟨w.heap.size,4,none⟩=some (.string SV)) (p5:w1.cell? ⟨w.heap.size,5,none⟩=some (.string SO)) (p6:w1.cell? ⟨w.heap.size,6,none⟩=some (.int .i64 nd))
 (s1:Hid (SK.size<=140737488355328)) (s2:Hid (SV.size<=140737488355328)) (s3:Hid (SO.size<=140737488355328)) (q1:Hid (Rn.key SK=kx)) (q2:Hid (Rn.val SV=vx)) (q3:Hid (Rn.val SO=ox)) (t1:SK.toList.isEmpty=ek) (t2:SV.toList.isEmpty=ev) (t3:SO.toList.isEmpty=eo)
 (r:Int) (bC:Hid (r=if cl<1∨8<cl∨sq<1∨4294967296<sq then 6 else if kx=false then 7 else if ev=false∨eo=false∨nd≠0 then 3 else 0)) :
 Calls Tryz.prog 147 #[.agg #[.int .i64 3, .int .i64 cl, .int .i64 sq, .string SK, .string SV, .string SO, .int .i64 nd]] w (Looks w (.int .i64 r)):=by
 go_enter Tryz.func147,Tryz.ntmps147
 go_wp2_with fail
 refine(ed _ _).mono ?_;rintro e w2 ⟨rfl,rfl⟩;rw[show Cm.owned 3=true from rfl]
 go_wp2_with fail
 all_goals first
  | (go_ret;refine⟨?_,aq.out⟩;first
   | (show Ending.returned (.int .i64 6)=_;rw[show r=6 by have h:=bC.out;grind])
   | (show Ending.returned (.int .i64 3)=_;rw[show r=3 by have h:=bC.out;grind])
   | (show Ending.returned (.int .i64 0)=_;rw[show r=0 by have h:=bC.out;grind])
   | (show Ending.returned (.int .i64 7)=_;rw[show r=7 by have h:=bC.out;grind]))
  | (refine(bI _ _).mono ?_;rintro e w2 ⟨rfl,rfl⟩;rw[show Cm.cI 3=false from rfl];go_wp2_with fail)
 all_goals first
  | (go_ret;refine⟨?_,aq.out⟩;first
   | (show Ending.returned (.int .i64 6)=_;rw[show r=6 by have h:=bC.out;grind])
   | (show Ending.returned (.int .i64 3)=_;rw[show r=3 by have h:=bC.out;grind])
   | (show Ending.returned (.int .i64 0)=_;rw[show r=0 by have h:=bC.out;grind])
   | (show Ending.returned (.int .i64 7)=_;rw[show r=7 by have h:=bC.out;grind]))
  | (refine(lB SK _ s1.out).mono ?_;rintro e w2 ⟨rfl,rfl⟩;rw[q1.out];cases kx<;>go_wp2_with fail)
 all_goals first
  | (go_ret;refine⟨?_,aq.out⟩;first
   | (show Ending.returned (.int .i64 6)=_;rw[show r=6 by have h:=bC.out;grind])
   | (show Ending.returned (.int .i64 3)=_;rw[show r=3 by have h:=bC.out;grind])
   | (show Ending.returned (.int .i64 0)=_;rw[show r=0 by have h:=bC.out;grind])
   | (show Ending.returned (.int .i64 7)=_;rw[show r=7 by have h:=bC.out;grind]))
  | (refine(bI _ _).mono ?_;rintro e w2 ⟨rfl,rfl⟩;rw[show Cm.cI 3=false from rfl];go_wp2_with fail)
 all_goals (go_ret;refine⟨?_,aq.out⟩;first
  | (show Ending.returned (.int .i64 6)=_;rw[show r=6 by have h:=bC.out;grind])
  | (show Ending.returned (.int .i64 3)=_;rw[show r=3 by have h:=bC.out;grind])
  | (show Ending.returned (.int .i64 0)=_;rw[show r=0 by have h:=bC.out;grind])
  | (show Ending.returned (.int .i64 7)=_;rw[show r=7 by have h:=bC.out;grind]))
theorem Eh(w1 w:World)(cl sq nd:Int)(SK SV SO:ByteArray)(kx vx ox ek ev eo:Bool)(aq:Hid (Below w.heap.size w w1))(e1:w.alloc (.cells #[.int .i64 4, .int .i64 cl, .int .i64 sq, .string SK, .string SV, .string SO, .int .i64 nd] 40)=w1)
 (p0:w1.cell? ⟨w.heap.size,0,none⟩=some (.int .i64 4)) (p1:w1.cell? ⟨w.heap.size,1,none⟩=some (.int .i64 cl)) (p2:w1.cell? ⟨w.heap.size,2,none⟩=some (.int .i64 sq)) (p3:w1.cell? ⟨w.heap.size,3,none⟩=some (.string SK)) (p4:w1.cell? ⟨w.heap.size,4,none⟩=some (.string SV)) (p5:w1.cell? ⟨w.heap.size,5,none⟩=some (.string SO)) (p6:w1.cell? ⟨w.heap.size,6,none⟩=some (.int .i64 nd))
 (s1:Hid (SK.size<=140737488355328)) (s2:Hid (SV.size<=140737488355328)) (s3:Hid (SO.size<=140737488355328)) (q1:Hid (Rn.key SK=kx)) (q2:Hid (Rn.val SV=vx)) (q3:Hid (Rn.val SO=ox)) (t1:SK.toList.isEmpty=ek) (t2:SV.toList.isEmpty=ev) (t3:SO.toList.isEmpty=eo)
 (r:Int) (bC:Hid (r=if cl<1∨8<cl∨sq<1∨4294967296<sq then 6 else if kx=false then 7 else if ev=false∨eo=false∨nd≠0 then 3 else 0)) :
 Calls Tryz.prog 147 #[.agg #[.int .i64 4, .int .i64 cl, .int .i64 sq, .string SK, .string SV, .string SO, .int .i64 nd]] w (Looks w (.int .i64 r)):=by
 go_enter Tryz.func147,Tryz.ntmps147
 go_wp2_with fail
 refine(ed _ _).mono ?_;rintro e w2 ⟨rfl,rfl⟩;rw[show Cm.owned 4=true from rfl]
 go_wp2_with fail
 all_goals first
  | (go_ret;refine⟨?_,aq.out⟩;first
   | (show Ending.returned (.int .i64 6)=_;rw[show r=6 by have h:=bC.out;grind])
   | (show Ending.returned (.int .i64 3)=_;rw[show r=3 by have h:=bC.out;grind])
   | (show Ending.returned (.int .i64 0)=_;rw[show r=0 by have h:=bC.out;grind])
   | (show Ending.returned (.int .i64 7)=_;rw[show r=7 by have h:=bC.out;grind]))
  | (refine(bI _ _).mono ?_;rintro e w2 ⟨rfl,rfl⟩;rw[show Cm.cI 4=false from rfl];go_wp2_with fail)
 all_goals first
  | (go_ret;refine⟨?_,aq.out⟩;first
   | (show Ending.returned (.int .i64 6)=_;rw[show r=6 by have h:=bC.out;grind])
   | (show Ending.returned (.int .i64 3)=_;rw[show r=3 by have h:=bC.out;grind])
   | (show Ending.returned (.int .i64 0)=_;rw[show r=0 by have h:=bC.out;grind])
   | (show Ending.returned (.int .i64 7)=_;rw[show r=7 by have h:=bC.out;grind]))
  | (refine(lB SK _ s1.out).mono ?_;rintro e w2 ⟨rfl,rfl⟩;rw[q1.out];cases kx<;>go_wp2_with fail)
 all_goals first
  | (go_ret;refine⟨?_,aq.out⟩;first
   | (show Ending.returned (.int .i64 6)=_;rw[show r=6 by have h:=bC.out;grind])
   | (show Ending.returned (.int .i64 3)=_;rw[show r=3 by have h:=bC.out;grind])
   | (show Ending.returned (.int .i64 0)=_;rw[show r=0 by have h:=bC.out;grind])
   | (show Ending.returned (.int .i64 7)=_;rw[show r=7 by have h:=bC.out;grind]))
  | (refine(bI _ _).mono ?_;rintro e w2 ⟨rfl,rfl⟩;rw[show Cm.cI 4=false from rfl];go_wp2_with fail)
 all_goals (go_ret;refine⟨?_,aq.out⟩;first
  | (show Ending.returned (.int .i64 6)=_;rw[show r=6 by have h:=bC.out;grind])
  | (show Ending.returned (.int .i64 3)=_;rw[show r=3 by have h:=bC.out;grind])
  | (show Ending.returned (.int .i64 0)=_;rw[show r=0 by have h:=bC.out;grind])
  | (show Ending.returned (.int .i64 7)=_;rw[show r=7 by have h:=bC.out;grind]))
theorem Ei(w1 w:World)(cl sq nd:Int)(SK SV SO:ByteArray)(kx vx ox ek ev eo:Bool)(aq:Hid (Below w.heap.size w w1))(e1:w.alloc (.cells #[.int .i64 5, .int .i64 cl, .int .i64 sq, .string SK, .string SV, .string SO, .int .i64 nd] 40)=w1)
 (p0:w1.cell? ⟨w.heap.size,0,none⟩=some (.int .i64 5)) (p1:w1.cell? ⟨w.heap.size,1,none⟩=some (.int .i64 cl)) (p2:w1.cell? ⟨w.heap.size,2,none⟩=some (.int .i64 sq)) (p3:w1.cell? ⟨w.heap.size,3,none⟩=some (.string SK)) (p4:w1.cell? ⟨w.heap.size,4,none⟩=some (.string SV)) (p5:w1.cell? ⟨w.heap.size,5,none⟩=some (.string SO)) (p6:w1.cell? ⟨w.heap.size,6,none⟩=some (.int .i64 nd))
 (s1:Hid (SK.size<=140737488355328)) (s2:Hid (SV.size<=140737488355328)) (s3:Hid (SO.size<=140737488355328)) (q1:Hid (Rn.key SK=kx)) (q2:Hid (Rn.val SV=vx)) (q3:Hid (Rn.val SO=ox)) (t1:SK.toList.isEmpty=ek) (t2:SV.toList.isEmpty=ev) (t3:SO.toList.isEmpty=eo)
 (r:Int) (bC:Hid (r=if cl<1∨8<cl∨sq<1∨4294967296<sq then 6 else if kx=false∨vx=false∨ox=false then 7 else if nd≠0 then 3 else 0)) :
 Calls Tryz.prog 147 #[.agg #[.int .i64 5, .int .i64 cl, .int .i64 sq, .string SK, .string SV, .string SO, .int .i64 nd]] w (Looks w (.int .i64 r)):=by
 go_enter Tryz.func147,Tryz.ntmps147
 go_wp2_with fail
 refine(ed _ _).mono ?_;rintro e w2 ⟨rfl,rfl⟩;rw[show Cm.owned 5=true from rfl]
 go_wp2_with fail
 all_goals first
  | (go_ret;refine⟨?_,aq.out⟩;first
   | (show Ending.returned (.int .i64 6)=_;rw[show r=6 by have h:=bC.out;grind])
   | (show Ending.returned (.int .i64 3)=_;rw[show r=3 by have h:=bC.out;grind])
   | (show Ending.returned (.int .i64 0)=_;rw[show r=0 by have h:=bC.out;grind])
   | (show Ending.returned (.int .i64 7)=_;rw[show r=7 by have h:=bC.out;grind]))
  | (refine(bI _ _).mono ?_;rintro e w2 ⟨rfl,rfl⟩;rw[show Cm.cI 5=false from rfl];go_wp2_with fail)
 all_goals first
  | (go_ret;refine⟨?_,aq.out⟩;first
   | (show Ending.returned (.int .i64 6)=_;rw[show r=6 by have h:=bC.out;grind])
   | (show Ending.returned (.int .i64 3)=_;rw[show r=3 by have h:=bC.out;grind])
   | (show Ending.returned (.int .i64 0)=_;rw[show r=0 by have h:=bC.out;grind])
   | (show Ending.returned (.int .i64 7)=_;rw[show r=7 by have h:=bC.out;grind]))
  | (refine(lB SK _ s1.out).mono ?_;rintro e w2 ⟨rfl,rfl⟩;rw[q1.out];cases kx<;>go_wp2_with fail)
 all_goals first
  | (go_ret;refine⟨?_,aq.out⟩;first
   | (show Ending.returned (.int .i64 6)=_;rw[show r=6 by have h:=bC.out;grind])
   | (show Ending.returned (.int .i64 3)=_;rw[show r=3 by have h:=bC.out;grind])
   | (show Ending.returned (.int .i64 0)=_;rw[show r=0 by have h:=bC.out;grind])
   | (show Ending.returned (.int .i64 7)=_;rw[show r=7 by have h:=bC.out;grind]))
  | (refine(oU SV _ s2.out).mono ?_;rintro e w2 ⟨rfl,rfl⟩;rw[q2.out];cases vx<;>go_wp2_with fail)
 all_goals first
  | (go_ret;refine⟨?_,aq.out⟩;first
   | (show Ending.returned (.int .i64 6)=_;rw[show r=6 by have h:=bC.out;grind])
   | (show Ending.returned (.int .i64 3)=_;rw[show r=3 by have h:=bC.out;grind])
   | (show Ending.returned (.int .i64 0)=_;rw[show r=0 by have h:=bC.out;grind])
   | (show Ending.returned (.int .i64 7)=_;rw[show r=7 by have h:=bC.out;grind]))
  | (refine(oU SO _ s3.out).mono ?_;rintro e w2 ⟨rfl,rfl⟩;rw[q3.out];cases ox<;>go_wp2_with fail)
 all_goals first
  | (go_ret;refine⟨?_,aq.out⟩;first
   | (show Ending.returned (.int .i64 6)=_;rw[show r=6 by have h:=bC.out;grind])
   | (show Ending.returned (.int .i64 3)=_;rw[show r=3 by have h:=bC.out;grind])
   | (show Ending.returned (.int .i64 0)=_;rw[show r=0 by have h:=bC.out;grind])
   | (show Ending.returned (.int .i64 7)=_;rw[show r=7 by have h:=bC.out;grind]))
  | (refine(bI _ _).mono ?_;rintro e w2 ⟨rfl,rfl⟩;rw[show Cm.cI 5=false from rfl];go_wp2_with fail)
 all_goals (go_ret;refine⟨?_,aq.out⟩;first
  | (show Ending.returned (.int .i64 6)=_;rw[show r=6 by have h:=bC.out;grind])
  | (show Ending.returned (.int .i64 3)=_;rw[show r=3 by have h:=bC.out;grind])
  | (show Ending.returned (.int .i64 0)=_;rw[show r=0 by have h:=bC.out;grind])
  | (show Ending.returned (.int .i64 7)=_;rw[show r=7 by have h:=bC.out;grind]))
theorem Ej(w1 w:World)(cl sq nd:Int)(SK SV SO:ByteArray)(kx vx ox ek ev eo:Bool)(aq:Hid (Below w.heap.size w w1))(e1:w.alloc (.cells #[.int .i64 6, .int .i64 cl, .int .i64 sq, .string SK, .string SV, .string SO, .int .i64 nd] 40)=w1)
 (p0:w1.cell? ⟨w.heap.size,0,none⟩=some (.int .i64 6)) (p1:w1.cell? ⟨w.heap.size,1,none⟩=some (.int .i64 cl)) (p2:w1.cell? ⟨w.heap.size,2,none⟩=some (.int .i64 sq)) (p3:w1.cell? ⟨w.heap.size,3,none⟩=some (.string SK)) (p4:w1.cell? ⟨w.heap.size,4,none⟩=some (.string SV)) (p5:w1.cell? ⟨w.heap.size,5,none⟩=some (.string SO)) (p6:w1.cell? ⟨w.heap.size,6,none⟩=some (.int .i64 nd))
 (s1:Hid (SK.size<=140737488355328)) (s2:Hid (SV.size<=140737488355328)) (s3:Hid (SO.size<=140737488355328)) (q1:Hid (Rn.key SK=kx)) (q2:Hid (Rn.val SV=vx)) (q3:Hid (Rn.val SO=ox)) (t1:SK.toList.isEmpty=ek) (t2:SV.toList.isEmpty=ev) (t3:SO.toList.isEmpty=eo)
 (r:Int) (bC:Hid (r=if(cl≠0∨sq≠0∨ek=false)∨ev=false∨eo=false∨nd≠0 then 3 else 0)) :
 Calls Tryz.prog 147 #[.agg #[.int .i64 6, .int .i64 cl, .int .i64 sq, .string SK, .string SV, .string SO, .int .i64 nd]] w (Looks w (.int .i64 r)):=by
 go_enter Tryz.func147,Tryz.ntmps147
 go_wp2_with fail
 refine(ed _ _).mono ?_;rintro e w2 ⟨rfl,rfl⟩;rw[show Cm.owned 6=false from rfl]
 go_wp2_with fail
 all_goals first
  | (go_ret;refine⟨?_,aq.out⟩;first
   | (show Ending.returned (.int .i64 6)=_;rw[show r=6 by have h:=bC.out;grind])
   | (show Ending.returned (.int .i64 3)=_;rw[show r=3 by have h:=bC.out;grind])
   | (show Ending.returned (.int .i64 0)=_;rw[show r=0 by have h:=bC.out;grind])
   | (show Ending.returned (.int .i64 7)=_;rw[show r=7 by have h:=bC.out;grind]))
  | (refine(bI _ _).mono ?_;rintro e w2 ⟨rfl,rfl⟩;rw[show Cm.cI 6=false from rfl];go_wp2_with fail)
 all_goals first
  | (go_ret;refine⟨?_,aq.out⟩;first
   | (show Ending.returned (.int .i64 6)=_;rw[show r=6 by have h:=bC.out;grind])
   | (show Ending.returned (.int .i64 3)=_;rw[show r=3 by have h:=bC.out;grind])
   | (show Ending.returned (.int .i64 0)=_;rw[show r=0 by have h:=bC.out;grind])
   | (show Ending.returned (.int .i64 7)=_;rw[show r=7 by have h:=bC.out;grind]))
  | (refine(bI _ _).mono ?_;rintro e w2 ⟨rfl,rfl⟩;rw[show Cm.cI 6=false from rfl];go_wp2_with fail)
 all_goals (go_ret;refine⟨?_,aq.out⟩;first
  | (show Ending.returned (.int .i64 6)=_;rw[show r=6 by have h:=bC.out;grind])
  | (show Ending.returned (.int .i64 3)=_;rw[show r=3 by have h:=bC.out;grind])
  | (show Ending.returned (.int .i64 0)=_;rw[show r=0 by have h:=bC.out;grind])
  | (show Ending.returned (.int .i64 7)=_;rw[show r=7 by have h:=bC.out;grind]))
theorem Ek(w1 w:World)(cl sq nd:Int)(SK SV SO:ByteArray)(kx vx ox ek ev eo:Bool)(aq:Hid (Below w.heap.size w w1))(e1:w.alloc (.cells #[.int .i64 7, .int .i64 cl, .int .i64 sq, .string SK, .string SV, .string SO, .int .i64 nd] 40)=w1)
 (p0:w1.cell? ⟨w.heap.size,0,none⟩=some (.int .i64 7)) (p1:w1.cell? ⟨w.heap.size,1,none⟩=some (.int .i64 cl)) (p2:w1.cell? ⟨w.heap.size,2,none⟩=some (.int .i64 sq)) (p3:w1.cell? ⟨w.heap.size,3,none⟩=some (.string SK)) (p4:w1.cell? ⟨w.heap.size,4,none⟩=some (.string SV)) (p5:w1.cell? ⟨w.heap.size,5,none⟩=some (.string SO)) (p6:w1.cell? ⟨w.heap.size,6,none⟩=some (.int .i64 nd))
 (s1:Hid (SK.size<=140737488355328)) (s2:Hid (SV.size<=140737488355328)) (s3:Hid (SO.size<=140737488355328)) (q1:Hid (Rn.key SK=kx)) (q2:Hid (Rn.val SV=vx)) (q3:Hid (Rn.val SO=ox)) (t1:SK.toList.isEmpty=ek) (t2:SV.toList.isEmpty=ev) (t3:SO.toList.isEmpty=eo)
 (r:Int) (bC:Hid (r=if nd<1∨9<nd then 6 else if(cl≠0∨sq≠0∨ek=false)∨ev=false∨eo=false then 3 else 0)) :
 Calls Tryz.prog 147 #[.agg #[.int .i64 7, .int .i64 cl, .int .i64 sq, .string SK, .string SV, .string SO, .int .i64 nd]] w (Looks w (.int .i64 r)):=by
 go_enter Tryz.func147,Tryz.ntmps147
 go_wp2_with fail
 refine(ed _ _).mono ?_;rintro e w2 ⟨rfl,rfl⟩;rw[show Cm.owned 7=false from rfl]
 go_wp2_with fail
 all_goals first
  | (go_ret;refine⟨?_,aq.out⟩;first
   | (show Ending.returned (.int .i64 6)=_;rw[show r=6 by have h:=bC.out;grind])
   | (show Ending.returned (.int .i64 3)=_;rw[show r=3 by have h:=bC.out;grind])
   | (show Ending.returned (.int .i64 0)=_;rw[show r=0 by have h:=bC.out;grind])
   | (show Ending.returned (.int .i64 7)=_;rw[show r=7 by have h:=bC.out;grind]))
  | (refine(bI _ _).mono ?_;rintro e w2 ⟨rfl,rfl⟩;rw[show Cm.cI 7=true from rfl];go_wp2_with fail)
 all_goals first
  | (go_ret;refine⟨?_,aq.out⟩;first
   | (show Ending.returned (.int .i64 6)=_;rw[show r=6 by have h:=bC.out;grind])
   | (show Ending.returned (.int .i64 3)=_;rw[show r=3 by have h:=bC.out;grind])
   | (show Ending.returned (.int .i64 0)=_;rw[show r=0 by have h:=bC.out;grind])
   | (show Ending.returned (.int .i64 7)=_;rw[show r=7 by have h:=bC.out;grind]))
  | (refine(bI _ _).mono ?_;rintro e w2 ⟨rfl,rfl⟩;rw[show Cm.cI 7=true from rfl];go_wp2_with fail)
 all_goals (go_ret;refine⟨?_,aq.out⟩;first
  | (show Ending.returned (.int .i64 6)=_;rw[show r=6 by have h:=bC.out;grind])
  | (show Ending.returned (.int .i64 3)=_;rw[show r=3 by have h:=bC.out;grind])
  | (show Ending.returned (.int .i64 0)=_;rw[show r=0 by have h:=bC.out;grind])
  | (show Ending.returned (.int .i64 7)=_;rw[show r=7 by have h:=bC.out;grind]))
theorem El(w1 w:World)(cl sq nd:Int)(SK SV SO:ByteArray)(kx vx ox ek ev eo:Bool)(aq:Hid (Below w.heap.size w w1))(e1:w.alloc (.cells #[.int .i64 8, .int .i64 cl, .int .i64 sq, .string SK, .string SV, .string SO, .int .i64 nd] 40)=w1)
 (p0:w1.cell? ⟨w.heap.size,0,none⟩=some (.int .i64 8)) (p1:w1.cell? ⟨w.heap.size,1,none⟩=some (.int .i64 cl)) (p2:w1.cell? ⟨w.heap.size,2,none⟩=some (.int .i64 sq)) (p3:w1.cell? ⟨w.heap.size,3,none⟩=some (.string SK)) (p4:w1.cell? ⟨w.heap.size,4,none⟩=some (.string SV)) (p5:w1.cell? ⟨w.heap.size,5,none⟩=some (.string SO)) (p6:w1.cell? ⟨w.heap.size,6,none⟩=some (.int .i64 nd))
 (s1:Hid (SK.size<=140737488355328)) (s2:Hid (SV.size<=140737488355328)) (s3:Hid (SO.size<=140737488355328)) (q1:Hid (Rn.key SK=kx)) (q2:Hid (Rn.val SV=vx)) (q3:Hid (Rn.val SO=ox)) (t1:SK.toList.isEmpty=ek) (t2:SV.toList.isEmpty=ev) (t3:SO.toList.isEmpty=eo)
 (r:Int) (bC:Hid (r=if nd<1∨9<nd then 6 else if(cl≠0∨sq≠0∨ek=false)∨ev=false∨eo=false then 3 else 0)) :
 Calls Tryz.prog 147 #[.agg #[.int .i64 8, .int .i64 cl, .int .i64 sq, .string SK, .string SV, .string SO, .int .i64 nd]] w (Looks w (.int .i64 r)):=by
 go_enter Tryz.func147,Tryz.ntmps147
 go_wp2_with fail
 refine(ed _ _).mono ?_;rintro e w2 ⟨rfl,rfl⟩;rw[show Cm.owned 8=false from rfl]
 go_wp2_with fail
 all_goals first
  | (go_ret;refine⟨?_,aq.out⟩;first
   | (show Ending.returned (.int .i64 6)=_;rw[show r=6 by have h:=bC.out;grind])
   | (show Ending.returned (.int .i64 3)=_;rw[show r=3 by have h:=bC.out;grind])
   | (show Ending.returned (.int .i64 0)=_;rw[show r=0 by have h:=bC.out;grind])
   | (show Ending.returned (.int .i64 7)=_;rw[show r=7 by have h:=bC.out;grind]))
  | (refine(bI _ _).mono ?_;rintro e w2 ⟨rfl,rfl⟩;rw[show Cm.cI 8=true from rfl];go_wp2_with fail)
 all_goals first
  | (go_ret;refine⟨?_,aq.out⟩;first
   | (show Ending.returned (.int .i64 6)=_;rw[show r=6 by have h:=bC.out;grind])
   | (show Ending.returned (.int .i64 3)=_;rw[show r=3 by have h:=bC.out;grind])
   | (show Ending.returned (.int .i64 0)=_;rw[show r=0 by have h:=bC.out;grind])
   | (show Ending.returned (.int .i64 7)=_;rw[show r=7 by have h:=bC.out;grind]))
  | (refine(bI _ _).mono ?_;rintro e w2 ⟨rfl,rfl⟩;rw[show Cm.cI 8=true from rfl];go_wp2_with fail)
 all_goals (go_ret;refine⟨?_,aq.out⟩;first
  | (show Ending.returned (.int .i64 6)=_;rw[show r=6 by have h:=bC.out;grind])
  | (show Ending.returned (.int .i64 3)=_;rw[show r=3 by have h:=bC.out;grind])
  | (show Ending.returned (.int .i64 0)=_;rw[show r=0 by have h:=bC.out;grind])
  | (show Ending.returned (.int .i64 7)=_;rw[show r=7 by have h:=bC.out;grind]))
theorem Em(w1 w:World)(k cl sq nd:Int)(SK SV SO:ByteArray)(kx vx ox ek ev eo:Bool)(aq:Hid (Below w.heap.size w w1))(e1:w.alloc (.cells #[.int .i64 k, .int .i64 cl, .int .i64 sq, .string SK, .string SV, .string SO, .int .i64 nd] 40)=w1)
 (p0:w1.cell? ⟨w.heap.size,0,none⟩=some (.int .i64 k)) (p1:w1.cell? ⟨w.heap.size,1,none⟩=some (.int .i64 cl)) (p2:w1.cell? ⟨w.heap.size,2,none⟩=some (.int .i64 sq)) (p3:w1.cell? ⟨w.heap.size,3,none⟩=some (.string SK)) (p4:w1.cell? ⟨w.heap.size,4,none⟩=some (.string SV)) (p5:w1.cell? ⟨w.heap.size,5,none⟩=some (.string SO)) (p6:w1.cell? ⟨w.heap.size,6,none⟩=some (.int .i64 nd))
 (s1:Hid (SK.size<=140737488355328)) (s2:Hid (SV.size<=140737488355328)) (s3:Hid (SO.size<=140737488355328)) (q1:Hid (Rn.key SK=kx)) (q2:Hid (Rn.val SV=vx)) (q3:Hid (Rn.val SO=ox)) (t1:SK.toList.isEmpty=ek) (t2:SV.toList.isEmpty=ev) (t3:SO.toList.isEmpty=eo)
 (r:Int) (h:k<1∨8<k) (bC:Hid (r=5)) :
 Calls Tryz.prog 147 #[.agg #[.int .i64 k, .int .i64 cl, .int .i64 sq, .string SK, .string SV, .string SO, .int .i64 nd]] w (Looks w (.int .i64 r)):=by
 go_enter Tryz.func147,Tryz.ntmps147
 by_cases h1:k<1
 ·have d1:decide (k<1)=true:=decide_eq_true h1
  go_wp2;go_ret;exact⟨by rw[bC.out];rfl,aq.out⟩
 ·have d1:decide (k<1)=false:=decide_eq_false h1
  have d8:decide (8<k)=true:=decide_eq_true (by omega)
  go_wp2;go_ret;exact⟨by rw[bC.out];rfl,aq.out⟩
end
theorem wC(w1 w:World)(k cl sq nd:Int)(SK SV SO:ByteArray)(kx vx ox ek ev eo:Bool)(aq:Hid (Below w.heap.size w w1))(e1:w.alloc (.cells #[.int .i64 k, .int .i64 cl, .int .i64 sq, .string SK, .string SV, .string SO, .int .i64 nd] 40)=w1)
 (p0:w1.cell? ⟨w.heap.size,0,none⟩=some (.int .i64 k)) (p1:w1.cell? ⟨w.heap.size,1,none⟩=some (.int .i64 cl)) (p2:w1.cell? ⟨w.heap.size,2,none⟩=some (.int .i64 sq)) (p3:w1.cell? ⟨w.heap.size,3,none⟩=some (.string SK)) (p4:w1.cell? ⟨w.heap.size,4,none⟩=some (.string SV)) (p5:w1.cell? ⟨w.heap.size,5,none⟩=some (.string SO)) (p6:w1.cell? ⟨w.heap.size,6,none⟩=some (.int .i64 nd))
 (s1:Hid (SK.size<=140737488355328)) (s2:Hid (SV.size<=140737488355328)) (s3:Hid (SO.size<=140737488355328)) (q1:Hid (Rn.key SK=kx)) (q2:Hid (Rn.val SV=vx)) (q3:Hid (Rn.val SO=ox)) (t1:SK.toList.isEmpty=ek) (t2:SV.toList.isEmpty=ev) (t3:SO.toList.isEmpty=eo) :
 Calls Tryz.prog 147 #[.agg #[.int .i64 k, .int .i64 cl, .int .i64 sq, .string SK, .string SV, .string SO, .int .i64 nd]] w (Looks w (.int .i64 (Cm.Mf k cl sq nd kx vx ox ek ev eo))):=by
 obtain⟨r,hr⟩ : ∃r,r=Cm.Mf k cl sq nd kx vx ox ek ev eo:=⟨_,rfl⟩;rw[<- hr];unfold Cm.Mf at hr
 rcases Vs.kinds k with rfl | rfl | rfl | rfl | rfl | rfl | rfl | rfl | h
 ·exact Ee w1 w cl sq nd SK SV SO kx vx ox ek ev eo aq e1 p0 p1 p2 p3 p4 p5 p6 s1 s2 s3 q1 q2 q3 t1 t2 t3 r (show _=_ by rw[hr];simp[Cm.owned,Cm.cI,Cm.gW])
 ·exact Ef w1 w cl sq nd SK SV SO kx vx ox ek ev eo aq e1 p0 p1 p2 p3 p4 p5 p6 s1 s2 s3 q1 q2 q3 t1 t2 t3 r (show _=_ by rw[hr];simp[Cm.owned,Cm.cI,Cm.gW])
 ·exact Eg w1 w cl sq nd SK SV SO kx vx ox ek ev eo aq e1 p0 p1 p2 p3 p4 p5 p6 s1 s2 s3 q1 q2 q3 t1 t2 t3 r (show _=_ by rw[hr];simp[Cm.owned,Cm.cI,Cm.gW])
 ·exact Eh w1 w cl sq nd SK SV SO kx vx ox ek ev eo aq e1 p0 p1 p2 p3 p4 p5 p6 s1 s2 s3 q1 q2 q3 t1 t2 t3 r (show _=_ by rw[hr];simp[Cm.owned,Cm.cI,Cm.gW])
 ·exact Ei w1 w cl sq nd SK SV SO kx vx ox ek ev eo aq e1 p0 p1 p2 p3 p4 p5 p6 s1 s2 s3 q1 q2 q3 t1 t2 t3 r (show _=_ by rw[hr];simp[Cm.owned,Cm.cI,Cm.gW])
 ·exact Ej w1 w cl sq nd SK SV SO kx vx ox ek ev eo aq e1 p0 p1 p2 p3 p4 p5 p6 s1 s2 s3 q1 q2 q3 t1 t2 t3 r (show _=_ by rw[hr];simp[Cm.owned,Cm.cI,Cm.gW])
 ·exact Ek w1 w cl sq nd SK SV SO kx vx ox ek ev eo aq e1 p0 p1 p2 p3 p4 p5 p6 s1 s2 s3 q1 q2 q3 t1 t2 t3 r (show _=_ by rw[hr];simp[Cm.owned,Cm.cI,Cm.gW])
 ·exact El w1 w cl sq nd SK SV SO kx vx ox ek ev eo aq e1 p0 p1 p2 p3 p4 p5 p6 s1 s2 s3 q1 q2 q3 t1 t2 t3 r (show _=_ by rw[hr];simp[Cm.owned,Cm.cI,Cm.gW])
 ·exact Em w1 w k cl sq nd SK SV SO kx vx ox ek ev eo aq e1 p0 p1 p2 p3 p4 p5 p6 s1 s2 s3 q1 q2 q3 t1 t2 t3 r h (show _=_ by rw[hr,if_pos h])
theorem dY(c:Cm.bW)(w:World)(hs:c.aD 140737488355328):Calls Tryz.prog 147 #[.agg (Cm.cells c)] w (Looks w (.int .i64 (Cm.check c))):=by
 rw[<- Cm.Ch,Cm.Oq];obtain⟨w1,e1,hl,hB,_⟩:=pL w c;exact wC w1 w c.kind c.bD c.seq c.node _ _ _ _ _ _ _ _ _ hB e1 (hl.cell 0 _ rfl) (hl.cell 1 _ rfl) (hl.cell 2 _ rfl) (hl.cell 3 _ rfl) (hl.cell 4 _ rfl) (hl.cell 5 _ rfl) (hl.cell 6 _ rfl)
  (show _<=_ by rw[dy];exact hs.1) (show _<=_ by rw[dy];exact hs.2.2) (show _<=_ by rw[dy];exact hs.2.1) rfl rfl rfl (rQ _) (rQ _) (rQ _)
end Go.Proofs.YtdkdjofnnnljjaaGreatDoor
