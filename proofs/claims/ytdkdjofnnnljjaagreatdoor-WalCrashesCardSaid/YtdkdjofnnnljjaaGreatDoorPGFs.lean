/- Several texts of mine in one: GHb DkMap DkMem WlMem WlTake GFs. -/
import Derived.Test.YtdkdjofnnnljjaaGreatDoorPMsCame
import Derived.Test.YtdkdjofnnnljjaaGreatDoorReCame
import Derived.Test.YtdkdjofnnnljjaaGreatDoorPGRh
import Derived.Test.YtdkdjofnnnljjaaGreatDoorPGEw
import Derived.Test.YtdkdjofnnnljjaaGreatDoorPDkMath
import Derived.Test.YtdkdjofnnnljjaaGreatDoorRows
import Derived.Test.YtdkdjofnnnljjaaGreatDoorPPkMath
import Derived.Test.YtdkdjofnnnljjaaGreatDoorShelf
import Derived.Maps.OwnSet
import Derived.Maps.OwnOps
import Derived.Deep.RegionHeld
import Derived.Sort.AtCall
import Derived.Test.YtdkdjofnnnljjaaGreatDoorPGPl
import Derived.Lib.LaidU8
import Derived.Test.YtdkdjofnnnljjaaGreatDoorPGCw
import Derived.Lib.AppendZerosOnto
import Derived.Lib.SliceRun
namespace Go.Proofs.YtdkdjofnnnljjaaGreatDoor
open Go.RowKit
set_option maxHeartbeats 12800000
set_option maxRecDepth 4000
section
abbrev gS(p:Nat->TypeId->Prop)(w:World)(v:Value)(l:List Re.Rec):Prop:=cJ 12 Re.cells Re.Rec.aw p w v l
theorem iJ(a:Re.Rec)(u:Value) : ∃v,(Re.cells a u)[0]? = some v:=⟨_,rfl⟩
theorem gK(a:Re.Rec)(u:Value):(Re.cells a u).size=12∧(u.oneCell' = true->(Re.cells a u).all (·.oneCell')=true):=⟨rfl,fun h=>by simp[Re.cells,h];repeat' (first | rfl | constructor)⟩
section
variable {H : Type} {enc : TypeId × Value -> H} {w : World} {b0 base : Nat} {held : Bool}
end
def Mp(w:World)(l:List Re.Rec)(e:Ending)(w' : World):Prop := ∃b:Bool,e = .returned (.bool b)∧Below w.heap.size w w' ∧ (b=false->l.length<=40 ∧ ∀x∈l,Re.iU x=false∧x.aw.length<=300)
theorem DF{p:Nat->TypeId->Prop}(v:Value)(l:List Re.Rec)(w:World)(hv:gS p w v l)(hs : ∀x∈l,x.cmd.aD 9223372036854775807):Calls Tryz.prog 24 #[v] w (Mp w l):=by
 obtain⟨ao,cap,rfl,hc1,hc2⟩:=cJ.shape hv;have HP:=aa (fun h=>cJ.places hv iJ h)
 obtain⟨n,hn⟩ : ∃n,n=l.length:=⟨_,rfl⟩;rw[<- hn]at hc1 HP ⊢
 have HN:=aa hn;have HS:=aa hs;have hnb:n<9223372036854775808:=by omega
 clear hv hn hs
 go_enter Tryz.func24,Tryz.ntmps24
 go_wp2
 go_loopw [3] (fun i wr => ∃k:Nat,i = .int .i64 (k:Int)∧k<=n∧Hid (∀c∈l.take k,Re.iU c=false∧c.aw.length<=300)∧Hid (k<=40)∧Hid (Below w.heap.size w wr)) (fun i _=>n - (intOf i).toNat)
 case atStart=>exact⟨0,rfl,by omega,by show ∀c∈_,_;simp,by show 0<=40;omega,Below.refl _ _⟩
 case round =>
  obtain⟨k,rfl,hk,HI,HK,HB⟩:=hrel;by_cases hlt:k<n
  ·have d1:decide (k<n)=true:=decide_eq_true hlt
   by_cases h40:k<40
   ·have d2:decide ((k:Int)<40)=true:=decide_eq_true (by omega)
    have QN : (k:Int)<40:=by omega
    obtain⟨c,lW⟩ : ∃c,l[k]? = some c:=⟨_,List.getElem?_eq_getElem (by have:=HN.out;omega)⟩
    obtain⟨g,off,rfl,_,hc⟩:=HP.out (by have:=HN.out;omega)
    obtain⟨u,hu,hcell⟩:=hc k c lW;obtain⟨uo,uc,rfl⟩:=hu.1.shape;have hcw:=hcell wr HB.out;have m0:wr.cell? ⟨g,off+k*12,none⟩=some (.int .i64 c.kind):=hcw 0 _ rfl;have m1:wr.cell? ⟨g,off+k*12+1,none⟩=some (.int .i64 c.aF.round):=hcw 1 _ rfl;have m2:wr.cell? ⟨g,off+k*12+2,none⟩=some (.int .i64 c.aF.node):=hcw 2 _ rfl;have m3:wr.cell? ⟨g,off+k*12+3,none⟩=some (.int .i64 c.index):=hcw 3 _ rfl;have m4:wr.cell? ⟨g,off+k*12+4,none⟩=some (.int .i64 c.cmd.kind):=hcw 4 _ rfl;have m5:wr.cell? ⟨g,off+k*12+5,none⟩=some (.int .i64 c.cmd.bD):=hcw 5 _ rfl;have m6:wr.cell? ⟨g,off+k*12+6,none⟩=some (.int .i64 c.cmd.seq):=hcw 6 _ rfl;have m7:wr.cell? ⟨g,off+k*12+7,none⟩=some (.string ⟨c.cmd.key.toArray⟩):=hcw 7 _ rfl;have m8:wr.cell? ⟨g,off+k*12+8,none⟩=some (.string ⟨c.cmd.val.toArray⟩):=hcw 8 _ rfl;have m9:wr.cell? ⟨g,off+k*12+9,none⟩=some (.string ⟨c.cmd.old.toArray⟩):=hcw 9 _ rfl;have TQ:wr.cell? ⟨g,off+k*12+10,none⟩=some (.int .i64 c.cmd.node):=hcw 10 _ rfl;have QO:wr.cell? ⟨g,off+k*12+11,none⟩=some (.slice uo c.aw.length uc):=hcw 11 _ rfl;have TR:=BV c (.slice uo c.aw.length uc) wr (hu.1.below HB.out) (HS.out c (List.mem_of_getElem? lW));have Fq:=aa lW;have HC:=aa hcell;clear hc lW hcell hu hcw
    go_wp2_with fail
    refine TR.mono ?_;rintro e w2 ⟨rfl,hb2⟩;have aR:=aa (HB.trans (hb2.mono HB.size));clear TR hb2 m0 m1 m2 m3 m4 m5 m6 m7 m8 m9 TQ QO;have QO:w2.cell? ⟨g,off+k*12+11,none⟩=some (.slice uo c.aw.length uc):=HC.out w2 aR.out 11 _ rfl;obtain⟨m,hm⟩ : ∃m,m=c.aw.length:=⟨_,rfl⟩;rw[<- hm]at QO
    obtain⟨t,ht⟩ : ∃t,t=Re.iU c:=⟨_,rfl⟩;rw[<- ht];have HM:=aa hm;have HT:=aa ht;clear hm ht HC;cases t with
    | true =>
     go_wp2;go_ret;exact⟨true,rfl,aR.out,fun h=>by cases h⟩
    | false =>
     by_cases hb:300<m
     ·go_wp2
      go_ret;exact⟨true,rfl,aR.out,fun h=>by cases h⟩
     ·have QP:Hid (∀c∈l.take (k+1),Re.iU c=false∧c.aw.length<=300):=by
       intro d hd
       rw[List.take_add_one,Fq.out]at hd
       rcases List.mem_append.1 hd with hd | hd
       ·exact HI.out d hd
       ·simp at hd;subst hd;exact⟨HT.symm,by have:=HM.out;omega⟩
      go_wp2
      go_roundw
      case rel=>exact⟨k+1,by go_num,by omega,QP.out,by show k+1<=40;omega,aR⟩
      case measure=>simp[intOf];omega
   ·have d2:decide ((k:Int)<40)=false:=decide_eq_false (by omega)
    have QN : ¬(k:Int)<40:=by omega
    have hb:40<n:=by have:=HK.out;omega
    go_wp2;go_ret;exact⟨true,by simp;omega,HB.out,fun h=>by cases h⟩
  ·obtain rfl:k=n:=by omega
   have hb : ¬ 40<k:=by have:=HK.out;omega
   go_wp2;go_ret;refine⟨false,by simp;omega,HB.out,fun _=>⟨by have:=HN.out;omega,fun c hc=>HI.out c ?_⟩⟩
   rw[List.take_of_length_le (by have:=HN.out;omega)]
   exact hc
end
theorem Hd.Fo(b:Int)(s:List En.bz × List En.bz)(x:Re.Rec):(Hd.two b s x).1.length<=s.1.length+1∧(Hd.two b s x).2.length<=s.2.length+1:=by
 have h1:=En.E6 s.1 (Hd.jO x);have h2:=En.E6 s.2 (Hd.jO x);unfold Hd.two;split
 ·exact⟨by omega,by omega⟩
 ·split
  ·exact⟨h1,by show s.2.length<=_;omega⟩
  ·split
   ·exact⟨by omega,by omega⟩
   ·exact⟨by show s.1.length<=_;omega,h2⟩
theorem Hd.Mq(b:Int)(l:List Re.Rec):(Hd.rows b l).1.length<=l.length∧(Hd.rows b l).2.length<=l.length:=by
 induction l using Hd.dB with
 | h0=>exact⟨by simp[Hd.rows],by simp[Hd.rows]⟩
 | h1 l x ih =>
  rw[Hd.jt,List.length_append];have:=Hd.Fo b (Hd.rows b l) x;exact⟨by simp;omega,by simp;omega⟩
theorem Hd.nU{l:List Re.Rec}{k:Nat}{x:Re.Rec}(h:l[k]? = some x):l.take (k+1)=l.take k ++ [x]:=by rw[List.take_add_one,h];rfl
theorem iK{ops:Array Oper}{rest:List Oper}{op:Oper}{a:Act}{w:World}{Q:Exit->Act->World->Prop}(hgd:op.guard=none)(x:Operand)(ho:op.op = .load 42 x)
 (g o:Nat) (r:Re.Rec) (vi:Value) (hx:a.eval x = .pointer (some ⟨g,o,none⟩)) (hl : ∀j v,(Re.cells r vi)[j]? = some v->w.cell? ⟨g,o+j,none⟩=some v)
 (h:wpList Tryz.prog ops Q rest (a.put op.dst (.agg (Re.cells r vi))) w):wpList Tryz.prog ops Q (op :: rest) a w :=
 wpList_load_mid hgd _ x ho g o hx (Re.cells r vi).toList _ (fun j v hv=>hl j v (by simpa using hv)) Tryz.underlying42 rfl (by kernel_rfl) h
abbrev Nil : Value := .slice none 0 0
theorem eA(w:World)(T:TypeId) : ∃w1,w.alloc (.cells #[.int .i64 0, .int .i64 0, .int .i64 0, .slice none 0 0, .slice none 0 0, .slice none 0 0] T)=w1∧aB w1 w.heap.size T Bl.zero 0 Nil Nil Nil∧Below w.heap.size w w1∧w1.heap.size=w.heap.size+1 :=
 ⟨_,rfl,⟨ae.new w _ _,⟨_,_,_,rfl⟩,⟨_,_,_,rfl⟩,⟨_,_,_,rfl⟩⟩,(Below.refl _ w).alloc (Nat.le_refl _) _,by simp⟩
theorem Hd.Ox{s:Bl.dM × Int × List UInt8}{x:Re.Rec}(h:Re.check x≠0):Hd.one s x=s:=by unfold Hd.one;rw[if_pos h]
theorem Hd.Rv{s:Bl.dM × Int × List UInt8}{x:Re.Rec}(h:Re.check x=0):Hd.one s x=(Hd.cQ s.1 x,if x.kind=4∧s.2.1<x.index then (x.index,x.aw)else s.2):=by unfold Hd.one;rw[if_neg (by rw[h];simp)]
--GEN
theorem Oy{D:Nat->Prop}(v:Value)(l:List Re.Rec)(w:World)(hq : ∀b,w.heap.size<=b->D b)(hv:gS (fun b _=>D b) w v l)(hs : ∀x∈l,x.cmd.aD 140737488355328)(hlen:l.length<=1000) :
 Calls Tryz.prog 76 #[v] w (sy D w (Hd.of l)):=by
 have HQF:=aa hq;clear hq;obtain⟨ao,cap,rfl,hc1,hc2⟩:=cJ.shape hv;have HP:=aa (fun h=>cJ.places hv iJ h)
 obtain⟨w1,e1,hz1,aq,hs1⟩:=eA w 33;obtain⟨w2,e2,hx2,dN,hs2⟩:=eA w1 33;rw[hs1]at hx2
 have jE:=aa (hz1.below dN (by omega))
 have rh:=aa hx2;have vM:Hid (Below w.heap.size w w2):=aq.trans (dN.mono aq.size);obtain⟨gz,Ko⟩ : ∃g,g=w.heap.size:=⟨_,rfl⟩;obtain⟨gh,QI⟩ : ∃g,g=w.heap.size+1:=⟨_,rfl⟩;rw[<- Ko]at jE
 rw[<- QI]at rh
 obtain⟨n,hn⟩ : ∃n,n=l.length:=⟨_,rfl⟩;rw[<- hn]at hc1 HP hlen ⊢
 have HN:=aa hn;have HS:=aa hs;have mR:=aa hlen;have pj:Hid (gz<w2.heap.size∧gh<w2.heap.size∧gz≠gh∧w.heap.size<=gz∧w.heap.size<=gh):=⟨by omega,by omega,by omega,by omega,by omega⟩
 have hnb:n<9223372036854775808:=by omega
 have Xg:w1.heap.size=gh:=by omega
 clear hv hn hs hz1 hx2 aq dN hlen hc2
 go_enter Tryz.func76,Tryz.ntmps76
 go_wp2;rw[<- QI, <- Ko];clear e1 e2 hs1 hs2 Xg Ko QI
 go_loopw [4] (fun i wr => ∃(k:Nat) (s:Bl.dM × Int × List UInt8) (io:Option Addr) (ic:Nat),i = .int .i64 (k:Int)∧k<=n∧Hid (Hd.fK (l.take k)=s)∧Hid (aB wr gh 33 s.1 s.2.1 (.slice io s.2.2.length ic) Nil Nil)∧Hid (kA D wr (.slice io s.2.2.length ic) s.2.2)∧Hid (aB wr gz 33 Bl.zero 0 Nil Nil Nil)∧Hid (Below w.heap.size w wr)) (fun i _=>n - (intOf i).toNat)
 case atStart=>exact⟨0,(Bl.zero,0, []),none,0,rfl,by omega,rfl,rh.out,⟨Reads.empty w2,jh.bare _ _ _⟩,jE.out,vM.out⟩
 case round =>
  obtain⟨k,⟨pr,ba,im⟩,io,ic,rfl,hk,HT,HX,HI,HZ,HB⟩:=hrel;dsimp only at HT HX HI
  by_cases hlt:k<n
  ·skip
   obtain⟨x,hxl⟩ : ∃x,l[k]? = some x:=⟨_,List.getElem?_eq_getElem (by have:=HN.out;omega)⟩
   obtain⟨g,off,rfl,_,hc⟩:=HP.out (by have:=HN.out;omega)
   obtain⟨u,hu,hcell⟩:=hc k x hxl;obtain⟨uo,uc,rfl⟩:=hu.1.shape;have X5:=aa (aS.AW hu);have Ni:=aa hxl;have HU:=aa (fun W (h:Below w.heap.size w W)=>hu.1.below h)
   have Aj:=aa (HS.out x (List.mem_of_getElem? hxl));have bj:Hid (∀j v,(Re.cells x (.slice uo x.aw.length uc))[j]? = some v->wr.cell? ⟨g,off+k*12+j,none⟩=some v):=fun j v hj=>by rw[Nat.add_assoc];exact hcell wr HB.out j v hj
   clear hc hu hcell hxl;have G6:Hid (gh<wr.heap.size∧gz<wr.heap.size):=⟨HX.ag.lt,HZ.ag.lt⟩
   go_wp2_with (first
    | (refine iK rfl _ rfl g (off+k*12) x (.slice uo x.aw.length uc) rfl bj.out ?_)
    | (refine aY rfl _ _ rfl wr.heap.size Re.zero Nil x (.slice uo x.aw.length uc) rfl rfl rfl (ae.new _ _ _) ?_;intro w5 eN bU;have gQ:=aa eN;have bK:Hid (Below wr.heap.size wr w5):=aJ bU;clear eN bU)
    | (refine cZ rfl _ rfl wr.heap.size x (.slice uo x.aw.length uc) rfl gQ.out ?_))
   refine(jQ x (.slice uo x.aw.length uc) w5 (HU.out _ (HB.trans (bK.mono HB.size))) Aj.out).mono ?_;rintro e w6 ⟨rfl,fP⟩;have cy:Hid (Below wr.heap.size wr w6):=bK.trans (fP.mono bK.size);have dX:=aa (gQ.below fP gQ.lt);obtain⟨rb,M6⟩ : ∃g,g=wr.heap.size:=⟨_,rfl⟩;have X6:Hid (gh≠rb∧gz≠rb):=⟨by have:=G6.1;omega,by have:=G6.2;omega⟩
   rw[<- M6]at dX ⊢
   clear fP bK gQ bj M6;have jB:Hid (Below w.heap.size w w6):=HB.trans (cy.mono HB.size);have qw:=aa (HX.below cy.out G6.1);have vU:=aa (HZ.below cy.out G6.2);have HUX:Hid (kA D w6 _ _):=⟨HU.out w6 jB.out,X5.out⟩;obtain⟨y,hy⟩ : ∃y,y=Re.check x:=⟨_,rfl⟩;rw[<- hy];have HY:=aa hy;clear hy;have tD:=aa (HI.below cy.out);by_cases hy:y=0
   rotate_left
   ·have Xf:(y != 0)=true:=by simpa using hy
    have FH:Hid (Hd.fK (l.take (k+1))=(pr,ba,im)):=by show _=_;rw[Hd.nU Ni.out,Hd.rG,HT.out,Hd.Ox (by rw[<- HY.out];exact hy)]
    go_wp2
    go_roundw
    case rel=>exact⟨k+1,(pr,ba,im),io,ic,by go_num,by omega,FH.out,qw.out,tD.out,vU.out,jB.out⟩
    case measure=>simp[intOf];omega
   subst hy;have HF:=aa (Hd.cU.1 HY.symm);have Mr:Hid (Hd.fK (l.take (k+1))=(Hd.cQ pr x,if x.kind=4∧ba<x.index then (x.index,x.aw)else (ba,im))):=by show _=_;rw[Hd.nU Ni.out,Hd.rG,HT.out,Hd.Rv HY.symm]
   have d0:w6.cell? ⟨rb,0,none⟩=some (.int .i64 x.kind):=dX.cell 0 _ rfl
   go_wp2_with fail
   refine(bA x.kind _).mono ?_;rintro e w7 ⟨rfl,rfl⟩;obtain⟨t1,Mu⟩ : ∃t,t=Re.hb x.kind:=⟨_,rfl⟩;rw[<- Mu];have Mv:=aa Mu;clear Mu;cases t1 with
   | true =>
    have ET:Hid (x.kind≠4):=fun h=>by have:=Mv.out;rw[h]at this;simp[Re.hb]at this
    have hk4:(x.kind == 4)=false:=by simpa using ET.out
    obtain⟨c0,c1,_,_,_,_⟩:=qw.all;have d1:w6.cell? ⟨rb,1,none⟩=some (.int .i64 x.aF.round):=dX.cell 1 _ rfl;have d2:w6.cell? ⟨rb,2,none⟩=some (.int .i64 x.aF.node):=dX.cell 2 _ rfl
    go_wp2_with fail
    refine(zt pr x.aF _).mono ?_;rintro e w8 ⟨rfl,eX⟩;have cN:=aa eX;have mQ:=aa (qw.below eX qw.ag.lt);have zK:=aa (vU.below eX vU.ag.lt);have CP:=aa (dX.below eX dX.lt);have HI8:=aa (tD.below eX);have Rw:Hid (Below w.heap.size w w8):=jB.trans (eX.mono jB.size);clear eX c0 c1 d0 d1 d2;have d0:w8.cell? ⟨rb,0,none⟩=some (.int .i64 x.kind):=CP.cell 0 _ rfl;obtain⟨t2,SC⟩ : ∃t,t=Bl.less pr x.aF:=⟨_,rfl⟩;rw[<- SC];have Nq:=aa SC;clear SC;cases t2 with
    | true =>
     have d1:w8.cell? ⟨rb,1,none⟩=some (.int .i64 x.aF.round):=CP.cell 1 _ rfl;have d2:w8.cell? ⟨rb,2,none⟩=some (.int .i64 x.aF.node):=CP.cell 2 _ rfl;have Oz:Hid (Hd.fK (l.take (k+1))=(x.aF,ba,im)):=by show _=_;rw[Mr.out,if_neg (fun h=>ET.out h.1)];unfold Hd.cQ;rw[if_pos ⟨Mv.symm,Nq.symm⟩]
     clear ET
     go_wp2_with (refine lG rfl _ _ rfl x.aF rfl rfl mQ.out ?_;intro w9 gR cM;have d0:w9.cell? ⟨rb,0,none⟩=some (.int .i64 x.kind):=(CP.kept cM (by have:=X6.1;simp;omega)).cell 0 _ rfl;have jl:=aa gR;have gI:=aa cM;clear gR cM)
     have Pe:=aa (zK.kept gI.out pj.2.2.1);have Oe:=aa (HI8.dO mQ.ag mQ.Qq gI.out);have eY:Hid (Below w.heap.size w w9):=Rw.grown gI.out Rw.size (by rintro j hj;cases hj;have:=pj.2.2.2.2;omega)
     go_wp2
     go_roundw
     case rel=>exact⟨k+1,(x.aF,ba,im),io,ic,by go_num,by omega,Oz.out,jl.out,Oe.out,Pe.out,eY.out⟩
     case measure=>simp[intOf];omega
    | false =>
     have Oz:Hid (Hd.fK (l.take (k+1))=(pr,ba,im)):=by show _=_;rw[Mr.out,if_neg (fun h=>ET.out h.1)];unfold Hd.cQ;rw[if_neg (fun h=>by rw[<- Nq.out]at h;cases h.2)]
     clear ET;go_wp2
     go_roundw
     case rel=>exact⟨k+1,(pr,ba,im),io,ic,by go_num,by omega,Oz.out,mQ.out,HI8.out,zK.out,Rw.out⟩
     case measure=>simp[intOf];omega
   | false =>
    have Pg:Hid (Hd.cQ pr x=pr):=by show _=_;unfold Hd.cQ;rw[if_neg (fun h=>by rw[<- Mv.out]at h;cases h.1)]
    by_cases hk4:x.kind=4
    ·have X7:(x.kind == 4)=true:=by simpa using hk4
     have d3:w6.cell? ⟨rb,3,none⟩=some (.int .i64 x.index):=dX.cell 3 _ rfl;have d11:w6.cell? ⟨rb,11,none⟩=some (.slice uo x.aw.length uc):=dX.cell 11 _ rfl;obtain⟨_,_,c2,_,_,_⟩:=qw.all;by_cases wq:ba<x.index
     ·have Oz:Hid (Hd.fK (l.take (k+1))=(pr,x.index,x.aw)):=by show _=_;rw[Mr.out,Pg.out,if_pos ⟨hk4,wq⟩]
      have Br:decide (ba<x.index)=true:=decide_eq_true wq;have HHB:=aa wq;clear hk4 wq
      go_wp2_with (first
       | (refine Dh rfl _ _ rfl x.index rfl rfl qw.out ?_;intro w9 gR cM;have jl:=aa gR;have gI:=aa cM;have d11:w9.cell? ⟨rb,11,none⟩=some (.slice uo x.aw.length uc):=(dX.kept cM (by have:=X6.1;simp;omega)).cell 11 _ rfl;clear gR cM)
       | (refine xl rfl _ _ rfl uo x.aw.length uc rfl rfl jl.out ?_;intro oL tq rI;have OA:=aa tq;have wD:=aa rI;clear tq rI))
      have Gi:=aa ((vU.kept gI.out pj.2.2.1).kept wD.out pj.2.2.1);have X8:=aa ((HUX.dO qw.ag qw.Qq gI.out).dO jl.ag jl.Qq wD.out);have mF:Hid (Below w.heap.size w oL):=(jB.grown gI.out jB.size (by rintro j hj;cases hj;have:=pj.2.2.2.2;omega)).grown wD.out (Nat.le_trans jB.size gI.size) (by rintro j hj;cases hj;have:=pj.2.2.2.2;omega)
      go_wp2
      go_roundw
      case rel=>exact⟨k+1,(pr,x.index,x.aw),uo,uc,by go_num,by omega,Oz.out,OA.out,X8.out,Gi.out,mF.out⟩
      case measure=>simp[intOf];omega
     ·have Oz:Hid (Hd.fK (l.take (k+1))=(pr,ba,im)):=by show _=_;rw[Mr.out,Pg.out,if_neg (fun h=>wq h.2)]
      have Br:decide (ba<x.index)=false:=decide_eq_false wq;clear hk4;go_wp2
      go_roundw
      case rel=>exact⟨k+1,(pr,ba,im),io,ic,by go_num,by omega,Oz.out,qw.out,tD.out,vU.out,jB.out⟩
      case measure=>simp[intOf];omega
    ·have Oz:Hid (Hd.fK (l.take (k+1))=(pr,ba,im)):=by show _=_;rw[Mr.out,Pg.out,if_neg (fun h=>hk4 h.1)]
     have X7:(x.kind == 4)=false:=by simpa using hk4
     go_wp2
     go_roundw
     case rel=>exact⟨k+1,(pr,ba,im),io,ic,by go_num,by omega,Oz.out,qw.out,tD.out,vU.out,jB.out⟩
     case measure=>simp[intOf];omega
  ·skip
   obtain rfl:n=k:=by omega
   have X9:Hid (Hd.fK l=(pr,ba,im)):=by have h:=HT.out;rw[List.take_of_length_le (by have:=HN.out;omega)]at h;exact h
   go_wp2;obtain⟨wv,iZ⟩ : ∃wv,wv=wr:=⟨_,rfl⟩;rw[<- iZ];have vN:Hid (aB wv gh 33 pr ba (.slice io im.length ic) Nil Nil):=by rw[iZ];exact HX
   have wP:Hid (kA D wv (.slice io im.length ic) im):=by rw[iZ];exact HI
   have pH:Hid (aB wv gz 33 Bl.zero 0 Nil Nil Nil):=by rw[iZ];exact HZ
   have bh:Hid (Below w.heap.size w wv):=by rw[iZ];exact HB
   clear HX HI HZ HB HT iZ rh jE vM
   go_loopw [6] (fun i wr => ∃(k:Nat) (s:List En.bz × List En.bz) (qo:Option Addr) (qc:Nat) (to:Option Addr) (tc:Nat),i = .int .i64 (k:Int)∧k<=n∧Hid (Hd.rows ba (l.take k)=s)∧Hid (aB wr gh 33 pr ba (.slice io im.length ic) (.slice qo s.1.length qc) (.slice to s.2.length tc))∧Hid (bL D wr ⟨pr,ba,im,s.1,s.2⟩ (.slice io im.length ic) (.slice qo s.1.length qc) (.slice to s.2.length tc))∧Hid (aB wr gz 33 Bl.zero 0 Nil Nil Nil)∧Hid (Below w.heap.size w wr)) (fun i _=>n - (intOf i).toNat)
   case atStart=>exact⟨0,([], []),none,0,none,0,rfl,by omega,rfl,vN.out,⟨⟨wP.rd,aQ.empty _ _,aQ.empty _ _⟩,wP.pi,jh.bare _ _ _,jh.bare _ _ _⟩,pH.out,bh.out⟩
   case round =>
    obtain⟨k,⟨sa,sc⟩,qo,qc,to,tc,rfl,hk,HT,HX,HR,HZ,HB⟩:=hrel;dsimp only at HT HX HR
    by_cases hlt:k<n
    ·skip
     obtain⟨x,hxl⟩ : ∃x,l[k]? = some x:=⟨_,List.getElem?_eq_getElem (by have:=HN.out;omega)⟩
     obtain⟨g,off,rfl,_,hc⟩:=HP.out (by have:=HN.out;omega)
     obtain⟨u,hu,hcell⟩:=hc k x hxl;obtain⟨uo,uc,rfl⟩:=hu.1.shape;have X5:=aa (aS.AW hu);have Ni:=aa hxl;have HU:=aa (fun W (h:Below w.heap.size w W)=>hu.1.below h)
     have Aj:=aa (HS.out x (List.mem_of_getElem? hxl));have bj:Hid (∀j v,(Re.cells x (.slice uo x.aw.length uc))[j]? = some v->wr.cell? ⟨g,off+k*12+j,none⟩=some v):=fun j v hj=>by rw[Nat.add_assoc];exact hcell wr HB.out j v hj
     clear hc hu hcell hxl;have G6:Hid (gh<wr.heap.size∧gz<wr.heap.size):=⟨HX.ag.lt,HZ.ag.lt⟩
     go_wp2_with (first
      | (refine iK rfl _ rfl g (off+k*12) x (.slice uo x.aw.length uc) rfl bj.out ?_)
      | (refine aY rfl _ _ rfl wr.heap.size Re.zero Nil x (.slice uo x.aw.length uc) rfl rfl rfl (ae.new _ _ _) ?_;intro w5 eN bU;have gQ:=aa eN;have bK:Hid (Below wr.heap.size wr w5):=aJ bU;clear eN bU)
      | (refine cZ rfl _ rfl wr.heap.size x (.slice uo x.aw.length uc) rfl gQ.out ?_))
     refine(jQ x (.slice uo x.aw.length uc) w5 (HU.out _ (HB.trans (bK.mono HB.size))) Aj.out).mono ?_;rintro e w6 ⟨rfl,fP⟩;have cy:Hid (Below wr.heap.size wr w6):=bK.trans (fP.mono bK.size);have dX:=aa (gQ.below fP gQ.lt);obtain⟨rb,M6⟩ : ∃g,g=wr.heap.size:=⟨_,rfl⟩;have X6:Hid (gh≠rb∧gz≠rb):=⟨by have:=G6.1;omega,by have:=G6.2;omega⟩
     rw[<- M6]at dX ⊢
     clear fP bK gQ bj M6;have jB:Hid (Below w.heap.size w w6):=HB.trans (cy.mono HB.size);have qw:=aa (HX.below cy.out G6.1);have vU:=aa (HZ.below cy.out G6.2);have HUX:Hid (kA D w6 _ _):=⟨HU.out w6 jB.out,X5.out⟩;obtain⟨y,hy⟩ : ∃y,y=Re.check x:=⟨_,rfl⟩;rw[<- hy];have HY:=aa hy;clear hy;have jf:=aa (HR.below cy.out);have OB:Hid (Hd.rows ba (l.take (k+1))=Hd.two ba (sa,sc) x):=by show _=_;rw[Hd.nU Ni.out,Hd.jt,HT.out]
     by_cases hy:y=0
     rotate_left
     ·have Xf:(y != 0)=true:=by simpa using hy
      have FH:Hid (Hd.rows ba (l.take (k+1))=(sa,sc)):=by show _=_;rw[OB.out,Hd.ez _ (.inl (by rw[<- HY.out];exact hy))]
      go_wp2
      go_roundw
      case rel=>exact⟨k+1,(sa,sc),qo,qc,to,tc,by go_num,by omega,FH.out,qw.out,jf.out,vU.out,jB.out⟩
      case measure=>simp[intOf];omega
     subst hy;have HF:=aa (Hd.cU.1 HY.symm);have d3:w6.cell? ⟨rb,3,none⟩=some (.int .i64 x.index):=dX.cell 3 _ rfl;obtain⟨_,_,c2,_,_,_⟩:=qw.all;by_cases wq:x.index<=ba
     ·have Br:decide (x.index<=ba)=true:=decide_eq_true wq
      have FH:Hid (Hd.rows ba (l.take (k+1))=(sa,sc)):=by show _=_;rw[OB.out,Hd.ez _ (.inr (.inl wq))]
      go_wp2
      go_roundw
      case rel=>exact⟨k+1,(sa,sc),qo,qc,to,tc,by go_num,by omega,FH.out,qw.out,jf.out,vU.out,jB.out⟩
      case measure=>simp[intOf];omega
     have Br:decide (x.index<=ba)=false:=decide_eq_false wq;have QE:Hid (ba<x.index):=by show _<_;omega
     have d0:w6.cell? ⟨rb,0,none⟩=some (.int .i64 x.kind):=dX.cell 0 _ rfl
     go_wp2_with fail
     refine(cA x.kind _).mono ?_;rintro e w7 ⟨rfl,rfl⟩;obtain⟨t1,Mu⟩ : ∃t,t=Re.hc x.kind:=⟨_,rfl⟩;rw[<- Mu];have Mv:=aa Mu;clear Mu wq Br;cases t1 with
     | false =>
      have FH:Hid (Hd.rows ba (l.take (k+1))=(sa,sc)):=by show _=_;rw[OB.out,Hd.ez _ (.inr (.inr Mv.symm))]
      go_wp2
      go_roundw
      case rel=>exact⟨k+1,(sa,sc),qo,qc,to,tc,by go_num,by omega,FH.out,qw.out,jf.out,vU.out,jB.out⟩
      case measure=>simp[intOf];omega
     | true =>
      have Rx:Hid (Hd.rows ba (l.take (k+1))=if x.kind=2 then (En.put sa (Hd.jO x),sc)else if En.found sc x.index=true then (sa,sc)else (sa,En.put sc (Hd.jO x))):=by show _=_;rw[OB.out,Hd.mN _ HY.symm QE.out Mv.symm]
      have Mw:Hid (En.eD sa∧En.eD sc):=by have h:=Hd.AZ ba (l.take k);rw[HT.out]at h;exact h
      have Pv:Hid (sa.length<=1000∧sc.length<=1000):=by
       have h:=Hd.Mq ba (l.take k);rw[HT.out,List.length_take]at h
       have:=mR.out;have h1:sa.length<=min k l.length:=h.1;have h2:sc.length<=min k l.length:=h.2;exact⟨by omega,by omega⟩
      obtain⟨_,d1,d2,_,d4,d5,d6,d7,d8,d9,d10,_⟩:=ai.all dX.out;by_cases hk2:x.kind=2
      ·have Ya:(x.kind == 2)=true:=by simpa using hk2
       have UB:Hid (Hd.rows ba (l.take (k+1))=(En.put sa (Hd.jO x),sc)):=by show _=_;rw[Rx.out,if_pos hk2]
       go_wp2_with (first
        | (refine cq rfl _ _ rfl w6.heap.size En.zero (Hd.jO x) rfl rfl (ae.new _ _ _) ?_;intro w7 dH cr;have bw:Hid (Below w6.heap.size w6 w7):=aJ cr;have SD:=aa dH;clear dH cr;have vP:=aa (dX.below bw.out dX.lt);have e0:w7.cell? ⟨rb,0,none⟩=some (.int .i64 x.kind):=vP.cell 0 _ rfl;have rH:=aa (qw.below bw.out qw.ag.lt);have c4:w7.cell? ⟨gh,4,none⟩=some (.slice qo sa.length qc):=rH.all.2.2.2.2.1)
        | (refine cB rfl _ rfl w6.heap.size 0 (Hd.jO x) rfl SD.at ?_))
       refine(sQ _ sa (Hd.jO x) w7 (jf.below bw.out).acc (by have:=Pv.1;omega)).mono ?_
       rintro e w8 ⟨v8,rfl,eU,eX⟩;have IZ:=aa (vU.below bw.out vU.ag.lt);have I3:=aa (jf.below bw.out);have Ir:Hid (Below w.heap.size w w7):=jB.trans (bw.mono jB.size);obtain⟨we,UC⟩ : ∃g,g=w6.heap.size:=⟨_,rfl⟩;rw[<- UC]at SD ⊢
       clear UC d0 d1 d2 d3 d4 d5 d6 d7 d8 d9 d10 c2 bw;clear hk2;obtain⟨V3,V4,Pw⟩:=eU.shape;rw[List.length_map]at Pw
       have fN:Hid (aW w8 v8 (En.put sa (Hd.jO x))):=by have h:=eU.reads (En.sized _);rw[En.nJ _ _ Mw.1]at h;exact h
       rw[En.nJ _ _ Mw.1]at Pw
       have mQ:=aa (rH.below eX rH.ag.lt);have zK:=aa (IZ.below eX IZ.ag.lt);have sF:=aa (I3.below eX);have cN:Hid (Below w.heap.size w w8):=Ir.trans (eX.mono Ir.size);have Yb:=aa ((jh.o7 eU).imp fun b hb=>HQF.out b (Nat.le_trans Ir.size hb))
       clear eU eX c4 e0;subst Pw;obtain⟨m,hm⟩ : ∃m,m=(En.put sa (Hd.jO x)).length:=⟨_,rfl⟩;rw[<- hm]at fN ⊢
       have HM:=aa hm;clear hm
       go_wp2_with (refine nL rfl _ _ rfl V3 m V4 rfl rfl mQ.out ?_;intro w9 gR cM;have jl:=aa gR;have gI:=aa cM;clear gR cM)
       rw[HM.out]at jl fN
       have SE:Hid (bL D w9 ⟨pr,ba,im,En.put sa (Hd.jO x),sc⟩ (.slice io im.length ic) (.slice V3 (En.put sa (Hd.jO x)).length V4) (.slice to sc.length tc)):=(show bL D w8 ⟨pr,ba,im,En.put sa (Hd.jO x),sc⟩ (.slice io im.length ic) (.slice V3 (En.put sa (Hd.jO x)).length V4) (.slice to sc.length tc)from⟨⟨sF.aw,fN.out,sF.bl⟩,sF.pi,Yb.out,sF.pc⟩).over mQ.out gI.out
       have Pe:=aa (zK.kept gI.out pj.2.2.1);have eY:Hid (Below w.heap.size w w9):=cN.grown gI.out cN.size (by rintro j hj;cases hj;have:=pj.2.2.2.2;omega)
       go_wp2
       go_roundw
       case rel=>exact⟨k+1,(En.put sa (Hd.jO x),sc),V3,V4,to,tc,by go_num,by omega,UB.out,jl.out,SE.out,Pe.out,eY.out⟩
       case measure=>simp[intOf];omega
      ·have Ya:(x.kind == 2)=false:=by simpa using hk2
       have sZ:=aa hk2
       go_wp2_with (refine cq rfl _ _ rfl w6.heap.size En.zero (Hd.jO x) rfl rfl (ae.new _ _ _) ?_;intro w7 dH cr;have bw:Hid (Below w6.heap.size w6 w7):=aJ cr;have SD:=aa dH;clear dH cr;have vP:=aa (dX.below bw.out dX.lt);have e0:w7.cell? ⟨rb,0,none⟩=some (.int .i64 x.kind):=vP.cell 0 _ rfl;have rH:=aa (qw.below bw.out qw.ag.lt);have c5:w7.cell? ⟨gh,5,none⟩=some (.slice to sc.length tc):=rH.all.2.2.2.2.2;have e3:w7.cell? ⟨rb,3,none⟩=some (.int .i64 x.index):=vP.cell 3 _ rfl)
       refine(ye _ sc x.index w7 (jf.below bw.out).bl Mw.2).mono ?_;rintro e w8 ⟨rfl,eX⟩;have IZ:=aa (vU.below bw.out vU.ag.lt);have I3:=aa (jf.below bw.out);have Ir:Hid (Below w.heap.size w w7):=jB.trans (bw.mono jB.size);obtain⟨we,UC⟩ : ∃g,g=w6.heap.size:=⟨_,rfl⟩;rw[<- UC]at SD ⊢
       clear UC d0 d1 d2 d3 d4 d5 d6 d7 d8 d9 d10 c2 bw;clear hk2;have mQ:=aa (rH.below eX rH.ag.lt);have zK:=aa (IZ.below eX IZ.ag.lt);have sF:=aa (I3.below eX);have HE8:=aa (SD.below eX SD.lt);have cN:Hid (Below w.heap.size w w8):=Ir.trans (eX.mono Ir.size);clear eX c5 e3 e0;obtain⟨q,hq⟩ : ∃q,q=En.pos sc x.index:=⟨_,rfl⟩;rw[<- hq];have HQ:=aa hq;clear hq;by_cases hf:En.found sc x.index=true
       ·have UD : ¬q<0:=by rw[HQ.out,En.pos,if_pos hf];omega
        have Yc:decide (q<0)=false:=decide_eq_false UD;have UB:Hid (Hd.rows ba (l.take (k+1))=(sa,sc)):=by show _=_;rw[Rx.out,if_neg sZ.out,if_pos hf]
        clear hf;go_wp2
        go_roundw
        case rel=>exact⟨k+1,(sa,sc),qo,qc,to,tc,by go_num,by omega,UB.out,mQ.out,sF.out,zK.out,cN.out⟩
        case measure=>simp[intOf];omega
       ·have UD:q<0:=by rw[HQ.out,En.pos,if_neg hf];omega
        have Yc:decide (q<0)=true:=decide_eq_true UD;have UB:Hid (Hd.rows ba (l.take (k+1))=(sa,En.put sc (Hd.jO x))):=by show _=_;rw[Rx.out,if_neg sZ.out,if_neg hf]
        obtain⟨_,_,_,_,_,c5⟩:=mQ.all;clear hf
        go_wp2_with (refine cB rfl _ rfl we 0 (Hd.jO x) rfl (dL.at HE8.out) ?_)
        refine(sQ _ sc (Hd.jO x) w8 sF.bl (by have:=Pv.2;omega)).mono ?_
        rintro e w9 ⟨v9,rfl,NY,j5⟩;obtain⟨V5,V6,QH⟩:=NY.shape;rw[List.length_map]at QH
        have Ph:Hid (aW w9 v9 (En.put sc (Hd.jO x))):=by have h:=NY.reads (En.sized _);rw[En.nJ _ _ Mw.2]at h;exact h
        rw[En.nJ _ _ Mw.2]at QH
        have jl:=aa (mQ.below j5 mQ.ag.lt);have Pe:=aa (zK.below j5 zK.ag.lt);have SE:=aa (sF.below j5);have eY:Hid (Below w.heap.size w w9):=cN.trans (j5.mono cN.size);have SB:=aa ((jh.o7 NY).imp fun b hb=>HQF.out b (Nat.le_trans cN.size hb))
        clear NY j5 c5;subst QH;obtain⟨m,hm⟩ : ∃m,m=(En.put sc (Hd.jO x)).length:=⟨_,rfl⟩;rw[<- hm]at Ph ⊢
        have HM:=aa hm;clear hm
        go_wp2_with (refine nM rfl _ _ rfl V5 m V6 rfl rfl jl.out ?_;intro oL tq rI;have OA:=aa tq;have wD:=aa rI;clear tq rI)
        rw[HM.out]at OA Ph
        have Yd:Hid (bL D oL ⟨pr,ba,im,sa,En.put sc (Hd.jO x)⟩ (.slice io im.length ic) (.slice qo sa.length qc) (.slice V5 (En.put sc (Hd.jO x)).length V6)):=(show bL D w9 ⟨pr,ba,im,sa,En.put sc (Hd.jO x)⟩ (.slice io im.length ic) (.slice qo sa.length qc) (.slice V5 (En.put sc (Hd.jO x)).length V6)from⟨⟨SE.aw,SE.acc,Ph.out⟩,SE.pi,SE.pa,SB.out⟩).over jl.out wD.out
        have Gi:=aa (Pe.kept wD.out pj.2.2.1);have mF:Hid (Below w.heap.size w oL):=eY.grown wD.out eY.size (by rintro j hj;cases hj;have:=pj.2.2.2.2;omega)
        go_wp2
        go_roundw
        case rel=>exact⟨k+1,(sa,En.put sc (Hd.jO x)),qo,qc,V5,V6,by go_num,by omega,UB.out,OA.out,Yd.out,Gi.out,mF.out⟩
        case measure=>simp[intOf];omega
    ·obtain rfl:n=k:=by omega
     have TG:Hid (Hd.of l=⟨pr,ba,im,sa,sc⟩):=by
      have h:=HT.out;rw[List.take_of_length_le (by have:=HN.out;omega)]at h
      show _=_;rw[Hd.Qw];unfold Hd.AY;rw[X9.out];dsimp only;rw[h]
     obtain⟨sal,acH⟩ : ∃m,m=sa.length:=⟨_,rfl⟩;obtain⟨scl,acI⟩ : ∃m,m=sc.length:=⟨_,rfl⟩
     go_wp2_with (first
      | (refine gw rfl _ rfl rfl HX.out ?_)
      | (refine cT rfl _ _ rfl rfl HZ.out HX.out rfl ?_;intro w8 Fk fh;have mQ:=aa Fk;have G3:=aa fh;clear Fk fh))
     refine gX rfl rfl mQ.out rfl ?_;have sF:=HR.over HZ.out G3.out;have cN:Below w.heap.size w w8:=HB.grown G3.out HB.size (by rintro j hj;cases hj;have:=pj.2.2.2.1;omega)
     show sy D w (Hd.of l) _ _;rw[TG.out];exact⟨_,_,_,rfl,sF,cN⟩
end Go.Proofs.YtdkdjofnnnljjaaGreatDoor

namespace Go.Proofs.YtdkdjofnnnljjaaGreatDoor
open Go.RowKit
set_option maxHeartbeats 1000000
section
open Go.RowKit Go.Maps Go.Shelf
def Mx(v:Value):Option (DataW Value × List MemPlace):=some (.held v, [])
def iN(us:List (Int × Value)):DataW Value := .map (us.map fun u=>(Lit.int .i64 u.1,DataW.held u.2))
structure ct(w:World)(b:Nat)(us:List (Int × Value)):Prop where
 own:w.ownsMap Tryz.prog 3 Mx b us.length (iN us)
 Aa:Dk.eD us
theorem nZ : Keyed Tryz.prog 3:=int_keyed Tryz.underlying3
theorem tJ{n:Int}(h0 : -9223372036854775808<=n)(h1:n<=9223372036854775807):keyOf Tryz.prog 3 (.int .i64 n)=some (.int .i64 n) :=
 keyOf_int_mk Tryz.underlying3 (by simp[Lit.wf,IntKind.min,IntKind.max,IntKind.signed,IntKind.bits];omega)
theorem oB{H:Type}{w:World}{P:Program}{k:TypeId}{R:Value->Option (DataW H × List MemPlace)}{b n:Nat}{D:DataW H}(h:w.ownsMap P k R b n D):w.ownsMap P k R b (Maps.size D) D:=by
 obtain⟨es,clock,hb,F,hs,hD⟩:=h;refine⟨es,clock,hb,F, ?_,hD⟩;rw[hD];show es.size<=((es.toList.map (WideElems.rg P k R)).foldr DataW.insert []).length;rw[length_read];exact Nat.le_refl _
theorem qJ(us:List (Int × Value)):Maps.size (iN us)=us.length:=by
 show(us.map _).length=_;rw[List.length_map]
theorem vw(n:Int)(v:Value) : ∀us:List (Int × Value),DataW.insert (Lit.int .i64 n,DataW.held v) (us.map fun u=>(Lit.int .i64 u.1,DataW.held u.2))=(Dk.ins n v us).map fun u=>(Lit.int .i64 u.1,DataW.held u.2)
 | []=>rfl
 | u :: r=>by
  unfold Dk.ins;rw[List.map_cons];unfold DataW.insert;by_cases h:n<u.1
  ·rw[if_pos h,if_pos (by simpa[Lit.before] using h)]
   rfl
  ·rw[if_neg h,if_neg (by simpa[Lit.before] using h),vw n v r]
   rfl
theorem vy(n:Int)(us:List (Int × Value)):(us.map fun u=>(Lit.int .i64 u.1,DataW.held u.2)).filter (ChangeMaps.notKey (.int .i64 n))=(Dk.del us n).map fun u=>(Lit.int .i64 u.1,DataW.held u.2):=by
 unfold Dk.del;rw[List.filter_map]
 congr 1
 refine List.filter_congr fun u _ => ?_
 show(!(Lit.int .i64 u.1).sameKey (.int .i64 n))=(u.1 != n);by_cases h:u.1=n<;>simp[Lit.sameKey,h]
theorem OC(us:List (Int × Value))(n:Int)(v:Value):(iN us).put (.int .i64 n) (.held v)=iN (Dk.put us n v):=by
 unfold iN Dk.put;rw[DataW.put_eq];unfold ChangeMaps.putKey;rw[vy,vw]
theorem OD(us:List (Int × Value))(n:Int):(iN us).del (.int .i64 n)=iN (Dk.del us n):=by
 unfold iN;rw[DataW.del_eq];unfold ChangeMaps.delKey;rw[vy]
theorem FI(n:Int) : ∀us:List (Int × Value),Maps.has (iN us) (.int .i64 n)=(Dk.get us n).isSome
 | []=>rfl
 | u :: r=>by
  have ih:=FI n r;unfold iN at ih ⊢
  rw[Maps.has_eq]at ih ⊢
  rw[List.map_cons,List.any_cons,ih];show _=(if u.1=n then some u.2 else Dk.get r n).isSome
  by_cases h:u.1=n
  ·rw[if_pos h];simp[Lit.sameKey,h]
  ·rw[if_neg h];simp[Lit.sameKey,h]
theorem Ew(n:Int)(z:Value) : ∀us:List (Int × Value),(iN us).atKey (.int .i64 n) (.held z) = .held ((Dk.get us n).getD z)
 | []=>rfl
 | u :: r=>by
  have ih:=Ew n z r;unfold iN DataW.atKey at ih ⊢
  show _=DataW.held ((if u.1=n then some u.2 else Dk.get r n).getD z)
  simp only[List.map_cons,List.find?_cons]at ih ⊢
  by_cases h:u.1=n
  ·rw[if_pos h];simp[Lit.sameKey,h]
  ·rw[if_neg h]
   have e:(Lit.int .i64 u.1).sameKey (.int .i64 n)=false:=by simp[Lit.sameKey,h]
   rw[e];exact ih
theorem ct.of_block{w w' : World}{b:Nat}{us:List (Int × Value)}(h:ct w b us)(hb:w'.heap[b]? = w.heap[b]?):ct w' b us:=by
 obtain⟨⟨es,clock,h1,rest⟩,ha⟩:=h;exact⟨⟨es,clock,hb.trans h1,rest⟩,ha⟩
theorem ct.lt{w:World}{b:Nat}{us:List (Int × Value)}(h:ct w b us):b<w.heap.size:=h.own.lt
theorem ct.kept{w w' : World}{row:Option Nat}{b:Nat}{us:List (Int × Value)}(h:ct w b us)(hg:w.grownBy w' row)(hne:some b≠row):ct w' b us:=h.of_block (hg.block b h.lt hne)
theorem ct.below{w w' : World}{b B:Nat}{us:List (Int × Value)}(h:ct w b us)(hb:Below B w w')(hlt:b<B):ct w' b us:=h.of_block (hb.block b hlt)
theorem ct.alloc{w:World}{b:Nat}{us:List (Int × Value)}(h:ct w b us)(o:Obj):ct (w.alloc o) b us:=h.kept (World.grownBy_alloc w o none) (by simp)
theorem ct.drew{w:World}{b:Nat}{us:List (Int × Value)}(h:ct w b us):ct w.drew b us:=⟨h.own.drew,h.Aa⟩
theorem ct.fp{w:World}{b:Nat}{us:List (Int × Value)}(h:ct w b us){cs:Array Value}{t:TypeId}{fr:Nat × Nat}(hc:w.heap[b]? = some (.cells cs t fr)):False:=by
 obtain⟨⟨es,clock,h1,_⟩,_⟩:=h;rw[h1]at hc
 cases hc
theorem ct.new(w:World):ct (w.alloc (.map #[] 0)) w.heap.size []:=⟨World.ownsMap_made w _ _ _,Dk.eD.nil⟩
theorem vA(w:World):(zeroValue 30).run Tryz.prog w = .ok (.slice none 0 0) w:=Tryz.zeroValue30 w
theorem ct.look{w:World}{b:Nat}{us:List (Int × Value)}(h:ct w b us){n:Int}(h0 : -9223372036854775808<=n)(h1:n<=9223372036854775807) :
 (Instr.lookup 74 (.map (some b)) (.int .i64 n) true).run Tryz.prog w = .ok (.tuple #[(Dk.get us n).getD (.slice none 0 0), .bool (Dk.get us n).isSome]) w:=by
 obtain⟨v,ps,hrun,hv⟩:=h.own.look_ok nZ Tryz.underlying74 (vA w) (zd := .held (.slice none 0 0)) (zp := []) rfl (tJ h0 h1);rw[Ew]at hv
 rw[FI]at hrun
 simp only[Mx,Option.some.injEq,Prod.mk.injEq,DataW.held.injEq]at hv
 rw[hrun,hv.1]
theorem ct.see{w:World}{b:Nat}{us:List (Int × Value)}(h:ct w b us){n:Int}(h0 : -9223372036854775808<=n)(h1:n<=9223372036854775807) :
 (Instr.lookup 74 (.map (some b)) (.int .i64 n) false).run Tryz.prog w = .ok ((Dk.get us n).getD (.slice none 0 0)) w:=by
 obtain⟨v,ps,hrun,hv⟩:=h.own.lookup nZ Tryz.underlying74 (vA w) (zd := .held (.slice none 0 0)) (zp := []) rfl (tJ h0 h1);rw[Ew]at hv
 simp only[Mx,Option.some.injEq,Prod.mk.injEq,DataW.held.injEq]at hv
 rw[hrun,hv.1]
theorem ct.store{w:World}{b:Nat}{us:List (Int × Value)}(h:ct w b us){n:Int}(h0 : -9223372036854775808<=n)(h1:n<=9223372036854775807)(hl:us.length<4611686018427387904)(v:Value) :
 ∃w', (Instr.mapUpdate 74 (.map (some b)) (.int .i64 n) v).run Tryz.prog w = .ok () w' ∧ ct w' b (Dk.put us n v)∧w.grownBy w' (some b):=by
 obtain⟨w', hrun,hown,hg⟩:=h.own.update nZ Tryz.underlying74 (by unfold maxLen;omega) (tJ h0 h1) (val:=v) (d := .held v) (ps := []) rfl
 rw[OC]at hown
 have:=oB hown;rw[qJ]at this
 exact⟨w', hrun,⟨this,Dk.yR h.Aa⟩,hg⟩
theorem ct.Ry{w:World}{b:Nat}{us:List (Int × Value)}(h:ct w b us){n:Int}(h0 : -9223372036854775808<=n)(h1:n<=9223372036854775807)(ty:TypeId) :
 ∃w', (Builtin.delete_ #[74,3] ty #[.map (some b), .int .i64 n]).run Tryz.prog w = .ok (.tuple #[]) w' ∧ ct w' b (Dk.del us n)∧w.grownBy w' (some b):=by
 obtain⟨w', hrun,hown,hg⟩:=h.own.drop nZ Tryz.underlying74 (tJ h0 h1) ty;rw[OD]at hown
 have:=oB hown;rw[qJ]at this
 exact⟨w', hrun,⟨this,Dk.yQ h.Aa⟩,hg.grown⟩
theorem zy{w:World}{o:Oper}{a:Act}{K:Act->World->Prop}{Q:Exit->Act->World->Prop}(m x v:Operand)(ho:o.op=Op.mapUpdate 74 m x v)(b:Nat)(us:List (Int × Value))(n:Int)(u:Value)
 (hm:a.eval m = .map (some b)) (hx:a.eval x = .int .i64 n) (hu:a.eval v=u) (h:ct w b us) (h0 : -9223372036854775808<=n) (h1:n<=9223372036854775807) (hl:us.length<4611686018427387904)
 (hK : ∀w', ct w' b (Dk.put us n u)->w.grownBy w' (some b)->K (a.put o.dst undef) w'):Oper.wp Tryz.prog o a w K Q:=by
 obtain⟨w', hrun,SF, hg⟩:=h.store h0 h1 hl u;unfold Oper.wp;simp[execOp,ho,hm,hx,hu,hrun,Result.andThen];exact hK _ SF hg
theorem lS{md:Region.Mode}{ops:Array Oper}{Q:Exit->Act->World->Prop}{S:World->Prop}{fuel:Nat}{listed:Array Bool}{a:Act}{w:World}(i:Nat)(m x v:Operand){o:Oper}(ho:ops[i]? = some o)(hgd:o.guard=none)(hop:o.op=Op.mapUpdate 74 m x v)
 (b:Nat) (us:List (Int × Value)) (n:Int) (u:Value) (hm:a.eval m = .map (some b)) (hx:a.eval x = .int .i64 n) (hu:a.eval v=u) (h:ct w b us) (h0 : -9223372036854775808<=n) (h1:n<=9223372036854775807) (hl:us.length<4611686018427387904)
 (hK : ∀w', ct w' b (Dk.put us n u)->w.grownBy w' (some b)->S w' ∧ (S w' -> wpAnyH Tryz.prog md ops Q S fuel (listed.setIfInBounds i true) (a.put o.dst undef) w')):AllReadyH Tryz.prog md ops Q S fuel listed a w [i]:=by
 obtain⟨w', hrun,SF, hg⟩:=h.store h0 h1 hl u;refine AllReadyH.cons ho (fun K hS => ?_) AllReadyH.nil
 rw[if_pos (by simp[Region.wanted,hgd])]
 unfold Oper.wp;simp[execOp,hop,hm,hx,hu,hrun,Result.andThen];exact hS.out _ _ (hK w' SF hg).1 (hK w' SF hg).2
theorem tQ{w:World}{ops:Array Oper}{rest:List Oper}{o:Oper}{a:Act}{Q:Exit->Act->World->Prop}(hg:o.guard=none)(m x v:Operand)(ho:o.op=Op.mapUpdate 74 m x v)(b:Nat)(us:List (Int × Value))(n:Int)(u:Value)
 (hm:a.eval m = .map (some b)) (hx:a.eval x = .int .i64 n) (hu:a.eval v=u) (h:ct w b us) (h0 : -9223372036854775808<=n) (h1:n<=9223372036854775807) (hl:us.length<4611686018427387904)
 (hK : ∀w', ct w' b (Dk.put us n u)->w.grownBy w' (some b)->wpList Tryz.prog ops Q rest (a.put o.dst undef) w'):wpList Tryz.prog ops Q (o :: rest) a w :=
 wpList_plain hg fun _ hK' => zy m x v ho b us n u hm hx hu h h0 h1 hl fun w' h2 h3=>hK' _ _ (hK w' h2 h3)
theorem su{w:World}{ops:Array Oper}{rest:List Oper}{o:Oper}{a:Act}{Q:Exit->Act->World->Prop}(hg:o.guard=none)(m x:Operand)(ho:o.op=Op.call { callee:=Callee.builtin Builtin.delete,args := #[m,x],argTypes := #[74,3] })(b:Nat)(us:List (Int × Value))(n:Int)
 (hm:a.eval m = .map (some b)) (hx:a.eval x = .int .i64 n) (h:ct w b us) (h0 : -9223372036854775808<=n) (h1:n<=9223372036854775807)
 (hK : ∀w', ct w' b (Dk.del us n)->w.grownBy w' (some b)->wpList Tryz.prog ops Q rest (a.put o.dst (.tuple #[])) w'):wpList Tryz.prog ops Q (o :: rest) a w:=by
 refine wpList_plain hg fun K hK' => ?_
 obtain⟨w', hrun,SF, hgr⟩:=h.Ry h0 h1 o.type;unfold Oper.wp;simp[execOp,ho,resolve,invoke,builtin,hm,hx,hrun,Result.andThen];exact hK' _ _ (hK w' SF hgr)
def mq(w:World)(mv:Value)(us:List (Int × Value)):Prop:=(mv = .map none∧us = []) ∨ ∃b,mv = .map (some b)∧ct w b us
theorem Cl(m:Nat):AnyZI.SortsIn Tryz.prog Tryz.sortedI_ren Fence.wide m :=
 ⟨fun blk off cap ss W hH hblk hsz=>callsIn_wide.2 (AnyM.slices_Sort_int Tryz.sortI blk off cap ss W hH hblk hsz),fun p cap W=>callsIn_wide.2 (AnyM.slices_Sort_int_none Tryz.sortI p cap W)⟩
theorem Jm(mv:Option Nat)(W:World):CallsIn Fence.wide 5 Tryz.prog 119 #[.map mv] W fun e w' => e = .returned (.func (.func 157) #[] #[.pointer (some ⟨W.heap.size,0,none⟩)])∧w' = W.alloc (.cells #[.map mv] 74) :=
 AnyZI.keys_in Tryz.keysI Fence.wide 5 trivial rfl mv W
theorem My{us:List (Int × Value)}(h:Dk.eD us){ss:List Int}(hp:ss.Perm (intKeys (iN us))):ss.mergeSort (fun x y=>decide (x<=y))=us.map (·.1):=by
 have e:intKeys (iN us)=us.map (·.1):=by
  show((us.map _).map _:List Int)=_;rw[List.map_map]
  rfl
 rw[e]at hp
 rw[show(ss.mergeSort fun x y=>decide (x<=y))=ss.mergeSort leI from rfl,mergeSort_of_perm_i hp]
 refine List.mergeSort_of_pairwise (List.pairwise_map.2 (h.imp ?_));intro a b hab
 simp only[leI,decide_eq_true_eq];omega
theorem CO(mv:Option Nat)(us:List (Int × Value))(w:World)(h:mq w (.map mv) us)(hl:us.length<=17592186044416) :
 CallsIn Fence.wide 5 Tryz.prog 118 #[.func (.func 157) #[] #[.pointer (some ⟨w.heap.size,0,none⟩)]] (w.alloc (.cells #[.map mv] 74)) fun e w' =>
  ∃v,e = .returned v∧w'.ownsRow (w.alloc (.cells #[.map mv] 74)).heap.size 3 1 v us.length ((us.map (·.1)).map encZ)∧Below (w.alloc (.cells #[.map mv] 74)).heap.size (w.alloc (.cells #[.map mv] 74)) w' := by
 rcases h with ⟨e,rfl⟩ | ⟨b,e,hm⟩
 ·simp only[Value.map.injEq]at e
  subst e;have hseq:SeqGives Fence.wide 2 Tryz.prog 157 #[.pointer (some ⟨w.heap.size,0,none⟩)] encZ (fun ss:List Int=>ss = []) 0 (w.alloc (.cells #[.map none] 74)) :=
   AnyZI.keys_gives_nil (ρ:=Tryz.keysI_ren) { Tryz.keysI with } Fence.wide _ trivial rfl w.heap.size _ (by simp) (by simp)
  have cS:=AnyZI.sorted_in Tryz.sortedI Fence.wide 5 trivial trivial trivial trivial rfl (by omega) (Cl _) (enters_of Tryz.func156 (by kernel_rfl) rfl) 157 #[.pointer (some ⟨w.heap.size,0,none⟩)] trivial (enters_of Tryz.func157 (by kernel_rfl) rfl) _ 0 (Nat.zero_le _) (by omega) _ hseq
  change CallsIn _ _ Tryz.prog 118 _ _ _ at cS
  refine cS.mono ?_;rintro e w' ⟨v,ss,rfl,rfl,hrow,_,hb⟩;rw[List.mergeSort_nil]at hrow
  exact⟨v,rfl,hrow,hb⟩
 ·simp only[Value.map.injEq]at e
  subst e;have hbl:=hm.lt;have hseq:SeqGives Fence.wide 2 Tryz.prog 157 #[.pointer (some ⟨w.heap.size,0,none⟩)] encZ (fun ss=>ss.Perm (intKeys (iN us))) (Maps.size (iN us)) (w.alloc (.cells #[.map (some b)] 74)) :=
   AnyZI.keys_gives (ρ:=Tryz.keysI_ren) { Tryz.keysI with } Fence.wide _ trivial rfl (by omega) w.heap.size b us.length (iN us) _ (by simp) (by simp) (hm.alloc _).own
  have cS:=AnyZI.sorted_in Tryz.sortedI Fence.wide 5 trivial trivial trivial trivial rfl (by omega) (Cl _) (enters_of Tryz.func156 (by kernel_rfl) rfl) 157 #[.pointer (some ⟨w.heap.size,0,none⟩)] trivial (enters_of Tryz.func157 (by kernel_rfl) rfl) _ _ (by rw[qJ];unfold maxLen;omega) (by rw[qJ];omega) _ hseq
  change CallsIn _ _ Tryz.prog 118 _ _ _ at cS
  refine cS.mono ?_;rintro e w' ⟨v,ss,rfl,hp,hrow,_,hb⟩;rw[My hm.Aa hp]at hrow
  have hlen:ss.length=us.length:=by
   rw[hp.length_eq];show((us.map _).map _:List Int).length=_;simp
  rw[hlen]at hrow
  exact⟨v,rfl,hrow,hb⟩
end
end Go.Proofs.YtdkdjofnnnljjaaGreatDoor

namespace Go.Proofs.YtdkdjofnnnljjaaGreatDoor
open Go.RowKit
def Dk.iY(f:Int × List UInt8)(u:Value):Array Value := #[.int .i64 f.1,u]
def Dk.ay(x:Dk.Op)(u:Value):Array Value := #[.int .i64 x.kind, .int .i64 x.no,u]
theorem Dk.Cn(a:Int × List UInt8)(u:Value):(Dk.iY a u).size=2∧(u.oneCell' = true->(Dk.iY a u).all (·.oneCell')=true):=⟨rfl,fun h=>by simp[Dk.iY,h];rfl⟩
theorem Dk.gG(a:Dk.Op)(u:Value):(Dk.ay a u).size=3∧(u.oneCell' = true->(Dk.ay a u).all (·.oneCell')=true):=⟨rfl,fun h=>by simp[Dk.ay,h];exact⟨rfl,rfl⟩⟩
abbrev pn(p:Nat->TypeId->Prop)(w:World)(v:Value)(F:Dk.av):Prop:=cJ 2 Dk.iY (·.2) p w v F
abbrev lO(p:Nat->TypeId->Prop)(w:World)(base:Nat)(v:Value)(F:Dk.av):Prop:=bb 2 Dk.iY (·.2) p w base 72 v F
abbrev Ye(p:Nat->TypeId->Prop)(w:World)(v:Value)(B:List Dk.Op):Prop:=cJ 3 Dk.ay Dk.Op.data p w v B
theorem Iu : (Tryz.prog.info? 72).map (fun i=>(i.zero,i.size,i.bytes))=some (some (.agg #[.int .i64 0, .slice none 0 0]),2,32):=by kernel_rfl
theorem lu : (Tryz.prog.info? 91).map (fun i=>(i.zero,i.size,i.bytes))=some (some (.agg #[.int .i64 0, .int .i64 0, .slice none 0 0]),3,40):=by kernel_rfl
abbrev Row := Int × (Value × List UInt8)
def Bl(zs:List Row)(k:Nat):Prop := ∃z∈zs,z.2.1.ownBlock=some k
structure aT(w:World)(b:Nat)(zs:List Row):Prop where
 map:ct w b (Dk.aZ (·.1) zs)
 own : ∀z∈zs,bF w 0 5 z.2.1 z.2.2
 apart : ∀x∈zs,∀y∈zs,x.1≠y.1 -> ∀g,x.2.1.ownBlock=some g->y.2.1.ownBlock≠some g
 range : ∀z∈zs,1<=z.1∧z.1<=4294967296
theorem aT.Aa{w:World}{b:Nat}{zs:List Row}(h:aT w b zs):Dk.eD zs:=(Dk.Bo _).1 h.map.Aa
theorem aT.cells{w:World}{b:Nat}{zs:List Row}(h:aT w b zs){k:Nat}(hk:Bl zs k) : ∃cs,w.heap[k]? = some (.cells cs 5 (0,0)):=by
 obtain⟨z,hz,e⟩:=hk;obtain⟨cs,hc,_⟩:=(h.own z hz).cells e;exact⟨cs,hc⟩
theorem aT.lt{w:World}{b:Nat}{zs:List Row}(h:aT w b zs){k:Nat}(hk:Bl zs k):k<w.heap.size:=by
 obtain⟨cs,hc⟩:=h.cells hk;exact aK hc
theorem aT.yh{w:World}{b:Nat}{zs:List Row}(h:aT w b zs) : ¬Bl zs b:=fun hk=>by
 obtain⟨cs,hc⟩:=h.cells hk;exact h.map.fp hc
theorem aT.stays{w w' : World}{b:Nat}{zs:List Row}(h:aT w b zs)(hb:w'.heap[b]? = w.heap[b]?)(hz : ∀k,Bl zs k->w'.heap[k]? = w.heap[k]?):aT w' b zs :=
 ⟨h.map.of_block hb,fun z CJ => (h.own z CJ).stays fun g e=>hz g ⟨z,CJ, e⟩,h.apart,h.range⟩
theorem aT.below{w w' : World}{b B:Nat}{zs:List Row}(h:aT w b zs)(hb:Below B w w')(hB:w.heap.size<=B):aT w' b zs :=
 h.stays (hb.block b (Nat.lt_of_lt_of_le h.map.lt hB)) fun k hk=>hb.block k (Nat.lt_of_lt_of_le (h.lt hk) hB)
theorem aT.new(w:World):aT (w.alloc (.map #[] 0)) w.heap.size []:=⟨ct.new w,fun z hz=>by simp at hz,fun x hx=>by simp at hx,fun z hz=>by simp at hz⟩
theorem aT.len{w:World}{b:Nat}{zs:List Row}(_:aT w b zs):(Dk.aZ (·.1) zs).length=zs.length:=by simp[Dk.aZ]
theorem aT.put{w w1 w2:World}{b:Nat}{zs:List Row}(h:aT w b zs)(n:Int)(hn:1<=n∧n<=4294967296)(v:Value)(d:List UInt8)(row:Option Nat)(fL:w.grownBy w1 row)
 (hrow : ∀g,row=some g -> ∃old,Dk.get zs n=some old∧old.1.ownBlock=some g) (hown:bF w1 0 5 v d) (hv : ∀g,v.ownBlock=some g->row=some g∨w.heap.size<=g)
 (hm:ct w2 b (Dk.put (Dk.aZ (·.1) zs) n v)) (hg2:w1.grownBy w2 (some b)) :
 aT w2 b (Dk.put zs n (v,d))∧Kp (fun k _=>k≠b ∧ ¬Bl zs k) w w2 ∧ ∀k,Bl (Dk.put zs n (v,d)) k->Bl zs k∨w.heap.size<=k:=by
 have Mz : ∀g,row=some g->Bl zs g:=fun g e=>by
  obtain⟨old,ho,eo⟩:=hrow g e;exact⟨_,Dk.get_mem ho,eo⟩
 have M6:some b≠row:=fun e=>h.yh (Mz b e.symm)
 have CD:=h.map.kept fL M6;have hz : ∀z∈zs,z.1≠n->bF w2 0 5 z.2.1 z.2.2:=fun z hz hne=>(h.own z hz).stays fun g e=>by
  obtain⟨cs,hc,_⟩:=(h.own z hz).cells e;have hgb:g≠b:=fun e' => h.map.fp (e' ▸ hc)
  have hgr:some g≠row:=fun e' => by
   obtain⟨old,ho,eo⟩:=hrow g e'.symm;exact h.apart (n,old) (Dk.get_mem ho) z hz (Ne.symm hne) g eo e
  rw[hg2.block g (Nat.lt_of_lt_of_le (aK hc) fL.size) (by simpa using hgb),fL.block g (aK hc) hgr]
 have hvy : ∀y∈zs,y.1≠n -> ∀g,v.ownBlock=some g->y.2.1.ownBlock≠some g:=fun y hy hne g e e' => by
  rcases hv g e with hr | hr
  ·obtain⟨old,ho,eo⟩:=hrow g hr
   exact h.apart (n,old) (Dk.get_mem ho) y hy (Ne.symm hne) g eo e'
  ·have:=h.lt ⟨y,hy,e'⟩
   omega
 refine⟨⟨?_,fun z CJ => ?_,fun x hx y hy hne g e e' => ?_,fun z CJ => ?_⟩, ?_,fun k hk => ?_⟩
 ·rw[Dk.pU];exact hm
 ·rcases Dk.eI.1 CJ with rfl | ⟨CJ, hne⟩
  ·refine hown.stays fun g e=>hg2.block g ?_ ?_
   ·obtain⟨cs,hc,_⟩:=hown.cells e;exact aK hc
   ·intro e'
    obtain⟨cs,hc,_⟩:=hown.cells e;simp only[Option.some.injEq]at e'
    subst e';exact CD.fp hc
  ·exact hz z CJ hne
 ·rcases Dk.eI.1 hx with rfl | ⟨hx,sY⟩<;>rcases Dk.eI.1 hy with rfl | ⟨hy,qR⟩
  ·exact hne rfl
  ·exact hvy y hy qR g e e'
  ·exact hvy x hx sY g e' e
  ·exact h.apart x hx y hy hne g e e'
 ·rcases Dk.eI.1 CJ with rfl | ⟨CJ, _⟩
  ·exact hn
  ·exact h.range z CJ
 ·exact(Kp.aI fL fun g o e _ hq=>hq.2 (Mz g e)).trans (Kp.aI hg2 fun g o e _ hq=>hq.1 (by simpa using e.symm))
 ·obtain⟨z,CJ, e⟩:=hk
  rcases Dk.eI.1 CJ with rfl | ⟨CJ, _⟩
  ·rcases hv k e with hr | hr
   ·exact .inl (Mz k hr)
   ·exact .inr hr
  ·exact .inl ⟨z,CJ, e⟩
theorem aT.del{w w2:World}{b:Nat}{zs:List Row}(h:aT w b zs)(n:Int)(hm:ct w2 b (Dk.del (Dk.aZ (·.1) zs) n))(hg2:w.grownBy w2 (some b)) :
 aT w2 b (Dk.del zs n)∧Kp (fun k _=>k≠b ∧ ¬Bl zs k) w w2 ∧ ∀k,Bl (Dk.del zs n) k->Bl zs k∨w.heap.size<=k:=by
 refine⟨⟨by rw[Dk.pV];exact hm,fun z hz=>(h.own z (Dk.gJ.1 hz).1).stays fun g e=>hg2.block g (h.lt ⟨z,(Dk.gJ.1 hz).1,e⟩) (fun e' => h.yh (by simp only[Option.some.injEq]at e'; subst e'; exact⟨z,(Dk.gJ.1 hz).1,e⟩)),fun x hx y hy=>h.apart x (Dk.gJ.1 hx).1 y (Dk.gJ.1 hy).1,fun z hz=>h.range z (Dk.gJ.1 hz).1⟩,Kp.aI hg2 fun g o e _ hq=>hq.1 (by simpa using e.symm),fun k hk => ?_⟩
 obtain⟨z,hz,e⟩:=hk;exact .inl ⟨z,(Dk.gJ.1 hz).1,e⟩
theorem aT.keep{w w' : World}{b:Nat}{zs:List Row}(h:aT w b zs)(hk:Kp (fun k _=>k≠b ∧ ¬Bl zs k) w w'):dS (fun k _ => ¬Bl zs k) w w' :=
 hk.keep fun k cs t fr e hp=>⟨fun e' => by subst e'; exact h.map.fp e,hp⟩
def dP(w:World)(mv:Option Nat)(zs:List Row):Prop:=(mv=none∧zs = []) ∨ ∃b,mv=some b∧aT w b zs
theorem dP.map{w:World}{mv:Option Nat}{zs:List Row}(h:dP w mv zs):mq w (.map mv) (Dk.aZ (·.1) zs):=by
 rcases h with ⟨rfl,rfl⟩ | ⟨b,rfl,h⟩
 ·exact .inl ⟨rfl,rfl⟩
 ·exact .inr ⟨b,rfl,h.map⟩
theorem dP.below{w w' : World}{mv:Option Nat}{zs:List Row}(h:dP w mv zs)(hb:Below w.heap.size w w'):dP w' mv zs:=by
 rcases h with ⟨rfl,rfl⟩ | ⟨b,rfl,h⟩
 ·exact .inl ⟨rfl,rfl⟩
 ·exact .inr ⟨b,rfl,h.below hb (Nat.le_refl _)⟩
theorem dP.own{w:World}{mv:Option Nat}{zs:List Row}(h:dP w mv zs) : ∀z∈zs,bF w 0 5 z.2.1 z.2.2:=by
 rcases h with ⟨rfl,rfl⟩ | ⟨b,rfl,h⟩
 ·intro z hz;simp at hz
 ·exact h.own
theorem dP.Aa{w:World}{mv:Option Nat}{zs:List Row}(h:dP w mv zs):Dk.eD zs:=by
 rcases h with ⟨rfl,rfl⟩ | ⟨b,rfl,h⟩
 ·exact Dk.eD.nil
 ·exact h.Aa
theorem dP.range{w:World}{mv:Option Nat}{zs:List Row}(h:dP w mv zs) : ∀z∈zs,1<=z.1∧z.1<=4294967296:=by
 rcases h with ⟨rfl,rfl⟩ | ⟨b,rfl,h⟩
 ·intro z hz;simp at hz
 ·exact h.range
structure ep(S:Nat->Prop)(w:World)(d:Nat)(mv:Option Nat)(bv:Value)(zs:List Row)(qs:List (Dk.Op × Value)):Prop where
 ag:ae w d 76 #[.map mv,bv]
 here:S d
 map:(mv=none∧zs = []∧qs = []) ∨ ∃b,mv=some b∧S b∧aT w b zs
 blk : ∀k,Bl zs k->S k
 row:aU w 0 91 3 bv (rowsOf Dk.ay qs)
 FU : ∀g,bv.ownBlock=some g->S g
 data : ∀q∈qs,aS (fun k t=>t=5∧S k ∧ ¬Bl zs k) w q.2 q.1.data
def cu(S:Nat->Prop)(w:World)(d:Nat)(F:Dk.av)(B:List Dk.Op):Prop :=
 ∃mv bv zs qs,ep S w d mv bv zs qs∧F=Dk.aZ (·.2) zs∧B=qs.map (·.1)
theorem ep.files{S:Nat->Prop}{w:World}{d:Nat}{mv:Option Nat}{bv:Value}{zs:List Row}{qs:List (Dk.Op × Value)}(h:ep S w d mv bv zs qs):dP w mv zs:=by
 rcases h.map with ⟨rfl,rfl,_⟩ | ⟨b,rfl,_,h⟩
 ·exact .inl ⟨rfl,rfl⟩
 ·exact .inr ⟨b,rfl,h⟩
theorem ep.sized{S:Nat->Prop}{w:World}{d:Nat}{mv:Option Nat}{bv:Value}{zs:List Row}{qs:List (Dk.Op × Value)}(h:ep S w d mv bv zs qs):dC 3 (rowsOf Dk.ay qs):=eM Dk.gG fun q hq=>(h.data q hq).one
theorem ep.keep{S:Nat->Prop}{w w' : World}{d:Nat}{mv:Option Nat}{bv:Value}{zs:List Row}{qs:List (Dk.Op × Value)}(h:ep S w d mv bv zs qs)(hk:Kp (fun k _=>S k) w w'):ep S w' d mv bv zs qs:=by
 have hb : ∀k,S k->k<w.heap.size->w'.heap[k]? = w.heap[k]? := fun k hs hlt=>hk.block hlt fun _=>hs
 refine⟨hk.ag h.ag fun _=>h.here,h.here, ?_,h.blk,h.row.stays fun g e => ?_,h.FU,fun q hq=>(h.data q hq).keep (hk.keep fun k cs t fr e hp=>hp.2.1)⟩
 ·rcases h.map with h' | ⟨b,e,hs,h'⟩
  ·exact .inl h'
  ·exact .inr ⟨b,e,hs,h'.stays (hb b hs h'.map.lt) fun k zI => hb k (h.blk k zI) (h'.lt zI)⟩
 ·obtain⟨cs,hc,_⟩:=h.row.cells e
  exact hb g (h.FU g e) (aK hc)
theorem ep.imp{S S' : Nat->Prop}{w:World}{d:Nat}{mv:Option Nat}{bv:Value}{zs:List Row}{qs:List (Dk.Op × Value)}(h:ep S w d mv bv zs qs)(hs : ∀k,k<w.heap.size->S k->S' k):ep S' w d mv bv zs qs:=by
 refine⟨h.ag,hs _ h.ag.lt h.here, ?_,fun k hk => ?_,h.row,fun g e => ?_,fun q hq=>(h.data q hq).imp fun k cs t fr e hp=>⟨hp.1,hs k (aK e) hp.2.1,hp.2.2⟩⟩
 ·rcases h.map with h' | ⟨b,e,hb,h'⟩
  ·exact .inl h'
  ·exact .inr ⟨b,e,hs b h'.map.lt hb,h'⟩
 ·refine hs k ?_ (h.blk k hk)
  rcases h.map with ⟨_,rfl,_⟩ | ⟨b,e,_,h'⟩
  ·obtain⟨z,hz,_⟩:=hk;simp at hz
  ·exact h'.lt hk
 ·obtain⟨cs,hc,_⟩:=h.row.cells e
  exact hs g (aK hc) (h.FU g e)
theorem cu.keep{S:Nat->Prop}{w w' : World}{d:Nat}{F:Dk.av}{B:List Dk.Op}(h:cu S w d F B)(hk:Kp (fun k _=>S k) w w'):cu S w' d F B:=by
 obtain⟨mv,bv,zs,qs,h1,h2⟩:=h;exact⟨mv,bv,zs,qs,h1.keep hk,h2⟩
theorem cu.imp{S S' : Nat->Prop}{w:World}{d:Nat}{F:Dk.av}{B:List Dk.Op}(h:cu S w d F B)(hs : ∀k,k<w.heap.size->S k->S' k):cu S' w d F B:=by
 obtain⟨mv,bv,zs,qs,h1,h2⟩:=h;exact⟨mv,bv,zs,qs,h1.imp hs,h2⟩
theorem cu.below{S:Nat->Prop}{w w' : World}{d:Nat}{F:Dk.av}{B:List Dk.Op}(h:cu S w d F B)(hb:Below w.heap.size w w'):cu S w' d F B:=h.keep (Kp.all hb)
end Go.Proofs.YtdkdjofnnnljjaaGreatDoor

namespace Go.Proofs.YtdkdjofnnnljjaaGreatDoor
open Go.RowKit
theorem aQ.AW{q:Nat->Prop}{w:World}{v:Value}{k:Nat}{rs:List (Array Value)}(h:aQ w v k rs)(hk:0<k)(hs:dC k rs)(hq:jh q v):gH (fun b _=>q b) w v k rs:=by
 have h1:=gH.iL (p:=fun _ _=>True) h hk hs (fun _ _ _=>trivial)
 refine⟨h,fun h0 => ?_⟩
 obtain⟨x,n,c,cs,t,fr,e,hb,_⟩:=h1.2 h0;refine⟨x,n,c,cs,t,fr,e,hb,hq x n c e ?_⟩;obtain⟨ao,cap,e2,_⟩:=h;rw[e]at e2
 cases e2;exact h0
theorem bL.keep{q:Nat->Prop}{w w' : World}{h:Hd.az}{vi va vc:Value}(r:bL q w h vi va vc)(hk:dS (fun b _=>q b) w w'):bL q w' h vi va vc :=
 ⟨⟨((Reads.AW r.aw r.pi).keep hk).1,((aQ.AW r.acc (by omega) (En.sized _) r.pa).keep hk).1,((aQ.AW r.bl (by omega) (En.sized _) r.pc).keep hk).1⟩,r.pi,r.pa,r.pc⟩
theorem bL.zero(q:Nat->Prop)(w:World):bL q w Hd.zero (.slice none 0 0) (.slice none 0 0) (.slice none 0 0):=⟨⟨Reads.empty w,aQ.empty _ 10,aQ.empty _ 10⟩,jh.bare _ _ _,jh.bare _ _ _,jh.bare _ _ _⟩
theorem xO{p:Nat->TypeId->Prop}{W W' : World}{row:Option Nat}(hg:W.grownBy W' row)(hr : ∀r,row=some r -> ∃o:Obj,W.heap[r]? = some o∧o.isCells=false):dS p W W' :=
 dS.aI hg (fun g cs t fr e hc=>by obtain⟨o,ho,hc'⟩:=hr g e;rw[hc]at ho;cases ho;cases hc')
theorem oa{W W' : World}{row:Option Nat}{b:Nat}{t:TypeId}{vs:Array Value}(h:ae W b t vs)(hg:W.grownBy W' row)(hr : ∀r,row=some r -> ∃o:Obj,W.heap[r]? = some o∧o.isCells=false):ae W' b t vs :=
 h.kept hg (fun e=>by obtain⟨o,ho,hc⟩:=hr b e.symm;rw[show W.heap[b]? = _ from h]at ho;cases ho;cases hc)
theorem vB{B n0:Nat}{w W W' : World}{row:Option Nat}(hb:Below n0 w W)(hg:W.grownBy W' row)(hn:n0<=W.heap.size)(hr : ∀r,row=some r->B<=r)(hB:n0<=B):Below n0 w W' :=
 hb.grown hg hn fun k e=>Nat.le_trans hB (hr k e)
end Go.Proofs.YtdkdjofnnnljjaaGreatDoor

namespace Go.Proofs.YtdkdjofnnnljjaaGreatDoor
open Go.RowKit
set_option maxRecDepth 20000
theorem nv(b:Bool)(w:World):Calls Tryz.prog 32 #[.bool b] w (Says w (.int .i64 (if b=true then 0 else 10))):=by
 cases b with
 | true =>
  go_enter Tryz.func32,Tryz.ntmps32
  go_wp2;go_ret;exact⟨rfl,rfl⟩
 | false =>
  go_enter Tryz.func32,Tryz.ntmps32
  go_wp2;go_ret;exact⟨rfl,rfl⟩
abbrev Wl.take(k:Nat):Value := .func (.func 62) #[] #[.pointer (some ⟨k,0,none⟩)]
theorem ko(w:World):Calls Tryz.prog 30 #[] w fun e w' => e = .returned (Wl.take w.heap.size)∧w' = w.alloc (.cells #[.int .i64 0] 34):=by
 have zJ : ∀(fn:Fn) (first cap:Array Value) (w:World),(Instr.makeFunc fn first cap).run Tryz.prog w = .ok (.func fn first cap) w:=fun _ _ _ _=>rfl
 go_enter Tryz.func30,Tryz.ntmps30
 go_wp2;go_ret;exact⟨rfl,rfl⟩
theorem eT{R:Ending->World->Prop}(fn:Nat)(OE:Array Value)(k:Nat)(w:World)(he : ∀w,(callFunc fn OE).run Tryz.prog w = .ok (.enter fn OE) w)(hl:ae w k 34 #[.int .i64 0])
 (hc:Calls Tryz.prog fn OE w fun e w1 => ∃c:Int,e = .returned (.int .i64 c)∧ae w1 k 34 #[.int .i64 0] ∧ ∀w2,ae w2 k 34 #[.int .i64 c]->w1.grownBy w2 (some k)->R (.returned (.int .i64 c)) w2) :
 Calls Tryz.prog 62 #[.func (.func fn) #[] OE, .pointer (some ⟨k,0,none⟩)] w R:=by
 have c0:w.cell? ⟨k,0,none⟩=some (.int .i64 0):=hl.cell 0 _ rfl;have HC:=aa hc;clear hc hl
 go_enter Tryz.func62,Tryz.ntmps62
 go_wp2_with fail
 refine HC.mono ?_;rintro e w1 ⟨c,rfl,aH,hR⟩;have d0:w1.cell? ⟨k,0,none⟩=some (.int .i64 0):=aH.cell 0 _ rfl;have f0:=aH.free 0;have HS:Hid (R (.returned (.int .i64 c)) (w1.setCell ⟨k,0,none⟩ (.int .i64 c))):=hR _ (aH.set 0 _) (au _ _ _ _);have e0:(w1.setCell ⟨k,0,none⟩ (.int .i64 c)).cell? ⟨k,0,none⟩=some (.int .i64 c):=(aH.set 0 (.int .i64 c)).cell 0 _ rfl;clear hR aH c0;go_wp2;exact HS.out
theorem nu{R:Ending->World->Prop}(v:Value)(k:Nat)(w:World)(c:Int)(hn:c≠0)(hl:ae w k 34 #[.int .i64 c])(hR:R (.returned (.int .i64 c)) w) :
 Calls Tryz.prog 62 #[v, .pointer (some ⟨k,0,none⟩)] w R:=by
 have c0:w.cell? ⟨k,0,none⟩=some (.int .i64 c):=hl.cell 0 _ rfl;have hb:(c == 0)=false:=by simpa using hn
 have HR:=aa hR;clear hR hl hn
 go_enter Tryz.func62,Tryz.ntmps62
 go_wp2;exact HR.out
end Go.Proofs.YtdkdjofnnnljjaaGreatDoor

namespace Go.Proofs.YtdkdjofnnnljjaaGreatDoor
open Go.RowKit
set_option maxHeartbeats 800000
set_option maxRecDepth 4000
def eh(w:World):Prop := ∀i,i<16->w.cell? ⟨0,i,none⟩=some (.int .u32 (sB.tab.getD i 0))
theorem eh.below{w w' : World}(h:eh w)(hb:Below w.heap.size w w'):eh w' := fun i hi=>by
 rw[hb.cell (World.block_lt_of_cell? w _ (h i hi))];exact h i hi
theorem Ex(s:sB.R)(v:Value)(l:List UInt8)(w:World)(hv:Reads w v l)(hT:eh w) :
 Calls Tryz.prog 164 #[.int .u32 (s.toNat:Int),v] w fun e w' => e = .returned (.int .u32 ((sB.add s l).toNat:Int))∧w=w' := by
 obtain⟨ao,cap,rfl⟩:=hv.shape;obtain⟨_,aH,hl2,_⟩:=hv.len;have hs:=s.isLt;have HT:=aa hT;clear hT;have hn:=sB.Kb s;obtain⟨s', kB⟩ : ∃s', s' = ~~~ s:=⟨_,rfl⟩;rw[<- kB]at hn
 have HS:=aa kB; clear kB;have GM:=s'.isLt
 go_enter Tryz.func164,Tryz.ntmps164
 go_wp2;clear hn
 go_loop [5,12] (fun x i => ∃(k:Nat) (r:sB.R),k<=l.length∧i = .int .i64 (k:Int)∧x = .int .u32 (r.toNat:Int)∧Hid (r=sB.run s' (l.take k))) (fun _ i=>l.length - (intOf i).toNat)
 case atStart=>exact⟨0,s', by omega,rfl,rfl,rfl⟩
 case round =>
  obtain⟨k,r,hk,rfl,rfl,HR⟩:=hrel;have EY:=r.isLt;by_cases hlt:k<l.length
  ·obtain⟨b,off,rfl,hc⟩:=hv.place (by omega)
   obtain⟨c,hlc⟩ : ∃c,c=l[k]:=⟨_,rfl⟩;have hc1:=hc k c (by rw[hlc];exact List.getElem?_eq_getElem hlt)
   have HC:=aa hlc;clear hc hlc;have hcb:=c.toNat_lt;have e1:=sB.NW r c;obtain⟨r1,hr1⟩ : ∃r1,r1=r ^^^ sB.wide c:=⟨_,rfl⟩;rw[<- hr1]at e1
   obtain⟨j1,Nf,e2,t1,Mu,fL,e3⟩:=sB.xw r1;obtain⟨r2,hr2⟩ : ∃r2,r2=sB.steps 4 r1:=⟨_,rfl⟩;rw[<- hr2]at e3
   obtain⟨j2,hj2,e4,t2,SC,hg2,e5⟩:=sB.xw r2;obtain⟨r3,hr3⟩ : ∃r3,r3=sB.steps 4 r2:=⟨_,rfl⟩;rw[<- hr3]at e5
   have c1:=HT.out j1 Nf;have c2:=HT.out j2 hj2;rw[fL]at c1
   rw[hg2]at c2
   have b1:=r1.isLt;have b2:=r2.isLt;have b3:=r3.isLt;have H3:Hid (r3=sB.run s' (l.take (k+1))):=by
    show r3=_;rw[sB.Kc _ _ _ hlt, <- HR.out, <- HC.out,sB.G0, <- hr1, <- hr2, <- hr3]
   clear fL hg2 hr1 hr2 hr3;go_wp2
   go_round
   case rel=>exact⟨k+1,r3,by omega,by go_num,rfl,H3⟩
   case measure=>simp[intOf];omega
  ·have hn:=sB.Kb r
   obtain⟨r4,hr4⟩ : ∃r4,r4 = ~~~ r:=⟨_,rfl⟩;rw[<- hr4]at hn
   have H4:Hid (r4=sB.add s l):=by
    have:=HR.out;rw[List.take_of_length_le (by omega)]at this
    show _=_;rw[hr4,this,HS.out];rfl
   clear hr4;go_wp2;go_ret;exact⟨ie (by rw[H4.out]),rfl⟩
theorem Ey(v:Value)(l:List UInt8)(w:World)(hv:Reads w v l)(hT:eh w) :
 Calls Tryz.prog 139 #[v] w fun e w' => e = .returned (.int .u32 ((sB.sum l).toNat:Int))∧w=w' := by
 go_enter Tryz.func139,Tryz.ntmps139
 go_wp2_with (go_at_call 164;refine(Ex 0#32 _ l _ hv hT).mono ?_;rintro e w' ⟨rfl,rfl⟩)
 go_ret;exact⟨rfl,rfl⟩
theorem crcTab_of{W:World}(h:Lib.VarReads Tryz.prog W "changeover/crc.shifts" (Lib.tabData .u32 sB.tab)):eh W:=by
 obtain⟨g,t,cs,fuel,p,hg,ht,Qf,hd⟩:=h;have hty:(Tryz.prog.globals[0]?).map (·.type)=some 227:=by kernel_rfl
 have VJ:Tryz.prog.globalNamed "changeover/crc.shifts"=some 0:=by kernel_rfl
 obtain rfl:=Option.some.inj (VJ.symm.trans hg);obtain rfl:=Option.some.inj (hty.symm.trans ht);have e:=Lib.cells_of_tab (n:=16) Tryz.underlying227 Tryz.underlying178 (by kernel_rfl) (by kernel_rfl) hd
 intro i hi
 have hT:Lib.TabIs Tryz.prog W "changeover/crc.shifts" .u32 sB.tab:=by unfold Lib.TabIs;rw[Qf, <- e]
 exact hT.cell VJ i hi
def fX(n:Int):Int:=if n<1 then 3 else if 65536<n then 2 else 0
theorem fS(n:Int)(w:World) :
 Calls Tryz.prog 93 #[.int .i64 n] w fun e w' => e = .returned (.int .i64 (fX n))∧w=w' := by
 unfold fX;by_cases a:n<1
 ·rw[if_pos a]
  go_enter Tryz.func93,Tryz.ntmps93
  go_wp2
  all_goals (go_ret;exact⟨rfl,rfl⟩)
 ·rw[if_neg a]
  by_cases b:65536<n
  ·rw[if_pos b]
   go_enter Tryz.func93,Tryz.ntmps93
   go_wp2
   all_goals (go_ret;exact⟨rfl,rfl⟩)
  ·rw[if_neg b]
   go_enter Tryz.func93,Tryz.ntmps93
   go_wp2
   all_goals (go_ret;exact⟨rfl,rfl⟩)
theorem Ca(v:Value)(l:List UInt8)(w:World)(hv:Reads w v l)(hT:eh w) :
 Calls Tryz.prog 96 #[v] w (xH w 5 (cK.tail l)):=by
 obtain⟨s,hs⟩ : ∃s,s=(sB.sum l).toNat:=⟨_,rfl⟩;have GM:s<4294967296:=by rw[hs];exact(sB.sum l).isLt
 have ht:cK.tail l=cK.le s:=by rw[hs];rfl
 rw[ht];have HS:=aa hs;clear hs ht
 go_enter Tryz.func96,Tryz.ntmps96
 go_wp2_with fail
 refine(Ey _ _ _ hv hT).mono ?_;rintro e w1 ⟨rfl,rfl⟩;rw[<- HS.out]
 go_wp2_with fail
 go_ret;refine⟨_,rfl,bF.laid _ _ _ _ _ rfl ?_ (by decide),(Below.refl _ _).alloc (Nat.le_refl _) _⟩
 simp only[cellsOf,cK.le,List.map_cons,List.map_nil,UInt8.toNat_ofNat'];simp;omega
theorem Ij(v u:Value)(l m:List UInt8)(w:World)(hv:Reads w v l)(hu:Reads w u m) :
 Calls Tryz.prog 149 #[v,u] w fun e w' => e = .returned (.bool (l == m))∧w=w' := by
 obtain⟨ao,cap,rfl⟩:=hv.shape;obtain⟨zD,Jd,rfl⟩:=hu.shape;have c1:=fO (P:=Tryz.prog) l Tryz.underlying30 Tryz.underlying5 Tryz.underlying9 hv;have c2:=fO (P:=Tryz.prog) m Tryz.underlying30 Tryz.underlying5 Tryz.underlying9 hu
 go_enter Tryz.func149,Tryz.ntmps149
 go_wp2;go_ret;exact⟨bu rfl,rfl⟩
theorem Mb(n:Nat)(w:World)(h0:0<n)(hn:n<=140737488355328) :
 Calls Tryz.prog 137 #[.slice none 0 0, .int .i64 (n:Int)] w (xH w 5 []):=by
 obtain⟨i,hi,hz,hs,hb⟩:=info_parts eV;obtain⟨G,hG⟩ : ∃G,G=grownCap w n 0 5:=⟨_,rfl⟩;have hG1:n<=G:=by rw[hG];exact grownCap_ge w _ _ _
 have Rz:G<=maxLen:=by rw[hG];exact grownCap_le_maxLen w _ _ _ (by unfold maxLen;omega)
 obtain⟨C,hC⟩ : ∃C:Array Value,C=(([]:List Value).toArray++Builtin.zeroCells (Value.int .u8 0).cells n++Builtin.zeroCells (Value.int .u8 0).cells (G - n)):=⟨_,rfl⟩;have Yf:C.size=G:=by rw[hC];simp[size_zeroCells,Value.cells];omega
 have hrun : ∀ty,(Builtin.append_ #[30,3] ty #[.slice none 0 0, .int .i64 (n:Int)]).run Tryz.prog w = .ok (.slice (some ⟨w.heap.size,0,none⟩) n G) (w.drew.alloc (.cells C 5)):=by
  intro ty
  have h:=Lib.run_append_grow_zeros (P:=Tryz.prog) w 30 3 ty 5 i (.int .u8 0) .i64 .i64 Tryz.underlying30 Tryz.underlying3 hi hz none 0 0 [] (run_firstCells_none w.drew i.size 0 0 0) n h0 (by omega) (by omega) (by omega) (by rw[hb];omega) (by rw[Nat.zero_add,nextslicecap_zero (by omega),hb];omega)
  rw[Nat.zero_add, <- hG, <- hC]at h
  exact h
 clear hG hC;have TB:G<=9223372036854775807:=by unfold maxLen at Rz;omega
 have ug:bF (w.drew.alloc (.cells C 5)) w.heap.size 5 (.slice (some ⟨w.heap.size,0,none⟩) 0 G) []:=⟨by simp[cellsOf], .inr ⟨w.heap.size,G,C,rfl,Nat.le_refl _,heap_alloc_new w.drew _,by simp,Rz,by omega,by simp[cellsOf]⟩⟩
 clear Yf Rz
 go_enter Tryz.func137,Tryz.ntmps137
 go_wp2_with (at_builtin;refine Lib.wpList_append_run _ rfl _ _ _ _ rfl _ _ rfl rfl _ _ (hrun _) ?_)
 all_goals
  go_ret;exact⟨_,rfl,ug,(Below.refl _ _).drew.alloc (Nat.le_refl _) _⟩
end Go.Proofs.YtdkdjofnnnljjaaGreatDoor
