/- Several texts of mine in one: HdRefC GHd SgHead WlBegin WlBeg WlAdd. -/
import Derived.Test.YtdkdjofnnnljjaaGreatDoorPMsCame
import Derived.Test.YtdkdjofnnnljjaaGreatDoorPGCr
import Derived.Test.YtdkdjofnnnljjaaGreatDoorPWlRepl
import Derived.Test.YtdkdjofnnnljjaaGreatDoorPGRh
import Derived.Test.YtdkdjofnnnljjaaGreatDoorPGRe
import Derived.Test.YtdkdjofnnnljjaaGreatDoorPSgMem
import Derived.Test.YtdkdjofnnnljjaaGreatDoorPDkMath
import Derived.Test.YtdkdjofnnnljjaaGreatDoorPGRu
import Derived.Test.YtdkdjofnnnljjaaGreatDoorPHdMake
namespace Go.Proofs.YtdkdjofnnnljjaaGreatDoor
open Go.RowKit
theorem Hd.FL{P:En.bz->Prop}{l:List En.bz}{k:Nat}{e:En.bz}(he:l[k]? = some e)(h : ∀d∈l.take k,P d)(hp:P e) : ∀d∈l.take (k+1),P d:=by
 intro d hd
 rw[List.take_add_one,he]at hd
 rcases List.mem_append.1 hd with hd | hd
 ·exact h d hd
 ·simp at hd;subst hd;exact hp
end Go.Proofs.YtdkdjofnnnljjaaGreatDoor

namespace Go.Proofs.YtdkdjofnnnljjaaGreatDoor
open Go.RowKit
set_option maxHeartbeats 1600000
set_option maxRecDepth 4000
def Hd.OW(b:Int)(l:List UInt8):Re.Rec:=⟨4,Bl.zero,b,Cm.zero,l⟩
def Hd.sU(b:Int)(l:List UInt8):Bool:=(decide (b=0) && decide (l.length=0)) || decide (Re.check (Hd.OW b l)=0)
def Hd.first(b:Int)(l:List En.bz):Bool:=match l with
 | []=>true
 | e :: _=>decide (b<e.index)
def Hd.above(b:Int)(l:List En.bz):Bool:=decide (En.check 0 l=0) && Hd.first b l
theorem Hd.IQ(b:Int)(l:List UInt8):Hd.sU b l=true↔(0<=b∧b<=4294967296)∧l.length<=32768∧(0<b↔l ≠ []):=by
 unfold Hd.sU;rw[Bool.or_eq_true,Bool.and_eq_true,decide_eq_true_eq,decide_eq_true_eq,decide_eq_true_eq,Hd.cU]
 constructor
 ·rintro(⟨rfl,h⟩ | f)
  ·have:l = []:=List.eq_nil_of_length_eq_zero h
   subst this;simp
  ·have h1:=f.index rfl
   have h2:=f.aw rfl;have h3:1<=b∧b<=4294967296:=h1;exact⟨⟨by omega,h3.2⟩,h2.2,⟨fun _=>h2.1,fun _=>by omega⟩⟩
 ·rintro⟨h1,h2,h3⟩
  by_cases hb:0<b
  ·right
   refine⟨⟨by show(1:Int)<=4;omega,by show(4:Int)<=4;omega⟩,fun h => ?_,fun _=>⟨by show 1<=b;omega,h1.2⟩,fun _=>⟨h3.1 hb,h2⟩,fun h => ?_,rfl⟩
   ·simp[Hd.OW,Re.hb]at h
   ·simp[Hd.OW,Re.hc]at h
  ·left
   have:l = []:=Decidable.byContradiction fun h=>hb (h3.2 h)
   subst this;exact⟨by omega,rfl⟩
theorem Hd.yb(b:Int)(l:List En.bz):Hd.above b l=true↔En.check 0 l=0 ∧ ∀e∈l,b<e.index:=by
 unfold Hd.above;rw[Bool.and_eq_true,decide_eq_true_eq]
 constructor
 ·rintro⟨h1,h2⟩
  refine⟨h1, ?_⟩;have ha:=((En.dG _ _).1 h1).1;cases l with
  | nil=>intro e he;simp at he
  | cons a r =>
   have h3:b<a.index:=by simpa[Hd.first] using h2
   intro e he
   rcases List.mem_cons.1 he with rfl | he
   ·exact h3
   ·have:=(List.pairwise_cons.1 ha).1 e he;omega
 ·rintro⟨h1,h2⟩
  refine⟨h1, ?_⟩;cases l with
  | nil=>rfl
  | cons a r=>simpa[Hd.first] using h2 a (by simp)
def Hd.MY(h:Hd.az)(e:En.bz):Prop:=e.aF≠Bl.zero∧Bl.less h.aC e.aF=false
theorem Hd.IU(h:Hd.az):Hd.Valid h↔Bl.may h.aC=true∧Hd.sU h.base h.aw=true∧Hd.above h.base h.acc=true∧Hd.above h.base h.bl=true∧(∀e∈h.acc,Hd.MY h e) ∧ ∀e∈h.bl,e.aF=Bl.zero:=by
 have hm : ∀l:List En.bz,En.check 0 l=0 -> ∀e∈l,Bl.may e.aF=true:=fun l hl e he=>by
  have:=(((En.dG _ _).1 hl).2 e he).1;simp only[En.bO,Bool.and_eq_true]at this
  exact this.2
 rw[Hd.IQ,Hd.yb,Hd.yb]
 constructor
 ·intro v
  refine⟨v.aC,⟨v.base,v.aw,v.both⟩,⟨v.acc,fun e he=>(v.th e he).1⟩,⟨v.bl,fun e he=>(v.uG e he).1⟩,fun e he=>⟨(Hd.gy (hm _ v.acc e he)).2 (v.th e he).2.1,(v.th e he).2.2⟩,fun e he => ?_⟩
  exact Decidable.byContradiction fun h5=>(Hd.gy (hm _ v.bl e he)).1 h5 (v.uG e he).2
 ·rintro⟨h1,⟨h2,h3,h4⟩,⟨h5,h6⟩,⟨h7,h8⟩,h9,h10⟩
  exact⟨h1,h2,h3,h4,h5,h7,fun e he=>⟨h6 e he,(Hd.gy (hm _ h5 e he)).1 (h9 e he).1,(h9 e he).2⟩,fun e he=>⟨h8 e he,by rw[h10 e he];rfl⟩⟩
theorem CB(b:Int)(vi:Value)(l:List UInt8)(w:World)(hW:bE w)(hv:Reads w vi l) :
 Calls Tryz.prog 121 #[.int .i64 b,vi] w (Looks w (.bool (Hd.sU b l))):=by
 have HW:=aa hW;have HV:=aa hv;have bY:=xy b vi l w hv;obtain⟨io,ic,rfl⟩:=hv.shape;obtain⟨y,hy⟩ : ∃y,y=Re.check (Hd.OW b l):=⟨_,rfl⟩;have Me:Hid (∀W,Below w.heap.size w W->Calls Tryz.prog 97 #[.agg (Re.cells (Hd.OW b l) (.slice io l.length ic))] W (Looks W (.int .i64 y))):=by
  intro W hb
  rw[hy];exact iE (Hd.OW b l) _ W (HW.below hb) (HV.below hb) ⟨by simp[Hd.OW,Cm.zero,Cm.aL],by simp[Hd.OW,Cm.zero,Cm.aL],by simp[Hd.OW,Cm.zero,Cm.aL]⟩
 have hok:Hd.sU b l=((decide (b=0) && decide (l.length=0)) || decide (y=0)):=by unfold Hd.sU;rw[hy]
 rw[hok];obtain⟨n,hn⟩ : ∃n,n=l.length:=⟨_,rfl⟩;rw[<- hn]at bY Me ⊢
 clear hok hy hn hv hW
 go_enter Tryz.func121,Tryz.ntmps121
 by_cases hb:b=0
 ·subst hb
  by_cases h0:n=0
  ·have h01:((n:Int) == 0)=true:=by simp;omega
   subst h0;go_wp2;go_ret;exact⟨by simp,Below.refl _ _⟩
  ·have h01:((n:Int) == 0)=false:=by simp;omega
   go_wp2_with fail
   refine bY.mono ?_;rintro e w2 ⟨rfl,hb2⟩;have aR:=aa hb2;clear bY hb2
   go_wp2_with fail
   refine(Me.out w2 aR.out).mono ?_;rintro e w3 ⟨rfl,hb3⟩;have bh:=aa (aR.trans (hb3.mono aR.size));clear hb3;by_cases hy:y=0
   ·have wO:(y == 0)=true:=by simpa using hy
    go_wp2;go_ret;exact⟨by simp[h0,hy],bh.out⟩
   ·have wO:(y == 0)=false:=by simpa using hy
    go_wp2;go_ret;exact⟨by simp[h0,hy],bh.out⟩
 ·have hb1:(b == 0)=false:=by simpa using hb
  go_wp2_with fail
  refine bY.mono ?_;rintro e w2 ⟨rfl,hb2⟩;have aR:=aa hb2;clear bY hb2
  go_wp2_with fail
  refine(Me.out w2 aR.out).mono ?_;rintro e w3 ⟨rfl,hb3⟩;have bh:=aa (aR.trans (hb3.mono aR.size));clear hb3;by_cases hy:y=0
  ·have wO:(y == 0)=true:=by simpa using hy
   go_wp2;go_ret;exact⟨by simp[hb,hy],bh.out⟩
  ·have wO:(y == 0)=false:=by simpa using hy
   go_wp2;go_ret;exact⟨by simp[hb,hy],bh.out⟩
theorem qO(b:Int)(v:Value)(l:List En.bz)(w:World)(hW:bE w)(hv:aW w v l)(hs : ∀e∈l,e.cmd.aD 140737488355328) :
 Calls Tryz.prog 122 #[.int .i64 b,v] w (Looks w (.bool (Hd.above b l))):=by
 have bY:=Ed v l w hv hW hs;obtain⟨ao,cap,rfl,hc1,hc2⟩:=aW.shape hv;obtain⟨y,hy⟩ : ∃y,y=En.check 0 l:=⟨_,rfl⟩;rw[<- hy]at bY
 have RJ:Hid (Hd.above b l=(decide (y=0) && Hd.first b l)):=by show _=_;unfold Hd.above;rw[<- hy]
 have HP:=aa (fun h=>aW.places hv h)
 obtain⟨n,hn⟩ : ∃n,n=l.length:=⟨_,rfl⟩;rw[<- hn]at bY hc1 HP ⊢
 have HN:=aa hn;clear hv hW hs hy hn
 go_enter Tryz.func122,Tryz.ntmps122
 go_wp2_with fail
 refine bY.mono ?_;rintro e w2 ⟨rfl,hb2⟩;have aR:=aa hb2;clear bY hb2;by_cases hy:y=0
 ·have wO:(y == 0)=true:=by simpa using hy
  cases l with
  | nil =>
   have h0:n=0:=HN.out;subst h0;have HZ:Hid (Hd.above b []=true):=by show _=_;rw[RJ.out];simp[hy,Hd.first]
   go_wp2;go_ret;exact⟨by rw[HZ.out];rfl,aR.out⟩
  | cons a r =>
   have zG:0<n:=by rw[HN.out];simp
   have h01:((n:Int) == 0)=false:=by simp;omega
   obtain⟨g,off,rfl,_,hcell⟩:=HP.out zG;have c0:w2.cell? ⟨g,off,none⟩=some (.int .i64 a.index):=by have:=(hcell w2 aR.out 0 a rfl).c0;simpa using this
   obtain⟨t,ht⟩ : ∃t,t=decide (b<a.index):=⟨_,rfl⟩;have HZ:Hid (Hd.above b (a :: r)=t):=by show _=_;rw[RJ.out,ht];simp[hy,Hd.first]
   have SC:=ht.symm;clear hcell ht;go_wp2;go_ret;exact⟨by rw[HZ.out];first | rfl | simp[SC],aR.out⟩
 ·have wO:(y == 0)=false:=by simpa using hy
  have HZ:Hid (Hd.above b l=false):=by show _=_;rw[RJ.out];simp[hy]
  go_wp2;go_ret;exact⟨by rw[HZ.out];rfl,aR.out⟩
theorem wF(b:Bool)(h:Hd.az)(vi va vc:Value)(w:World)(hW:bE w)(hr:cH w h vi va vc)(hb:b=true↔Hd.Valid h)(ha : ∀e∈h.acc,e.cmd.aD 140737488355328)(hc : ∀e∈h.bl,e.cmd.aD 140737488355328) :
 Calls Tryz.prog 85 #[.agg (Hd.cells h vi va vc)] w (Looks w (.int .i64 (if b=true then 0 else 3))):=by
 obtain⟨io,ic,rfl⟩:=hr.aw.shape;obtain⟨ao,ac,rfl,ha1,ha2⟩:=aW.shape hr.acc;obtain⟨co,cc,rfl,hc1,hc2⟩:=aW.shape hr.bl;obtain⟨w1,e1,aH,aq,_⟩:=kT w h (.slice io h.aw.length ic) (.slice ao h.acc.length ac) (.slice co h.bl.length cc);have HR:=aa (hr.below aq);have HB:=aa aq;have HL:=aa aH;have HA:=aa ha;have HC:=aa hc;have HW:=aa (hW.below aq);have HV:Hid (b=true↔_):=hb.trans (Hd.IU h);have Fz:=aa (fun x=>aW.places (hr.below aq).acc x)
 have FA:=aa (fun x=>aW.places (hr.below aq).bl x)
 obtain⟨n,hn⟩ : ∃n,n=h.aw.length:=⟨_,rfl⟩;obtain⟨na,zL⟩ : ∃n,n=h.acc.length:=⟨_,rfl⟩;obtain⟨nc,sJ⟩ : ∃n,n=h.bl.length:=⟨_,rfl⟩;rw[<- hn, <- zL, <- sJ]at HR HL e1
 rw[<- zL]at Fz ha1
 rw[<- sJ]at FA hc1
 rw[<- hn, <- zL, <- sJ];have qC:=aa zL;have qD:=aa sJ;have T3:na<9223372036854775808:=by omega
 have T4:nc<9223372036854775808:=by omega
 have c0:w1.cell? ⟨w.heap.size,0,none⟩=some (.int .i64 h.aC.round):=HL.cell 0 _ rfl;have c1:w1.cell? ⟨w.heap.size,1,none⟩=some (.int .i64 h.aC.node):=HL.cell 1 _ rfl;obtain⟨rv,I5⟩ : ∃rv:Int,rv=(if b=true then 0 else 3):=⟨_,rfl⟩
 rw[<- I5];have EO:Hid (∀W,Below w1.heap.size w1 W -> ¬(Bl.may h.aC=true∧Hd.sU h.base h.aw=true∧Hd.above h.base h.acc=true∧Hd.above h.base h.bl=true∧(∀e∈h.acc,Hd.MY h e) ∧ ∀e∈h.bl,e.aF=Bl.zero)->Looks w (.int .i64 rv) (.returned (.int .i64 3)) W):=by
  intro W hW hx
  refine⟨?_,HB.trans (hW.mono HB.size)⟩;rw[I5];cases b
  ·rfl
  ·exact absurd (HV.1 rfl) hx
 have N1:Hid (b=true->rv=0):=fun hb=>by rw[I5,if_pos hb]
 clear hn zL sJ hr aH aq ha hc hb ha2 hc2 hW I5;have hgd:=jq
 go_enter Tryz.func85,Tryz.ntmps85
 go_wp2_with fail
 refine(tO h.aC _).mono ?_;rintro e w2 ⟨rfl,hb2⟩;have aR:=aa hb2;clear c0 c1 hb2;have c2:w2.cell? ⟨w.heap.size,2,none⟩=some (.int .i64 h.base):=(HL.below aR.out HL.lt).cell 2 _ rfl;have c3:w2.cell? ⟨w.heap.size,3,none⟩=some (.slice io n ic):=(HL.below aR.out HL.lt).cell 3 _ rfl;obtain⟨t,ht⟩ : ∃t,t=Bl.may h.aC:=⟨_,rfl⟩;rw[<- ht];have HT:=aa ht;clear ht;cases t with
 | false =>
  go_wp2;go_ret;exact EO.out _ aR.out fun v=>by have:=v.1;rw[<- HT.out]at this;cases this
 | true =>
  go_wp2_with fail
  refine(CB h.base (.slice io n ic) h.aw w2 (HW.below aR.out) (HR.aw.below aR.out)).mono ?_;rintro e w3 ⟨rfl,hb3⟩;have bh:=aa (aR.trans (hb3.mono aR.size));clear hb3 c2 c3;have c2:w3.cell? ⟨w.heap.size,2,none⟩=some (.int .i64 h.base):=(HL.below bh.out HL.lt).cell 2 _ rfl;have c4:w3.cell? ⟨w.heap.size,4,none⟩=some (.slice ao na ac):=(HL.below bh.out HL.lt).cell 4 _ rfl;obtain⟨t,ht⟩ : ∃t,t=Hd.sU h.base h.aw:=⟨_,rfl⟩;rw[<- ht];have HI:=aa ht;clear ht;cases t with
  | false =>
   go_wp2;go_ret;exact EO.out _ bh.out fun v=>by have:=v.2.1;rw[<- HI.out]at this;cases this
  | true =>
   go_wp2_with fail
   refine(qO h.base (.slice ao na ac) h.acc w3 (HW.below bh.out) (HR.acc.below bh.out) HA.out).mono ?_;rintro e w4 ⟨rfl,hb4⟩;have bJ:=aa (bh.trans (hb4.mono bh.size));clear hb4 c2 c4;have c2:w4.cell? ⟨w.heap.size,2,none⟩=some (.int .i64 h.base):=(HL.below bJ.out HL.lt).cell 2 _ rfl;have c5:w4.cell? ⟨w.heap.size,5,none⟩=some (.slice co nc cc):=(HL.below bJ.out HL.lt).cell 5 _ rfl;obtain⟨t,ht⟩ : ∃t,t=Hd.above h.base h.acc:=⟨_,rfl⟩;rw[<- ht];have HAA:=aa ht;clear ht;cases t with
   | false =>
    go_wp2;go_ret;exact EO.out _ bJ.out fun v=>by have:=v.2.2.1;rw[<- HAA.out]at this;cases this
   | true =>
    go_wp2_with fail
    refine(qO h.base (.slice co nc cc) h.bl w4 (HW.below bJ.out) (HR.bl.below bJ.out) HC.out).mono ?_;rintro e w5 ⟨rfl,ew⟩;have bK:=aa (bJ.trans (ew.mono bJ.size));clear ew c2 c5;have c4:w5.cell? ⟨w.heap.size,4,none⟩=some (.slice ao na ac):=(HL.below bK.out HL.lt).cell 4 _ rfl;obtain⟨t,ht⟩ : ∃t,t=Hd.above h.base h.bl:=⟨_,rfl⟩;rw[<- ht];have HAC:=aa ht;clear ht;cases t with
    | false =>
     go_wp2;go_ret;exact EO.out _ bK.out fun v=>by have:=v.2.2.2.1;rw[<- HAC.out]at this;cases this
    | true =>
     go_wp2;clear c4
     go_loopw [38] (fun i wr => ∃k:Nat,i = .int .i64 (k:Int)∧k<=na∧Hid (∀e∈h.acc.take k,Hd.MY h e)∧Hid (Below w1.heap.size w1 wr)) (fun i _=>na - (intOf i).toNat)
     case atStart=>exact⟨0,rfl,by omega,by show ∀c∈_,_;simp,bK⟩
     case round =>
      obtain⟨k,rfl,hk,HJ,cy⟩:=hrel;by_cases hlt:k<na
      ·obtain⟨a,ha⟩ : ∃a,h.acc[k]? = some a:=⟨_,List.getElem?_eq_getElem (by have:=qC.out;omega)⟩
       obtain⟨g,off,rfl,kH,hcell⟩:=Fz.out (by have:=qC.out;omega)
       have bj:Hid (∀W,Below w1.heap.size w1 W->df W g (off+k*10) a):=fun W hW=>hcell W hW k a ha
       have lq:=aa ha;clear hcell ha;have heq:=fun W=>iB W a.aF Bl.zero
       obtain⟨t,ht⟩ : ∃t,t=decide (a.aF=Bl.zero):=⟨_,rfl⟩;rw[<- ht]at heq
       have Rl:=aa ht;dsimp only [Bl.cells,Bl.zero]at heq
       clear ht;cases t with
       | true =>
        go_wp2_with (first
         | (refine cB rfl _ rfl g (off+k*10) a rfl (bj.out wr cy.out) ?_)
         | (refine cq rfl _ _ rfl wr.heap.size En.zero a rfl rfl (ae.new _ _ _) ?_;intro w7 dH cr;have bw:Hid (Below w1.heap.size w1 w7):=cy.trans ((aJ cr).mono cy.size);obtain⟨_,d1,d2,_⟩:=dL.pK dH;clear dH cr))
        go_ret;exact EO.out _ bw.out fun v=>(v.2.2.2.2.1 a (List.mem_of_getElem? lq.out)).1 (by have:=Rl.out;simpa using this.symm)
       | false =>
        go_wp2_with (first
         | (refine cB rfl _ rfl g (off+k*10) a rfl (bj.out wr cy.out) ?_)
         | (refine cq rfl _ _ rfl wr.heap.size En.zero a rfl rfl (ae.new _ _ _) ?_;intro w7 dH cr;have bw:Hid (Below w1.heap.size w1 w7):=cy.trans ((aJ cr).mono cy.size);obtain⟨_,d1,d2,_⟩:=dL.pK dH;have c0:w7.cell? ⟨w.heap.size,0,none⟩=some (.int .i64 h.aC.round):=(HL.below bw.out HL.lt).cell 0 _ rfl;have c1:w7.cell? ⟨w.heap.size,1,none⟩=some (.int .i64 h.aC.node):=(HL.below bw.out HL.lt).cell 1 _ rfl;clear dH cr))
        refine(xj h.aC a.aF _).mono ?_;rintro e w8 ⟨rfl,eX⟩;have cN:=aa (bw.trans (eX.mono bw.size));obtain⟨t,ht⟩ : ∃t,t=Bl.less h.aC a.aF:=⟨_,rfl⟩;rw[<- ht];have HLS:=aa ht;clear eX c0 c1 d1 d2 ht;cases t with
        | true =>
         go_wp2;go_ret;exact EO.out _ cN.out fun v=>by have:=(v.2.2.2.2.1 a (List.mem_of_getElem? lq.out)).2;rw[<- HLS.out]at this;cases this
        | false =>
         have YX:Hid (∀e∈h.acc.take (k+1),Hd.MY h e):=Hd.FL lq.out HJ.out ⟨by have:=Rl.out;simpa using this.symm,HLS.symm⟩
         go_wp2
         go_roundw
         case rel=>exact⟨k+1,by go_num,by omega,YX.out,cN⟩
         case measure=>simp[intOf];omega
      ·obtain rfl:k=na:=by omega
       have YY:Hid (∀e∈h.acc,Hd.MY h e):=by
        intro e he
        refine HJ.out e ?_;rw[List.take_of_length_le (by have:=qC.out;omega)]
        exact he
       have c5:wr.cell? ⟨w.heap.size,5,none⟩=some (.slice co nc cc):=(HL.below cy.out HL.lt).cell 5 _ rfl;clear HJ;go_wp2;clear c5;obtain⟨wv,iZ⟩ : ∃wv,wv=wr:=⟨_,rfl⟩;rw[<- iZ];have bw:Hid (Below w1.heap.size w1 wv):=by rw[iZ];exact cy
       clear iZ cy
       go_loopw [57] (fun i wr => ∃k:Nat,i = .int .i64 (k:Int)∧k<=nc∧Hid (∀e∈h.bl.take k,e.aF=Bl.zero)∧Hid (Below w1.heap.size w1 wr)) (fun i _=>nc - (intOf i).toNat)
       case atStart=>exact⟨0,rfl,by omega,by show ∀c∈_,_;simp,bw⟩
       case round =>
        obtain⟨j,rfl,hj,HJ,cN⟩:=hrel;by_cases hlj:j<nc
        ·obtain⟨a,ha⟩ : ∃a,h.bl[j]? = some a:=⟨_,List.getElem?_eq_getElem (by have:=qD.out;omega)⟩
         obtain⟨g,off,rfl,kH,hcell⟩:=FA.out (by have:=qD.out;omega)
         have bj:Hid (∀W,Below w1.heap.size w1 W->df W g (off+j*10) a):=fun W hW=>hcell W hW j a ha
         have lq:=aa ha;clear hcell ha;have vQ:=fun W=>sM W a.aF Bl.zero
         obtain⟨t,ht⟩ : ∃t,t=decide (a.aF=Bl.zero):=⟨_,rfl⟩;rw[<- ht]at vQ
         have Rl:=aa ht;dsimp only [Bl.cells,Bl.zero]at vQ
         clear ht;cases t with
         | false =>
          go_wp2_with (first
           | (refine cB rfl _ rfl g (off+j*10) a rfl (bj.out wr cN.out) ?_)
           | (refine cq rfl _ _ rfl wr.heap.size En.zero a rfl rfl (ae.new _ _ _) ?_;intro w9 gP cM;have eY:Hid (Below w1.heap.size w1 w9):=cN.trans ((aJ cM).mono cN.size);obtain⟨_,d1,d2,_⟩:=dL.pK gP;clear gP cM))
          go_ret;exact EO.out _ eY.out fun v=>by
           have:=v.2.2.2.2.2 a (List.mem_of_getElem? lq.out);have h2:=Rl.out;rw[this]at h2
           simp at h2
         | true =>
          go_wp2_with (first
           | (refine cB rfl _ rfl g (off+j*10) a rfl (bj.out wr cN.out) ?_)
           | (refine cq rfl _ _ rfl wr.heap.size En.zero a rfl rfl (ae.new _ _ _) ?_;intro w9 gP cM;have eY:Hid (Below w1.heap.size w1 w9):=cN.trans ((aJ cM).mono cN.size);obtain⟨_,d1,d2,_⟩:=dL.pK gP;clear gP cM))
          have YX:Hid (∀e∈h.bl.take (j+1),e.aF=Bl.zero):=Hd.FL lq.out HJ.out (by have:=Rl.out;simpa using this.symm)
          go_roundw
          case rel=>exact⟨j+1,by go_num,by omega,YX.out,eY⟩
          case measure=>simp[intOf];omega
        ·obtain rfl:j=nc:=by omega
         have HZ:Hid (b=true):=by
          refine HV.2 ⟨HT.symm,HI.symm,HAA.symm,HAC.symm,YY.out,fun e he=>HJ.out e ?_⟩
          rw[List.take_of_length_le (by have:=qD.out;omega)]
          exact he
         go_wp2;go_ret;exact⟨by rw[N1.out HZ.out];rfl,HB.trans (cN.mono HB.size)⟩
end Go.Proofs.YtdkdjofnnnljjaaGreatDoor

namespace Go.Proofs.YtdkdjofnnnljjaaGreatDoor
open Go.RowKit
set_option maxHeartbeats 3200000
set_option maxRecDepth 8000
theorem lT(f:Int)(w:World):Calls Tryz.prog 84 #[.int .i64 f] w (Says w (.int .i64 (Vs.opens 2 f))):=by
 have hc:=rj 2 f w;obtain⟨z,hz⟩ : ∃z,z=Vs.opens 2 f:=⟨_,rfl⟩;rw[<- hz]at hc ⊢
 have HC:=aa hc;clear hc hz
 go_enter Tryz.func84,Tryz.ntmps84
 go_wp2_with fail
 refine HC.mono ?_;rintro e w1 ⟨rfl,rfl⟩;go_wp2;go_ret;exact⟨rfl,rfl⟩
def kF(w:World)(r:List UInt8 × Int)(e:Ending)(w' : World):Prop :=
 ∃u,e = .returned (.tuple #[u, .int .i64 r.2])∧bF w' w.heap.size 5 u r.1∧Below w.heap.size w w'
theorem CC(f:Int)(hf:f=1∨f=2)(n:Nat)(w:World)(hT:eh w)(hn:n<=9223372036854775807) :
 Calls Tryz.prog 87 #[.int .i64 f, .int .i64 (n:Int)] w (kF w (cK.frame (Sg.first f n),0)):=by
 obtain⟨w1,e1,fJ,aq⟩ : ∃w1,w.alloc (.cells #[.slice none 0 0] 163)=w1∧kI w1 w.heap.size w.heap.size (.slice none 0 0) []∧Below w.heap.size w w1 :=
  ⟨_,rfl,Wr.fresh _ _ _ _ (Nat.le_refl _),(Below.refl _ _).alloc (Nat.le_refl _) _⟩
 have pF:=aa fJ;have aG:=aa aq;have HT:=aa (fun W (h:Below w.heap.size w W)=>hT.below h)
 have hf0:1<=f:=by omega
 have Jy:f<=2:=by omega
 have l1:=aA (n:=f.toNat) (by omega)
 have l2:=aA (n:=n) hn;have p1:=lJ f.toNat;have HL:Hid (0<(Sg.first f n).length∧(Sg.first f n).length<=18):=by
  show _∧_;unfold Sg.first
  rw[List.length_append];omega
 have dh:=aa l1;have HN:=aa hn;clear fJ aq hT hf l1 l2 p1 hn
 go_enter Tryz.func87,Tryz.ntmps87
 go_wp2_with fail
 refine(fl f _ w.heap.size w.heap.size _ [] pF.out aG.size (by simp) (by omega) (by omega)).mono ?_
 rintro e2 w2 ⟨rfl,v2,hw2,hg2⟩;rw[List.nil_append]at hw2
 have ES:=aa hw2;have aR:Hid (Below w.heap.size w w2):=aG.trans (pF.below hg2 aG.size);clear hw2 hg2
 go_wp2_with fail
 refine(fl (n:Int) _ w.heap.size w.heap.size v2 (enc f.toNat) ES.out aR.size (by have:=dh.out;omega) (by omega) (by have:=HN.out;omega)).mono ?_
 rw[Int.toNat_natCast];rintro e3 w3 ⟨rfl,v3,hw3,hg3⟩;have zR:=aa hw3;have bh:Hid (Below w.heap.size w w3):=aR.trans (ES.below hg3 aR.size);clear hw3 hg3
 go_wp2_with fail
 refine(oM _ w.heap.size w.heap.size v3 (Sg.first f n) zR.out (by have:=HL.2;omega)).mono ?_
 rintro e4 w4 ⟨v4,rfl,Px,hb4⟩;have qQ:=aa Px.reads;have bJ:Hid (Below w.heap.size w w4):=bh.trans (hb4.mono bh.size);clear Px hb4
 go_wp2_with fail
 refine(Mc (.slice none 0 0) v4 [] (Sg.first f n) _ (Reads.empty _) qQ.out (HT.out _ bJ.out) (by have:=HL.1;omega) (by have:=HL.2;omega) (by simp)).mono ?_
 rw[List.nil_append];rintro e5 w5 ⟨x,rfl,eW,ew⟩;go_wp2
 go_ret2
 exact⟨x,rfl,eW.mono bJ.size,bJ.trans (ew.mono bJ.size)⟩
def Sg.add(f:Int)(x:Re.Rec):List UInt8 × Int:=if(Rt.put f x).2≠0 then ([],(Rt.put f x).2)else (cK.frame (Rt.aN f x),0)
theorem Sg.yV{f:Int}{x:Re.Rec}(h:(Rt.put f x).2=0):(f=1∨f=2)∧Re.aO f x=0∧Rt.put f x=(Rt.aN f x,0):=by
 unfold Rt.put at h ⊢
 by_cases hf:f=1∨f=2
 ·rw[if_pos hf]at h ⊢
  by_cases ho:Re.aO f x=0
  ·rw[if_neg (by simpa using ho)]
   exact⟨hf,ho,rfl⟩
  ·rw[if_pos ho]at h
   exact absurd h ho
 ·rw[if_neg hf]at h
  exact absurd h (by decide)
theorem xC(f:Int)(x:Re.Rec)(vi:Value)(w:World)(hT:eh w)(hW:bE w)(hi:Reads w vi x.aw)(hx:x.Fits)(hs:x.cmd.aD 1000)(hk:x.aw.length<=100000) :
 Calls Tryz.prog 39 #[.int .i64 f, .agg (Re.cells x vi)] w (kF w (Sg.add f x)):=by
 obtain⟨w1,e1,aH,aq,hz1⟩:=bf w x vi;have dw:=aa aH;have aG:=aa aq;have HP:=aa (Gl f x vi w1 (hW.below aq) (hi.below aq) hx hs hk);have HT:=aa (fun W (h:Below w.heap.size w W)=>hT.below h)
 have HX:=aa hx;clear aH aq hz1 hT hW hi hx hs hk;obtain⟨r,hr⟩ : ∃r,r=Sg.add f x:=⟨_,rfl⟩;rw[<- hr];unfold Sg.add at hr
 have hpk:=fun h=>Sg.yV (f:=f) (x:=x) h
 obtain⟨q,hq⟩ : ∃q,q=Rt.put f x:=⟨_,rfl⟩;rw[<- hq]at HP hr hpk
 have HR:=aa hr;have IB:=aa hpk;clear hr hq hpk
 go_enter Tryz.func39,Tryz.ntmps39
 go_wp2_with (first
  | (refine cZ rfl _ rfl w.heap.size x vi rfl dw.out ?_)
  | fail)
 refine HP.mono ?_;rintro e2 w2 ⟨hb2,u,rfl,hu⟩;have aR:Hid (Below w.heap.size w w2):=aG.trans (hb2.mono aG.size);have HU:=aa hu;obtain⟨uo,uc,rfl⟩:=hu.shape;obtain⟨z,hz⟩ : ∃z,z=q.2:=⟨_,rfl⟩;rw[<- hz]at HR IB ⊢
 clear hb2 hu;by_cases h0:z=0
 ·obtain⟨hf,ho,he⟩:=IB.out h0
  have bC:Hid (r=(cK.frame (Rt.aN f x),0)):=HR.trans (if_neg (by simpa using h0))
  obtain⟨_,hb,_⟩:=Sg.iG ho HX.out;rw[he]at HU ⊢
  dsimp only at HU ⊢
  have ow:=aa hb;subst h0;obtain⟨un,hun⟩ : ∃un,un=(Rt.aN f x).length:=⟨_,rfl⟩;rw[<- hun]at HU ⊢
  clear hf ho he hb hz hun
  go_wp2_with fail
  refine(Mc (.slice none 0 0) (.slice uo un uc) [] (Rt.aN f x) _ (Reads.empty _) HU.out (HT.out _ aR.out) ow.1 ow.2 (by simp)).mono ?_
  rw[List.nil_append];rintro e3 w3 ⟨y,rfl,fM,hb3⟩;go_wp2
  go_ret2
  rw[bC.out];exact⟨y,rfl,fM.mono aR.size,aR.trans (hb3.mono aR.size)⟩
 ·have hne:(z != 0)=true:=by simpa using h0
  have bC:Hid (r=([],z)):=HR.trans (if_pos h0);clear h0 IB HR hz;go_wp2
  go_ret2
  rw[bC.out];exact⟨_,rfl,bF.empty _ _ _,aR.out⟩
def Sg.head(b:Bool)(f:Int)(h:Hd.az):List UInt8 × Int :=
 if Vs.opens 2 f≠0 then ([],Vs.opens 2 f)else if b=false then ([],3)else if Sg.hasAll f (Hd.recs h)≠0 then ([],Sg.hasAll f (Hd.recs h))else (Sg.file f h [],0)
theorem EM(b:Bool)(f:Int)(h:Hd.az)(vi va vc:Value)(w:World)(hT:eh w)(hW:bE w)(hr:cH w h vi va vc)(hb:b=true↔Hd.Valid h)(MS:h.G2)(EY:(Hd.recs h).length<=1000)
 (ha : ∀e∈h.acc,e.cmd.aD 140737488355328) (hc : ∀e∈h.bl,e.cmd.aD 140737488355328) (hx : ∀x∈Hd.recs h,x.Fits∧x.cmd.aD 1000∧x.aw.length<=100000) :
 Calls Tryz.prog 65 #[.int .i64 f, .agg (Hd.cells h vi va vc)] w (kF w (Sg.head b f h)):=by
 obtain⟨w1,e1,hx1,aq,hs1⟩:=eL w 33 h vi va vc hr;have YZ:=aa hx1;have aG:=aa aq;have ov:=aa (hr.below aq);have HT:=aa (fun W (h:Below w.heap.size w W)=>hT.below h)
 have HW:=aa (fun W (h:Below w.heap.size w W)=>hW.below h)
 have HBV:=aa hb;have Y0:=aa MS;have HA:=aa ha;have HC:=aa hc;have Y1:=aa hx;have Po:=aa EY;have KB:=lT f w1;obtain⟨r,hr'⟩ : ∃r,r=Sg.head b f h:=⟨_,rfl⟩;rw[<- hr'];unfold Sg.head at hr'
 obtain⟨z,hz⟩ : ∃z,z=Vs.opens 2 f:=⟨_,rfl⟩;rw[<- hz]at KB hr'
 have HZ:Hid (z=0->f=1∨f=2):=fun h0=>by
  rw[h0,Vs.kV]at hz
  by_cases h1:f=1∨f=2
  ·exact h1
  ·rw[if_neg h1]at hz;omega
 have Uv:=aa KB;have HR:=aa hr';clear hx1 aq hs1 hr hT hW hb MS ha hc hx EY KB hr' hz
 go_enter Tryz.func65,Tryz.ntmps65
 go_wp2_with fail
 refine Uv.mono ?_;rintro e2 w2 ⟨rfl,rfl⟩;by_cases h0:z=0
 ·have hf:=HZ.out h0
  have HF:=aa hf;have hr2:=HR.trans (if_neg (by simpa using h0))
  subst h0;have bC:=aa hr2;clear hf hr2 HR Uv HZ
  go_wp2_with (refine gw rfl _ rfl rfl YZ.out ?_)
  refine(wF b h vi va vc w1 (HW.out _ aG.out) ov.out HBV.out HA.out HC.out).mono ?_;rintro e w3 ⟨rfl,hb3⟩;have bh:=aa (aG.trans (hb3.mono aG.size));have vN:=aa (YZ.below hb3 YZ.ag.lt);have oH:=aa (ov.below hb3);clear hb3;cases b with
  | false =>
   have rY:Hid (r=([],3)):=bC.trans (if_pos rfl);rw[if_neg (by simp)]
   go_wp2
   go_ret2
   rw[rY.out];exact⟨_,rfl,bF.empty _ _ _,bh.out⟩
  | true =>
   have rY:=aa (bC.trans (if_neg (by simp)))
   rw[if_pos rfl]
   go_wp2_with (refine gw rfl _ rfl rfl vN.out ?_)
   refine(Ce h vi va vc w3 oH.out Y0.out).mono ?_;rintro e w4 ⟨v4,rfl,hl4,hb4⟩;have bJ:=aa (bh.trans (hb4.mono bh.size));obtain⟨L,hL⟩ : ∃L,L=Hd.recs h:=⟨_,rfl⟩;have xA:=aa hL;rw[<- hL]at hl4 rY Y1 Po
   obtain⟨lo,lc,hvl,hc1,hc2⟩:=cJ.shape hl4;obtain⟨N,hN⟩ : ∃N,N=L.length:=⟨_,rfl⟩;rw[<- hN]at hvl hc1
   subst hvl;have SN:=aa hN;have hN1:N<=1000:=by have:=Po.out;omega
   have HP:=aa (fun h=>cJ.places hl4 iJ h)
   clear hl4 hb4 hL hN vN oH bC
   go_wp2_with fail
   refine(CC f HF.out N w4 (HT.out _ bJ.out) (by omega)).mono ?_
   rintro e w5 ⟨v5,rfl,eW,ew⟩;have iW:Hid (bF w5 w4.heap.size 5 v5 (cK.flat (Sg.first f N :: (L.take 0).map (Rt.aN f)))):=by
    show bF _ _ _ _ _
    simpa[cK.flat] using eW
   have bK:Hid (Below w4.heap.size w4 w5):=ew;obtain⟨vo,vc5,hv5⟩:=eW.reads.shape;obtain⟨vn,Pt⟩ : ∃vn,vn=(cK.frame (Sg.first f N)).length:=⟨_,rfl⟩
   rw[<- Pt]at hv5
   subst hv5;clear eW ew Pt;go_wp2
   go_loopw [9,39] (fun y i wr => ∃k:Nat,i = .int .i64 (k:Int)∧k<=N∧Hid (∀c∈L.take k,Re.aO f c=0)∧Hid (bF wr w4.heap.size 5 y (cK.flat (Sg.first f N :: (L.take k).map (Rt.aN f))))∧Hid (Below w4.heap.size w4 wr)) (fun _ i _=>N - (intOf i).toNat)
   case atStart=>exact⟨0,rfl,by omega,by show ∀c∈_,_;simp,iW.out,bK.out⟩
   case round =>
    obtain⟨k,rfl,hk,HI,HY,HB⟩:=hrel;obtain⟨yo,yc,kK⟩:=HY.reads.shape;obtain⟨yn,qR⟩ : ∃m,m=(cK.flat (Sg.first f N :: (L.take k).map (Rt.aN f))).length:=⟨_,rfl⟩
    rw[<- qR]at kK
    clear qR;subst kK;have pJ:Hid (Below w.heap.size w wr):=bJ.trans (HB.mono bJ.size);by_cases hlt:k<N
    ·obtain⟨x,hxl⟩ : ∃x,L[k]? = some x:=⟨_,List.getElem?_eq_getElem (by have:=SN.out;omega)⟩
     obtain⟨g,off,rfl,_,hc⟩:=HP.out (by have:=SN.out;omega)
     obtain⟨u,hu,hcell⟩:=hc k x hxl;obtain⟨uo,uc,rfl⟩:=hu.1.shape;have HU:=aa (fun W (h:Below w4.heap.size w4 W)=>hu.1.below h)
     have Sv:=aa (Y1.out x (List.mem_of_getElem? hxl));have Ni:=aa hxl;have bj:Hid (∀j v,(Re.cells x (.slice uo x.aw.length uc))[j]? = some v->wr.cell? ⟨g,off+k*12+j,none⟩=some v):=fun j v hj=>by rw[Nat.add_assoc];exact hcell wr HB.out j v hj
     clear hc hu hcell hxl
     go_wp2_with (first
      | (refine iK rfl _ rfl g (off+k*12) x (.slice uo x.aw.length uc) rfl bj.out ?_)
      | (refine aY rfl _ _ rfl wr.heap.size Re.zero Nil x (.slice uo x.aw.length uc) rfl rfl rfl (ae.new _ _ _) ?_;intro w6 eZ dt;have dX:=aa eZ;have cy:Hid (Below wr.heap.size wr w6):=aJ dt;clear eZ dt)
      | (refine cZ rfl _ rfl wr.heap.size x (.slice uo x.aw.length uc) rfl dX.out ?_)
      | fail)
     have jB:Hid (Below w4.heap.size w4 w6):=HB.trans (cy.mono HB.size);have Vy:Hid (Below w.heap.size w w6):=bJ.trans (jB.mono bJ.size);refine(xC f x (.slice uo x.aw.length uc) w6 (HT.out _ Vy.out) (HW.out _ Vy.out) (HU.out _ jB.out) Sv.1 Sv.2.1 Sv.2.2).mono ?_;rintro e w7 ⟨u7,rfl,ou,fZ⟩;have bw:Hid (Below w4.heap.size w4 w7):=jB.trans (fZ.mono jB.size);have HY7:=aa (HY.keep (cy.trans (fZ.mono cy.size)) (Nat.le_refl _));have lK:=aa ou;clear ou fZ bj dX;obtain⟨q,hq⟩ : ∃q,q=(Rt.put f x).2:=⟨_,rfl⟩;have HQ:=aa hq;by_cases h0:q=0
     ·have G7:Hid (Sg.add f x=(cK.frame (Rt.aN f x),0)):=by show _=_;unfold Sg.add;rw[<- hq,if_neg (by simpa using h0)]
      obtain⟨_,hold,_⟩:=Sg.yV (f:=f) (x:=x) (by rw[<- hq];exact h0)
      rw[G7.out]at lK ⊢
      dsimp only at lK ⊢
      have QP:Hid (∀d∈L.take (k+1),Re.aO f d=0):=by
       intro d hd
       rw[List.take_add_one,Ni.out]at hd
       rcases List.mem_append.1 hd with hd | hd
       ·exact HI.out d hd
       ·simp at hd;subst hd;exact hold
      have lX:Hid (cK.flat (Sg.first f N :: (L.take k).map (Rt.aN f))++cK.frame (Rt.aN f x)=cK.flat (Sg.first f N :: (L.take (k+1)).map (Rt.aN f))):=by show _=_;rw[List.take_add_one,Ni.out];simp[cK.flat]
      have Wj:Hid ((cK.flat (Sg.first f N :: (L.take k).map (Rt.aN f))).length+(cK.frame (Rt.aN f x)).length<=140737488355328):=by
       have h1:=Sg.iy (f:=f) (Sg.first f N) (L.take k) (fun c hc=>(Sg.iG (HI.out c hc) (Y1.out c (List.mem_of_mem_take hc)).1).1)
       have h2:(L.take k).length<=L.length:=List.length_take_le' _ _;have h3:=cK.eR (Sg.first f N)
       have h4:=cK.eR (Rt.aN f x);have h6:=(Sg.iG hold Sv.1).2.1.2;have h5:=aA (n:=(Rt.aN f x).length) (by omega)
       have O3:=HF.out;have h7:=aA (n:=f.toNat) (by omega)
       have h8:=aA (n:=N) (by omega)
       have h9:(Sg.first f N).length=(enc f.toNat).length+(enc N).length:=by simp[Sg.first]
       have h10:=aA (n:=(Sg.first f N).length) (by omega)
       have:=SN.out;show _<=_;omega
      clear hold hq HQ h0
      go_wp2_with (at_builtin;refine fA rfl _ _ 30 5 rfl Tryz.underlying30 eV w4.heap.size _ (cK.frame (Rt.aN f x)) (.slice yo yn yc) u7 rfl rfl HY7.out lK.reads Wj.out w4 bw.out (Nat.le_refl _) ?_;intro v8 w8 eU eX fh;have fN:=aa eU;have cN:Hid (Below w4.heap.size w4 w8):=eX;clear eU eX fh)
      rw[lX.out]at fN
      go_roundw
      case rel=>exact⟨k+1,by go_num,by omega,QP.out,fN.out,cN.out⟩
      case measure=>simp[intOf];omega
     ·have hne:(q != 0)=true:=by simpa using h0
      have hold:Re.aO f x=q:=by
       rw[hq];unfold Rt.put;rw[if_pos HF.out];by_cases ho:Re.aO f x=0
       ·exfalso
        apply h0
        rw[hq];unfold Rt.put;rw[if_pos HF.out,if_neg (by simpa using ho)]
       ·rw[if_pos ho]
      have hall:Sg.hasAll f L=q:=(Sg.mZ HI.out Ni.out (by rw[hold];exact h0)).trans hold
      have lZ:Hid (r=([],q)):=by
       have h1:=rY.out;rw[hall,if_pos h0]at h1
       exact h1
      have G7:Hid (Sg.add f x=([],q)):=by show _=_;unfold Sg.add;rw[<- hq,if_pos h0]
      rw[G7.out]at lK ⊢
      dsimp only at lK ⊢
      obtain⟨ao,ac,hsh⟩:=lK.reads.shape;subst hsh;clear hold hall hq HQ h0 rY;go_wp2
      go_ret2
      rw[lZ.out];exact⟨_,rfl,bF.empty _ _ _,bJ.trans (bw.mono bJ.size)⟩
    ·obtain rfl:k=N:=by omega
     have hall:Sg.hasAll f L=0:=(Sg.uY L).2 fun c hc=>HI.out c (by rw[List.take_of_length_le (by have:=SN.out;omega)];exact hc)
     have lZ:Hid (r=(Sg.file f h [],0)):=by
      have h1:=rY.out;rw[hall,if_neg (by simp)]at h1
      exact h1
     have Ow:Hid (bF wr w4.heap.size 5 (.slice yo yn yc) (Sg.file f h [])):=by
      have h1:=HY.out;rw[List.take_of_length_le (by have:=SN.out;omega)]at h1
      show bF _ _ _ _ _;unfold Sg.file Sg.bodies;rw[List.append_nil, <- xA.out, <- SN.out];exact h1
     clear hall rY;go_wp2
     go_ret2
     rw[lZ.out];exact⟨_,rfl,Ow.mono bJ.size,pJ.out⟩
 ·have hne:(z != 0)=true:=by simpa using h0
  have bC:Hid (r=([],z)):=HR.trans (if_pos h0);clear h0 HR Uv HZ;go_wp2
  go_ret2
  rw[bC.out];exact⟨_,rfl,bF.empty _ _ _,aG.out⟩
end Go.Proofs.YtdkdjofnnnljjaaGreatDoor

namespace Go.Proofs.YtdkdjofnnnljjaaGreatDoor
open Go.RowKit
set_option maxHeartbeats 3200000
set_option maxRecDepth 8000
def MZ(b:Nat)(r:List UInt8 × Int)(w:World)(e:Ending)(w' : World):Prop :=
 e = .returned (.int .i64 r.2) ∧ ∃o c,ae w' b 30 #[.slice o r.1.length c]∧Reads w' (.slice o r.1.length c) r.1∧jh (fun k=>w.heap.size<=k) (.slice o r.1.length c)∧Kp (fun j _=>j≠b) w w'
theorem EP(b4 b5 b7:Nat)(f:Int)(h:Hd.az)(vi va vc:Value)(r:List UInt8 × Int)(w:World)(l4:ae w b4 3 #[.int .i64 f])(l5:aB w b5 33 h.aC h.base vi va vc)(l7:ae w b7 30 #[Nil])
 (hc:Calls Tryz.prog 65 #[.int .i64 f, .agg (Hd.cells h vi va vc)] w (kF w r)) :
 Calls Tryz.prog 64 #[Wl.ptr b4,Wl.ptr b5,Wl.ptr b7] w (MZ b7 r w):=by
 have c4:w.cell? ⟨b4,0,none⟩=some (.int .i64 f):=l4.cell 0 _ rfl;have HC:=aa hc;have L5:=aa l5;have L7:=aa l7;clear hc l5 l7 l4
 go_enter Tryz.func64,Tryz.ntmps64
 go_wp2_with (first
  | (refine gw rfl _ rfl rfl L5.out ?_)
  | (go_at_call 65;refine HC.mono ?_;rintro e w1 ⟨u,rfl,ho,hb⟩;obtain⟨o,c,rfl⟩:=ho.reads.shape;have HO:=aa ho;have HB:=aa hb;have aH:=L7.out.below hb L7.out.lt;have c7:w1.cell? ⟨b7,0,none⟩=some Nil:=aH.cell 0 _ rfl;have f7:=aH.free 0;have dh:=aa aH;clear ho hb aH))
 go_ret;refine⟨rfl,o,c,dh.set 0 _,HO.reads.dO dh.out (fun j x => ?_) (au _ _ _ _),jh.o7 HO.out,(Kp.all HB.out).trans (Kp.aI (au w1 b7 0 _) fun b _ e _ h=>by simp only[Option.some.injEq]at e;exact h e.symm)⟩
 match j with
 | 0=>simp
 | j+1=>simp
theorem iR.set{T S:Nat->Prop}{w w4 w' : World}{g d:Nat}{F:Dk.av}{B:List Dk.Op}{n f f' : Int}{h k:Hd.az}{vi va vc ui ua uc:Value}(l:iR T S w g d F B n f h vi va vc)(hS : ∀k,S k->k<w.heap.size)(hb:Below w.heap.size w w4)
 (hr:bL (fun b=>w.heap.size<=b) w4 k ui ua uc) (hg:w4.grownBy w' (some g)) (hl:ae w' g 78 (Wl.cells (Wl.ptr d) n f' k ui ua uc)):iR (fun j=>T j∨w.heap.size<=j) S w' g d F B n f' k ui ua uc:=by
 have hlt:=l.ag.lt;refine⟨(l.I4.below hb).keep (Kp.aI hg fun b o e _ hs=>by simp only[Option.some.injEq]at e;subst e;exact(l.sub _ hs).2 rfl),fun k hs=>⟨.inl (l.sub k hs).1,(l.sub k hs).2⟩, .inl l.here,hl,(hr.keep (dS.aI hg fun b cs t fr e _ hp=>by simp only[Option.some.injEq]at e;omega)).imp fun b hb=>⟨.inr hb,fun hs => ?_,by omega⟩⟩
 have:=hS b hs;omega
def Pr(T S:Nat->Prop)(w:World)(g d:Nat)(F:Dk.av)(B:List Dk.Op)(n f:Int)(h:Hd.az)(e:Ending)(w' : World):Prop :=
 e = .returned (.int .i64 0) ∧ ∃S' vi va vc,iR (fun j=>T j∨w.heap.size<=j) S' w' g d F B n f h vi va vc∧Kp (fun j _ => ¬S j∧j≠g) w w'
theorem ER{T S:Nat->Prop}{w:World}{g d:Nat}{F:Dk.av}{B:List Dk.Op}{n0 f0:Int}{h0:Hd.az}{VB va0 vc0:Value}(l:iR T S w g d F B n0 f0 h0 VB va0 vc0)(hS : ∀k,S k->k<w.heap.size)(b3 b4 b5 b7:Nat)(f:Int)(h:Hd.az)(vi va vc:Value)
 (l3:ae w b3 27 #[Wl.ptr g]) (l4:ae w b4 3 #[.int .i64 f]) (l5:aB w b5 33 h.aC h.base vi va vc) (o:Option Addr) (c:Nat) (head:List UInt8) (l7:ae w b7 30 #[.slice o head.length c])
 (hq : ∀b,b=b3∨b=b4∨b=b5∨b=b7 -> ¬S b∧b≠g) (hr:bL (fun b => ¬S b∧b≠g) w h vi va vc) (hf:h.G2) (hv:Reads w (.slice o head.length c) head) (hvp:jh (fun b => ¬S b) (.slice o head.length c)) (hh:head.length<=1000000) {N M:Nat} (s:Wl.eJ F B N M) (hN:N<=900) (hM:M<=1000000000) :
 Calls Tryz.prog 66 #[Wl.ptr b3,Wl.ptr b7,Wl.ptr b4,Wl.ptr b5] w (Pr T S w g d F (B++Wl.cv (Wl.next F B) head (Dk.all F B)) (Wl.next F B) f h):=by
 have OX:=l.keep (Kp.drew w);have uE:=aa (Dx OX.I4 s (by omega) hM)
 have OZ:=Wl.mL F B;have hnq:=s.next;have M0:=aa (fun W (hb:Below w.heap.size w W)=>wu (l.keep (Kp.all hb)) (fun k hk=>Nat.lt_of_lt_of_le (hS k hk) hb.size) (Wl.next F B) ⟨OZ,by omega⟩ (.slice o head.length c) head (hv.below hb) hvp hh s (by omega) hM)
 obtain⟨z,hz⟩ : ∃z,z=Wl.next F B:=⟨_,rfl⟩;rw[<- hz]at uE M0 ⊢
 obtain⟨B', Nl⟩ : ∃B', B' = B++Wl.cv z head (Dk.all F B):=⟨_,rfl⟩;rw[<- Nl]at M0 ⊢
 have k3:w.drew.cell? ⟨b3,0,none⟩=some (Wl.ptr g):=l3.cell 0 _ rfl;have kg:w.drew.cell? ⟨g,0,none⟩=some (Wl.ptr d):=OX.ag.cell 0 _ rfl;have k7:w.drew.cell? ⟨b7,0,none⟩=some (.slice o head.length c):=l7.cell 0 _ rfl;have L3:=aa l3;have L4:=aa l4;have L5:=aa l5;have L7:=aa l7;have HQ:=aa hq;have HR:=aa hr;have HF:=aa hf;have LL:=aa l;obtain⟨nh,hnh⟩ : ∃n,n=head.length:=⟨_,rfl⟩;rw[<- hnh]at k7 L7 M0
 clear l3 l4 l5 l7 hq hr hf hv hvp hh s hM hN OX OZ hnq hz Nl l hnh
 go_enter Tryz.func66,Tryz.ntmps66
 go_wp2;refine wp_region_held_drew (S:=fun W=>W.cell? ⟨b3,0,none⟩=some (Wl.ptr g)∧W.cell? ⟨g,0,none⟩=some (Wl.ptr d)∧W.cell? ⟨b7,0,none⟩=some (.slice o nh c)) (by kernel_rfl) ⟨k3,kg,k7⟩ (fun hHeld => ?_)
 clear k3 kg k7;refine bH 0 rfl hHeld ?_ (by intro W hSw;obtain⟨s1,s2,s3⟩:=hSw;go_simp;(try with_reducible rfl))
 refine bH 1 rfl hHeld ?_ (by intro W hSw;obtain⟨s1,s2,s3⟩:=hSw;go_simp;(try with_reducible rfl))
 refine bH 2 rfl hHeld ?_;refine bH 3 rfl hHeld ?_;refine bH 4 rfl hHeld ?_ (by intro W hSw;obtain⟨s1,s2,s3⟩:=hSw;go_simp;(try with_reducible rfl))
 refine bH 6 rfl hHeld ?_ (by intro W hSw;obtain⟨s1,s2,s3⟩:=hSw;go_simp;(try with_reducible rfl))
 refine wpAnyH_ready (rs := [5]) (by kernel_rfl) (by simp) ?_
 refine AllReadyH.cons rfl (fun K hK => ?_) AllReadyH.nil
 rw[if_pos (by kernel_rfl)]
 go_simp
 go_at_call 68
 refine uE.mono ?_;rintro e w2 ⟨rfl,hb2⟩;have aR:Hid (Below w.heap.size w w2):=on (drawn w 1) hb2;refine hK.out _ _ ⟨(L3.out.below aR.out L3.out.lt).cell 0 _ rfl,(LL.out.ag.below aR.out LL.out.ag.lt).cell 0 _ rfl,(L7.out.below aR.out L7.out.lt).cell 0 _ rfl⟩ (fun hHeld => ?_)
 clear hK K hb2 uE;refine wpAnyH_ready (rs := [7]) (by kernel_rfl) (by simp) ?_
 refine AllReadyH.cons rfl (fun K hK => ?_) AllReadyH.nil
 rw[if_pos (by kernel_rfl)]
 go_simp
 go_at_call 67
 refine(M0.out w2 aR.out).mono ?_;rintro e w3 ⟨rfl,S3,fk,hs3,hk3⟩;have fY:=aa fk;have jz:Hid (Kp (fun j _ => ¬S j∧j≠g) w w3):=(Kp.all aR.out).trans hk3
 have M3:Hid (ae w3 b3 27 #[Wl.ptr g]):=jz.ag L3.out fun _=>HQ.out b3 (by simp)
 have M7:Hid (ae w3 b7 30 #[.slice o nh c]):=jz.ag L7.out fun _=>HQ.out b7 (by simp)
 have M4:Hid (ae w3 b4 3 #[.int .i64 f]):=jz.ag L4.out fun _=>HQ.out b4 (by simp)
 have M5:Hid (aB w3 b5 33 h.aC h.base vi va vc):=⟨jz.ag L5.out.ag fun _=>HQ.out b5 (by simp),L5.out.vi,L5.out.va,L5.out.vc⟩
 have oH:=aa (HR.keep (jz.keep fun _ _ _ _ _ hp=>hp))
 have zU:=aa hs3;refine hK.out _ _ ⟨M3.out.cell 0 _ rfl,fk.ag.cell 0 _ rfl,M7.out.cell 0 _ rfl⟩ (fun hHeld => ?_)
 clear hK K fk hs3 hk3 M0 L3 L4 L5 L7 M7;refine wpAnyH_done (by kernel_rfl) ?_ _
 clear hHeld;obtain⟨c0,c1,c2,c3,c4,c5⟩:=M5.out.all;have k3:w3.drew.cell? ⟨b3,0,none⟩=some (Wl.ptr g):=M3.out.cell 0 _ rfl;have k4:w3.drew.cell? ⟨b4,0,none⟩=some (.int .i64 f):=M4.out.cell 0 _ rfl;obtain⟨⟨io,ik,ic,rfl⟩,⟨ao,ak,ac,rfl⟩,⟨co,ck,cc,rfl⟩⟩:=oH.rows.sl;obtain⟨⟨jo,jk,jc,rfl⟩,⟨po,pk,pc,rfl⟩,⟨qo,qk,qc,rfl⟩⟩:=fY.yS.rows.sl;go_wp2;refine wp_region_held_drew (S:=fun W=>W.cell? ⟨b3,0,none⟩=some (Wl.ptr g)∧W.cell? ⟨b4,0,none⟩=some (.int .i64 f)∧ae W b5 33 (Hd.fQ h.aC h.base (.slice io ik ic) (.slice ao ak ac) (.slice co ck cc))) (by kernel_rfl) ⟨k3,k4,M5.out.ag⟩ (fun hHeld => ?_)
 clear k3 k4 c0 c1 c2 c3 c4 c5;refine bH 0 rfl hHeld ?_ (by intro W hSw;obtain⟨s1,s2,s3⟩:=hSw;go_simp;(try with_reducible rfl))
 refine bH 1 rfl hHeld ?_ (by intro W hSw;obtain⟨s1,s2,s3⟩:=hSw;go_simp;(try with_reducible rfl))
 refine bH 2 rfl hHeld ?_ (by intro W hSw;obtain⟨s1,s2,s3⟩:=hSw;go_simp;(try with_reducible rfl))
 refine bH 3 rfl hHeld ?_ (by intro W hSw;obtain⟨s1,s2,s3⟩:=hSw;obtain⟨q0,q1,q2,q3,q4,q5⟩:=(⟨s3,⟨_,_,_,rfl⟩,⟨_,_,_,rfl⟩,⟨_,_,_,rfl⟩⟩:aB W b5 33 h.aC h.base (.slice io ik ic) (.slice ao ak ac) (.slice co ck cc)).all;go_simp;(try with_reducible rfl))
 refine wpAnyH_ready (rs := [4]) (by kernel_rfl) (by simp) ?_
 refine AllReadyH.cons rfl (fun K hK => ?_) AllReadyH.nil
 rw[if_pos (by kernel_rfl)]
 go_simp
 go_at_call 56
 refine(Bq h (.slice io ik ic) (.slice ao ak ac) (.slice co ck cc) w3.drew (oH.rows.below (drawn w3 1)) HF.out).mono ?_;rintro e w4 ⟨ti,ta,tc,rfl,hr4,hb4⟩;obtain⟨⟨R5, tk,R6, rfl⟩,⟨uo,uk,uc,rfl⟩,⟨xo,xk,xc,rfl⟩⟩:=hr4.rows.sl;have bJ:Hid (Below w3.heap.size w3 w4):=on (drawn w3 1) hb4;have rY:=aa hr4;have zF:=aa (fY.keep (Kp.all bJ.out));have OY : Hid (g≠b3∧g≠b4∧g≠b5):=⟨fun e=>(HQ.out b3 (by simp)).2 e.symm,fun e=>(HQ.out b4 (by simp)).2 e.symm,fun e=>(HQ.out b5 (by simp)).2 e.symm⟩
 have tv:Hid (ae w4 b3 27 #[Wl.ptr g]∧ae w4 b4 3 #[.int .i64 f]∧ae w4 b5 33 (Hd.fQ h.aC h.base (.slice io ik ic) (.slice ao ak ac) (.slice co ck cc))):=⟨M3.out.below bJ.out M3.out.lt,M4.out.below bJ.out M4.out.lt,M5.out.ag.below bJ.out M5.out.ag.lt⟩;refine hK.out _ _ ⟨tv.1.cell 0 _ rfl,tv.2.1.cell 0 _ rfl,tv.2.2⟩ (fun hHeld => ?_)
 clear hK K hr4 hb4;refine bH 5 rfl hHeld ?_;refine bH 6 rfl hHeld ?_;refine wpAnyH_ready (rs := [7]) (by kernel_rfl) (by simp) ?_
 refine bq 7 3 (.tmp 19) (.tmp 15) rfl rfl rfl g 2 78 (Wl.cells (Wl.ptr d) z f0 h0 (.slice jo jk jc) (.slice po pk pc) (.slice qo qk qc)) (Wl.cells (Wl.ptr d) z f h0 (.slice jo jk jc) (.slice po pk pc) (.slice qo qk qc)) (.int .i64 f) [.int .i64 f] ?x7 ?y7 rfl (by kernel_rfl) rfl zF.ag (Nat.le_of_ble_eq_true rfl) rfl ?k7
 case x7=>kernel_rfl
 case y7=>kernel_rfl
 intro w5 eN bU
 have gQ:=aa eN;have j3:=aa bU;clear eN bU;refine⟨⟨(tv.1.kept j3.out (by simp;exact OY.1.symm)).cell 0 _ rfl,(tv.2.1.kept j3.out (by simp;exact OY.2.1.symm)).cell 0 _ rfl,tv.2.2.kept j3.out (by simp;exact OY.2.2.symm)⟩,fun hHeld => ?_⟩
 refine bH 8 rfl hHeld ?_;refine bH 9 rfl hHeld ?_;refine wpAnyH_ready (rs := [10]) (by kernel_rfl) (by simp) ?_
 refine bq 10 33 (.tmp 21) (.tmp 17) rfl rfl rfl g 3 78 (Wl.cells (Wl.ptr d) z f h0 (.slice jo jk jc) (.slice po pk pc) (.slice qo qk qc)) (Wl.cells (Wl.ptr d) z f h (.slice R5 tk R6) (.slice uo uk uc) (.slice xo xk xc)) (.agg (Hd.cells h (.slice R5 tk R6) (.slice uo uk uc) (.slice xo xk xc))) (Hd.cells h (.slice R5 tk R6) (.slice uo uk uc) (.slice xo xk xc)).toList ?x10 ?JH rfl (by kernel_rfl) rfl gQ.out (Nat.le_of_ble_eq_true rfl) rfl ?TT
 case x10=>kernel_rfl
 case JH=>kernel_rfl
 intro w6 eZ dt
 have dX:=aa eZ;have pG:=aa (aM j3.out dt);refine⟨⟨((tv.1.kept j3.out (by simp;exact OY.1.symm)).kept dt (by simp;exact OY.1.symm)).cell 0 _ rfl,((tv.2.1.kept j3.out (by simp;exact OY.2.1.symm)).kept dt (by simp;exact OY.2.1.symm)).cell 0 _ rfl,(tv.2.2.kept j3.out (by simp;exact OY.2.2.symm)).kept dt (by simp;exact OY.2.2.symm)⟩,fun hHeld => ?_⟩
 clear eZ dt;refine wpAnyH_done (by kernel_rfl) ?_ _
 clear hHeld;go_wp2;go_ret;have hw3:w.heap.size<=w3.heap.size:=jz.size;have gP:=(fY.tight).set (fun k hk=>hk.2) bJ.out rY.out pG.out dX.out
 refine⟨rfl,_,_,_,_,gP.imp fun j hj => ?_,jz.trans ((Kp.all bJ.out).trans (Kp.aI pG.out fun b o e _ h=>by simp only[Option.some.injEq]at e;exact h.2 e.symm))⟩
 have hw2:=aR.size;rcases hj with ⟨hj | hj,_⟩ | hj
 ·exact .inl hj
 ·exact .inr (by omega)
 ·exact .inr (by omega)
end Go.Proofs.YtdkdjofnnnljjaaGreatDoor

namespace Go.Proofs.YtdkdjofnnnljjaaGreatDoor
open Go.RowKit
set_option maxHeartbeats 3200000
set_option maxRecDepth 8000
def iT(T:Nat->Prop)(w:World)(g d:Nat)(F:Dk.av)(B:List Dk.Op)(n0 f0:Int)(h0:Hd.az)(f:Int)(h:Hd.az)(r:List UInt8 × Int)(e:Ending)(w' : World):Prop :=
 e = .returned (.int .i64 r.2)∧((r.2=0∧iX T w g d F (B++Wl.cv (Wl.next F B) r.1 (Dk.all F B)) (Wl.next F B) f h w')∨(r.2≠0∧iX T w g d F B n0 f0 h0 w'))
theorem bR(w:World)(T:TypeId)(vs:Array Value) : ∃w1,w.alloc (.cells vs T)=w1∧ae w1 w.heap.size T vs∧Below w.heap.size w w1∧w1.heap.size=w.heap.size+1:=⟨_,rfl,ae.new _ _ _,(Below.refl _ w).alloc (Nat.le_refl _) _,by simp⟩
theorem xL(c x:Int)(j:Nat):(#[.int .i64 c]:Array Value)[j]? ≠ some (.int .u8 x):=by
 match j with
 | 0=>simp
 | j+1=>simp
theorem iX.outer{T:Nat->Prop}{w w7 w8 w9:World}{g d:Nat}{F:Dk.av}{B:List Dk.Op}{n f:Int}{h:Hd.az}{k:Nat}(hb:Below w.heap.size w w7)(l:iX (fun j=>T j∧j<w.heap.size) w7 g d F B n f h w8)(hg:w8.grownBy w9 (some k))(hk:w.heap.size<=k∧k<w7.heap.size):iX T w g d F B n f h w9:=by
 have hs:=hb.size;refine⟨(l.1.keep (Kp.aI hg fun b o e _ kB => ?_)).imp fun j hj => ?_,((Kp.all hb).then l.2 fun b _ _ hn kB => hn kB.1).then (Kp.aI (q:=fun b _=>b<w.heap.size) hg fun b o e _ kB => by simp only[Option.some.injEq]at e;omega) fun b o h _=>aK h⟩
 ·simp only[Option.some.injEq]at e
  rcases kB with kB | kB
  ·have:=kB.2;omega
  ·omega
 ·rcases hj with hj | hj
  ·exact .inl hj.1
  ·exact .inr (by omega)
theorem sP{T:Nat->Prop}{w:World}{g d:Nat}{F:Dk.av}{B:List Dk.Op}{n0 f0:Int}{h0:Hd.az}(l:cW T w g d F B n0 f0 h0)(f:Int)(h:Hd.az)(vi va vc:Value)(hr:bL (fun b => ¬T b) w h vi va vc)(hf:h.G2)
 (r:List UInt8 × Int) (hc : ∀W,Below w.heap.size w W->Calls Tryz.prog 65 #[.int .i64 f, .agg (Hd.cells h vi va vc)] W (kF W r)) (hh:r.1.length<=1000000) {N M:Nat} (s:Wl.eJ F B N M) (hN:N<=900) (hM:M<=1000000000) :
 Calls Tryz.prog 36 #[Wl.ptr g, .int .i64 f, .agg (Hd.cells h vi va vc)] w (iT T w g d F B n0 f0 h0 f h r):=by
 have zJ : ∀(fn:Fn) (first cap:Array Value) (w:World),(Instr.makeFunc fn first cap).run Tryz.prog w = .ok (.func fn first cap) w:=fun _ _ _ _=>rfl
 have BD:=aa l;obtain⟨S,VB,va0,vc0,l⟩:=l;have Il:=aa l.sub;have Ur:=aa l.here;have hlt:=l.tight;have kH:=l.ag.lt;obtain⟨w1,e1,l3,hb1,hs1⟩:=bR w 27 #[Wl.ptr g];obtain⟨w2,e2,l4,hb2,hs2⟩:=bR w1 3 #[.int .i64 f];obtain⟨w3,e3,l5,hb3,hs3⟩:=eL w2 33 h vi va vc ((hr.below hb1).below (hb2) ).rows;obtain⟨w4,e4,l7,hb4,tY⟩:=bR w3 30 #[Nil];obtain⟨w5,e5,lk,ew,hs5⟩:=bR w4 34 #[.int .i64 0];obtain⟨b3,pB⟩ : ∃b,b=w.heap.size:=⟨_,rfl⟩;obtain⟨b4,Er⟩ : ∃b,b=w1.heap.size:=⟨_,rfl⟩;obtain⟨b5,pC⟩ : ∃b,b=w2.heap.size:=⟨_,rfl⟩;obtain⟨b7,R8⟩ : ∃b,b=w3.heap.size:=⟨_,rfl⟩;obtain⟨k,Eo⟩ : ∃b,b=w4.heap.size:=⟨_,rfl⟩;have bK:Hid (Below w.heap.size w w5):=(((hb1.trans (hb2.mono hb1.size)).trans (hb3.mono (by omega))).trans (hb4.mono (by omega))).trans (ew.mono (by omega))
 have L3:Hid (ae w5 b3 27 #[Wl.ptr g]):=by rw[pB];exact(((l3.below hb2 (by omega)).below hb3 (by omega)).below hb4 (by omega)).below ew (by omega)
 have L4:Hid (ae w5 b4 3 #[.int .i64 f]):=by rw[Er];exact((l4.below hb3 (by omega)).below hb4 (by omega)).below ew (by omega)
 have L5:Hid (aB w5 b5 33 h.aC h.base vi va vc):=by rw[pC];exact(l5.below hb4 (by omega)).below ew (by omega)
 have L7:Hid (ae w5 b7 30 #[Nil]):=by rw[R8];exact l7.below ew (by omega)
 have LK:Hid (ae w5 k 34 #[.int .i64 0]):=by rw[Eo];exact lk
 have nR:Hid (w.heap.size<=b3∧w.heap.size<=b4∧w.heap.size<=b5∧w.heap.size<=b7∧w.heap.size<=k∧b3≠b7∧b4≠b7∧b5≠b7∧b7≠k∧b3≠k∧b4≠k∧b5≠k):=⟨by omega,by omega,by omega,by omega,by omega,by omega,by omega,by omega,by omega,by omega,by omega,by omega⟩
 have V0:=aa hlt;have HR:=aa hr;have HF:=aa hf;have HH:=aa hh;have PB:=aa s;have Vi:Hid (N<=900∧M<=1000000000):=⟨hN,hM⟩;have Us:=aa kH;have HC:=aa (hc w5 bK.out);clear l3 l4 l5 l7 lk hb1 hb2 hb3 hb4 ew hs1 hs2 hs3 tY hs5 hlt hr hf hh s hN hM kH l hc;obtain⟨Q,hQ⟩ : ∃Q,Q=iT T w g d F B n0 f0 h0 f h r:=⟨_,rfl⟩;rw[<- hQ];have HQ:=aa hQ;clear hQ
 go_enter Tryz.func36,Tryz.ntmps36
 go_wp2_with fail
 refine(ko w4).mono ?_;rintro e w5' ⟨rfl,rfl⟩;rw[e5, <- pB, <- Er, <- pC, <- R8, <- Eo];clear e1 e2 e3 e4 e5 pB Er pC R8 Eo
 go_wp2_with fail
 refine eT _ _ k w5 (fun W=>enters_of Tryz.func64 (by kernel_rfl) rfl _ W) LK.out ?_
 refine(EP b4 b5 b7 f h vi va vc r w5 L4.out L5.out L7.out HC.out).mono ?_;rintro e w6 ⟨rfl,o,c,l7,hv,hvp,sO⟩;obtain⟨n3,n4,n5,n7,nk,n37,n47,n57,Wf,Ot,Uu,Mh⟩:=nR.out;refine⟨r.2,rfl,sO.ag LK.out (fun _=>Wf.symm),fun w7 Rm cr => ?_⟩
 have Ro:Below w.heap.size w5 w6:=sO.below bK.size fun b _ hb _=>by omega
 have bw:Hid (Below w.heap.size w w7):=(bK.trans Ro).grown cr (Nat.le_trans bK.size Ro.size) (by rintro j hj;cases hj;exact nk)
 have M3:Hid (ae w7 b3 27 #[Wl.ptr g]):=(sO.ag L3.out fun _=>n37).kept cr (by simpa using Ot)
 have M4:Hid (ae w7 b4 3 #[.int .i64 f]):=(sO.ag L4.out fun _=>n47).kept cr (by simpa using Uu)
 have M5:Hid (aB w7 b5 33 h.aC h.base vi va vc):=(⟨sO.ag L5.out.ag fun _=>n57,L5.out.vi,L5.out.va,L5.out.vc⟩:aB w6 b5 33 h.aC h.base vi va vc).kept cr Mh
 have M7:Hid (ae w7 b7 30 #[.slice o r.1.length c]):=l7.kept cr (by simpa using Wf)
 have HV:Hid (Reads w7 (.slice o r.1.length c) r.1):=hv.dO (sO.ag LK.out fun _=>Wf.symm) (fun j x=>xL 0 x j) cr
 have VO:=aa hvp;have Im:=aa Rm;have Y2:=aa bK.size;clear l7 hv hvp sO cr Rm Ro L3 L4 L5 L7 LK HC bK n3 n4 n5 n7 nk n37 n47 n57 Wf Ot Uu Mh;dsimp only;by_cases h0:r.2=0
 ·rw[h0]at Im
  have H0:=aa h0;rw[h0];clear h0
  go_wp2_with fail
  refine eT _ _ k w7 (fun W=>enters_of Tryz.func66 (by kernel_rfl) rfl _ W) Im.out ?_
  have dH:=V0.keep (Kp.all bw.out);have tj:=bw.size;refine(ER dH (fun j hj=>Nat.lt_of_lt_of_le hj.2 tj) b3 b4 b5 b7 f h vi va vc M3.out M4.out M5.out o c r.1 M7.out (fun b hb => ?_) ((HR.tight.below bw.out).imp fun b hb=>⟨fun hs=>hb.1 (Il.out b hs.1).1,fun e=>hb.1 (e ▸ Ur.out)⟩) HF.out HV.out (VO.imp fun b hb hs => ?_) HH.out PB.out Vi.1 Vi.2).mono ?_
  ·obtain⟨n3,n4,n5,n7,_⟩:=nR.out
   have:=Us.out;have hb' : w.heap.size<=b:=by omega
   exact⟨fun hs=>by have:=hs.2;omega,by omega⟩
  ·have:=hs.2
   have:=Y2.out;omega
  ·rintro e w8 ⟨rfl,S8,ui,ua,uc,Ps,fI⟩
   have nk:=nR.2.2.2.2.1;have kH:=Us.out;refine⟨0,rfl,fI.ag Im.out (fun _=>⟨fun hs=>by have:=hs.2;omega,by omega⟩),fun w9 XU cM => ?_⟩
   have hk:k<w7.heap.size:=Im.out.lt;have gP:cW (fun j=>T j∨w.heap.size<=j) w9 g d F (B++Wl.cv (Wl.next F B) r.1 (Dk.all F B)) (Wl.next F B) f h:=⟨S8,ui,ua,uc,(Ps.keep (Kp.aI cM fun b o' e _ hs=>by
    simp only[Option.some.injEq]at e
    rcases hs with hs | hs
    ·have:=hs.2;omega
    ·omega)).imp fun j hj=>by
    rcases hj with hj | hj
    ·exact .inl hj.1
    ·exact .inr (by omega)⟩
   have hkk:Kp (fun j _ => ¬T j) w w9:=((Kp.all bw.out).then fI fun b o' _ hs=>⟨fun kB => hs (Il.out b kB.1).1,fun e=>hs (e ▸ Ur.out)⟩).then (Kp.aI (q:=fun b _=>b<w.heap.size) cM fun b o' e _ hs=>by simp only[Option.some.injEq]at e;omega) fun b o' h _=>aK h
   have oy:=aa gP;have Sf:=aa hkk;clear Ps fI gP hkk XU cM tj dH;dsimp only;go_wp2;rw[HQ.out];exact⟨by rw[H0.out];rfl, .inl ⟨H0.out,oy.out,Sf.out⟩⟩
 ·have H0:=aa h0
  obtain⟨z,hz⟩ : ∃z,z=r.2:=⟨_,rfl⟩;rw[<- hz]at Im h0 ⊢
  have HZ:=aa hz;clear hz
  go_wp2_with fail
  refine nu _ k w7 z h0 Im.out ?_;dsimp only;clear h0;go_wp2;rw[HQ.out];exact⟨by rw[<- HZ.out];rfl, .inr ⟨H0.out,iX.same BD.out bw.out⟩⟩
end Go.Proofs.YtdkdjofnnnljjaaGreatDoor

namespace Go.Proofs.YtdkdjofnnnljjaaGreatDoor
open Go.RowKit
set_option maxHeartbeats 3200000
set_option maxRecDepth 8000
theorem Mg(b g:Nat)(w:World)(l:ae w b 27 #[Wl.ptr g]):Calls Tryz.prog 37 #[Wl.ptr b] w (Says w (.int .i64 0)):=by
 have c0:w.cell? ⟨b,0,none⟩=some (Wl.ptr g):=l.cell 0 _ rfl;clear l
 go_enter Tryz.func37,Tryz.ntmps37
 go_wp2_with (go_at_call 32;refine(nv true w).mono ?_;rintro e w' ⟨rfl,rfl⟩)
 go_ret;exact⟨rfl,rfl⟩
theorem Es(b g:Nat)(w:World)(l:ae w b 27 #[Wl.ptr g]):Calls Tryz.prog 46 #[Wl.ptr b] w (Says w (.int .i64 0)):=by
 have c0:w.cell? ⟨b,0,none⟩=some (Wl.ptr g):=l.cell 0 _ rfl;clear l
 go_enter Tryz.func46,Tryz.ntmps46
 go_wp2_with (go_at_call 32;refine(nv true w).mono ?_;rintro e w' ⟨rfl,rfl⟩)
 go_ret;exact⟨rfl,rfl⟩
theorem IL(b g:Nat)(w:World)(l:ae w b 25 #[Wl.ptr g]):Calls Tryz.prog 31 #[Wl.ptr b] w (Says w (.int .i64 0)):=by
 have c0:w.cell? ⟨b,0,none⟩=some (Wl.ptr g):=l.cell 0 _ rfl;clear l
 go_enter Tryz.func31,Tryz.ntmps31
 go_wp2_with (go_at_call 32;refine(nv true w).mono ?_;rintro e w' ⟨rfl,rfl⟩)
 go_ret;exact⟨rfl,rfl⟩
theorem Mi(b2 b3 b5 g:Nat)(dv:Value)(n f:Int)(h:Hd.az)(vi va vc:Value)(x:Re.Rec)(xo:Option Addr)(xc:Nat)(r:List UInt8 × Int)(w:World)(l2:ae w b2 27 #[Wl.ptr g])(lg:ae w g 78 (Wl.cells dv n f h vi va vc))(l3:ai w b3 x (.slice xo x.aw.length xc))(l5:ae w b5 30 #[Nil])(hne:b2≠b5∧g≠b5∧b3≠b5)
 (hc : ∀W,Below w.heap.size w W->Calls Tryz.prog 39 #[.int .i64 f, .agg (Re.cells x (.slice xo x.aw.length xc))] W (kF W r)) :
 Calls Tryz.prog 38 #[Wl.ptr b2,Wl.ptr b3,Wl.ptr b5] w (MZ b5 r w):=by
 have HC:=aa (hc w.drew (drawn w 1));have L5:=aa l5;have L3:=aa l3;have LG:=aa lg;have L2:=aa l2;have nR:=aa hne;have k2:w.drew.cell? ⟨b2,0,none⟩=some (Wl.ptr g):=l2.cell 0 _ rfl;have kg:w.drew.cell? ⟨g,2,none⟩=some (.int .i64 f):=lg.cell 2 _ rfl;obtain⟨nx,iC⟩ : ∃n,n=x.aw.length:=⟨_,rfl⟩;rw[<- iC]at HC L3 l3
 clear hc l5 l2 lg iC hne
 go_enter Tryz.func38,Tryz.ntmps38
 go_wp2;refine wp_region_held_drew (S:=fun W=>W.cell? ⟨b2,0,none⟩=some (Wl.ptr g)∧W.cell? ⟨g,2,none⟩=some (.int .i64 f)∧ai W b3 x (.slice xo nx xc)) (by kernel_rfl) ⟨k2,kg,L3.out⟩ (fun hHeld => ?_)
 clear k2 kg l3;refine bH 0 rfl hHeld ?_ (by intro W hSw;obtain⟨s1,s2,s3⟩:=hSw;go_simp;(try with_reducible rfl))
 refine bH 1 rfl hHeld ?_;refine bH 2 rfl hHeld ?_;refine bH 3 rfl hHeld ?_ (by intro W hSw;obtain⟨s1,s2,s3⟩:=hSw;go_simp;(try with_reducible rfl))
 refine bH 4 rfl hHeld ?_ (by intro W hSw;obtain⟨s1,s2,s3⟩:=hSw;obtain⟨q0,q1,q2,q3,q4,q5,q6,q7,q8,q9,VC,VD⟩:=ai.all s3;go_simp;(try with_reducible rfl))
 refine wpAnyH_ready (rs := [5]) (by kernel_rfl) (by simp) ?_
 refine AllReadyH.cons rfl (fun K hK => ?_) AllReadyH.nil
 rw[if_pos (by kernel_rfl)]
 go_simp
 go_at_call 39
 refine HC.mono ?_;rintro e w1 ⟨u,rfl,ho,hb⟩;obtain⟨o,c,rfl⟩:=ho.reads.shape;have HB:Hid (Below w.heap.size w w1):=on (drawn w 1) hb;have HO:=aa ho;have dh:=aa (L5.out.below HB.out L5.out.lt);have HS:Hid (ae w1 b2 27 #[Wl.ptr g]∧ae w1 g 78 (Wl.cells dv n f h vi va vc)∧ai w1 b3 x (.slice xo nx xc)):=⟨L2.out.below HB.out L2.out.lt,LG.out.below HB.out LG.out.lt,L3.out.below HB.out L3.out.lt⟩;refine hK.out _ _ ⟨HS.1.cell 0 _ rfl,HS.2.1.cell 2 _ rfl,HS.2.2⟩ (fun hHeld => ?_)
 clear hK K ho hb;obtain⟨nr,Y3⟩ : ∃n,n=r.1.length:=⟨_,rfl⟩;obtain⟨z,hz⟩ : ∃z,z=r.2:=⟨_,rfl⟩;rw[<- Y3, <- hz];have HNR:=aa Y3;have HZ:=aa hz;clear Y3 hz;refine bH 6 rfl hHeld ?_;refine bH 7 rfl hHeld ?_;refine bH 8 rfl hHeld ?_;refine wpAnyH_ready (rs := [9]) (by kernel_rfl) (by simp) ?_
 refine bq 9 30 (.tmp 2) (.tmp 11) rfl rfl rfl b5 0 30 #[Nil] #[.slice o nr c] (.slice o nr c) [.slice o nr c] ?x9 ?y9 rfl (by kernel_rfl) rfl dh.out (Nat.le_of_ble_eq_true rfl) rfl ?k9
 case x9=>kernel_rfl
 case y9=>kernel_rfl
 intro w2 hl2 hg2
 have ej:=aa hl2;have mg:=aa hg2;obtain⟨n1,n2,n3⟩:=nR.out;refine⟨⟨(HS.1.kept hg2 (by simpa using n1)).cell 0 _ rfl,(HS.2.1.kept hg2 (by simpa using n2)).cell 2 _ rfl,HS.2.2.kept hg2 (by simpa using n3)⟩,fun hHeld => ?_⟩
 clear hl2 hg2 n1 n2 n3;refine bH 10 rfl hHeld ?_;refine wpAnyH_done (by kernel_rfl) ?_ _
 clear hHeld;go_wp2;go_ret;rw[HNR.out]at ej
 refine⟨by rw[HZ.out];rfl,o,c,ej.out,HO.reads.dO dh.out (fun j x => ?_) mg.out,(jh.o7 HO.out).imp fun b hb=>hb,(Kp.all HB.out).trans (Kp.aI mg.out fun b _ e _ h=>by simp only[Option.some.injEq]at e;exact h e.symm)⟩
 match j with
 | 0=>simp
 | j+1=>simp
def Vz(T S:Nat->Prop)(w:World)(g d:Nat)(F:Dk.av)(B:List Dk.Op)(n f:Int)(h:Hd.az)(e:Ending)(w' : World):Prop :=
 e = .returned (.int .i64 0) ∧ ∃S' vi va vc,iR (fun j=>T j∨w.heap.size<=j) S' w' g d F B n f h vi va vc∧Kp (fun j _ => ¬S j∧j≠g) w w'
theorem Mj{T S:Nat->Prop}{w:World}{g d:Nat}{F:Dk.av}{B:List Dk.Op}{n f:Int}{h:Hd.az}{vi va vc:Value}(l:iR T S w g d F B n f h vi va vc)(hS : ∀k,S k->k<w.heap.size)(b2 b3 b5:Nat)(x:Re.Rec)(xo:Option Addr)(xc:Nat)(o:Option Addr)(c:Nat)(b:List UInt8)
 (l2:ae w b2 27 #[Wl.ptr g]) (l3:ai w b3 x (.slice xo x.aw.length xc)) (l5:ae w b5 30 #[.slice o b.length c]) (hq : ∀k,k=b2∨k=b3∨k=b5 -> ¬S k∧k≠g) (hx:Reads w (.slice xo x.aw.length xc) x.aw) (Ha:jh (fun k => ¬S k∧k≠g) (.slice xo x.aw.length xc))
 (hv:Reads w (.slice o b.length c) b) (hW : ∀W,Kp (fun j _ => ¬S j) w W->bE W) (hb:b.length<=1000000) (hB:B.length<=1000000000) (hn:1<=n∧n<=4294967296) (hval:Hd.Valid h) (CG:h.acc.length<=800000∧h.bl.length<=800000) (hs:x.cmd.aD 140737488355328) :
 Calls Tryz.prog 40 #[Wl.ptr b2,Wl.ptr b5,Wl.ptr b3] w (Vz T S w g d F (B ++ [⟨2,n,b⟩]) n f (Hd.apply h x)):=by
 have OX:=l.keep (Kp.drew w);have G7:=aa (Fp OX.I4 n (.slice o b.length c) b (hv.below (drawn w 1)) (by omega) (by omega))
 have k2:w.drew.cell? ⟨b2,0,none⟩=some (Wl.ptr g):=l2.cell 0 _ rfl;have kg:w.drew.cell? ⟨g,0,none⟩=some (Wl.ptr d):=OX.ag.cell 0 _ rfl;have kn:w.drew.cell? ⟨g,1,none⟩=some (.int .i64 n):=OX.ag.cell 1 _ rfl;have k5:w.drew.cell? ⟨b5,0,none⟩=some (.slice o b.length c):=l5.cell 0 _ rfl;have LL:=aa l;have L2:=aa l2;have L3:=aa l3;have L5:=aa l5;have HQ:=aa hq;have HN:=aa hn;have HV:=aa hval;have HA:=aa CG;have Aj:=aa hs;have HWW:=aa hW;have HS:=aa hS;have Ak:=aa OX;have HX:=aa (Reads.AW hx Ha);obtain⟨nb,hnb⟩ : ∃n,n=b.length:=⟨_,rfl⟩;obtain⟨nx,iC⟩ : ∃n,n=x.aw.length:=⟨_,rfl⟩;rw[<- hnb]at G7 k5 L5
 rw[<- iC]at L3 HX
 clear l hS l2 l3 l5 hq hx Ha hv hW hb hB hn hval CG hs OX hnb iC
 go_enter Tryz.func40,Tryz.ntmps40
 go_wp2;refine wp_region_held_drew (S:=fun W=>W.cell? ⟨b2,0,none⟩=some (Wl.ptr g)∧W.cell? ⟨g,0,none⟩=some (Wl.ptr d)∧W.cell? ⟨g,1,none⟩=some (.int .i64 n)∧W.cell? ⟨b5,0,none⟩=some (.slice o nb c)) (by kernel_rfl) ⟨k2,kg,kn,k5⟩ (fun hHeld => ?_)
 clear k2 kg kn k5;refine bH 0 rfl hHeld ?_ (by intro W hSw;obtain⟨s1,s2,s3,s4⟩:=hSw;go_simp;(try with_reducible rfl))
 refine bH 1 rfl hHeld ?_;refine bH 2 rfl hHeld ?_;refine bH 3 rfl hHeld ?_ (by intro W hSw;obtain⟨s1,s2,s3,s4⟩:=hSw;go_simp;(try with_reducible rfl))
 refine bH 4 rfl hHeld ?_ (by intro W hSw;obtain⟨s1,s2,s3,s4⟩:=hSw;go_simp;(try with_reducible rfl))
 refine bH 5 rfl hHeld ?_;refine bH 6 rfl hHeld ?_;refine bH 7 rfl hHeld ?_ (by intro W hSw;obtain⟨s1,s2,s3,s4⟩:=hSw;go_simp;(try with_reducible rfl))
 refine bH 8 rfl hHeld ?_ (by intro W hSw;obtain⟨s1,s2,s3,s4⟩:=hSw;go_simp;(try with_reducible rfl))
 refine wpAnyH_ready (rs := [9]) (by kernel_rfl) (by simp) ?_
 refine AllReadyH.cons rfl (fun K hK => ?_) AllReadyH.nil
 rw[if_pos (by kernel_rfl)]
 go_simp
 go_at_call 41
 refine G7.mono ?_;rintro e w3 ⟨rfl,CE,hk3⟩;rw[if_pos HN.out]at CE
 have fk:=Ak.held CE hk3;have fY:=aa fk;have jz:Hid (Kp (fun j _ => ¬S j) w w3):=(Kp.drew w).trans hk3
 have M2:Hid (ae w3 b2 27 #[Wl.ptr g]):=jz.ag L2.out fun _=>(HQ.out b2 (by simp)).1
 have M3:Hid (ai w3 b3 x (.slice xo nx xc)):=jz.ag L3.out fun _=>(HQ.out b3 (by simp)).1
 have M5:Hid (ae w3 b5 30 #[.slice o nb c]):=jz.ag L5.out fun _=>(HQ.out b5 (by simp)).1
 have vN:=aa ((HX.keep (jz.keep fun _ _ _ _ _ hp=>hp.1)).1)
 refine hK.out _ _ ⟨M2.out.cell 0 _ rfl,fk.ag.cell 0 _ rfl,fk.ag.cell 1 _ rfl,M5.out.cell 0 _ rfl⟩ (fun hHeld => ?_)
 clear hK K CE hk3 fk G7 L2 L3 L5 M5;refine wpAnyH_done (by kernel_rfl) ?_ _
 clear hHeld;obtain⟨⟨jo,jk,jc,rfl⟩,⟨po,pk,pc,rfl⟩,⟨qo,qk,qc,rfl⟩⟩:=fY.yS.rows.sl;have k2:w3.drew.cell? ⟨b2,0,none⟩=some (Wl.ptr g):=M2.out.cell 0 _ rfl;have Fl:=aa (NZ h (.slice jo jk jc) (.slice po pk pc) (.slice qo qk qc) x (.slice xo nx xc) w3.drew (HWW.out _ (jz.trans (Kp.drew w3))) (fY.yS.rows.below (drawn w3 1)) HV.out HA.out (vN.below (drawn w3 1)) Aj.out);go_wp2;refine wp_region_held_drew (S:=fun W=>W.cell? ⟨b2,0,none⟩=some (Wl.ptr g)∧ai W b3 x (.slice xo nx xc)) (by kernel_rfl) ⟨k2,M3.out⟩ (fun hHeld => ?_)
 clear k2;refine bH 0 rfl hHeld ?_ (by intro W hSw;obtain⟨s1,s3⟩:=hSw;go_simp;(try with_reducible rfl))
 refine bH 1 rfl hHeld ?_ (by intro W hSw;obtain⟨s1,s3⟩:=hSw;go_simp;(try with_reducible rfl))
 refine bH 2 rfl hHeld ?_;refine bH 3 rfl hHeld ?_;refine bH 5 rfl hHeld ?_ (by intro W hSw;obtain⟨s1,s3⟩:=hSw;obtain⟨q0,q1,q2,q3,q4,q5,q6,q7,q8,q9,VC,VD⟩:=ai.all s3;go_simp;(try with_reducible rfl))
 have q0:w3.drew.cell? ⟨g,3,none⟩=some (.int .i64 h.aC.round):=fY.ag.cell 3 _ rfl;have q1:w3.drew.cell? ⟨g,4,none⟩=some (.int .i64 h.aC.node):=fY.ag.cell 4 _ rfl;have q2:w3.drew.cell? ⟨g,5,none⟩=some (.int .i64 h.base):=fY.ag.cell 5 _ rfl;have q3:w3.drew.cell? ⟨g,6,none⟩=some (.slice jo jk jc):=fY.ag.cell 6 _ rfl;have q4:w3.drew.cell? ⟨g,7,none⟩=some (.slice po pk pc):=fY.ag.cell 7 _ rfl;have q5:w3.drew.cell? ⟨g,8,none⟩=some (.slice qo qk qc):=fY.ag.cell 8 _ rfl;refine wpAnyH_ready (rs := [4]) (by kernel_rfl) (by simp) ?_
 refine AllReadyH.cons rfl (fun K hK => ?_) AllReadyH.nil
 rw[if_pos (by kernel_rfl)]
 go_simp;refine hK.out _ _ hHeld (fun hHeld => ?_)
 clear hK K q0 q1 q2 q3 q4 q5;refine wpAnyH_ready (rs := [6]) (by kernel_rfl) (by simp) ?_
 refine AllReadyH.cons rfl (fun K hK => ?_) AllReadyH.nil
 rw[if_pos (by kernel_rfl)]
 go_simp
 go_at_call 42
 refine Fl.mono ?_;rintro e w4 ⟨ti,ta,tc,rfl,hr4,hb4⟩;obtain⟨⟨R5, tk,R6, rfl⟩,⟨uo,uk,uc,rfl⟩,⟨yo,yk,yc,rfl⟩⟩:=hr4.rows.sl;have bJ:Hid (Below w3.heap.size w3 w4):=on (drawn w3 1) hb4;have rY:=aa hr4;have zF:=aa (fY.keep (Kp.all bJ.out));have tv:Hid (ae w4 b2 27 #[Wl.ptr g]∧ai w4 b3 x (.slice xo nx xc)):=⟨M2.out.below bJ.out M2.out.lt,M3.out.below bJ.out M3.out.lt⟩;refine hK.out _ _ ⟨tv.1.cell 0 _ rfl,tv.2⟩ (fun hHeld => ?_)
 clear hK K hr4 hb4;refine bH 7 rfl hHeld ?_;refine bH 8 rfl hHeld ?_;refine wpAnyH_ready (rs := [9]) (by kernel_rfl) (by simp) ?_
 refine bq 9 33 (.tmp 22) (.tmp 20) rfl rfl rfl g 3 78 (Wl.cells (Wl.ptr d) n f h (.slice jo jk jc) (.slice po pk pc) (.slice qo qk qc)) (Wl.cells (Wl.ptr d) n f (Hd.apply h x) (.slice R5 tk R6) (.slice uo uk uc) (.slice yo yk yc)) (.agg (Hd.cells (Hd.apply h x) (.slice R5 tk R6) (.slice uo uk uc) (.slice yo yk yc))) (Hd.cells (Hd.apply h x) (.slice R5 tk R6) (.slice uo uk uc) (.slice yo yk yc)).toList ?x9 ?y9 rfl (by kernel_rfl) rfl zF.ag (Nat.le_of_ble_eq_true rfl) rfl ?k9
 case x9=>kernel_rfl
 case y9=>kernel_rfl
 intro w5 eN bU
 have gQ:=aa eN;have j3:=aa bU;have Sj:=(HQ.out b2 (by simp)).2
 have Ng:=(HQ.out b3 (by simp)).2
 refine⟨⟨(tv.1.kept bU (by simpa using Sj)).cell 0 _ rfl,tv.2.kept bU (by simpa using Ng)⟩,fun hHeld => ?_⟩
 clear eN bU Sj Ng;refine wpAnyH_done (by kernel_rfl) ?_ _
 clear hHeld;go_wp2;go_ret;have hw3:w.heap.size<=w3.heap.size:=jz.size;have gP:=(fY.tight).set (fun k hk=>hk.2) bJ.out rY.out j3.out gQ.out
 refine⟨rfl,_,_,_,_,gP.imp fun j hj => ?_,(jz.imp fun b o _ h=>h.1).trans ((Kp.all bJ.out).trans (Kp.aI j3.out fun b o e _ h=>by simp only[Option.some.injEq]at e;exact h.2 e.symm))⟩
 have hwd:w.drew.heap.size=w.heap.size:=rfl;rcases hj with ⟨hj | hj,_⟩ | hj
 ·exact .inl hj
 ·exact .inr (by omega)
 ·exact .inr (by omega)
end Go.Proofs.YtdkdjofnnnljjaaGreatDoor
