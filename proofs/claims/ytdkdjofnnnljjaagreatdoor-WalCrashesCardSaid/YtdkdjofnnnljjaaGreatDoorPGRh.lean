/- Several texts of mine in one: GRf GMr GRh. -/
import Derived.Test.YtdkdjofnnnljjaaGreatDoorPGRe
import Derived.Test.YtdkdjofnnnljjaaGreatDoorPGCw
import Derived.Test.YtdkdjofnnnljjaaGreatDoorPGPl
import Derived.Test.YtdkdjofnnnljjaaGreatDoorPGCr
import Derived.Test.YtdkdjofnnnljjaaGreatDoorPPkMath
import Derived.Test.YtdkdjofnnnljjaaGreatDoorRows
import Derived.Deep.Slices
import Derived.Deep.Fields
import Derived.ChangeSame
import Derived.Laws.IdiomStrings
namespace Go.Proofs.YtdkdjofnnnljjaaGreatDoor
open Go.RowKit
set_option maxHeartbeats 3200000
set_option maxRecDepth 4000
def Re.eB(x:Re.Rec):Int:=if Re.known x.kind=false then 5 else if Re.bO x=false then 6 else if(Re.hm x.kind && decide (32768<x.aw.length))=true then 2 else if Re.hc x.kind=true then Cm.check x.cmd else 0
theorem Re.qB(x:Re.Rec):Re.check x=if Re.eB x≠0 then Re.eB x else if(decide (Re.own x=x) && Re.whole x)=false then 3 else 0:=by
 unfold Re.check Re.eB;by_cases h1:Re.known x.kind=false
 ·simp only[if_pos h1];rfl
 simp only[if_neg h1];by_cases h2:Re.bO x=false
 ·simp only[if_pos h2];rfl
 simp only[if_neg h2];by_cases h3:(Re.hm x.kind && decide (32768<x.aw.length))=true
 ·simp only[if_pos h3];rfl
 simp only[if_neg h3];by_cases h4:Re.hc x.kind=true
 ·simp only[if_pos h4]
  by_cases h5:Cm.check x.cmd≠0
  ·rw[if_pos ⟨h4,h5⟩,if_pos h5]
  ·rw[if_neg fun h=>h5 h.2,if_neg h5]
 ·simp only[if_neg h4]
  rw[if_neg fun h=>h4 h.1]
  rfl
theorem Re.BM{x:Re.Rec}(h:x.kind=1):Re.eB x=if Ms.owned x.aF=true then 0 else 6:=by
 unfold Re.eB Re.bO;rw[h];show(if(!(true && !Ms.owned x.aF) && true)=false then (6:Int)else 0)=_
 cases Ms.owned x.aF<;>rfl
theorem Re.BN{x:Re.Rec}(h:x.kind=2):Re.eB x=if Ms.owned x.aF=true then (if Ms.within x.index 1 4294967296=true then Cm.check x.cmd else 6)else 6:=by
 unfold Re.eB Re.bO;rw[h];show(if(!(true && !Ms.owned x.aF) && !(true && !Ms.within x.index 1 4294967296))=false then (6:Int)else Cm.check x.cmd)=_
 cases Ms.owned x.aF<;>cases Ms.within x.index 1 4294967296<;>rfl
theorem Re.BO{x:Re.Rec}(h:x.kind=3):Re.eB x=if Ms.within x.index 1 4294967296=true then Cm.check x.cmd else 6:=by
 unfold Re.eB Re.bO;rw[h];show(if(!(false && !Ms.owned x.aF) && !(true && !Ms.within x.index 1 4294967296))=false then (6:Int)else Cm.check x.cmd)=_
 cases Ms.owned x.aF<;>cases Ms.within x.index 1 4294967296<;>rfl
theorem Re.BP{x:Re.Rec}(h:x.kind=4):Re.eB x=if Ms.within x.index 1 4294967296=true then (if decide (32768<x.aw.length)=true then 2 else 0)else 6:=by
 unfold Re.eB Re.bO;rw[h];show(if(!(false && !Ms.owned x.aF) && !(true && !Ms.within x.index 1 4294967296))=false then (6:Int)else if decide (32768<x.aw.length)=true then 2 else 0)=_
 cases Ms.owned x.aF<;>cases Ms.within x.index 1 4294967296<;>rfl
theorem Re.xE{x:Re.Rec}(h:x.kind<1∨4<x.kind):Re.eB x=5:=by
 unfold Re.eB;rw[if_pos (Re.qW h).2.2.2.2]
theorem BQ{b:Bl.dM}(w:World)(t:Bool)(h:Ms.owned b=t):Calls Tryz.prog 165 #[.agg (Bl.cells b)] w (Looks w (.int .i64 (if t=true then 0 else 6))):=by
 have:=wM b w;rw[h]at this
 exact this
theorem gY{n:Int}(w:World)(t:Bool)(h:Ms.within n 1 4294967296=t):Calls Tryz.prog 166 #[.int .i64 n] w (Says w (.int .i64 (if t=true then 0 else 6))):=by
 have:=zY n w;rw[h]at this
 exact this
theorem DG(x:Re.Rec)(vi:Value)(w:World)(hk:x.kind=1) :
 Calls Tryz.prog 140 #[.agg (Re.cells x vi)] w (Looks w (.int .i64 (Re.eB x))):=by
 rw[Re.BM hk];obtain⟨w1,e1,aH,aq,hz1⟩:=bf w x vi;obtain⟨p0,p1,p2,p3,p4,p5,p6,p7,p8,p9,cG,cE⟩:=ai.all aH;rw[hk]at p0
 have dw:=aa aH;have aG:=aa aq;obtain⟨r,hr⟩ : ∃r:Int,r=if Ms.owned x.aF=true then 0 else 6:=⟨_,rfl⟩
 have HC:=aa (wM x.aF w1);rw[<- hr]at HC ⊢
 clear aH aq hz1 hk hr
 go_enter Tryz.func140,Tryz.ntmps140
 go_wp2_with fail
 refine HC.mono ?_;rintro e2 w2 ⟨rfl,hb⟩;go_wp2;go_ret;exact⟨rfl,aG.trans (hb.mono aG.size)⟩
theorem DI(x:Re.Rec)(vi:Value)(w:World)(hk:x.kind=2)(hW:bE w)(hs:x.cmd.aD 140737488355328) :
 Calls Tryz.prog 140 #[.agg (Re.cells x vi)] w (Looks w (.int .i64 (Re.eB x))):=by
 rw[Re.BN hk];obtain⟨w1,e1,aH,aq,hz1⟩:=bf w x vi;obtain⟨p0,p1,p2,p3,p4,p5,p6,p7,p8,p9,cG,cE⟩:=ai.all aH;rw[hk]at p0
 have dw:=aa aH;have aG:=aa aq;have HW:=aa (fun W (h:Below w.heap.size w W)=>rK x.cmd W (hW.below h) hs)
 obtain⟨c,hc⟩ : ∃c,c=Cm.check x.cmd:=⟨_,rfl⟩;rw[<- hc]at HW ⊢
 obtain⟨r,hr⟩ : ∃r:Int,r=if Ms.owned x.aF=true then (if Ms.within x.index 1 4294967296=true then c else 6)else 6:=⟨_,rfl⟩
 rw[<- hr];clear aH aq hz1 hk hW hs hc;cases t:Ms.owned x.aF with
 | false =>
  have HC:Hid (Calls Tryz.prog 165 #[.agg (Bl.cells x.aF)] w1 (Looks w1 (.int .i64 6))):=BQ w1 _ t;have HZ:Hid (r=6):=by show _=_;rw[hr,t];rfl
  clear t hr
  go_enter Tryz.func140,Tryz.ntmps140
  go_wp2_with fail
  refine HC.mono ?_;rintro e2 w2 ⟨rfl,hb⟩;go_wp2;go_ret;exact⟨by rw[HZ.out];rfl,aG.trans (hb.mono aG.size)⟩
 | true =>
  have HC:Hid (Calls Tryz.prog 165 #[.agg (Bl.cells x.aF)] w1 (Looks w1 (.int .i64 0))):=BQ w1 _ t;rw[t,if_pos rfl]at hr
  clear t;cases y:Ms.within x.index 1 4294967296 with
  | false =>
   have HI:Hid (∀W,Calls Tryz.prog 166 #[.int .i64 x.index] W (Says W (.int .i64 6))):=fun W=>gY W _ y
   have HZ:Hid (r=6):=by show _=_;rw[hr,y];rfl
   clear y hr
   go_enter Tryz.func140,Tryz.ntmps140
   go_wp2_with fail
   refine HC.mono ?_;rintro e2 w2 ⟨rfl,hb⟩;have dE:=aa (dw.below hb dw.lt);have aR:=aa (aG.trans (hb.mono aG.size));clear hb p0 p1 p2 p3 p4 p5 p6 p7 p8 p9 cG cE;obtain⟨p0,p1,p2,p3,p4,p5,p6,p7,p8,p9,cG,cE⟩:=ai.all dE.out
   go_wp2_with fail
   refine(HI.out _).mono ?_;rintro e3 w3 ⟨rfl,rfl⟩;go_wp2;go_ret;exact⟨by rw[HZ.out];rfl,aR.out⟩
  | true =>
   have HI:Hid (∀W,Calls Tryz.prog 166 #[.int .i64 x.index] W (Says W (.int .i64 0))):=fun W=>gY W _ y
   have HZ:Hid (r=c):=by show _=_;rw[hr,y];rfl
   clear y hr
   go_enter Tryz.func140,Tryz.ntmps140
   go_wp2_with fail
   refine HC.mono ?_;rintro e2 w2 ⟨rfl,hb⟩;have dE:=aa (dw.below hb dw.lt);have aR:=aa (aG.trans (hb.mono aG.size));clear hb p0 p1 p2 p3 p4 p5 p6 p7 p8 p9 cG cE;obtain⟨p0,p1,p2,p3,p4,p5,p6,p7,p8,p9,cG,cE⟩:=ai.all dE.out
   go_wp2_with fail
   refine(HI.out _).mono ?_;rintro e3 w3 ⟨rfl,rfl⟩
   go_wp2_with fail
   refine(HW.out _ aR.out).mono ?_;rintro e4 w4 ⟨rfl,hb⟩;go_wp2;go_ret;exact⟨by rw[HZ.out];rfl,aR.trans (hb.mono aR.size)⟩
theorem DJ(x:Re.Rec)(vi:Value)(w:World)(hk:x.kind=3)(hW:bE w)(hs:x.cmd.aD 140737488355328) :
 Calls Tryz.prog 140 #[.agg (Re.cells x vi)] w (Looks w (.int .i64 (Re.eB x))):=by
 rw[Re.BO hk];obtain⟨w1,e1,aH,aq,hz1⟩:=bf w x vi;obtain⟨p0,p1,p2,p3,p4,p5,p6,p7,p8,p9,cG,cE⟩:=ai.all aH;rw[hk]at p0
 have dw:=aa aH;have aG:=aa aq;have HW:=aa (fun W (h:Below w.heap.size w W)=>rK x.cmd W (hW.below h) hs)
 obtain⟨c,hc⟩ : ∃c,c=Cm.check x.cmd:=⟨_,rfl⟩;rw[<- hc]at HW ⊢
 obtain⟨r,hr⟩ : ∃r:Int,r=if Ms.within x.index 1 4294967296=true then c else 6:=⟨_,rfl⟩
 rw[<- hr];clear aH aq hz1 hk hW hs hc;cases y:Ms.within x.index 1 4294967296 with
 | false =>
  have HI:Hid (∀W,Calls Tryz.prog 166 #[.int .i64 x.index] W (Says W (.int .i64 6))):=fun W=>gY W _ y
  have HZ:Hid (r=6):=by show _=_;rw[hr,y];rfl
  clear y hr
  go_enter Tryz.func140,Tryz.ntmps140
  go_wp2_with fail
  refine(HI.out _).mono ?_;rintro e3 w3 ⟨rfl,rfl⟩;go_wp2;go_ret;exact⟨by rw[HZ.out];rfl,aG.out⟩
 | true =>
  have HI:Hid (∀W,Calls Tryz.prog 166 #[.int .i64 x.index] W (Says W (.int .i64 0))):=fun W=>gY W _ y
  have HZ:Hid (r=c):=by show _=_;rw[hr,y];rfl
  clear y hr
  go_enter Tryz.func140,Tryz.ntmps140
  go_wp2_with fail
  refine(HI.out _).mono ?_;rintro e3 w3 ⟨rfl,rfl⟩
  go_wp2_with fail
  refine(HW.out _ aG.out).mono ?_;rintro e4 w4 ⟨rfl,hb⟩;go_wp2;go_ret;exact⟨by rw[HZ.out];rfl,aG.trans (hb.mono aG.size)⟩
theorem DK(x:Re.Rec)(vi:Value)(w:World)(hk:x.kind=4)(hi:Reads w vi x.aw) :
 Calls Tryz.prog 140 #[.agg (Re.cells x vi)] w (Looks w (.int .i64 (Re.eB x))):=by
 rw[Re.BP hk];obtain⟨w1,e1,aH,aq,hz1⟩:=bf w x vi;obtain⟨p0,p1,p2,p3,p4,p5,p6,p7,p8,p9,cG,cE⟩:=ai.all aH;rw[hk]at p0
 have dw:=aa aH;have aG:=aa aq;have HU:=aa (hi.below aq);have HC:=aa (zZ vi x.aw w1 HU.out);obtain⟨io,ic,rfl⟩:=hi.shape;obtain⟨c,hc⟩ : ∃c:Int,c=if decide (32768<x.aw.length)=true then 2 else 0:=⟨_,rfl⟩
 rw[<- hc]at HC ⊢
 obtain⟨r,hr⟩ : ∃r:Int,r=if Ms.within x.index 1 4294967296=true then c else 6:=⟨_,rfl⟩
 rw[<- hr];clear aH aq hz1 hk hi hc;cases y:Ms.within x.index 1 4294967296 with
 | false =>
  have HI:Hid (∀W,Calls Tryz.prog 166 #[.int .i64 x.index] W (Says W (.int .i64 6))):=fun W=>gY W _ y
  have HZ:Hid (r=6):=by show _=_;rw[hr,y];rfl
  clear y hr
  go_enter Tryz.func140,Tryz.ntmps140
  go_wp2_with fail
  refine(HI.out _).mono ?_;rintro e3 w3 ⟨rfl,rfl⟩;go_wp2;go_ret;exact⟨by rw[HZ.out];rfl,aG.out⟩
 | true =>
  have HI:Hid (∀W,Calls Tryz.prog 166 #[.int .i64 x.index] W (Says W (.int .i64 0))):=fun W=>gY W _ y
  have HZ:Hid (r=c):=by show _=_;rw[hr,y];rfl
  clear y hr
  go_enter Tryz.func140,Tryz.ntmps140
  go_wp2_with fail
  refine(HI.out _).mono ?_;rintro e3 w3 ⟨rfl,rfl⟩
  go_wp2_with fail
  refine HC.mono ?_;rintro e4 w4 ⟨rfl,rfl⟩;go_wp2;go_ret;exact⟨by rw[HZ.out];rfl,aG.out⟩
theorem BR(x:Re.Rec)(vi:Value)(w:World)(hk:x.kind<1∨4<x.kind) :
 Calls Tryz.prog 140 #[.agg (Re.cells x vi)] w (Looks w (.int .i64 (Re.eB x))):=by
 rw[Re.xE hk];obtain⟨w1,e1,aH,aq,hz1⟩:=bf w x vi;have p0:=aH.c0;have d1:(x.kind == 1)=false:=by simp;omega
 have d2:(x.kind == 2)=false:=by simp;omega
 have d3:(x.kind == 3)=false:=by simp;omega
 have d4:(x.kind == 4)=false:=by simp;omega
 have aG:=aa aq;clear aH aq hz1 hk
 go_enter Tryz.func140,Tryz.ntmps140
 go_wp2;go_ret;exact⟨rfl,aG.out⟩
theorem za(x:Re.Rec)(vi:Value)(w:World)(hW:bE w)(hi:Reads w vi x.aw)(hs:x.cmd.aD 140737488355328) :
 Calls Tryz.prog 140 #[.agg (Re.cells x vi)] w (Looks w (.int .i64 (Re.eB x))):=by
 rcases Re.kinds x.kind with h | h | h | h | h
 ·exact DG x vi w h
 ·exact DI x vi w h hW hs
 ·exact DJ x vi w h hW hs
 ·exact DK x vi w h hi
 ·exact BR x vi w h
theorem xF{V:World}{h:Nat}{T:TypeId}{y0 y1 y2 y3 y4 y5 y6 y7 y8 y9 JH Ny:Value}{P:World->Prop}(hz:ae V h T #[y0,y1,y2,y3,y4,y5,y6,y7,y8,y9,JH,Ny])(a3 a4 a5 a6 a7 a8 a9 O5:Value)
 (hP : ∀w3,ae w3 h T #[y0,y1,y2,a3,a4,a5,a6,a7,a8,a9,O5,Ny]->V.grownBy w3 (some h)->P w3) :
 P ((((((((V.setCell ⟨h,3,none⟩ a3).setCell ⟨h,4,none⟩ a4).setCell ⟨h,5,none⟩ a5).setCell ⟨h,6,none⟩ a6).setCell ⟨h,7,none⟩ a7).setCell ⟨h,8,none⟩ a8).setCell ⟨h,9,none⟩ a9).setCell ⟨h,10,none⟩ O5):=by
 refine hP _ ?_ ?_
 ·have:=(((((((hz.set 3 a3).set 4 a4).set 5 a5).set 6 a6).set 7 a7).set 8 a8).set 9 a9).set 10 O5
  simpa using this
 ·exact aM (aM (aM (aM (aM (aM (aM (au _ _ _ _) (au _ _ _ _)) (au _ _ _ _)) (au _ _ _ _)) (au _ _ _ _)) (au _ _ _ _)) (au _ _ _ _)) (au _ _ _ _)
theorem KQ{V:World}{h:Nat}{T:TypeId}{y0 y1 y2 y3 y4 y5 y6 y7 y8 y9 JH Ny:Value}{P:World->Prop}(hz:ae V h T #[y0,y1,y2,y3,y4,y5,y6,y7,y8,y9,JH,Ny])(a3 QT:Value)
 (hP : ∀w3,ae w3 h T #[y0,y1,y2,a3,y4,y5,y6,y7,y8,y9,JH,QT]->V.grownBy w3 (some h)->P w3) :
 P ((V.setCell ⟨h,3,none⟩ a3).setCell ⟨h,11,none⟩ QT):=by
 refine hP _ ?_ ?_
 ·have:=(hz.set 3 a3).set 11 QT
  simpa using this
 ·exact aM (au _ _ _ _) (au _ _ _ _)
theorem mV(w:World)(x:Re.Rec)(vi:Value) : ∃w1,(w.alloc (.cells (Re.cells x vi) 42)).alloc (.cells #[.int .i64 0, .int .i64 0, .int .i64 0, .int .i64 0, .int .i64 0, .int .i64 0, .int .i64 0, .string ⟨#[]⟩, .string ⟨#[]⟩, .string ⟨#[]⟩, .int .i64 0, .slice none 0 0] 42)=w1∧ai w1 w.heap.size x vi∧ai w1 (w.heap.size+1) Re.zero (.slice none 0 0)∧Below w.heap.size w w1∧w1.heap.size=w.heap.size+2 :=
 iz w x vi Re.zero (.slice none 0 0)
theorem N5(x:Re.Rec)(io:Option Addr)(ik ic:Nat)(w:World)(hk:x.kind=1) :
 Calls Tryz.prog 142 #[.agg (Re.cells x (.slice io ik ic))] w (Looks w (.agg (Re.cells (⟨1,x.aF,0,Cm.zero, []⟩:Re.Rec) (.slice none 0 0)))):=by
 obtain⟨w1,e1,aH,hl0,aq,hz1⟩:=mV w x (.slice io ik ic);obtain⟨p0,p1,p2,p3,p4,p5,p6,p7,p8,p9,cG,cE⟩:=ai.all aH;have HK:=aa hk;rw[hk]at p0
 have dw:=aa aH;have oC:=aa hl0;have aG:=aa aq;have HS:=aa hz1;clear aH hl0 aq hz1 hk
 go_enter Tryz.func142,Tryz.ntmps142
 go_wp2_with (first
  | (refine aY (by rfl) _ _ (by rfl) w1.heap.size Re.zero _ (⟨1,Bl.zero,0,Cm.zero, []⟩:Re.Rec) (.slice none 0 0) (by rfl) (by rfl) rfl (ae.new _ _ _) ?_
     intro w2 hl2 hg2
     have hb2:=aJ hg2;have dE:=aa (dw.below hb2 dw.lt);have jE:=aa (oC.below hb2 oC.lt);have lR:=aa hl2;have aR:=aa (aG.trans (hb2.mono aG.size));clear hl2 hg2 hb2 p0 p1 p2 p3 p4 p5 p6 p7 p8 p9 cG cE;obtain⟨p0,p1,p2,p3,p4,p5,p6,p7,p8,p9,cG,cE⟩:=ai.all dE.out;rw[HK.out]at p0)
  | (refine aP (by rfl) _ _ _ (by rfl) w1.heap.size 1 _ _ (Re.cells (⟨1,x.aF,0,Cm.zero, []⟩:Re.Rec) (.slice none 0 0)) (.agg (Bl.cells x.aF)) (Bl.cells x.aF).toList (by rfl) (by rfl) (by rfl) (by kernel_rfl) (by rw[Array.all_toList];exact Bl.cR _) lR.out (Nat.le_of_ble_eq_true rfl) (by rfl) ?_
     intro w3 fk hg3
     have hs:=HS.out;have Ae:=aa (dE.kept hg3 (by simp;omega));have pH:=aa (jE.kept hg3 (by simp;omega));have om:=aa fk
     have bh:=aa (aR.grown hg3 aR.size (by rintro j hj;cases hj;omega))
     clear fk hg3 hs p0 p1 p2 p3 p4 p5 p6 p7 p8 p9 cG cE;obtain⟨p0,p1,p2,p3,p4,p5,p6,p7,p8,p9,cG,cE⟩:=ai.all Ae.out;rw[HK.out]at p0)
  | (refine cZ (by rfl) _ (by rfl) w1.heap.size (⟨1,x.aF,0,Cm.zero, []⟩:Re.Rec) (.slice none 0 0) (by rfl) om.out ?_)
  | (refine aY (by rfl) _ _ (by rfl) (w.heap.size+1) Re.zero _ (⟨1,x.aF,0,Cm.zero, []⟩:Re.Rec) (.slice none 0 0) (by rfl) (by rfl) rfl pH.out ?_
     intro w9 gP cM
     have eY:=aa (bh.grown cM bh.size (by rintro j hj;cases hj;exact Nat.le_succ _)))
  | fail)
 refine kO rfl rfl gP rfl ?_;exact⟨rfl,eY.out⟩
theorem N6(x:Re.Rec)(io:Option Addr)(ik ic:Nat)(w:World)(hk:x.kind=2) :
 Calls Tryz.prog 142 #[.agg (Re.cells x (.slice io ik ic))] w (Looks w (.agg (Re.cells (⟨2,x.aF,x.index,x.cmd, []⟩:Re.Rec) (.slice none 0 0)))):=by
 obtain⟨w1,e1,aH,hl0,aq,hz1⟩:=mV w x (.slice io ik ic);obtain⟨p0,p1,p2,p3,p4,p5,p6,p7,p8,p9,cG,cE⟩:=ai.all aH;have HK:=aa hk;rw[hk]at p0
 have dw:=aa aH;have oC:=aa hl0;have aG:=aa aq;have HS:=aa hz1;clear aH hl0 aq hz1 hk
 go_enter Tryz.func142,Tryz.ntmps142
 go_wp2_with (first
  | (refine aY (by rfl) _ _ (by rfl) w1.heap.size Re.zero _ (⟨2,Bl.zero,0,Cm.zero, []⟩:Re.Rec) (.slice none 0 0) (by rfl) (by rfl) rfl (ae.new _ _ _) ?_
     intro w2 hl2 hg2
     have hb2:=aJ hg2;have dE:=aa (dw.below hb2 dw.lt);have jE:=aa (oC.below hb2 oC.lt);have lR:=aa hl2;have aR:=aa (aG.trans (hb2.mono aG.size));clear hl2 hg2 hb2 p0 p1 p2 p3 p4 p5 p6 p7 p8 p9 cG cE;obtain⟨p0,p1,p2,p3,p4,p5,p6,p7,p8,p9,cG,cE⟩:=ai.all dE.out;rw[HK.out]at p0)
  | (refine aP (by rfl) _ _ _ (by rfl) w1.heap.size 1 _ _ (Re.cells (⟨2,x.aF,0,Cm.zero, []⟩:Re.Rec) (.slice none 0 0)) (.agg (Bl.cells x.aF)) (Bl.cells x.aF).toList (by rfl) (by rfl) (by rfl) (by kernel_rfl) (by rw[Array.all_toList];exact Bl.cR _) lR.out (Nat.le_of_ble_eq_true rfl) (by rfl) ?_
     intro w3 fk hg3
     have hs:=HS.out;have Ae:=aa (dE.kept hg3 (by simp;omega));have pH:=aa (jE.kept hg3 (by simp;omega));have om:=aa fk
     have bh:=aa (aR.grown hg3 aR.size (by rintro j hj;cases hj;omega))
     clear fk hg3 hs p0 p1 p2 p3 p4 p5 p6 p7 p8 p9 cG cE;obtain⟨p0,p1,p2,p3,p4,p5,p6,p7,p8,p9,cG,cE⟩:=ai.all Ae.out;rw[HK.out]at p0)
  | fail)
 have HO:=om;have c0:=ai.c0 HO.out;have c1:=ai.c1 HO.out;have c2:=ai.c2 HO.out;have c3:=ai.c3 HO.out;have c4:=ai.c4 HO.out;have c5:=ai.c5 HO.out;have c6:=ai.c6 HO.out;have c7:=ai.c7 HO.out;have c8:=ai.c8 HO.out;have c9:=ai.c9 HO.out;have c10:=ai.c10 HO.out;have c11:=ai.c11 HO.out;have f3:=HO.free 3;have f4:=HO.free 4;have f5:=HO.free 5;have f6:=HO.free 6;have f7:=HO.free 7;have f8:=HO.free 8;have f9:=HO.free 9;have f10:=HO.free 10;have f11:=HO.free 11;have hne : ¬w1.heap.size=w.heap.size:=by have:=HS.out;omega
 have KS : ¬w.heap.size=w1.heap.size:=by have:=HS.out;omega
 go_wp2
 go_region
 all_goals
  refine xF (P:=fun W=>Exit.then _ _ _ _ W.drew) HO.out _ _ _ _ _ _ _ _ ?_
  intro w4 hl4 hg4
  clear p0 p1 p2 p3 p4 p5 p6 p7 p8 p9 cG cE c0 c1 c2 c3 c4 c5 c6 c7 c8 c9 c10 c11 f3 f4 f5 f6 f7 f8 f9 f10 f11 hne KS;have hs:=HS.out;have qQ:Hid (ai w4.drew w1.heap.size (⟨2,x.aF,x.index,x.cmd, []⟩:Re.Rec) (.slice none 0 0)):=ae.below hl4 (Below.refl _ _).drew (ae.lt hl4);have sW:=aa ((pH.kept hg4 (by simp;omega)).below (Below.refl _ _).drew (pH.kept hg4 (by simp;omega)).lt)
  have bJ:=aa (bh.grown hg4 bh.size (by rintro j hj;cases hj;omega)).drew
  clear hl4 hg4 hs
  go_wp2_with (first
  | (refine cZ (by rfl) _ (by rfl) w1.heap.size (⟨2,x.aF,x.index,x.cmd, []⟩:Re.Rec) (.slice none 0 0) (by rfl) qQ.out ?_)
  | (refine aY (by rfl) _ _ (by rfl) (w.heap.size+1) Re.zero _ (⟨2,x.aF,x.index,x.cmd, []⟩:Re.Rec) (.slice none 0 0) (by rfl) (by rfl) rfl sW.out ?_
     intro w9 gP cM
     have eY:=aa (bJ.grown cM bJ.size (by rintro j hj;cases hj;exact Nat.le_succ _)))
  | fail)
  refine kO rfl rfl gP rfl ?_;exact⟨rfl,eY.out⟩
theorem N7(x:Re.Rec)(io:Option Addr)(ik ic:Nat)(w:World)(hk:x.kind=3) :
 Calls Tryz.prog 142 #[.agg (Re.cells x (.slice io ik ic))] w (Looks w (.agg (Re.cells (⟨3,Bl.zero,x.index,x.cmd, []⟩:Re.Rec) (.slice none 0 0)))):=by
 obtain⟨w1,e1,aH,hl0,aq,hz1⟩:=mV w x (.slice io ik ic);obtain⟨p0,p1,p2,p3,p4,p5,p6,p7,p8,p9,cG,cE⟩:=ai.all aH;have HK:=aa hk;rw[hk]at p0
 have dw:=aa aH;have oC:=aa hl0;have aG:=aa aq;have HS:=aa hz1;clear aH hl0 aq hz1 hk
 go_enter Tryz.func142,Tryz.ntmps142
 go_wp2_with (first
  | (refine aY (by rfl) _ _ (by rfl) w1.heap.size Re.zero _ (⟨3,Bl.zero,0,Cm.zero, []⟩:Re.Rec) (.slice none 0 0) (by rfl) (by rfl) rfl (ae.new _ _ _) ?_
     intro w2 hl2 hg2
     have hb2:=aJ hg2;have dE:=aa (dw.below hb2 dw.lt);have jE:=aa (oC.below hb2 oC.lt);have lR:=aa hl2;have aR:=aa (aG.trans (hb2.mono aG.size));clear hl2 hg2 hb2 p0 p1 p2 p3 p4 p5 p6 p7 p8 p9 cG cE;obtain⟨p0,p1,p2,p3,p4,p5,p6,p7,p8,p9,cG,cE⟩:=ai.all dE.out;rw[HK.out]at p0)
  | fail)
 have HO:=lR;have c0:=ai.c0 HO.out;have c1:=ai.c1 HO.out;have c2:=ai.c2 HO.out;have c3:=ai.c3 HO.out;have c4:=ai.c4 HO.out;have c5:=ai.c5 HO.out;have c6:=ai.c6 HO.out;have c7:=ai.c7 HO.out;have c8:=ai.c8 HO.out;have c9:=ai.c9 HO.out;have c10:=ai.c10 HO.out;have c11:=ai.c11 HO.out;have f3:=HO.free 3;have f4:=HO.free 4;have f5:=HO.free 5;have f6:=HO.free 6;have f7:=HO.free 7;have f8:=HO.free 8;have f9:=HO.free 9;have f10:=HO.free 10;have f11:=HO.free 11;have hne : ¬w1.heap.size=w.heap.size:=by have:=HS.out;omega
 have KS : ¬w.heap.size=w1.heap.size:=by have:=HS.out;omega
 go_wp2
 go_region
 all_goals
  refine xF (P:=fun W=>Exit.then _ _ _ _ W.drew) HO.out _ _ _ _ _ _ _ _ ?_
  intro w4 hl4 hg4
  clear p0 p1 p2 p3 p4 p5 p6 p7 p8 p9 cG cE c0 c1 c2 c3 c4 c5 c6 c7 c8 c9 c10 c11 f3 f4 f5 f6 f7 f8 f9 f10 f11 hne KS;have hs:=HS.out;have qQ:Hid (ai w4.drew w1.heap.size (⟨3,Bl.zero,x.index,x.cmd, []⟩:Re.Rec) (.slice none 0 0)):=ae.below hl4 (Below.refl _ _).drew (ae.lt hl4);have sW:=aa ((jE.kept hg4 (by simp;omega)).below (Below.refl _ _).drew (jE.kept hg4 (by simp;omega)).lt)
  have bJ:=aa (aR.grown hg4 aR.size (by rintro j hj;cases hj;omega)).drew
  clear hl4 hg4 hs
  go_wp2_with (first
  | (refine cZ (by rfl) _ (by rfl) w1.heap.size (⟨3,Bl.zero,x.index,x.cmd, []⟩:Re.Rec) (.slice none 0 0) (by rfl) qQ.out ?_)
  | (refine aY (by rfl) _ _ (by rfl) (w.heap.size+1) Re.zero _ (⟨3,Bl.zero,x.index,x.cmd, []⟩:Re.Rec) (.slice none 0 0) (by rfl) (by rfl) rfl sW.out ?_
     intro w9 gP cM
     have eY:=aa (bJ.grown cM bJ.size (by rintro j hj;cases hj;exact Nat.le_succ _)))
  | fail)
  refine kO rfl rfl gP rfl ?_;exact⟨rfl,eY.out⟩
theorem N8(x:Re.Rec)(io:Option Addr)(ik ic:Nat)(w:World)(hk:x.kind=4) :
 Calls Tryz.prog 142 #[.agg (Re.cells x (.slice io ik ic))] w (Looks w (.agg (Re.cells (⟨4,Bl.zero,x.index,Cm.zero,x.aw⟩:Re.Rec) (.slice io ik ic)))):=by
 obtain⟨w1,e1,aH,hl0,aq,hz1⟩:=mV w x (.slice io ik ic);obtain⟨p0,p1,p2,p3,p4,p5,p6,p7,p8,p9,cG,cE⟩:=ai.all aH;have HK:=aa hk;rw[hk]at p0
 have dw:=aa aH;have oC:=aa hl0;have aG:=aa aq;have HS:=aa hz1;clear aH hl0 aq hz1 hk
 go_enter Tryz.func142,Tryz.ntmps142
 go_wp2_with (first
  | (refine aY (by rfl) _ _ (by rfl) w1.heap.size Re.zero _ (⟨4,Bl.zero,0,Cm.zero, []⟩:Re.Rec) (.slice none 0 0) (by rfl) (by rfl) rfl (ae.new _ _ _) ?_
     intro w2 hl2 hg2
     have hb2:=aJ hg2;have dE:=aa (dw.below hb2 dw.lt);have jE:=aa (oC.below hb2 oC.lt);have lR:=aa hl2;have aR:=aa (aG.trans (hb2.mono aG.size));clear hl2 hg2 hb2 p0 p1 p2 p3 p4 p5 p6 p7 p8 p9 cG cE;obtain⟨p0,p1,p2,p3,p4,p5,p6,p7,p8,p9,cG,cE⟩:=ai.all dE.out;rw[HK.out]at p0)
  | fail)
 have HO:=lR;have c0:=ai.c0 HO.out;have c1:=ai.c1 HO.out;have c2:=ai.c2 HO.out;have c3:=ai.c3 HO.out;have c4:=ai.c4 HO.out;have c5:=ai.c5 HO.out;have c6:=ai.c6 HO.out;have c7:=ai.c7 HO.out;have c8:=ai.c8 HO.out;have c9:=ai.c9 HO.out;have c10:=ai.c10 HO.out;have c11:=ai.c11 HO.out;have f3:=HO.free 3;have f4:=HO.free 4;have f5:=HO.free 5;have f6:=HO.free 6;have f7:=HO.free 7;have f8:=HO.free 8;have f9:=HO.free 9;have f10:=HO.free 10;have f11:=HO.free 11;have hne : ¬w1.heap.size=w.heap.size:=by have:=HS.out;omega
 have KS : ¬w.heap.size=w1.heap.size:=by have:=HS.out;omega
 go_wp2
 go_region
 all_goals
  refine KQ (P:=fun W=>Exit.then _ _ _ _ W.drew) HO.out _ _ ?_
  intro w4 hl4 hg4
  clear p0 p1 p2 p3 p4 p5 p6 p7 p8 p9 cG cE c0 c1 c2 c3 c4 c5 c6 c7 c8 c9 c10 c11 f3 f4 f5 f6 f7 f8 f9 f10 f11 hne KS;have hs:=HS.out;have qQ:Hid (ai w4.drew w1.heap.size (⟨4,Bl.zero,x.index,Cm.zero,x.aw⟩:Re.Rec) (.slice io ik ic)):=ae.below hl4 (Below.refl _ _).drew (ae.lt hl4);have sW:=aa ((jE.kept hg4 (by simp;omega)).below (Below.refl _ _).drew (jE.kept hg4 (by simp;omega)).lt)
  have bJ:=aa (aR.grown hg4 aR.size (by rintro j hj;cases hj;omega)).drew
  clear hl4 hg4 hs
  go_wp2_with (first
  | (refine cZ (by rfl) _ (by rfl) w1.heap.size (⟨4,Bl.zero,x.index,Cm.zero,x.aw⟩:Re.Rec) (.slice io ik ic) (by rfl) qQ.out ?_)
  | (refine aY (by rfl) _ _ (by rfl) (w.heap.size+1) Re.zero _ (⟨4,Bl.zero,x.index,Cm.zero,x.aw⟩:Re.Rec) (.slice io ik ic) (by rfl) (by rfl) rfl sW.out ?_
     intro w9 gP cM
     have eY:=aa (bJ.grown cM bJ.size (by rintro j hj;cases hj;exact Nat.le_succ _)))
  | fail)
  refine kO rfl rfl gP rfl ?_;exact⟨rfl,eY.out⟩
theorem KT(x:Re.Rec)(io:Option Addr)(ik ic:Nat)(w:World)(hk:x.kind<1∨4<x.kind) :
 Calls Tryz.prog 142 #[.agg (Re.cells x (.slice io ik ic))] w (Looks w (.agg (Re.cells (⟨x.kind,Bl.zero,0,Cm.zero, []⟩:Re.Rec) (.slice none 0 0)))):=by
 obtain⟨w1,e1,aH,hl0,aq,hz1⟩:=mV w x (.slice io ik ic);obtain⟨p0,p1,p2,p3,p4,p5,p6,p7,p8,p9,cG,cE⟩:=ai.all aH;have d1:(x.kind == 1)=false:=by simp;omega
 have d2:(x.kind == 2)=false:=by simp;omega
 have d3:(x.kind == 3)=false:=by simp;omega
 have d4:(x.kind == 4)=false:=by simp;omega
 have dw:=aa aH;have oC:=aa hl0;have aG:=aa aq;have HS:=aa hz1;clear aH hl0 aq hz1 hk
 go_enter Tryz.func142,Tryz.ntmps142
 go_wp2_with (first
  | (refine aY (by rfl) _ _ (by rfl) w1.heap.size Re.zero _ (⟨x.kind,Bl.zero,0,Cm.zero, []⟩:Re.Rec) (.slice none 0 0) (by rfl) (by rfl) rfl (ae.new _ _ _) ?_
     intro w2 hl2 hg2
     have hb2:=aJ hg2;have dE:=aa (dw.below hb2 dw.lt);have jE:=aa (oC.below hb2 oC.lt);have lR:=aa hl2;have aR:=aa (aG.trans (hb2.mono aG.size));clear hl2 hg2 hb2 p0 p1 p2 p3 p4 p5 p6 p7 p8 p9 cG cE;obtain⟨p0,p1,p2,p3,p4,p5,p6,p7,p8,p9,cG,cE⟩:=ai.all dE.out)
  | (refine cZ (by rfl) _ (by rfl) w1.heap.size (⟨x.kind,Bl.zero,0,Cm.zero, []⟩:Re.Rec) (.slice none 0 0) (by rfl) lR.out ?_)
  | (refine aY (by rfl) _ _ (by rfl) (w.heap.size+1) Re.zero _ (⟨x.kind,Bl.zero,0,Cm.zero, []⟩:Re.Rec) (.slice none 0 0) (by rfl) (by rfl) rfl jE.out ?_
     intro w9 gP cM
     have eY:=aa (aR.grown cM aR.size (by rintro j hj;cases hj;exact Nat.le_succ _)))
  | fail)
 refine kO rfl rfl gP rfl ?_;exact⟨rfl,eY.out⟩
theorem Hg(x:Re.Rec)(io:Option Addr)(ik ic:Nat)(w:World) :
 Calls Tryz.prog 142 #[.agg (Re.cells x (.slice io ik ic))] w (Looks w (.agg (Re.cells (Re.own x) (if Re.hm x.kind=true then .slice io ik ic else .slice none 0 0)))):=by
 rcases Re.kinds x.kind with h | h | h | h | h
 ·have:=N5 x io ik ic w h
  unfold Re.own;rw[h];exact this
 ·have:=N6 x io ik ic w h
  unfold Re.own;rw[h];exact this
 ·have:=N7 x io ik ic w h
  unfold Re.own;rw[h];exact this
 ·have:=N8 x io ik ic w h
  unfold Re.own;rw[h];exact this
 ·have:=KT x io ik ic w h
  obtain⟨a,b,c,d,_⟩:=Re.qW h;unfold Re.own;rw[a,b,c,d];exact this
theorem Re.Hh{x:Re.Rec}{io:Option Addr}{ik ic:Nat}{w:World}(h:Reads w (.slice io ik ic) x.aw):Reads w (if Re.hm x.kind=true then .slice io ik ic else .slice none 0 0) (Re.own x).aw:=by
 rw[show(Re.own x).aw=if Re.hm x.kind=true then x.aw else []from rfl]
 by_cases hk:Re.hm x.kind=true
 ·rw[if_pos hk,if_pos hk];exact h
 ·rw[if_neg hk,if_neg hk];exact Reads.empty w
theorem iE(x:Re.Rec)(vi:Value)(w:World)(hW:bE w)(hi:Reads w vi x.aw)(hs:x.cmd.aD 140737488355328) :
 Calls Tryz.prog 97 #[.agg (Re.cells x vi)] w (Looks w (.int .i64 (Re.check x))):=by
 obtain⟨w1,e1,aH,aq,hz1⟩:=bf w x vi;obtain⟨p0,p1,p2,p3,p4,p5,p6,p7,p8,p9,cG,cE⟩:=ai.all aH;have dw:=aa aH;have aG:=aa aq;have kJ:=aa (za x vi w1 (hW.below aq) (hi.below aq) hs);have HI:=aa (fun W (h:Below w.heap.size w W)=>hi.below h)
 obtain⟨io,ic,rfl⟩:=hi.shape;have hlen:=hi.len;obtain⟨r,hr⟩ : ∃r,r=Re.check x:=⟨_,rfl⟩;rw[<- hr];rw[Re.qB]at hr
 obtain⟨c,hc⟩ : ∃c,c=Re.eB x:=⟨_,rfl⟩;rw[<- hc]at hr kJ
 obtain⟨n,hn⟩ : ∃n,n=x.aw.length:=⟨_,rfl⟩;have Xv:Hid (Re.whole x = !(decide (x.kind=4) && decide (n=0))):=by
  show _=_;unfold Re.whole Re.hm;rw[hn]
  congr 2
  exact decide_eq_decide.2 (by simp)
 rw[<- hn]at HI kJ dw e1 cE hlen ⊢
 obtain⟨z,hz⟩ : ∃z,z=decide (Re.own x=x):=⟨_,rfl⟩;have Fv:=aa (fun W (h:Below w.heap.size w W)=>CN (Re.own x) x _ (.slice io n ic) W (Re.Hh (HI.out W h)) (HI.out W h))
 have QU:=aa (fun W=>Hg x io n ic W)
 obtain⟨vo,ZP⟩ : ∃vo,vo=if Re.hm x.kind=true then Value.slice io n ic else .slice none 0 0:=⟨_,rfl⟩
 rw[<- ZP]at QU Fv
 obtain⟨y,hy⟩ : ∃y,y=Re.own x:=⟨_,rfl⟩;rw[<- hz]at hr Fv
 rw[<- hy]at QU Fv
 have HR:=aa hr;clear aH aq hz1 hW hi hs hr hc hz ZP hy hn
 go_enter Tryz.func97,Tryz.ntmps97
 go_wp2_with fail
 refine kJ.mono ?_;rintro e2 w2 ⟨rfl,hb⟩;have dE:=aa (dw.below hb dw.lt);have aR:=aa (aG.trans (hb.mono aG.size));clear hb p0 p1 p2 p3 p4 p5 p6 p7 p8 p9 cG cE;by_cases h0:c=0
 ·subst h0
  have bC:=aa (HR.trans (if_neg (by simp)))
  have k0:=fun p:bP w2=>ai.c0 (dE.below p.below dE.lt)
  have k1:=fun p:bP w2=>ai.c1 (dE.below p.below dE.lt)
  have k2:=fun p:bP w2=>ai.c2 (dE.below p.below dE.lt)
  have k3:=fun p:bP w2=>ai.c3 (dE.below p.below dE.lt)
  have k4:=fun p:bP w2=>ai.c4 (dE.below p.below dE.lt)
  have k5:=fun p:bP w2=>ai.c5 (dE.below p.below dE.lt)
  have k6:=fun p:bP w2=>ai.c6 (dE.below p.below dE.lt)
  have k7:=fun p:bP w2=>ai.c7 (dE.below p.below dE.lt)
  have k8:=fun p:bP w2=>ai.c8 (dE.below p.below dE.lt)
  have k9:=fun p:bP w2=>ai.c9 (dE.below p.below dE.lt)
  have TT:=fun p:bP w2=>ai.c10 (dE.below p.below dE.lt)
  have VV:=fun p:bP w2=>ai.c11 (dE.below p.below dE.lt)
  have I1:=aa (fun p:bP w2=>QU.out p.world)
  have I6:=aa (fun p:bP w2=>Fv.out p.world (aR.trans (p.below.mono aR.size)))
  have ug:(∃t,z=false∧t=(3:Int)∧r=t)∨(z=true∧x.kind≠4∧r=0)∨(z=true∧x.kind=4∧n=0∧r=3)∨(z=true∧x.kind=4∧n≠0∧r=0):=by
   have h1:=bC.out;rw[Xv.out]at h1
   cases z with
   | false=>exact .inl ⟨3,rfl,rfl,h1.trans (if_pos rfl)⟩
   | true =>
    by_cases h4:x.kind=4
    ·by_cases hn:n=0
     ·exact .inr (.inr (.inl ⟨rfl,h4,hn,h1.trans (if_pos (by rw[decide_eq_true h4,decide_eq_true hn];rfl))⟩))
     ·exact .inr (.inr (.inr ⟨rfl,h4,hn,h1.trans (if_neg (by rw[decide_eq_false hn];simp))⟩))
    ·exact .inr (.inl ⟨rfl,h4,h1.trans (if_neg (by rw[decide_eq_false h4];simp))⟩)
  rcases ug with ⟨t,hz,ht,hr⟩ | ⟨hz,h4,hr⟩ | ⟨hz,h4,hn,hr⟩ | ⟨hz,h4,hn,hr⟩
  ·subst hz
   subst ht;have HZ:=aa hr;clear hr;go_wp2;refine bn (by kernel_rfl) (by kernel_rfl) ?_
   repeat (go_big_quiet_step (first
    | (go_at_call 142;exact Looks.behind (I1.out _))
    | (go_at_call 141;exact Looks.behind (I6.out _))))
   refine wpQuiet_nil ?_;rintro w5 ⟨⟨w5,qY⟩,rfl⟩
   (try dsimp only)
   clear k0 k1 k2 k3 k4 k5 k6 k7 k8 k9 TT VV;go_wp2;go_ret;exact⟨by rw[HZ.out];rfl,aR.trans (qY.mono aR.size)⟩
  ·subst hz
   have d4:(x.kind == 4)=false:=by simpa using h4
   have HZ:=aa hr;clear hr h4;go_wp2;refine bn (by kernel_rfl) (by kernel_rfl) ?_
   repeat (go_big_quiet_step (first
    | (go_at_call 142;exact Looks.behind (I1.out _))
    | (go_at_call 141;exact Looks.behind (I6.out _))))
   refine wpQuiet_nil ?_;rintro w5 ⟨⟨w5,qY⟩,rfl⟩
   (try dsimp only)
   clear k0 k1 k2 k3 k4 k5 k6 k7 k8 k9 TT VV;go_wp2;go_ret;exact⟨by rw[HZ.out];rfl,aR.trans (qY.mono aR.size)⟩
  ·subst hz
   have d4:(x.kind == 4)=true:=by simpa using h4
   have dn:((n:Int) == 0)=true:=by simpa using hn
   have HZ:=aa hr;clear hr h4 hn;go_wp2;refine bn (by kernel_rfl) (by kernel_rfl) ?_
   repeat (go_big_quiet_step (first
    | (go_at_call 142;exact Looks.behind (I1.out _))
    | (go_at_call 141;exact Looks.behind (I6.out _))))
   refine wpQuiet_nil ?_;rintro w5 ⟨⟨w5,qY⟩,rfl⟩
   (try dsimp only)
   clear k0 k1 k2 k3 k4 k5 k6 k7 k8 k9 TT VV;go_wp2;go_ret;exact⟨by rw[HZ.out];rfl,aR.trans (qY.mono aR.size)⟩
  ·subst hz
   have d4:(x.kind == 4)=true:=by simpa using h4
   have dn:((n:Int) == 0)=false:=by simpa using hn
   have HZ:=aa hr;clear hr h4 hn;go_wp2;refine bn (by kernel_rfl) (by kernel_rfl) ?_
   repeat (go_big_quiet_step (first
    | (go_at_call 142;exact Looks.behind (I1.out _))
    | (go_at_call 141;exact Looks.behind (I6.out _))))
   refine wpQuiet_nil ?_;rintro w5 ⟨⟨w5,qY⟩,rfl⟩
   (try dsimp only)
   clear k0 k1 k2 k3 k4 k5 k6 k7 k8 k9 TT VV;go_wp2;go_ret;exact⟨by rw[HZ.out];rfl,aR.trans (qY.mono aR.size)⟩
 ·have hne:(c != 0)=true:=by simpa using h0
  have HZ:Hid (r=c):=HR.trans (if_pos h0);go_wp2;go_ret;exact⟨by rw[HZ.out];rfl,aR.out⟩
theorem Re.BS(x:Re.Rec):(x.kind=2∧Re.rZ x = !Vs.has 1 x.cmd.kind)∨(x.kind=3∧Re.rZ x = !Vs.has 1 x.cmd.kind)∨(x.kind≠2∧x.kind≠3∧Re.rZ x=false):=by
 unfold Re.rZ Re.hc;by_cases h2:x.kind=2
 ·exact .inl ⟨h2,by rw[decide_eq_true h2];rfl⟩
 ·by_cases h3:x.kind=3
  ·exact .inr (.inl ⟨h3,by rw[decide_eq_true h3];simp⟩)
  ·exact .inr (.inr ⟨h2,h3,by rw[decide_eq_false h2,decide_eq_false h3];rfl⟩)
theorem sI(x:Re.Rec)(vi:Value)(w:World)(hW:bE w)(hi:Reads w vi x.aw)(hs:x.cmd.aD 140737488355328) :
 Calls Tryz.prog 127 #[.agg (Re.cells x vi)] w (Looks w (.int .i64 (Re.older x))):=by
 obtain⟨w1,e1,aH,aq,hz1⟩:=bf w x vi;obtain⟨p0,p1,p2,p3,p4,p5,p6,p7,p8,p9,cG,cE⟩:=ai.all aH;have dw:=aa aH;have aG:=aa aq;have kJ:=aa (iE x vi w1 (hW.below aq) (hi.below aq) hs);obtain⟨r,hr⟩ : ∃r,r=Re.older x:=⟨_,rfl⟩;rw[<- hr];unfold Re.older at hr
 obtain⟨c,hc⟩ : ∃c,c=Re.check x:=⟨_,rfl⟩;rw[<- hc]at hr kJ
 have HR:=aa hr;have Hi:=Re.BS x;have DL:=aa (fun W=>NF 1 x.cmd.kind W)
 obtain⟨y,hy⟩ : ∃y,y=Vs.has 1 x.cmd.kind:=⟨_,rfl⟩;rw[<- hy]at Hi DL
 have N9:=aa Hi;clear aH aq hz1 hW hi hs hr hc Hi hy
 go_enter Tryz.func127,Tryz.ntmps127
 go_wp2_with fail
 refine kJ.mono ?_;rintro e2 w2 ⟨rfl,hb⟩;have dE:=aa (dw.below hb dw.lt);have aR:=aa (aG.trans (hb.mono aG.size));clear hb p0 p1 p2 p3 p4 p5 p6 p7 p8 p9 cG cE;by_cases h0:c=0
 ·subst h0
  have bC:=aa (HR.trans (if_neg (by simp)))
  have p0:=ai.c0 dE.out;have p4:=ai.c4 dE.out;rcases N9.out with ⟨hk,hn⟩ | ⟨hk,hn⟩ | ⟨h2,h3,hn⟩
  ·rw[hk]at p0
   have HZ:Hid (r=if(!y)=true then 8 else 0):=by show _=_;rw[bC.out,hn]
   clear hk hn;cases y <;>
   ·go_wp2_with fail
    refine(DL.out _).mono ?_;rintro e3 w3 ⟨rfl,rfl⟩;go_wp2;go_ret;exact⟨by rw[HZ.out];rfl,aR.out⟩
  ·rw[hk]at p0
   have HZ:Hid (r=if(!y)=true then 8 else 0):=by show _=_;rw[bC.out,hn]
   clear hk hn;cases y <;>
   ·go_wp2_with fail
    refine(DL.out _).mono ?_;rintro e3 w3 ⟨rfl,rfl⟩;go_wp2;go_ret;exact⟨by rw[HZ.out];rfl,aR.out⟩
  ·have d2:(x.kind == 2)=false:=by simpa using h2
   have d3:(x.kind == 3)=false:=by simpa using h3
   have HZ:Hid (r=0):=by show _=_;rw[bC.out,hn];rfl
   clear h2 h3 hn;go_wp2;go_ret;exact⟨by rw[HZ.out];rfl,aR.out⟩
 ·have hne:(c != 0)=true:=by simpa using h0
  have HZ:Hid (r=c):=HR.trans (if_pos h0);go_wp2;go_ret;exact⟨by rw[HZ.out];rfl,aR.out⟩
end Go.Proofs.YtdkdjofnnnljjaaGreatDoor

namespace Go.Proofs.YtdkdjofnnnljjaaGreatDoor
open Go.RowKit
namespace Ms
theorem BT(b:Bl.dM):owned b=(Bl.may b && decide (0<b.round)):=by
 unfold owned;cases h:Bl.may b with
 | false=>rfl
 | true =>
  rw[Bool.true_and,Bool.true_and];refine decide_eq_decide.2 ?_;unfold Bl.may Bl.within at h
  constructor
  ·intro hne
   rcases Bool.or_eq_true_iff.1 h with h1 | h1
   ·exact absurd (of_decide_eq_true h1) hne
   ·simp only[Bool.and_eq_true,decide_eq_true_eq]at h1;omega
  ·intro h0 he
   rw[he]at h0
   simp[Bl.zero]at h0
end Ms
end Go.Proofs.YtdkdjofnnnljjaaGreatDoor

namespace Go.Proofs.YtdkdjofnnnljjaaGreatDoor
open Go.RowKit
set_option maxHeartbeats 1600000
set_option maxRecDepth 4000
theorem Re.BU(b:Bl.dM):Ms.owned b=(!(b.round == 0) && Bl.may b):=by
 rw[Ms.BT,Bool.and_comm];cases h:Bl.may b with
 | false=>simp
 | true =>
  have:=(Bl.NG b h).1;rw[Bool.and_true,Bool.and_true,Bool.eq_iff_iff];simp;omega
theorem bA(k:Int)(w:World):Calls Tryz.prog 106 #[.int .i64 k] w (Says w (.bool (Re.hb k))):=by
 unfold Re.hb;by_cases h1:k=1
 ·subst h1
  go_enter Tryz.func106,Tryz.ntmps106
  go_wp2;go_ret;exact⟨rfl,rfl⟩
 by_cases h2:k=2
 ·subst h2
  go_enter Tryz.func106,Tryz.ntmps106
  go_wp2;go_ret;exact⟨rfl,rfl⟩
 have d1:(k == 1)=false:=by simpa using h1
 have d2:(k == 2)=false:=by simpa using h2
 rw[decide_eq_false h1,decide_eq_false h2];clear h1 h2
 go_enter Tryz.func106,Tryz.ntmps106
 go_wp2;go_ret;exact⟨rfl,rfl⟩
theorem bN(k:Int)(w:World):Calls Tryz.prog 146 #[.int .i64 k] w (Says w (.bool (Re.hi k))):=by
 unfold Re.hi;by_cases h2:k=2
 ·subst h2
  go_enter Tryz.func146,Tryz.ntmps146
  go_wp2;go_ret;exact⟨rfl,rfl⟩
 by_cases h3:k=3
 ·subst h3
  go_enter Tryz.func146,Tryz.ntmps146
  go_wp2;go_ret;exact⟨rfl,rfl⟩
 by_cases h4:k=4
 ·subst h4
  go_enter Tryz.func146,Tryz.ntmps146
  go_wp2;go_ret;exact⟨rfl,rfl⟩
 have d2:(k == 2)=false:=by simpa using h2
 have d3:(k == 3)=false:=by simpa using h3
 have d4:(k == 4)=false:=by simpa using h4
 rw[decide_eq_false h2,decide_eq_false h3,decide_eq_false h4];clear h2 h3 h4
 go_enter Tryz.func146,Tryz.ntmps146
 go_wp2;go_ret;exact⟨rfl,rfl⟩
theorem cA(k:Int)(w:World):Calls Tryz.prog 104 #[.int .i64 k] w (Says w (.bool (Re.hc k))):=by
 unfold Re.hc;by_cases h2:k=2
 ·subst h2
  go_enter Tryz.func104,Tryz.ntmps104
  go_wp2;go_ret;exact⟨rfl,rfl⟩
 by_cases h3:k=3
 ·subst h3
  go_enter Tryz.func104,Tryz.ntmps104
  go_wp2;go_ret;exact⟨rfl,rfl⟩
 have d2:(k == 2)=false:=by simpa using h2
 have d3:(k == 3)=false:=by simpa using h3
 rw[decide_eq_false h2,decide_eq_false h3];clear h2 h3
 go_enter Tryz.func104,Tryz.ntmps104
 go_wp2;go_ret;exact⟨rfl,rfl⟩
theorem KU(x:Re.Rec)(io:Option Addr)(n ic:Nat)(w:World)(hk:x.kind=1)(d1:(x.aF.round == 0)=true) :
 Calls Tryz.prog 103 #[.agg (Re.cells x (.slice io n ic))] w (Looks w (.int .i64 (6))):=by
 obtain⟨w1,e1,aH,aq,hz1⟩:=bf w x (.slice io n ic);obtain⟨p0,p1,p2,p3,p4,p5,p6,p7,p8,p9,cG,cE⟩:=ai.all aH;rw[hk]at p0
 have HK:=aa hk;have dw:=aa aH;have aG:=aa aq;have fy:Hid (∀W,Calls Tryz.prog 106 #[.int .i64 1] W (Says W (.bool true))):=fun W=>bA 1 W
 clear aH aq hz1 hk
 go_enter Tryz.func103,Tryz.ntmps103
 go_wp2_with fail
 refine(fy.out _).mono ?_;rintro e' w' ⟨rfl,rfl⟩;go_wp2;go_ret;exact⟨rfl,aG.out⟩
theorem KV(x:Re.Rec)(io:Option Addr)(n ic:Nat)(w:World)(hk:x.kind=1)(d1:(x.aF.round == 0)=false)(dm:Bl.may x.aF=false) :
 Calls Tryz.prog 103 #[.agg (Re.cells x (.slice io n ic))] w (Looks w (.int .i64 (6))):=by
 obtain⟨w1,e1,aH,aq,hz1⟩:=bf w x (.slice io n ic);obtain⟨p0,p1,p2,p3,p4,p5,p6,p7,p8,p9,cG,cE⟩:=ai.all aH;rw[hk]at p0
 have HK:=aa hk;have dw:=aa aH;have aG:=aa aq;have fy:Hid (∀W,Calls Tryz.prog 106 #[.int .i64 1] W (Says W (.bool true))):=fun W=>bA 1 W
 have kD:Hid (∀W,Calls Tryz.prog 145 #[.agg (Bl.cells x.aF)] W (Looks W (.bool false))):=fun W=>by have:=dc x.aF W;rw[dm]at this;exact this
 clear dm;clear aH aq hz1 hk
 go_enter Tryz.func103,Tryz.ntmps103
 go_wp2_with fail
 refine(fy.out _).mono ?_;rintro e' w' ⟨rfl,rfl⟩
 go_wp2_with fail
 refine(kD.out _).mono ?_;rintro e' w2 ⟨rfl,hb⟩;have dE:=aa (dw.below hb dw.lt);have aR:=aa (aG.trans (hb.mono aG.size));clear hb p0 p1 p2 p3 p4 p5 p6 p7 p8 p9 cG cE;obtain⟨p0,p1,p2,p3,p4,p5,p6,p7,p8,p9,cG,cE⟩:=ai.all dE.out;rw[HK.out]at p0
 go_wp2;go_ret;exact⟨rfl,aR.out⟩
theorem KW(x:Re.Rec)(io:Option Addr)(n ic:Nat)(w:World)(hk:x.kind=1)(d1:(x.aF.round == 0)=false)(dm:Bl.may x.aF=true)(d4:(x.index != 0)=true) :
 Calls Tryz.prog 103 #[.agg (Re.cells x (.slice io n ic))] w (Looks w (.int .i64 (3))):=by
 obtain⟨w1,e1,aH,aq,hz1⟩:=bf w x (.slice io n ic);obtain⟨p0,p1,p2,p3,p4,p5,p6,p7,p8,p9,cG,cE⟩:=ai.all aH;rw[hk]at p0
 have HK:=aa hk;have dw:=aa aH;have aG:=aa aq;have fy:Hid (∀W,Calls Tryz.prog 106 #[.int .i64 1] W (Says W (.bool true))):=fun W=>bA 1 W
 have gO:Hid (∀W,Calls Tryz.prog 146 #[.int .i64 1] W (Says W (.bool false))):=fun W=>bN 1 W
 have kE:Hid (∀W,Calls Tryz.prog 104 #[.int .i64 1] W (Says W (.bool false))):=fun W=>cA 1 W
 have kD:Hid (∀W,Calls Tryz.prog 145 #[.agg (Bl.cells x.aF)] W (Looks W (.bool true))):=fun W=>by have:=dc x.aF W;rw[dm]at this;exact this
 clear dm;clear aH aq hz1 hk
 go_enter Tryz.func103,Tryz.ntmps103
 go_wp2_with fail
 refine(fy.out _).mono ?_;rintro e' w' ⟨rfl,rfl⟩
 go_wp2_with fail
 refine(kD.out _).mono ?_;rintro e' w2 ⟨rfl,hb⟩;have dE:=aa (dw.below hb dw.lt);have aR:=aa (aG.trans (hb.mono aG.size));clear hb p0 p1 p2 p3 p4 p5 p6 p7 p8 p9 cG cE;obtain⟨p0,p1,p2,p3,p4,p5,p6,p7,p8,p9,cG,cE⟩:=ai.all dE.out;rw[HK.out]at p0
 go_wp2_with fail
 refine(gO.out _).mono ?_;rintro e' w' ⟨rfl,rfl⟩
 go_wp2_with fail
 refine(kE.out _).mono ?_;rintro e' w' ⟨rfl,rfl⟩
 go_wp2_with fail
 refine(fy.out _).mono ?_;rintro e' w' ⟨rfl,rfl⟩
 go_wp2_with fail
 refine(gO.out _).mono ?_;rintro e' w' ⟨rfl,rfl⟩;go_wp2;go_ret;exact⟨rfl,aR.out⟩
theorem KX(x:Re.Rec)(io:Option Addr)(n ic:Nat)(w:World)(hk:x.kind=1)(d1:(x.aF.round == 0)=false)(dm:Bl.may x.aF=true)(d4:(x.index != 0)=false)(d5:decide (x.cmd=Cm.zero)=false) :
 Calls Tryz.prog 103 #[.agg (Re.cells x (.slice io n ic))] w (Looks w (.int .i64 (3))):=by
 obtain⟨w1,e1,aH,aq,hz1⟩:=bf w x (.slice io n ic);obtain⟨p0,p1,p2,p3,p4,p5,p6,p7,p8,p9,cG,cE⟩:=ai.all aH;rw[hk]at p0
 have HK:=aa hk;have dw:=aa aH;have aG:=aa aq;have fy:Hid (∀W,Calls Tryz.prog 106 #[.int .i64 1] W (Says W (.bool true))):=fun W=>bA 1 W
 have gO:Hid (∀W,Calls Tryz.prog 146 #[.int .i64 1] W (Says W (.bool false))):=fun W=>bN 1 W
 have kE:Hid (∀W,Calls Tryz.prog 104 #[.int .i64 1] W (Says W (.bool false))):=fun W=>cA 1 W
 have kD:Hid (∀W,Calls Tryz.prog 145 #[.agg (Bl.cells x.aF)] W (Looks W (.bool true))):=fun W=>by have:=dc x.aF W;rw[dm]at this;exact this
 clear dm;have hgd:=gv;have heq : ∀W,(binOp .neq 40 (.agg (Cm.cells x.cmd)) (.agg (Cm.cells Cm.zero))).run Tryz.prog W = .ok (.bool true) W:=fun W=>by rw[fD,d5];rfl
 dsimp only [Cm.cells,Cm.zero,Cm.aL]at heq
 clear d5;clear aH aq hz1 hk
 go_enter Tryz.func103,Tryz.ntmps103
 go_wp2_with fail
 refine(fy.out _).mono ?_;rintro e' w' ⟨rfl,rfl⟩
 go_wp2_with fail
 refine(kD.out _).mono ?_;rintro e' w2 ⟨rfl,hb⟩;have dE:=aa (dw.below hb dw.lt);have aR:=aa (aG.trans (hb.mono aG.size));clear hb p0 p1 p2 p3 p4 p5 p6 p7 p8 p9 cG cE;obtain⟨p0,p1,p2,p3,p4,p5,p6,p7,p8,p9,cG,cE⟩:=ai.all dE.out;rw[HK.out]at p0
 go_wp2_with fail
 refine(gO.out _).mono ?_;rintro e' w' ⟨rfl,rfl⟩
 go_wp2_with fail
 refine(kE.out _).mono ?_;rintro e' w' ⟨rfl,rfl⟩
 go_wp2_with fail
 refine(fy.out _).mono ?_;rintro e' w' ⟨rfl,rfl⟩
 go_wp2_with fail
 refine(gO.out _).mono ?_;rintro e' w' ⟨rfl,rfl⟩
 go_wp2_with fail
 refine(kE.out _).mono ?_;rintro e' w' ⟨rfl,rfl⟩;go_wp2;go_ret;exact⟨rfl,aR.out⟩
theorem KY(x:Re.Rec)(io:Option Addr)(n ic:Nat)(w:World)(hk:x.kind=1)(d1:(x.aF.round == 0)=false)(dm:Bl.may x.aF=true)(d4:(x.index != 0)=false)(d5:decide (x.cmd=Cm.zero)=true)(d6:0<n) :
 Calls Tryz.prog 103 #[.agg (Re.cells x (.slice io n ic))] w (Looks w (.int .i64 (3))):=by
 obtain⟨w1,e1,aH,aq,hz1⟩:=bf w x (.slice io n ic);obtain⟨p0,p1,p2,p3,p4,p5,p6,p7,p8,p9,cG,cE⟩:=ai.all aH;rw[hk]at p0
 have HK:=aa hk;have dw:=aa aH;have aG:=aa aq;have fy:Hid (∀W,Calls Tryz.prog 106 #[.int .i64 1] W (Says W (.bool true))):=fun W=>bA 1 W
 have gO:Hid (∀W,Calls Tryz.prog 146 #[.int .i64 1] W (Says W (.bool false))):=fun W=>bN 1 W
 have kE:Hid (∀W,Calls Tryz.prog 104 #[.int .i64 1] W (Says W (.bool false))):=fun W=>cA 1 W
 have kD:Hid (∀W,Calls Tryz.prog 145 #[.agg (Bl.cells x.aF)] W (Looks W (.bool true))):=fun W=>by have:=dc x.aF W;rw[dm]at this;exact this
 clear dm;have hgd:=gv;have heq : ∀W,(binOp .neq 40 (.agg (Cm.cells x.cmd)) (.agg (Cm.cells Cm.zero))).run Tryz.prog W = .ok (.bool false) W:=fun W=>by rw[fD,d5];rfl
 dsimp only [Cm.cells,Cm.zero,Cm.aL]at heq
 clear d5;clear aH aq hz1 hk
 go_enter Tryz.func103,Tryz.ntmps103
 go_wp2_with fail
 refine(fy.out _).mono ?_;rintro e' w' ⟨rfl,rfl⟩
 go_wp2_with fail
 refine(kD.out _).mono ?_;rintro e' w2 ⟨rfl,hb⟩;have dE:=aa (dw.below hb dw.lt);have aR:=aa (aG.trans (hb.mono aG.size));clear hb p0 p1 p2 p3 p4 p5 p6 p7 p8 p9 cG cE;obtain⟨p0,p1,p2,p3,p4,p5,p6,p7,p8,p9,cG,cE⟩:=ai.all dE.out;rw[HK.out]at p0
 go_wp2_with fail
 refine(gO.out _).mono ?_;rintro e' w' ⟨rfl,rfl⟩
 go_wp2_with fail
 refine(kE.out _).mono ?_;rintro e' w' ⟨rfl,rfl⟩
 go_wp2_with fail
 refine(fy.out _).mono ?_;rintro e' w' ⟨rfl,rfl⟩
 go_wp2_with fail
 refine(gO.out _).mono ?_;rintro e' w' ⟨rfl,rfl⟩
 go_wp2_with fail
 refine(kE.out _).mono ?_;rintro e' w' ⟨rfl,rfl⟩;go_wp2;go_ret;exact⟨rfl,aR.out⟩
theorem KZ(x:Re.Rec)(io:Option Addr)(n ic:Nat)(w:World)(hk:x.kind=1)(d1:(x.aF.round == 0)=false)(dm:Bl.may x.aF=true)(d4:(x.index != 0)=false)(d5:decide (x.cmd=Cm.zero)=true)(d6 : ¬ 0<n) :
 Calls Tryz.prog 103 #[.agg (Re.cells x (.slice io n ic))] w (Looks w (.int .i64 (0))):=by
 obtain⟨w1,e1,aH,aq,hz1⟩:=bf w x (.slice io n ic);obtain⟨p0,p1,p2,p3,p4,p5,p6,p7,p8,p9,cG,cE⟩:=ai.all aH;rw[hk]at p0
 have HK:=aa hk;have dw:=aa aH;have aG:=aa aq;have fy:Hid (∀W,Calls Tryz.prog 106 #[.int .i64 1] W (Says W (.bool true))):=fun W=>bA 1 W
 have gO:Hid (∀W,Calls Tryz.prog 146 #[.int .i64 1] W (Says W (.bool false))):=fun W=>bN 1 W
 have kE:Hid (∀W,Calls Tryz.prog 104 #[.int .i64 1] W (Says W (.bool false))):=fun W=>cA 1 W
 have kD:Hid (∀W,Calls Tryz.prog 145 #[.agg (Bl.cells x.aF)] W (Looks W (.bool true))):=fun W=>by have:=dc x.aF W;rw[dm]at this;exact this
 clear dm;have hgd:=gv;have heq : ∀W,(binOp .neq 40 (.agg (Cm.cells x.cmd)) (.agg (Cm.cells Cm.zero))).run Tryz.prog W = .ok (.bool false) W:=fun W=>by rw[fD,d5];rfl
 dsimp only [Cm.cells,Cm.zero,Cm.aL]at heq
 clear d5;clear aH aq hz1 hk
 go_enter Tryz.func103,Tryz.ntmps103
 go_wp2_with fail
 refine(fy.out _).mono ?_;rintro e' w' ⟨rfl,rfl⟩
 go_wp2_with fail
 refine(kD.out _).mono ?_;rintro e' w2 ⟨rfl,hb⟩;have dE:=aa (dw.below hb dw.lt);have aR:=aa (aG.trans (hb.mono aG.size));clear hb p0 p1 p2 p3 p4 p5 p6 p7 p8 p9 cG cE;obtain⟨p0,p1,p2,p3,p4,p5,p6,p7,p8,p9,cG,cE⟩:=ai.all dE.out;rw[HK.out]at p0
 go_wp2_with fail
 refine(gO.out _).mono ?_;rintro e' w' ⟨rfl,rfl⟩
 go_wp2_with fail
 refine(kE.out _).mono ?_;rintro e' w' ⟨rfl,rfl⟩
 go_wp2_with fail
 refine(fy.out _).mono ?_;rintro e' w' ⟨rfl,rfl⟩
 go_wp2_with fail
 refine(gO.out _).mono ?_;rintro e' w' ⟨rfl,rfl⟩
 go_wp2_with fail
 refine(kE.out _).mono ?_;rintro e' w' ⟨rfl,rfl⟩;go_wp2;go_ret;exact⟨rfl,aR.out⟩
theorem K1(x:Re.Rec)(io:Option Addr)(n ic:Nat)(w:World)(hk:x.kind=2)(d1:(x.aF.round == 0)=true) :
 Calls Tryz.prog 103 #[.agg (Re.cells x (.slice io n ic))] w (Looks w (.int .i64 (6))):=by
 obtain⟨w1,e1,aH,aq,hz1⟩:=bf w x (.slice io n ic);obtain⟨p0,p1,p2,p3,p4,p5,p6,p7,p8,p9,cG,cE⟩:=ai.all aH;rw[hk]at p0
 have HK:=aa hk;have dw:=aa aH;have aG:=aa aq;have fy:Hid (∀W,Calls Tryz.prog 106 #[.int .i64 2] W (Says W (.bool true))):=fun W=>bA 2 W
 clear aH aq hz1 hk
 go_enter Tryz.func103,Tryz.ntmps103
 go_wp2_with fail
 refine(fy.out _).mono ?_;rintro e' w' ⟨rfl,rfl⟩;go_wp2;go_ret;exact⟨rfl,aG.out⟩
theorem K2(x:Re.Rec)(io:Option Addr)(n ic:Nat)(w:World)(hk:x.kind=2)(d1:(x.aF.round == 0)=false)(dm:Bl.may x.aF=false) :
 Calls Tryz.prog 103 #[.agg (Re.cells x (.slice io n ic))] w (Looks w (.int .i64 (6))):=by
 obtain⟨w1,e1,aH,aq,hz1⟩:=bf w x (.slice io n ic);obtain⟨p0,p1,p2,p3,p4,p5,p6,p7,p8,p9,cG,cE⟩:=ai.all aH;rw[hk]at p0
 have HK:=aa hk;have dw:=aa aH;have aG:=aa aq;have fy:Hid (∀W,Calls Tryz.prog 106 #[.int .i64 2] W (Says W (.bool true))):=fun W=>bA 2 W
 have kD:Hid (∀W,Calls Tryz.prog 145 #[.agg (Bl.cells x.aF)] W (Looks W (.bool false))):=fun W=>by have:=dc x.aF W;rw[dm]at this;exact this
 clear dm;clear aH aq hz1 hk
 go_enter Tryz.func103,Tryz.ntmps103
 go_wp2_with fail
 refine(fy.out _).mono ?_;rintro e' w' ⟨rfl,rfl⟩
 go_wp2_with fail
 refine(kD.out _).mono ?_;rintro e' w2 ⟨rfl,hb⟩;have dE:=aa (dw.below hb dw.lt);have aR:=aa (aG.trans (hb.mono aG.size));clear hb p0 p1 p2 p3 p4 p5 p6 p7 p8 p9 cG cE;obtain⟨p0,p1,p2,p3,p4,p5,p6,p7,p8,p9,cG,cE⟩:=ai.all dE.out;rw[HK.out]at p0
 go_wp2;go_ret;exact⟨rfl,aR.out⟩
theorem K3(x:Re.Rec)(io:Option Addr)(n ic:Nat)(w:World)(hk:x.kind=2)(d1:(x.aF.round == 0)=false)(dm:Bl.may x.aF=true)(d2:decide (x.index<1)=true) :
 Calls Tryz.prog 103 #[.agg (Re.cells x (.slice io n ic))] w (Looks w (.int .i64 (6))):=by
 obtain⟨w1,e1,aH,aq,hz1⟩:=bf w x (.slice io n ic);obtain⟨p0,p1,p2,p3,p4,p5,p6,p7,p8,p9,cG,cE⟩:=ai.all aH;rw[hk]at p0
 have HK:=aa hk;have dw:=aa aH;have aG:=aa aq;have fy:Hid (∀W,Calls Tryz.prog 106 #[.int .i64 2] W (Says W (.bool true))):=fun W=>bA 2 W
 have gO:Hid (∀W,Calls Tryz.prog 146 #[.int .i64 2] W (Says W (.bool true))):=fun W=>bN 2 W
 have kD:Hid (∀W,Calls Tryz.prog 145 #[.agg (Bl.cells x.aF)] W (Looks W (.bool true))):=fun W=>by have:=dc x.aF W;rw[dm]at this;exact this
 clear dm;clear aH aq hz1 hk
 go_enter Tryz.func103,Tryz.ntmps103
 go_wp2_with fail
 refine(fy.out _).mono ?_;rintro e' w' ⟨rfl,rfl⟩
 go_wp2_with fail
 refine(kD.out _).mono ?_;rintro e' w2 ⟨rfl,hb⟩;have dE:=aa (dw.below hb dw.lt);have aR:=aa (aG.trans (hb.mono aG.size));clear hb p0 p1 p2 p3 p4 p5 p6 p7 p8 p9 cG cE;obtain⟨p0,p1,p2,p3,p4,p5,p6,p7,p8,p9,cG,cE⟩:=ai.all dE.out;rw[HK.out]at p0
 go_wp2_with fail
 refine(gO.out _).mono ?_;rintro e' w' ⟨rfl,rfl⟩;go_wp2;go_ret;exact⟨rfl,aR.out⟩
theorem K4(x:Re.Rec)(io:Option Addr)(n ic:Nat)(w:World)(hk:x.kind=2)(d1:(x.aF.round == 0)=false)(dm:Bl.may x.aF=true)(d2:decide (x.index<1)=false)(d3:decide (4294967296<x.index)=true) :
 Calls Tryz.prog 103 #[.agg (Re.cells x (.slice io n ic))] w (Looks w (.int .i64 (6))):=by
 obtain⟨w1,e1,aH,aq,hz1⟩:=bf w x (.slice io n ic);obtain⟨p0,p1,p2,p3,p4,p5,p6,p7,p8,p9,cG,cE⟩:=ai.all aH;rw[hk]at p0
 have HK:=aa hk;have dw:=aa aH;have aG:=aa aq;have fy:Hid (∀W,Calls Tryz.prog 106 #[.int .i64 2] W (Says W (.bool true))):=fun W=>bA 2 W
 have gO:Hid (∀W,Calls Tryz.prog 146 #[.int .i64 2] W (Says W (.bool true))):=fun W=>bN 2 W
 have kD:Hid (∀W,Calls Tryz.prog 145 #[.agg (Bl.cells x.aF)] W (Looks W (.bool true))):=fun W=>by have:=dc x.aF W;rw[dm]at this;exact this
 clear dm;clear aH aq hz1 hk
 go_enter Tryz.func103,Tryz.ntmps103
 go_wp2_with fail
 refine(fy.out _).mono ?_;rintro e' w' ⟨rfl,rfl⟩
 go_wp2_with fail
 refine(kD.out _).mono ?_;rintro e' w2 ⟨rfl,hb⟩;have dE:=aa (dw.below hb dw.lt);have aR:=aa (aG.trans (hb.mono aG.size));clear hb p0 p1 p2 p3 p4 p5 p6 p7 p8 p9 cG cE;obtain⟨p0,p1,p2,p3,p4,p5,p6,p7,p8,p9,cG,cE⟩:=ai.all dE.out;rw[HK.out]at p0
 go_wp2_with fail
 refine(gO.out _).mono ?_;rintro e' w' ⟨rfl,rfl⟩;go_wp2;go_ret;exact⟨rfl,aR.out⟩
theorem La(x:Re.Rec)(io:Option Addr)(n ic:Nat)(w:World)(hk:x.kind=2)(d1:(x.aF.round == 0)=false)(dm:Bl.may x.aF=true)(d2:decide (x.index<1)=false)(d3:decide (4294967296<x.index)=false)(hs:x.cmd.aD 140737488355328)(hc:Cm.check x.cmd≠0) :
 Calls Tryz.prog 103 #[.agg (Re.cells x (.slice io n ic))] w (Looks w (.int .i64 (Cm.check x.cmd))):=by
 obtain⟨w1,e1,aH,aq,hz1⟩:=bf w x (.slice io n ic);obtain⟨p0,p1,p2,p3,p4,p5,p6,p7,p8,p9,cG,cE⟩:=ai.all aH;rw[hk]at p0
 have HK:=aa hk;have dw:=aa aH;have aG:=aa aq;have fy:Hid (∀W,Calls Tryz.prog 106 #[.int .i64 2] W (Says W (.bool true))):=fun W=>bA 2 W
 have gO:Hid (∀W,Calls Tryz.prog 146 #[.int .i64 2] W (Says W (.bool true))):=fun W=>bN 2 W
 have kE:Hid (∀W,Calls Tryz.prog 104 #[.int .i64 2] W (Says W (.bool true))):=fun W=>cA 2 W
 have kD:Hid (∀W,Calls Tryz.prog 145 #[.agg (Bl.cells x.aF)] W (Looks W (.bool true))):=fun W=>by have:=dc x.aF W;rw[dm]at this;exact this
 clear dm;have jP:=aa (fun W=>dY x.cmd W hs)
 obtain⟨c,hcc⟩ : ∃c,c=Cm.check x.cmd:=⟨_,rfl⟩;rw[<- hcc]at jP hc ⊢
 have hne:(c != 0)=true:=by simpa using hc
 clear hcc hc hs;clear aH aq hz1 hk
 go_enter Tryz.func103,Tryz.ntmps103
 go_wp2_with fail
 refine(fy.out _).mono ?_;rintro e' w' ⟨rfl,rfl⟩
 go_wp2_with fail
 refine(kD.out _).mono ?_;rintro e' w2 ⟨rfl,hb⟩;have dE:=aa (dw.below hb dw.lt);have aR:=aa (aG.trans (hb.mono aG.size));clear hb p0 p1 p2 p3 p4 p5 p6 p7 p8 p9 cG cE;obtain⟨p0,p1,p2,p3,p4,p5,p6,p7,p8,p9,cG,cE⟩:=ai.all dE.out;rw[HK.out]at p0
 go_wp2_with fail
 refine(gO.out _).mono ?_;rintro e' w' ⟨rfl,rfl⟩
 go_wp2_with fail
 refine(kE.out _).mono ?_;rintro e' w' ⟨rfl,rfl⟩
 go_wp2_with fail
 refine(jP.out _).mono ?_;rintro e' w3 ⟨rfl,hb⟩;have Ae:=aa (dE.below hb dE.lt);have bh:=aa (aR.trans (hb.mono aR.size));clear hb p0 p1 p2 p3 p4 p5 p6 p7 p8 p9 cG cE;obtain⟨p0,p1,p2,p3,p4,p5,p6,p7,p8,p9,cG,cE⟩:=ai.all Ae.out;rw[HK.out]at p0
 go_wp2;go_ret;exact⟨rfl,bh.out⟩
theorem Lb(x:Re.Rec)(io:Option Addr)(n ic:Nat)(w:World)(hk:x.kind=2)(d1:(x.aF.round == 0)=false)(dm:Bl.may x.aF=true)(d2:decide (x.index<1)=false)(d3:decide (4294967296<x.index)=false)(hs:x.cmd.aD 140737488355328)(hc:Cm.check x.cmd=0)(d6:0<n) :
 Calls Tryz.prog 103 #[.agg (Re.cells x (.slice io n ic))] w (Looks w (.int .i64 (3))):=by
 obtain⟨w1,e1,aH,aq,hz1⟩:=bf w x (.slice io n ic);obtain⟨p0,p1,p2,p3,p4,p5,p6,p7,p8,p9,cG,cE⟩:=ai.all aH;rw[hk]at p0
 have HK:=aa hk;have dw:=aa aH;have aG:=aa aq;have fy:Hid (∀W,Calls Tryz.prog 106 #[.int .i64 2] W (Says W (.bool true))):=fun W=>bA 2 W
 have gO:Hid (∀W,Calls Tryz.prog 146 #[.int .i64 2] W (Says W (.bool true))):=fun W=>bN 2 W
 have kE:Hid (∀W,Calls Tryz.prog 104 #[.int .i64 2] W (Says W (.bool true))):=fun W=>cA 2 W
 have kD:Hid (∀W,Calls Tryz.prog 145 #[.agg (Bl.cells x.aF)] W (Looks W (.bool true))):=fun W=>by have:=dc x.aF W;rw[dm]at this;exact this
 clear dm;have jP:=aa (fun W=>dY x.cmd W hs)
 rw[hc]at jP
 clear hc hs;clear aH aq hz1 hk
 go_enter Tryz.func103,Tryz.ntmps103
 go_wp2_with fail
 refine(fy.out _).mono ?_;rintro e' w' ⟨rfl,rfl⟩
 go_wp2_with fail
 refine(kD.out _).mono ?_;rintro e' w2 ⟨rfl,hb⟩;have dE:=aa (dw.below hb dw.lt);have aR:=aa (aG.trans (hb.mono aG.size));clear hb p0 p1 p2 p3 p4 p5 p6 p7 p8 p9 cG cE;obtain⟨p0,p1,p2,p3,p4,p5,p6,p7,p8,p9,cG,cE⟩:=ai.all dE.out;rw[HK.out]at p0
 go_wp2_with fail
 refine(gO.out _).mono ?_;rintro e' w' ⟨rfl,rfl⟩
 go_wp2_with fail
 refine(kE.out _).mono ?_;rintro e' w' ⟨rfl,rfl⟩
 go_wp2_with fail
 refine(jP.out _).mono ?_;rintro e' w3 ⟨rfl,hb⟩;have Ae:=aa (dE.below hb dE.lt);have bh:=aa (aR.trans (hb.mono aR.size));clear hb p0 p1 p2 p3 p4 p5 p6 p7 p8 p9 cG cE;obtain⟨p0,p1,p2,p3,p4,p5,p6,p7,p8,p9,cG,cE⟩:=ai.all Ae.out;rw[HK.out]at p0
 go_wp2_with fail
 refine(fy.out _).mono ?_;rintro e' w' ⟨rfl,rfl⟩
 go_wp2_with fail
 refine(gO.out _).mono ?_;rintro e' w' ⟨rfl,rfl⟩
 go_wp2_with fail
 refine(kE.out _).mono ?_;rintro e' w' ⟨rfl,rfl⟩;go_wp2;go_ret;exact⟨rfl,bh.out⟩
theorem Lc(x:Re.Rec)(io:Option Addr)(n ic:Nat)(w:World)(hk:x.kind=2)(d1:(x.aF.round == 0)=false)(dm:Bl.may x.aF=true)(d2:decide (x.index<1)=false)(d3:decide (4294967296<x.index)=false)(hs:x.cmd.aD 140737488355328)(hc:Cm.check x.cmd=0)(d6 : ¬ 0<n) :
 Calls Tryz.prog 103 #[.agg (Re.cells x (.slice io n ic))] w (Looks w (.int .i64 (0))):=by
 obtain⟨w1,e1,aH,aq,hz1⟩:=bf w x (.slice io n ic);obtain⟨p0,p1,p2,p3,p4,p5,p6,p7,p8,p9,cG,cE⟩:=ai.all aH;rw[hk]at p0
 have HK:=aa hk;have dw:=aa aH;have aG:=aa aq;have fy:Hid (∀W,Calls Tryz.prog 106 #[.int .i64 2] W (Says W (.bool true))):=fun W=>bA 2 W
 have gO:Hid (∀W,Calls Tryz.prog 146 #[.int .i64 2] W (Says W (.bool true))):=fun W=>bN 2 W
 have kE:Hid (∀W,Calls Tryz.prog 104 #[.int .i64 2] W (Says W (.bool true))):=fun W=>cA 2 W
 have kD:Hid (∀W,Calls Tryz.prog 145 #[.agg (Bl.cells x.aF)] W (Looks W (.bool true))):=fun W=>by have:=dc x.aF W;rw[dm]at this;exact this
 clear dm;have jP:=aa (fun W=>dY x.cmd W hs)
 rw[hc]at jP
 clear hc hs;clear aH aq hz1 hk
 go_enter Tryz.func103,Tryz.ntmps103
 go_wp2_with fail
 refine(fy.out _).mono ?_;rintro e' w' ⟨rfl,rfl⟩
 go_wp2_with fail
 refine(kD.out _).mono ?_;rintro e' w2 ⟨rfl,hb⟩;have dE:=aa (dw.below hb dw.lt);have aR:=aa (aG.trans (hb.mono aG.size));clear hb p0 p1 p2 p3 p4 p5 p6 p7 p8 p9 cG cE;obtain⟨p0,p1,p2,p3,p4,p5,p6,p7,p8,p9,cG,cE⟩:=ai.all dE.out;rw[HK.out]at p0
 go_wp2_with fail
 refine(gO.out _).mono ?_;rintro e' w' ⟨rfl,rfl⟩
 go_wp2_with fail
 refine(kE.out _).mono ?_;rintro e' w' ⟨rfl,rfl⟩
 go_wp2_with fail
 refine(jP.out _).mono ?_;rintro e' w3 ⟨rfl,hb⟩;have Ae:=aa (dE.below hb dE.lt);have bh:=aa (aR.trans (hb.mono aR.size));clear hb p0 p1 p2 p3 p4 p5 p6 p7 p8 p9 cG cE;obtain⟨p0,p1,p2,p3,p4,p5,p6,p7,p8,p9,cG,cE⟩:=ai.all Ae.out;rw[HK.out]at p0
 go_wp2_with fail
 refine(fy.out _).mono ?_;rintro e' w' ⟨rfl,rfl⟩
 go_wp2_with fail
 refine(gO.out _).mono ?_;rintro e' w' ⟨rfl,rfl⟩
 go_wp2_with fail
 refine(kE.out _).mono ?_;rintro e' w' ⟨rfl,rfl⟩;go_wp2;go_ret;exact⟨rfl,bh.out⟩
theorem Ld(x:Re.Rec)(io:Option Addr)(n ic:Nat)(w:World)(hk:x.kind=3)(d2:decide (x.index<1)=true) :
 Calls Tryz.prog 103 #[.agg (Re.cells x (.slice io n ic))] w (Looks w (.int .i64 (6))):=by
 obtain⟨w1,e1,aH,aq,hz1⟩:=bf w x (.slice io n ic);obtain⟨p0,p1,p2,p3,p4,p5,p6,p7,p8,p9,cG,cE⟩:=ai.all aH;rw[hk]at p0
 have HK:=aa hk;have dw:=aa aH;have aG:=aa aq;have fy:Hid (∀W,Calls Tryz.prog 106 #[.int .i64 3] W (Says W (.bool false))):=fun W=>bA 3 W
 have gO:Hid (∀W,Calls Tryz.prog 146 #[.int .i64 3] W (Says W (.bool true))):=fun W=>bN 3 W
 clear aH aq hz1 hk
 go_enter Tryz.func103,Tryz.ntmps103
 go_wp2_with fail
 refine(fy.out _).mono ?_;rintro e' w' ⟨rfl,rfl⟩
 go_wp2_with fail
 refine(gO.out _).mono ?_;rintro e' w' ⟨rfl,rfl⟩;go_wp2;go_ret;exact⟨rfl,aG.out⟩
theorem Le(x:Re.Rec)(io:Option Addr)(n ic:Nat)(w:World)(hk:x.kind=3)(d2:decide (x.index<1)=false)(d3:decide (4294967296<x.index)=true) :
 Calls Tryz.prog 103 #[.agg (Re.cells x (.slice io n ic))] w (Looks w (.int .i64 (6))):=by
 obtain⟨w1,e1,aH,aq,hz1⟩:=bf w x (.slice io n ic);obtain⟨p0,p1,p2,p3,p4,p5,p6,p7,p8,p9,cG,cE⟩:=ai.all aH;rw[hk]at p0
 have HK:=aa hk;have dw:=aa aH;have aG:=aa aq;have fy:Hid (∀W,Calls Tryz.prog 106 #[.int .i64 3] W (Says W (.bool false))):=fun W=>bA 3 W
 have gO:Hid (∀W,Calls Tryz.prog 146 #[.int .i64 3] W (Says W (.bool true))):=fun W=>bN 3 W
 clear aH aq hz1 hk
 go_enter Tryz.func103,Tryz.ntmps103
 go_wp2_with fail
 refine(fy.out _).mono ?_;rintro e' w' ⟨rfl,rfl⟩
 go_wp2_with fail
 refine(gO.out _).mono ?_;rintro e' w' ⟨rfl,rfl⟩;go_wp2;go_ret;exact⟨rfl,aG.out⟩
theorem Lf(x:Re.Rec)(io:Option Addr)(n ic:Nat)(w:World)(hk:x.kind=3)(d2:decide (x.index<1)=false)(d3:decide (4294967296<x.index)=false)(hs:x.cmd.aD 140737488355328)(hc:Cm.check x.cmd≠0) :
 Calls Tryz.prog 103 #[.agg (Re.cells x (.slice io n ic))] w (Looks w (.int .i64 (Cm.check x.cmd))):=by
 obtain⟨w1,e1,aH,aq,hz1⟩:=bf w x (.slice io n ic);obtain⟨p0,p1,p2,p3,p4,p5,p6,p7,p8,p9,cG,cE⟩:=ai.all aH;rw[hk]at p0
 have HK:=aa hk;have dw:=aa aH;have aG:=aa aq;have fy:Hid (∀W,Calls Tryz.prog 106 #[.int .i64 3] W (Says W (.bool false))):=fun W=>bA 3 W
 have gO:Hid (∀W,Calls Tryz.prog 146 #[.int .i64 3] W (Says W (.bool true))):=fun W=>bN 3 W
 have kE:Hid (∀W,Calls Tryz.prog 104 #[.int .i64 3] W (Says W (.bool true))):=fun W=>cA 3 W
 have jP:=aa (fun W=>dY x.cmd W hs)
 obtain⟨c,hcc⟩ : ∃c,c=Cm.check x.cmd:=⟨_,rfl⟩;rw[<- hcc]at jP hc ⊢
 have hne:(c != 0)=true:=by simpa using hc
 clear hcc hc hs;clear aH aq hz1 hk
 go_enter Tryz.func103,Tryz.ntmps103
 go_wp2_with fail
 refine(fy.out _).mono ?_;rintro e' w' ⟨rfl,rfl⟩
 go_wp2_with fail
 refine(gO.out _).mono ?_;rintro e' w' ⟨rfl,rfl⟩
 go_wp2_with fail
 refine(kE.out _).mono ?_;rintro e' w' ⟨rfl,rfl⟩
 go_wp2_with fail
 refine(jP.out _).mono ?_;rintro e' w2 ⟨rfl,hb⟩;have dE:=aa (dw.below hb dw.lt);have aR:=aa (aG.trans (hb.mono aG.size));clear hb p0 p1 p2 p3 p4 p5 p6 p7 p8 p9 cG cE;obtain⟨p0,p1,p2,p3,p4,p5,p6,p7,p8,p9,cG,cE⟩:=ai.all dE.out;rw[HK.out]at p0
 go_wp2;go_ret;exact⟨rfl,aR.out⟩
theorem Lg(x:Re.Rec)(io:Option Addr)(n ic:Nat)(w:World)(hk:x.kind=3)(d2:decide (x.index<1)=false)(d3:decide (4294967296<x.index)=false)(hs:x.cmd.aD 140737488355328)(hc:Cm.check x.cmd=0)(d9:(x.aF.round != 0)=true) :
 Calls Tryz.prog 103 #[.agg (Re.cells x (.slice io n ic))] w (Looks w (.int .i64 (3))):=by
 obtain⟨w1,e1,aH,aq,hz1⟩:=bf w x (.slice io n ic);obtain⟨p0,p1,p2,p3,p4,p5,p6,p7,p8,p9,cG,cE⟩:=ai.all aH;rw[hk]at p0
 have HK:=aa hk;have dw:=aa aH;have aG:=aa aq;have fy:Hid (∀W,Calls Tryz.prog 106 #[.int .i64 3] W (Says W (.bool false))):=fun W=>bA 3 W
 have gO:Hid (∀W,Calls Tryz.prog 146 #[.int .i64 3] W (Says W (.bool true))):=fun W=>bN 3 W
 have kE:Hid (∀W,Calls Tryz.prog 104 #[.int .i64 3] W (Says W (.bool true))):=fun W=>cA 3 W
 have jP:=aa (fun W=>dY x.cmd W hs)
 rw[hc]at jP
 clear hc hs;clear aH aq hz1 hk
 go_enter Tryz.func103,Tryz.ntmps103
 go_wp2_with fail
 refine(fy.out _).mono ?_;rintro e' w' ⟨rfl,rfl⟩
 go_wp2_with fail
 refine(gO.out _).mono ?_;rintro e' w' ⟨rfl,rfl⟩
 go_wp2_with fail
 refine(kE.out _).mono ?_;rintro e' w' ⟨rfl,rfl⟩
 go_wp2_with fail
 refine(jP.out _).mono ?_;rintro e' w2 ⟨rfl,hb⟩;have dE:=aa (dw.below hb dw.lt);have aR:=aa (aG.trans (hb.mono aG.size));clear hb p0 p1 p2 p3 p4 p5 p6 p7 p8 p9 cG cE;obtain⟨p0,p1,p2,p3,p4,p5,p6,p7,p8,p9,cG,cE⟩:=ai.all dE.out;rw[HK.out]at p0
 go_wp2_with fail
 refine(fy.out _).mono ?_;rintro e' w' ⟨rfl,rfl⟩;go_wp2;go_ret;exact⟨rfl,aR.out⟩
theorem Lh(x:Re.Rec)(io:Option Addr)(n ic:Nat)(w:World)(hk:x.kind=3)(d2:decide (x.index<1)=false)(d3:decide (4294967296<x.index)=false)(hs:x.cmd.aD 140737488355328)(hc:Cm.check x.cmd=0)(d9:(x.aF.round != 0)=false)(d8:(x.aF.node != 0)=true) :
 Calls Tryz.prog 103 #[.agg (Re.cells x (.slice io n ic))] w (Looks w (.int .i64 (3))):=by
 obtain⟨w1,e1,aH,aq,hz1⟩:=bf w x (.slice io n ic);obtain⟨p0,p1,p2,p3,p4,p5,p6,p7,p8,p9,cG,cE⟩:=ai.all aH;rw[hk]at p0
 have HK:=aa hk;have dw:=aa aH;have aG:=aa aq;have fy:Hid (∀W,Calls Tryz.prog 106 #[.int .i64 3] W (Says W (.bool false))):=fun W=>bA 3 W
 have gO:Hid (∀W,Calls Tryz.prog 146 #[.int .i64 3] W (Says W (.bool true))):=fun W=>bN 3 W
 have kE:Hid (∀W,Calls Tryz.prog 104 #[.int .i64 3] W (Says W (.bool true))):=fun W=>cA 3 W
 have jP:=aa (fun W=>dY x.cmd W hs)
 rw[hc]at jP
 clear hc hs;clear aH aq hz1 hk
 go_enter Tryz.func103,Tryz.ntmps103
 go_wp2_with fail
 refine(fy.out _).mono ?_;rintro e' w' ⟨rfl,rfl⟩
 go_wp2_with fail
 refine(gO.out _).mono ?_;rintro e' w' ⟨rfl,rfl⟩
 go_wp2_with fail
 refine(kE.out _).mono ?_;rintro e' w' ⟨rfl,rfl⟩
 go_wp2_with fail
 refine(jP.out _).mono ?_;rintro e' w2 ⟨rfl,hb⟩;have dE:=aa (dw.below hb dw.lt);have aR:=aa (aG.trans (hb.mono aG.size));clear hb p0 p1 p2 p3 p4 p5 p6 p7 p8 p9 cG cE;obtain⟨p0,p1,p2,p3,p4,p5,p6,p7,p8,p9,cG,cE⟩:=ai.all dE.out;rw[HK.out]at p0
 go_wp2_with fail
 refine(fy.out _).mono ?_;rintro e' w' ⟨rfl,rfl⟩;go_wp2;go_ret;exact⟨rfl,aR.out⟩
theorem Li(x:Re.Rec)(io:Option Addr)(n ic:Nat)(w:World)(hk:x.kind=3)(d2:decide (x.index<1)=false)(d3:decide (4294967296<x.index)=false)(hs:x.cmd.aD 140737488355328)(hc:Cm.check x.cmd=0)(d9:(x.aF.round != 0)=false)(d8:(x.aF.node != 0)=false)(d6:0<n) :
 Calls Tryz.prog 103 #[.agg (Re.cells x (.slice io n ic))] w (Looks w (.int .i64 (3))):=by
 obtain⟨w1,e1,aH,aq,hz1⟩:=bf w x (.slice io n ic);obtain⟨p0,p1,p2,p3,p4,p5,p6,p7,p8,p9,cG,cE⟩:=ai.all aH;rw[hk]at p0
 have HK:=aa hk;have dw:=aa aH;have aG:=aa aq;have fy:Hid (∀W,Calls Tryz.prog 106 #[.int .i64 3] W (Says W (.bool false))):=fun W=>bA 3 W
 have gO:Hid (∀W,Calls Tryz.prog 146 #[.int .i64 3] W (Says W (.bool true))):=fun W=>bN 3 W
 have kE:Hid (∀W,Calls Tryz.prog 104 #[.int .i64 3] W (Says W (.bool true))):=fun W=>cA 3 W
 have jP:=aa (fun W=>dY x.cmd W hs)
 rw[hc]at jP
 clear hc hs;clear aH aq hz1 hk
 go_enter Tryz.func103,Tryz.ntmps103
 go_wp2_with fail
 refine(fy.out _).mono ?_;rintro e' w' ⟨rfl,rfl⟩
 go_wp2_with fail
 refine(gO.out _).mono ?_;rintro e' w' ⟨rfl,rfl⟩
 go_wp2_with fail
 refine(kE.out _).mono ?_;rintro e' w' ⟨rfl,rfl⟩
 go_wp2_with fail
 refine(jP.out _).mono ?_;rintro e' w2 ⟨rfl,hb⟩;have dE:=aa (dw.below hb dw.lt);have aR:=aa (aG.trans (hb.mono aG.size));clear hb p0 p1 p2 p3 p4 p5 p6 p7 p8 p9 cG cE;obtain⟨p0,p1,p2,p3,p4,p5,p6,p7,p8,p9,cG,cE⟩:=ai.all dE.out;rw[HK.out]at p0
 go_wp2_with fail
 refine(fy.out _).mono ?_;rintro e' w' ⟨rfl,rfl⟩
 go_wp2_with fail
 refine(gO.out _).mono ?_;rintro e' w' ⟨rfl,rfl⟩
 go_wp2_with fail
 refine(kE.out _).mono ?_;rintro e' w' ⟨rfl,rfl⟩;go_wp2;go_ret;exact⟨rfl,aR.out⟩
theorem Lj(x:Re.Rec)(io:Option Addr)(n ic:Nat)(w:World)(hk:x.kind=3)(d2:decide (x.index<1)=false)(d3:decide (4294967296<x.index)=false)(hs:x.cmd.aD 140737488355328)(hc:Cm.check x.cmd=0)(d9:(x.aF.round != 0)=false)(d8:(x.aF.node != 0)=false)(d6 : ¬ 0<n) :
 Calls Tryz.prog 103 #[.agg (Re.cells x (.slice io n ic))] w (Looks w (.int .i64 (0))):=by
 obtain⟨w1,e1,aH,aq,hz1⟩:=bf w x (.slice io n ic);obtain⟨p0,p1,p2,p3,p4,p5,p6,p7,p8,p9,cG,cE⟩:=ai.all aH;rw[hk]at p0
 have HK:=aa hk;have dw:=aa aH;have aG:=aa aq;have fy:Hid (∀W,Calls Tryz.prog 106 #[.int .i64 3] W (Says W (.bool false))):=fun W=>bA 3 W
 have gO:Hid (∀W,Calls Tryz.prog 146 #[.int .i64 3] W (Says W (.bool true))):=fun W=>bN 3 W
 have kE:Hid (∀W,Calls Tryz.prog 104 #[.int .i64 3] W (Says W (.bool true))):=fun W=>cA 3 W
 have jP:=aa (fun W=>dY x.cmd W hs)
 rw[hc]at jP
 clear hc hs;clear aH aq hz1 hk
 go_enter Tryz.func103,Tryz.ntmps103
 go_wp2_with fail
 refine(fy.out _).mono ?_;rintro e' w' ⟨rfl,rfl⟩
 go_wp2_with fail
 refine(gO.out _).mono ?_;rintro e' w' ⟨rfl,rfl⟩
 go_wp2_with fail
 refine(kE.out _).mono ?_;rintro e' w' ⟨rfl,rfl⟩
 go_wp2_with fail
 refine(jP.out _).mono ?_;rintro e' w2 ⟨rfl,hb⟩;have dE:=aa (dw.below hb dw.lt);have aR:=aa (aG.trans (hb.mono aG.size));clear hb p0 p1 p2 p3 p4 p5 p6 p7 p8 p9 cG cE;obtain⟨p0,p1,p2,p3,p4,p5,p6,p7,p8,p9,cG,cE⟩:=ai.all dE.out;rw[HK.out]at p0
 go_wp2_with fail
 refine(fy.out _).mono ?_;rintro e' w' ⟨rfl,rfl⟩
 go_wp2_with fail
 refine(gO.out _).mono ?_;rintro e' w' ⟨rfl,rfl⟩
 go_wp2_with fail
 refine(kE.out _).mono ?_;rintro e' w' ⟨rfl,rfl⟩;go_wp2;go_ret;exact⟨rfl,aR.out⟩
theorem Ll(x:Re.Rec)(io:Option Addr)(n ic:Nat)(w:World)(hk:x.kind=4)(d2:decide (x.index<1)=true) :
 Calls Tryz.prog 103 #[.agg (Re.cells x (.slice io n ic))] w (Looks w (.int .i64 (6))):=by
 obtain⟨w1,e1,aH,aq,hz1⟩:=bf w x (.slice io n ic);obtain⟨p0,p1,p2,p3,p4,p5,p6,p7,p8,p9,cG,cE⟩:=ai.all aH;rw[hk]at p0
 have HK:=aa hk;have dw:=aa aH;have aG:=aa aq;have fy:Hid (∀W,Calls Tryz.prog 106 #[.int .i64 4] W (Says W (.bool false))):=fun W=>bA 4 W
 have gO:Hid (∀W,Calls Tryz.prog 146 #[.int .i64 4] W (Says W (.bool true))):=fun W=>bN 4 W
 clear aH aq hz1 hk
 go_enter Tryz.func103,Tryz.ntmps103
 go_wp2_with fail
 refine(fy.out _).mono ?_;rintro e' w' ⟨rfl,rfl⟩
 go_wp2_with fail
 refine(gO.out _).mono ?_;rintro e' w' ⟨rfl,rfl⟩;go_wp2;go_ret;exact⟨rfl,aG.out⟩
theorem Lm(x:Re.Rec)(io:Option Addr)(n ic:Nat)(w:World)(hk:x.kind=4)(d2:decide (x.index<1)=false)(d3:decide (4294967296<x.index)=true) :
 Calls Tryz.prog 103 #[.agg (Re.cells x (.slice io n ic))] w (Looks w (.int .i64 (6))):=by
 obtain⟨w1,e1,aH,aq,hz1⟩:=bf w x (.slice io n ic);obtain⟨p0,p1,p2,p3,p4,p5,p6,p7,p8,p9,cG,cE⟩:=ai.all aH;rw[hk]at p0
 have HK:=aa hk;have dw:=aa aH;have aG:=aa aq;have fy:Hid (∀W,Calls Tryz.prog 106 #[.int .i64 4] W (Says W (.bool false))):=fun W=>bA 4 W
 have gO:Hid (∀W,Calls Tryz.prog 146 #[.int .i64 4] W (Says W (.bool true))):=fun W=>bN 4 W
 clear aH aq hz1 hk
 go_enter Tryz.func103,Tryz.ntmps103
 go_wp2_with fail
 refine(fy.out _).mono ?_;rintro e' w' ⟨rfl,rfl⟩
 go_wp2_with fail
 refine(gO.out _).mono ?_;rintro e' w' ⟨rfl,rfl⟩;go_wp2;go_ret;exact⟨rfl,aG.out⟩
theorem Ln(x:Re.Rec)(io:Option Addr)(n ic:Nat)(w:World)(hk:x.kind=4)(d2:decide (x.index<1)=false)(d3:decide (4294967296<x.index)=false)(d7:decide ((32768:Int)<(n:Int))=true) :
 Calls Tryz.prog 103 #[.agg (Re.cells x (.slice io n ic))] w (Looks w (.int .i64 (2))):=by
 obtain⟨w1,e1,aH,aq,hz1⟩:=bf w x (.slice io n ic);obtain⟨p0,p1,p2,p3,p4,p5,p6,p7,p8,p9,cG,cE⟩:=ai.all aH;rw[hk]at p0
 have HK:=aa hk;have dw:=aa aH;have aG:=aa aq;have fy:Hid (∀W,Calls Tryz.prog 106 #[.int .i64 4] W (Says W (.bool false))):=fun W=>bA 4 W
 have gO:Hid (∀W,Calls Tryz.prog 146 #[.int .i64 4] W (Says W (.bool true))):=fun W=>bN 4 W
 clear aH aq hz1 hk
 go_enter Tryz.func103,Tryz.ntmps103
 go_wp2_with fail
 refine(fy.out _).mono ?_;rintro e' w' ⟨rfl,rfl⟩
 go_wp2_with fail
 refine(gO.out _).mono ?_;rintro e' w' ⟨rfl,rfl⟩;go_wp2;go_ret;exact⟨rfl,aG.out⟩
theorem Lo(x:Re.Rec)(io:Option Addr)(n ic:Nat)(w:World)(hk:x.kind=4)(d2:decide (x.index<1)=false)(d3:decide (4294967296<x.index)=false)(d7:decide ((32768:Int)<(n:Int))=false)(d9:(x.aF.round != 0)=true) :
 Calls Tryz.prog 103 #[.agg (Re.cells x (.slice io n ic))] w (Looks w (.int .i64 (3))):=by
 obtain⟨w1,e1,aH,aq,hz1⟩:=bf w x (.slice io n ic);obtain⟨p0,p1,p2,p3,p4,p5,p6,p7,p8,p9,cG,cE⟩:=ai.all aH;rw[hk]at p0
 have HK:=aa hk;have dw:=aa aH;have aG:=aa aq;have fy:Hid (∀W,Calls Tryz.prog 106 #[.int .i64 4] W (Says W (.bool false))):=fun W=>bA 4 W
 have gO:Hid (∀W,Calls Tryz.prog 146 #[.int .i64 4] W (Says W (.bool true))):=fun W=>bN 4 W
 have kE:Hid (∀W,Calls Tryz.prog 104 #[.int .i64 4] W (Says W (.bool false))):=fun W=>cA 4 W
 clear aH aq hz1 hk
 go_enter Tryz.func103,Tryz.ntmps103
 go_wp2_with fail
 refine(fy.out _).mono ?_;rintro e' w' ⟨rfl,rfl⟩
 go_wp2_with fail
 refine(gO.out _).mono ?_;rintro e' w' ⟨rfl,rfl⟩
 go_wp2_with fail
 refine(kE.out _).mono ?_;rintro e' w' ⟨rfl,rfl⟩
 go_wp2_with fail
 refine(fy.out _).mono ?_;rintro e' w' ⟨rfl,rfl⟩;go_wp2;go_ret;exact⟨rfl,aG.out⟩
theorem Lp(x:Re.Rec)(io:Option Addr)(n ic:Nat)(w:World)(hk:x.kind=4)(d2:decide (x.index<1)=false)(d3:decide (4294967296<x.index)=false)(d7:decide ((32768:Int)<(n:Int))=false)(d9:(x.aF.round != 0)=false)(d8:(x.aF.node != 0)=true) :
 Calls Tryz.prog 103 #[.agg (Re.cells x (.slice io n ic))] w (Looks w (.int .i64 (3))):=by
 obtain⟨w1,e1,aH,aq,hz1⟩:=bf w x (.slice io n ic);obtain⟨p0,p1,p2,p3,p4,p5,p6,p7,p8,p9,cG,cE⟩:=ai.all aH;rw[hk]at p0
 have HK:=aa hk;have dw:=aa aH;have aG:=aa aq;have fy:Hid (∀W,Calls Tryz.prog 106 #[.int .i64 4] W (Says W (.bool false))):=fun W=>bA 4 W
 have gO:Hid (∀W,Calls Tryz.prog 146 #[.int .i64 4] W (Says W (.bool true))):=fun W=>bN 4 W
 have kE:Hid (∀W,Calls Tryz.prog 104 #[.int .i64 4] W (Says W (.bool false))):=fun W=>cA 4 W
 clear aH aq hz1 hk
 go_enter Tryz.func103,Tryz.ntmps103
 go_wp2_with fail
 refine(fy.out _).mono ?_;rintro e' w' ⟨rfl,rfl⟩
 go_wp2_with fail
 refine(gO.out _).mono ?_;rintro e' w' ⟨rfl,rfl⟩
 go_wp2_with fail
 refine(kE.out _).mono ?_;rintro e' w' ⟨rfl,rfl⟩
 go_wp2_with fail
 refine(fy.out _).mono ?_;rintro e' w' ⟨rfl,rfl⟩;go_wp2;go_ret;exact⟨rfl,aG.out⟩
theorem Lq(x:Re.Rec)(io:Option Addr)(n ic:Nat)(w:World)(hk:x.kind=4)(d2:decide (x.index<1)=false)(d3:decide (4294967296<x.index)=false)(d7:decide ((32768:Int)<(n:Int))=false)(d9:(x.aF.round != 0)=false)(d8:(x.aF.node != 0)=false)(d5:decide (x.cmd=Cm.zero)=false) :
 Calls Tryz.prog 103 #[.agg (Re.cells x (.slice io n ic))] w (Looks w (.int .i64 (3))):=by
 obtain⟨w1,e1,aH,aq,hz1⟩:=bf w x (.slice io n ic);obtain⟨p0,p1,p2,p3,p4,p5,p6,p7,p8,p9,cG,cE⟩:=ai.all aH;rw[hk]at p0
 have HK:=aa hk;have dw:=aa aH;have aG:=aa aq;have fy:Hid (∀W,Calls Tryz.prog 106 #[.int .i64 4] W (Says W (.bool false))):=fun W=>bA 4 W
 have gO:Hid (∀W,Calls Tryz.prog 146 #[.int .i64 4] W (Says W (.bool true))):=fun W=>bN 4 W
 have kE:Hid (∀W,Calls Tryz.prog 104 #[.int .i64 4] W (Says W (.bool false))):=fun W=>cA 4 W
 have hgd:=gv;have heq : ∀W,(binOp .neq 40 (.agg (Cm.cells x.cmd)) (.agg (Cm.cells Cm.zero))).run Tryz.prog W = .ok (.bool true) W:=fun W=>by rw[fD,d5];rfl
 dsimp only [Cm.cells,Cm.zero,Cm.aL]at heq
 clear d5;clear aH aq hz1 hk
 go_enter Tryz.func103,Tryz.ntmps103
 go_wp2_with fail
 refine(fy.out _).mono ?_;rintro e' w' ⟨rfl,rfl⟩
 go_wp2_with fail
 refine(gO.out _).mono ?_;rintro e' w' ⟨rfl,rfl⟩
 go_wp2_with fail
 refine(kE.out _).mono ?_;rintro e' w' ⟨rfl,rfl⟩
 go_wp2_with fail
 refine(fy.out _).mono ?_;rintro e' w' ⟨rfl,rfl⟩
 go_wp2_with fail
 refine(gO.out _).mono ?_;rintro e' w' ⟨rfl,rfl⟩
 go_wp2_with fail
 refine(kE.out _).mono ?_;rintro e' w' ⟨rfl,rfl⟩;go_wp2;go_ret;exact⟨rfl,aG.out⟩
theorem Lr(x:Re.Rec)(io:Option Addr)(n ic:Nat)(w:World)(hk:x.kind=4)(d2:decide (x.index<1)=false)(d3:decide (4294967296<x.index)=false)(d7:decide ((32768:Int)<(n:Int))=false)(d9:(x.aF.round != 0)=false)(d8:(x.aF.node != 0)=false)(d5:decide (x.cmd=Cm.zero)=true)(d6 : ¬ 0<n) :
 Calls Tryz.prog 103 #[.agg (Re.cells x (.slice io n ic))] w (Looks w (.int .i64 (3))):=by
 obtain⟨w1,e1,aH,aq,hz1⟩:=bf w x (.slice io n ic);obtain⟨p0,p1,p2,p3,p4,p5,p6,p7,p8,p9,cG,cE⟩:=ai.all aH;rw[hk]at p0
 have HK:=aa hk;have dw:=aa aH;have aG:=aa aq;have fy:Hid (∀W,Calls Tryz.prog 106 #[.int .i64 4] W (Says W (.bool false))):=fun W=>bA 4 W
 have gO:Hid (∀W,Calls Tryz.prog 146 #[.int .i64 4] W (Says W (.bool true))):=fun W=>bN 4 W
 have kE:Hid (∀W,Calls Tryz.prog 104 #[.int .i64 4] W (Says W (.bool false))):=fun W=>cA 4 W
 have hgd:=gv;have heq : ∀W,(binOp .neq 40 (.agg (Cm.cells x.cmd)) (.agg (Cm.cells Cm.zero))).run Tryz.prog W = .ok (.bool false) W:=fun W=>by rw[fD,d5];rfl
 dsimp only [Cm.cells,Cm.zero,Cm.aL]at heq
 clear d5;clear aH aq hz1 hk
 go_enter Tryz.func103,Tryz.ntmps103
 go_wp2_with fail
 refine(fy.out _).mono ?_;rintro e' w' ⟨rfl,rfl⟩
 go_wp2_with fail
 refine(gO.out _).mono ?_;rintro e' w' ⟨rfl,rfl⟩
 go_wp2_with fail
 refine(kE.out _).mono ?_;rintro e' w' ⟨rfl,rfl⟩
 go_wp2_with fail
 refine(fy.out _).mono ?_;rintro e' w' ⟨rfl,rfl⟩
 go_wp2_with fail
 refine(gO.out _).mono ?_;rintro e' w' ⟨rfl,rfl⟩
 go_wp2_with fail
 refine(kE.out _).mono ?_;rintro e' w' ⟨rfl,rfl⟩;go_wp2;go_ret;exact⟨rfl,aG.out⟩
theorem Ls(x:Re.Rec)(io:Option Addr)(n ic:Nat)(w:World)(hk:x.kind=4)(d2:decide (x.index<1)=false)(d3:decide (4294967296<x.index)=false)(d7:decide ((32768:Int)<(n:Int))=false)(d9:(x.aF.round != 0)=false)(d8:(x.aF.node != 0)=false)(d5:decide (x.cmd=Cm.zero)=true)(d6:0<n) :
 Calls Tryz.prog 103 #[.agg (Re.cells x (.slice io n ic))] w (Looks w (.int .i64 (0))):=by
 obtain⟨w1,e1,aH,aq,hz1⟩:=bf w x (.slice io n ic);obtain⟨p0,p1,p2,p3,p4,p5,p6,p7,p8,p9,cG,cE⟩:=ai.all aH;rw[hk]at p0
 have HK:=aa hk;have dw:=aa aH;have aG:=aa aq;have fy:Hid (∀W,Calls Tryz.prog 106 #[.int .i64 4] W (Says W (.bool false))):=fun W=>bA 4 W
 have gO:Hid (∀W,Calls Tryz.prog 146 #[.int .i64 4] W (Says W (.bool true))):=fun W=>bN 4 W
 have kE:Hid (∀W,Calls Tryz.prog 104 #[.int .i64 4] W (Says W (.bool false))):=fun W=>cA 4 W
 have hgd:=gv;have heq : ∀W,(binOp .neq 40 (.agg (Cm.cells x.cmd)) (.agg (Cm.cells Cm.zero))).run Tryz.prog W = .ok (.bool false) W:=fun W=>by rw[fD,d5];rfl
 dsimp only [Cm.cells,Cm.zero,Cm.aL]at heq
 clear d5;clear aH aq hz1 hk
 go_enter Tryz.func103,Tryz.ntmps103
 go_wp2_with fail
 refine(fy.out _).mono ?_;rintro e' w' ⟨rfl,rfl⟩
 go_wp2_with fail
 refine(gO.out _).mono ?_;rintro e' w' ⟨rfl,rfl⟩
 go_wp2_with fail
 refine(kE.out _).mono ?_;rintro e' w' ⟨rfl,rfl⟩
 go_wp2_with fail
 refine(fy.out _).mono ?_;rintro e' w' ⟨rfl,rfl⟩
 go_wp2_with fail
 refine(gO.out _).mono ?_;rintro e' w' ⟨rfl,rfl⟩
 go_wp2_with fail
 refine(kE.out _).mono ?_;rintro e' w' ⟨rfl,rfl⟩;go_wp2;go_ret;exact⟨rfl,aG.out⟩
theorem Lt(x:Re.Rec)(vi:Value)(w:World)(hk:x.kind<1∨4<x.kind) :
 Calls Tryz.prog 103 #[.agg (Re.cells x vi)] w (Looks w (.int .i64 5)):=by
 obtain⟨w1,e1,aH,aq,hz1⟩:=bf w x vi;have p0:=aH.c0;have aG:=aa aq;clear aH aq hz1;by_cases h:x.kind<1
 ·have d1:decide (x.kind<1)=true:=decide_eq_true h
  clear hk h
  go_enter Tryz.func103,Tryz.ntmps103
  go_wp2;go_ret;exact⟨rfl,aG.out⟩
 ·have d1:decide (x.kind<1)=false:=decide_eq_false h
  have d4:decide (4<x.kind)=true:=decide_eq_true (by omega)
  clear hk h
  go_enter Tryz.func103,Tryz.ntmps103
  go_wp2;go_ret;exact⟨rfl,aG.out⟩
theorem Re.QV{x:Re.Rec}(h:x.kind=1):(decide (Re.own x=x) && Re.whole x)=(!(x.index != 0) && (decide (x.cmd=Cm.zero) && !decide (0<x.aw.length))):=by
 obtain⟨k,b,i,c,m⟩:=x;dsimp only at h
 subst h;rw[Bool.eq_iff_iff];simp[Re.own,Re.whole,Re.hb,Re.hi,Re.hc,Re.hm]
 grind
theorem Re.QW{x:Re.Rec}(h:x.kind=2):(decide (Re.own x=x) && Re.whole x) = !decide (0<x.aw.length):=by
 obtain⟨k,b,i,c,m⟩:=x;dsimp only at h
 subst h;rw[Bool.eq_iff_iff];simp[Re.own,Re.whole,Re.hb,Re.hi,Re.hc,Re.hm]
theorem Re.QX{x:Re.Rec}(h:x.kind=3):(decide (Re.own x=x) && Re.whole x)=(!(x.aF.round != 0) && (!(x.aF.node != 0) && !decide (0<x.aw.length))):=by
 obtain⟨k,⟨r,nd⟩,i,c,m⟩:=x;dsimp only at h
 subst h;rw[Bool.eq_iff_iff];simp[Re.own,Re.whole,Re.hb,Re.hi,Re.hc,Re.hm,Bl.zero]
 grind
theorem Re.QY{x:Re.Rec}(h:x.kind=4):(decide (Re.own x=x) && Re.whole x)=(!(x.aF.round != 0) && (!(x.aF.node != 0) && (decide (x.cmd=Cm.zero) && decide (0<x.aw.length)))):=by
 obtain⟨k,⟨r,nd⟩,i,c,m⟩:=x;dsimp only at h
 subst h;rw[Bool.eq_iff_iff];simp[Re.own,Re.whole,Re.hb,Re.hi,Re.hc,Re.hm,Bl.zero];cases m<;>grind
theorem Re.rL(i:Int):Ms.within i 1 4294967296=(!decide (i<1) && !decide (4294967296<i)):=by
 unfold Ms.within;rw[Bool.eq_iff_iff];simp
theorem jQ(x:Re.Rec)(vi:Value)(w:World)(hi:Reads w vi x.aw)(hs:x.cmd.aD 140737488355328) :
 Calls Tryz.prog 103 #[.agg (Re.cells x vi)] w (Looks w (.int .i64 (Re.check x))):=by
 obtain⟨io,ic,rfl⟩:=hi.shape;rw[Re.qB];have Xw:decide (32768<x.aw.length)=decide ((32768:Int)<(x.aw.length:Int)):=decide_eq_decide.2 (by omega)
 rcases Re.kinds x.kind with h | h | h | h | h
 ·rw[Re.BM h,Re.QV h,Re.BU]
  cases d1:(x.aF.round == 0)with
  | true=>exact KU x io _ ic w h d1
  | false =>
   cases dm:Bl.may x.aF with
   | false=>exact KV x io _ ic w h d1 dm
   | true =>
    cases d4:(x.index != 0)with
    | true=>exact KW x io _ ic w h d1 dm d4
    | false =>
     cases d5:decide (x.cmd=Cm.zero)with
     | false=>exact KX x io _ ic w h d1 dm d4 d5
     | true =>
      cases d6:decide (0<x.aw.length)with
      | true=>exact KY x io _ ic w h d1 dm d4 d5 (of_decide_eq_true d6)
      | false=>exact KZ x io _ ic w h d1 dm d4 d5 (of_decide_eq_false d6)
 ·rw[Re.BN h,Re.QW h,Re.BU,Re.rL]
  cases d1:(x.aF.round == 0)with
  | true=>exact K1 x io _ ic w h d1
  | false =>
   cases dm:Bl.may x.aF with
   | false=>exact K2 x io _ ic w h d1 dm
   | true =>
    cases d2:decide (x.index<1)with
    | true=>exact K3 x io _ ic w h d1 dm d2
    | false =>
     cases d3:decide (4294967296<x.index)with
     | true=>exact K4 x io _ ic w h d1 dm d2 d3
     | false =>
      have QZ:(if(!false && true)=true then if(!false && !false)=true then Cm.check x.cmd else 6 else 6)=Cm.check x.cmd:=rfl
      rw[QZ];by_cases hc:Cm.check x.cmd=0
      ·rw[hc,if_neg (by simp)]
       cases d6:decide (0<x.aw.length)with
       | true=>exact Lb x io _ ic w h d1 dm d2 d3 hs hc (of_decide_eq_true d6)
       | false=>exact Lc x io _ ic w h d1 dm d2 d3 hs hc (of_decide_eq_false d6)
      ·rw[if_pos hc]
       exact La x io _ ic w h d1 dm d2 d3 hs hc
 ·rw[Re.BO h,Re.QX h,Re.rL]
  cases d2:decide (x.index<1)with
  | true=>exact Ld x io _ ic w h d2
  | false =>
   cases d3:decide (4294967296<x.index)with
   | true=>exact Le x io _ ic w h d2 d3
   | false =>
    have QZ:(if(!false && !false)=true then Cm.check x.cmd else 6)=Cm.check x.cmd:=rfl
    rw[QZ];by_cases hc:Cm.check x.cmd=0
    ·rw[hc,if_neg (by simp)]
     cases d9:(x.aF.round != 0)with
     | true=>exact Lg x io _ ic w h d2 d3 hs hc d9
     | false =>
      cases d8:(x.aF.node != 0)with
      | true=>exact Lh x io _ ic w h d2 d3 hs hc d9 d8
      | false =>
       cases d6:decide (0<x.aw.length)with
       | true=>exact Li x io _ ic w h d2 d3 hs hc d9 d8 (of_decide_eq_true d6)
       | false=>exact Lj x io _ ic w h d2 d3 hs hc d9 d8 (of_decide_eq_false d6)
    ·rw[if_pos hc]
     exact Lf x io _ ic w h d2 d3 hs hc
 ·rw[Re.BP h,Re.QY h,Re.rL,Xw]
  cases d2:decide (x.index<1)with
  | true=>exact Ll x io _ ic w h d2
  | false =>
   cases d3:decide (4294967296<x.index)with
   | true=>exact Lm x io _ ic w h d2 d3
   | false =>
    cases d7:decide ((32768:Int)<(x.aw.length:Int))with
    | true=>exact Ln x io _ ic w h d2 d3 d7
    | false =>
     cases d9:(x.aF.round != 0)with
     | true=>exact Lo x io _ ic w h d2 d3 d7 d9
     | false =>
      cases d8:(x.aF.node != 0)with
      | true=>exact Lp x io _ ic w h d2 d3 d7 d9 d8
      | false =>
       cases d5:decide (x.cmd=Cm.zero)with
       | false=>exact Lq x io _ ic w h d2 d3 d7 d9 d8 d5
       | true =>
        cases d6:decide (0<x.aw.length)with
        | false=>exact Lr x io _ ic w h d2 d3 d7 d9 d8 d5 (of_decide_eq_false d6)
        | true=>exact Ls x io _ ic w h d2 d3 d7 d9 d8 d5 (of_decide_eq_true d6)
 ·rw[Re.xE h]
  exact Lt x _ w h
theorem ze(v:Int)(x:Re.Rec)(vi:Value)(w:World)(hi:Reads w vi x.aw)(hs:x.cmd.aD 140737488355328) :
 Calls Tryz.prog 74 #[.int .i64 v, .agg (Re.cells x vi)] w (Looks w (.int .i64 (Re.aO v x))):=by
 obtain⟨w1,e1,aH,aq,hz1⟩:=bf w x vi;obtain⟨p0,p1,p2,p3,p4,p5,p6,p7,p8,p9,cG,cE⟩:=ai.all aH;have dw:=aa aH;have aG:=aa aq;have kJ:=aa (jQ x vi w1 (hi.below aq) hs);obtain⟨r,hr⟩ : ∃r,r=Re.aO v x:=⟨_,rfl⟩;rw[<- hr];unfold Re.aO at hr
 obtain⟨c,hc⟩ : ∃c,c=Re.check x:=⟨_,rfl⟩;rw[<- hc]at hr kJ
 have VW:=aa (fun W=>cA x.kind W)
 have DL:=aa (fun W=>C7 v x.cmd.kind W)
 obtain⟨y,hy⟩ : ∃y,y=Vs.has v x.cmd.kind:=⟨_,rfl⟩;obtain⟨t,ht⟩ : ∃t,t=Re.hc x.kind:=⟨_,rfl⟩;rw[<- hy, <- ht]at hr
 rw[<- hy]at DL
 rw[<- ht]at VW
 have HR:=aa hr;clear aH aq hz1 hi hs hr hc hy ht
 go_enter Tryz.func74,Tryz.ntmps74
 go_wp2_with fail
 refine kJ.mono ?_;rintro e2 w2 ⟨rfl,hb⟩;have dE:=aa (dw.below hb dw.lt);have aR:=aa (aG.trans (hb.mono aG.size));clear hb p0 p1 p2 p3 p4 p5 p6 p7 p8 p9 cG cE;by_cases h0:c=0
 ·subst h0
  have bC:=aa (HR.trans (if_neg (by simp)))
  have p0:=ai.c0 dE.out;have p4:=ai.c4 dE.out;cases t with
  | false =>
   have HZ:Hid (r=0):=bC.trans rfl
   go_wp2_with fail
   refine(VW.out _).mono ?_;rintro e3 w3 ⟨rfl,rfl⟩;go_wp2;go_ret;exact⟨by rw[HZ.out];rfl,aR.out⟩
  | true =>
   cases y with
   | false =>
    have HZ:Hid (r=8):=bC.trans rfl
    go_wp2_with fail
    refine(VW.out _).mono ?_;rintro e3 w3 ⟨rfl,rfl⟩
    go_wp2_with fail
    refine(DL.out _).mono ?_;rintro e4 w4 ⟨rfl,rfl⟩;go_wp2;go_ret;exact⟨by rw[HZ.out];rfl,aR.out⟩
   | true =>
    have HZ:Hid (r=0):=bC.trans rfl
    go_wp2_with fail
    refine(VW.out _).mono ?_;rintro e3 w3 ⟨rfl,rfl⟩
    go_wp2_with fail
    refine(DL.out _).mono ?_;rintro e4 w4 ⟨rfl,rfl⟩;go_wp2;go_ret;exact⟨by rw[HZ.out];rfl,aR.out⟩
 ·have hne:(c != 0)=true:=by simpa using h0
  have HZ:Hid (r=c):=HR.trans (if_pos h0);go_wp2;go_ret;exact⟨by rw[HZ.out];rfl,aR.out⟩
theorem BV(x:Re.Rec)(vi:Value)(w:World)(hi:Reads w vi x.aw)(hs:x.cmd.aD 9223372036854775807) :
 Calls Tryz.prog 57 #[.agg (Re.cells x vi)] w (Looks w (.bool (Re.iU x))):=by
 obtain⟨w1,e1,aH,aq,hz1⟩:=bf w x vi;obtain⟨io,ic,rfl⟩:=hi.shape;have hlen:=hi.len;obtain⟨p0,p1,p2,p3,p4,p5,p6,p7,p8,p9,cG,cE⟩:=ai.all aH;have aG:=aa aq;have k1:=dy x.cmd.key;have k2:=dy x.cmd.val;have k3:=dy x.cmd.old;obtain⟨r,hr⟩ : ∃r,r=Re.iU x:=⟨_,rfl⟩;rw[<- hr];unfold Re.iU at hr
 obtain⟨x1,hx1⟩ : ∃n,n=x.cmd.key.length:=⟨_,rfl⟩;obtain⟨x2,hx2⟩ : ∃n,n=x.cmd.val.length:=⟨_,rfl⟩;obtain⟨x3,hx3⟩ : ∃n,n=x.cmd.old.length:=⟨_,rfl⟩;obtain⟨n,hn⟩ : ∃n,n=x.aw.length:=⟨_,rfl⟩;have z1:x1<=9223372036854775807:=hx1 ▸ hs.1;have z2:x2<=9223372036854775807:=hx2 ▸ hs.2.2;have z3:x3<=9223372036854775807:=hx3 ▸ hs.2.1;have zn:n<=9223372036854775807:=by omega
 rw[<- hx1, <- hx2, <- hx3, <- hn]at hr
 rw[<- hx1]at k1
 rw[<- hx2]at k2
 rw[<- hx3]at k3
 rw[<- hn]at cE e1 ⊢
 clear aH aq hz1 hi hs hx1 hx2 hx3 hn hlen;by_cases h1:200<x1
 ·have d1:decide ((200:Int)<(x1:Int))=true:=by simp;omega
  have HZ:Hid (r=true):=by show _=_;rw[hr];simp;omega
  clear hr
  go_enter Tryz.func57,Tryz.ntmps57
  go_wp2;go_ret;exact⟨by rw[HZ.out];rfl,aG.out⟩
 have d1:decide ((200:Int)<(x1:Int))=false:=by simp;omega
 by_cases h2:200<x2
 ·have d2:decide ((200:Int)<(x2:Int))=true:=by simp;omega
  have HZ:Hid (r=true):=by show _=_;rw[hr];simp;omega
  clear hr
  go_enter Tryz.func57,Tryz.ntmps57
  go_wp2;go_ret;exact⟨by rw[HZ.out];rfl,aG.out⟩
 have d2:decide ((200:Int)<(x2:Int))=false:=by simp;omega
 by_cases h3:200<x3
 ·have d3:decide ((200:Int)<(x3:Int))=true:=by simp;omega
  have HZ:Hid (r=true):=by show _=_;rw[hr];simp;omega
  clear hr
  go_enter Tryz.func57,Tryz.ntmps57
  go_wp2;go_ret;exact⟨by rw[HZ.out];rfl,aG.out⟩
 have d3:decide ((200:Int)<(x3:Int))=false:=by simp;omega
 by_cases h4:300<n
 ·have d4:decide ((300:Int)<(n:Int))=true:=by simp;omega
  by_cases h5:n<32760
  ·have d5:decide ((n:Int)<(32760:Int))=true:=by simp;omega
   have HZ:Hid (r=true):=by show _=_;rw[hr];simp;omega
   clear hr
   go_enter Tryz.func57,Tryz.ntmps57
   go_wp2;go_ret;exact⟨by rw[HZ.out];rfl,aG.out⟩
  have d5:decide ((n:Int)<(32760:Int))=false:=by simp;omega
  by_cases h6:32780<n
  ·have d6:decide ((32780:Int)<(n:Int))=true:=by simp;omega
   have HZ:Hid (r=true):=by show _=_;rw[hr];simp;omega
   clear hr
   go_enter Tryz.func57,Tryz.ntmps57
   go_wp2;go_ret;exact⟨by rw[HZ.out];rfl,aG.out⟩
  have d6:decide ((32780:Int)<(n:Int))=false:=by simp;omega
  have HZ:Hid (r=false):=by show _=_;rw[hr];simp;omega
  clear hr
  go_enter Tryz.func57,Tryz.ntmps57
  go_wp2;go_ret;exact⟨by rw[HZ.out];rfl,aG.out⟩
 have d4:decide ((300:Int)<(n:Int))=false:=by simp;omega
 have d6:decide ((32780:Int)<(n:Int))=false:=by simp;omega
 have HZ:Hid (r=false):=by show _=_;rw[hr];simp;omega
 clear hr
 go_enter Tryz.func57,Tryz.ntmps57
 go_wp2;go_ret;exact⟨by rw[HZ.out];rfl,aG.out⟩
end Go.Proofs.YtdkdjofnnnljjaaGreatDoor
