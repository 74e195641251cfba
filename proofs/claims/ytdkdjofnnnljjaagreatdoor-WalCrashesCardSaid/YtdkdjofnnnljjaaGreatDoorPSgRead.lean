/- Several texts of mine in one: WlAdds WlRenew Stop WlBack SgRead. -/
import Derived.Test.YtdkdjofnnnljjaaGreatDoorPWlAdd
import Derived.Test.YtdkdjofnnnljjaaGreatDoorPRound
import Derived.Test.YtdkdjofnnnljjaaGreatDoorPGFs
import Derived.RangeFuncNested
import Derived.RangeFuncLeaves
import Derived.Shelf.Abstract
import Derived.OwnWalkIn
import Derived.TacticsInMore
import Derived.LoopNIn
import Derived.LoopIn
import Derived.Test.YtdkdjofnnnljjaaGreatDoorPWlRepl
import Derived.Test.YtdkdjofnnnljjaaGreatDoorPHdMake
namespace Go.Proofs.YtdkdjofnnnljjaaGreatDoor
open Go.RowKit
set_option maxHeartbeats 3200000
set_option maxRecDepth 8000
def Uq(T:Nat->Prop)(w:World)(g d:Nat)(F:Dk.av)(B:List Dk.Op)(n f:Int)(h:Hd.az)(x:Re.Rec)(r:List UInt8 × Int)(e:Ending)(w' : World):Prop :=
 e = .returned (.int .i64 r.2)∧((r.2=0∧iX T w g d F (B ++ [⟨2,n,r.1⟩]) n f (Hd.apply h x) w')∨(r.2≠0∧iX T w g d F B n f h w'))
theorem Hf{T:Nat->Prop}{w:World}{n0 g d:Nat}{F:Dk.av}{B:List Dk.Op}{n f:Int}{h:Hd.az}(E:Env n0 w)(hT : ∀k,T k->n0<=k)(l:cW T w g d F B n f h)(x:Re.Rec)(xi:Value)(hx:Reads w xi x.aw)(Ha:jh (fun b => ¬T b) xi)
 (r:List UInt8 × Int) (hc : ∀W,Below w.heap.size w W->Calls Tryz.prog 39 #[.int .i64 f, .agg (Re.cells x xi)] W (kF W r)) (hb:r.1.length<=1000000) (hB:B.length<=1000000000) (hn:1<=n∧n<=4294967296) (hval:Hd.Valid h) (CG:h.acc.length<=800000∧h.bl.length<=800000) (hs:x.cmd.aD 140737488355328) :
 Calls Tryz.prog 12 #[Wl.ptr g, .agg (Re.cells x xi)] w (Uq T w g d F B n f h x r):=by
 have zJ : ∀(fn:Fn) (first cap:Array Value) (w:World),(Instr.makeFunc fn first cap).run Tryz.prog w = .ok (.func fn first cap) w:=fun _ _ _ _=>rfl
 have BD:=aa l;obtain⟨xo,xc,rfl⟩:=hx.shape;obtain⟨S,vi,va,vc,l⟩:=l;have Il:=aa l.sub;have Ur:=aa l.here;have hlt:=l.tight;have kH:=l.ag.lt;obtain⟨w1,e1,l2,hb1,hs1⟩:=bR w 27 #[Wl.ptr g];obtain⟨w2,e2,l3,hb2,hs2⟩:=bf w1 x (.slice xo x.aw.length xc);obtain⟨w3,e3,l5,hb3,hs3⟩:=bR w2 30 #[Nil];obtain⟨w4,e4,lk,hb4,tY⟩:=bR w3 34 #[.int .i64 0];obtain⟨b2,Ci⟩ : ∃b,b=w.heap.size:=⟨_,rfl⟩;obtain⟨b3,pB⟩ : ∃b,b=w1.heap.size:=⟨_,rfl⟩;obtain⟨b5,pC⟩ : ∃b,b=w2.heap.size:=⟨_,rfl⟩;obtain⟨k,Eo⟩ : ∃b,b=w3.heap.size:=⟨_,rfl⟩;have bJ:Hid (Below w.heap.size w w4):=((hb1.trans (hb2.mono hb1.size)).trans (hb3.mono (by omega))).trans (hb4.mono (by omega))
 have L2:Hid (ae w4 b2 27 #[Wl.ptr g]):=by rw[Ci];exact((l2.below hb2 (by omega)).below hb3 (by omega)).below hb4 (by omega)
 have L3:Hid (ai w4 b3 x (.slice xo x.aw.length xc)):=by rw[pB];exact(l3.below hb3 (by omega)).below hb4 (by omega)
 have L5:Hid (ae w4 b5 30 #[Nil]):=by rw[pC];exact l5.below hb4 (by omega)
 have LK:Hid (ae w4 k 34 #[.int .i64 0]):=by rw[Eo];exact lk
 have nR:Hid (w.heap.size<=b2∧w.heap.size<=b3∧w.heap.size<=b5∧w.heap.size<=k∧b2≠b5∧g≠b5∧b3≠b5∧b5≠k∧b2≠k∧b3≠k∧g≠k):=⟨by omega,by omega,by omega,by omega,by omega,by omega,by omega,by omega,by omega,by omega,by omega⟩
 have V0:=aa hlt;have vM:=aa hb;have ow:=aa hB;have HN:=aa hn;have HV:=aa hval;have HA:=aa CG;have HS:=aa hs;have HX:=aa hx;have VT:=aa ((Reads.tight hx).both Ha);have Us:=aa kH;have HC:=aa hc;have HE:=aa E;have Rl:=aa hT;obtain⟨nx,iC⟩ : ∃n,n=x.aw.length:=⟨_,rfl⟩;have uE:=aa iC;rw[<- iC]at L3 HC HX VT e2 ⊢
 clear l2 l3 l5 lk hb1 hb2 hb3 hb4 hs1 hs2 hs3 tY hlt hb hB hn hval CG hs hx Ha kH l hc E hT iC;obtain⟨Q,hQ⟩ : ∃Q,Q=Uq T w g d F B n f h x r:=⟨_,rfl⟩;rw[<- hQ];have HQ:=aa hQ;clear hQ
 go_enter Tryz.func12,Tryz.ntmps12
 go_wp2_with fail
 refine(ko w3).mono ?_;rintro e XQ ⟨rfl,rfl⟩;rw[e4, <- Ci, <- pB, <- pC, <- Eo];clear e1 e2 e3 e4 Ci pB pC Eo
 go_wp2_with fail
 refine eT _ _ k w4 (fun W=>enters_of Tryz.func37 (by kernel_rfl) rfl _ W) LK.out ?_
 refine(Mg b2 g w4 L2.out).mono ?_;rintro e XQ ⟨rfl,rfl⟩;obtain⟨n2,n3,n5,nk,n25,Z8,n35,Mh,XR,Ot,ngk⟩:=nR.out;refine⟨0,rfl,LK.out,fun w5 Ut bU => ?_⟩
 have bK:Hid (Below w.heap.size w w5):=bJ.grown bU bJ.size (by rintro j hj;cases hj;exact nk)
 have M2:Hid (ae w5 b2 27 #[Wl.ptr g]):=L2.out.kept bU (by simpa using XR)
 have M3:Hid (ai w5 b3 x (.slice xo nx xc)):=L3.out.kept bU (by simpa using Ot)
 have M5:Hid (ae w5 b5 30 #[Nil]):=L5.out.kept bU (by simpa using Mh)
 have Ou:=aa Ut;have ML:=aa (V0.keep (Kp.all bK.out));clear Ut bU L2 L3 L5 LK bJ;dsimp only
 go_wp2_with fail
 refine eT _ _ k w5 (fun W=>enters_of Tryz.func38 (by kernel_rfl) rfl _ W) Ou.out ?_
 have M8:=M3.out;rw[uE.out]at M8
 refine(Mi b2 b3 b5 g (Wl.ptr d) n f h vi va vc x xo xc r w5 M2.out ML.out.ag M8 M5.out ⟨n25,Z8,n35⟩ (fun W hW=>by rw[<- uE.out];exact HC.out W (bK.trans (hW.mono bK.size)))).mono ?_
 rintro e w6 ⟨rfl,o,c,l6,Z9,XS,sO⟩;refine⟨r.2,rfl,sO.ag Ou.out (fun _=>Mh.symm),fun w7 Rm cr => ?_⟩
 have Ro:Below w.heap.size w5 w6:=sO.below bK.size fun b _ hb _=>by omega
 have bw:Hid (Below w.heap.size w w7):=(bK.trans Ro).grown cr (Nat.le_trans bK.size Ro.size) (by rintro j hj;cases hj;exact nk)
 have P2:Hid (ae w7 b2 27 #[Wl.ptr g]):=(sO.ag M2.out fun _=>n25).kept cr (by simpa using XR)
 have P3:Hid (ai w7 b3 x (.slice xo nx xc)):=ae.kept (sO.ag M3.out fun _=>n35) cr (by simpa using Ot)
 have P5:Hid (ae w7 b5 30 #[.slice o r.1.length c]):=l6.kept cr (by simpa using Mh)
 have HV7:Hid (Reads w7 (.slice o r.1.length c) r.1):=Z9.dO (sO.ag Ou.out fun _=>Mh.symm) (fun j x=>xL 0 x j) cr
 have Im:=aa Rm;clear l6 Z9 XS sO cr Rm Ro M2 M3 M5 ML Ou M8 n2 n3 n5 nk n25 Z8 n35 Mh XR Ot ngk HC;dsimp only;by_cases h0:r.2=0
 ·rw[h0]at Im
  have H0:=aa h0;rw[h0];clear h0
  go_wp2_with fail
  refine eT _ _ k w7 (fun W=>enters_of Tryz.func40 (by kernel_rfl) rfl _ W) Im.out ?_
  have dH:=V0.keep (Kp.all bw.out);have tj:=bw.size;have Tx:=P3.out;have tH:=HX.below bw.out;have XT:=VT.out;rw[uE.out]at Tx tH XT
  refine(Mj dH (fun j hj=>Nat.lt_of_lt_of_le hj.2 tj) b2 b3 b5 x xo xc o c r.1 P2.out Tx P5.out (fun b hb => ?_) tH (XT.imp fun b hb=>⟨fun hs=>hb.2 (Il.out b hs.1).1,fun e=>hb.2 (e ▸ Ur.out)⟩) HV7.out (fun W hk => ?_) vM.out ow.out HN.out HV.out HA.out HS.out).mono ?_
  ·obtain⟨n2,n3,n5,_⟩:=nR.out
   have:=Us.out;have hb' : w.heap.size<=b:=by omega
   exact⟨fun hs=>by have:=hs.2;omega,by omega⟩
  ·exact(((HE.up bw.out).on (hk.below (HE.up bw.out).size fun b _ hb _ hs=>by have:=Rl.out b (Il.out b hs.1).1;omega))).words
  ·rintro e w8 ⟨rfl,S8,ui,ua,uc,Ps,fI⟩
   have nk:=nR.2.2.2.1;have kH:=Us.out;refine⟨0,rfl,fI.ag Im.out (fun _=>⟨fun hs=>by have:=hs.2;omega,by omega⟩),fun w9 XU cM => ?_⟩
   have hk:k<w7.heap.size:=Im.out.lt;have oy:Hid (iX T w g d F (B ++ [⟨2,n,r.1⟩]) n f (Hd.apply h x) w9):=iX.outer (w8:=w8) bw.out ⟨⟨S8,ui,ua,uc,Ps⟩,fI.imp fun b o' _ hs=>⟨fun kB => hs ⟨(Il.out b kB.1).1,kB.2⟩,fun e=>hs (e ▸ ⟨Ur.out,kH⟩)⟩⟩ cM ⟨nk,hk⟩
   clear Ps fI XU cM tj dH Tx tH XT;dsimp only;go_wp2;rw[HQ.out];exact⟨by rw[H0.out];rfl, .inl ⟨H0.out,oy.out⟩⟩
 ·have H0:=aa h0
  obtain⟨z,hz⟩ : ∃z,z=r.2:=⟨_,rfl⟩;rw[<- hz]at Im h0 ⊢
  have HZ:=aa hz;clear hz
  go_wp2_with fail
  refine nu _ k w7 z h0 Im.out ?_;dsimp only;clear h0;go_wp2;rw[HQ.out];exact⟨by rw[<- HZ.out];rfl, .inr ⟨H0.out,iX.same BD.out bw.out⟩⟩
end Go.Proofs.YtdkdjofnnnljjaaGreatDoor

namespace Go.Proofs.YtdkdjofnnnljjaaGreatDoor
open Go.RowKit
set_option maxHeartbeats 3200000
set_option maxRecDepth 8000
section
section
variable {f : Int} {h : Hd.az} {vi va vc : Value} {r : List UInt8 × Int}
theorem Ep{T:Nat->Prop}{w:World}{g d:Nat}{F:Dk.av}{B:List Dk.Op}{n0 f0:Int}{h0:Hd.az}(b3 b4 b5:Nat)(l3:ae w b3 27 #[Wl.ptr g])(l4:ae w b4 3 #[.int .i64 f])(l5:aB w b5 33 h.aC h.base vi va vc)
 (hc:Calls Tryz.prog 36 #[Wl.ptr g, .int .i64 f, .agg (Hd.cells h vi va vc)] w (iT T w g d F B n0 f0 h0 f h r)) :
 Calls Tryz.prog 47 #[Wl.ptr b3,Wl.ptr b4,Wl.ptr b5] w (iT T w g d F B n0 f0 h0 f h r):=by
 have c3:w.cell? ⟨b3,0,none⟩=some (Wl.ptr g):=l3.cell 0 _ rfl;have c4:w.cell? ⟨b4,0,none⟩=some (.int .i64 f):=l4.cell 0 _ rfl;have HC:=aa hc;have L5:=aa l5;obtain⟨Q,hQ⟩ : ∃Q,Q=iT T w g d F B n0 f0 h0 f h r:=⟨_,rfl⟩;rw[<- hQ]at HC ⊢
 have HI:Hid (∀e w', Q e w' -> ∃c:Int,e = .returned (.int .i64 c)):=by rw[hQ];exact fun e w' h=>⟨_,h.1⟩
 clear hc l3 l4 l5 hQ
 go_enter Tryz.func47,Tryz.ntmps47
 go_wp2_with (refine gw rfl _ rfl rfl L5.out ?_)
 refine HC.mono ?_;rintro e w1 hq;obtain⟨c,rfl⟩:=HI.out _ _ hq;have HQ:=aa hq;clear hq;dsimp only;go_wp2;exact HQ.out
theorem Io{T:Nat->Prop}{w:World}{g d:Nat}{F:Dk.av}{B:List Dk.Op}{n0 f0:Int}{h0:Hd.az}(b3 b4 b5:Nat)(l3:ae w b3 27 #[Wl.ptr g])(l4:ae w b4 3 #[.int .i64 f])(l5:aB w b5 33 h.aC h.base vi va vc)
 (hc:Calls Tryz.prog 36 #[Wl.ptr g, .int .i64 f, .agg (Hd.cells h vi va vc)] w (iT T w g d F B n0 f0 h0 f h r)) :
 Calls Tryz.prog 35 #[Wl.ptr b3,Wl.ptr b4,Wl.ptr b5] w (iT T w g d F B n0 f0 h0 f h r):=by
 have c3:w.cell? ⟨b3,0,none⟩=some (Wl.ptr g):=l3.cell 0 _ rfl;have c4:w.cell? ⟨b4,0,none⟩=some (.int .i64 f):=l4.cell 0 _ rfl;have HC:=aa hc;have L5:=aa l5;obtain⟨Q,hQ⟩ : ∃Q,Q=iT T w g d F B n0 f0 h0 f h r:=⟨_,rfl⟩;rw[<- hQ]at HC ⊢
 have HI:Hid (∀e w', Q e w' -> ∃c:Int,e = .returned (.int .i64 c)):=by rw[hQ];exact fun e w' h=>⟨_,h.1⟩
 clear hc l3 l4 l5 hQ
 go_enter Tryz.func35,Tryz.ntmps35
 go_wp2_with (refine gw rfl _ rfl rfl L5.out ?_)
 refine HC.mono ?_;rintro e w1 hq;obtain⟨c,rfl⟩:=HI.out _ _ hq;have HQ:=aa hq;clear hq;dsimp only;go_wp2;exact HQ.out
end
theorem BI{T:Nat->Prop}{w:World}{g d:Nat}{F:Dk.av}{B:List Dk.Op}{n0 f0:Int}{h0:Hd.az}(l:cW T w g d F B n0 f0 h0)(f:Int)(h:Hd.az)(vi va vc:Value)(hr:bL (fun b => ¬T b) w h vi va vc)(hf:h.G2)
 (r:List UInt8 × Int) (hc : ∀W,Below w.heap.size w W->Calls Tryz.prog 65 #[.int .i64 f, .agg (Hd.cells h vi va vc)] W (kF W r)) (hh:r.1.length<=1000000) {N M:Nat} (s:Wl.eJ F B N M) (hN:N<=900) (hM:M<=1000000000) :
 Calls Tryz.prog 16 #[Wl.ptr g, .int .i64 f, .agg (Hd.cells h vi va vc)] w (iT T w g d F B n0 f0 h0 f h r):=by
 have zJ : ∀(fn:Fn) (first cap:Array Value) (w:World),(Instr.makeFunc fn first cap).run Tryz.prog w = .ok (.func fn first cap) w:=fun _ _ _ _=>rfl
 obtain⟨w1,e1,l3,hb1,hs1⟩:=bR w 27 #[Wl.ptr g];obtain⟨w2,e2,l4,hb2,hs2⟩:=bR w1 3 #[.int .i64 f];obtain⟨w3,e3,l5,hb3,hs3⟩:=eL w2 33 h vi va vc ((hr.below hb1).below hb2).rows;obtain⟨w4,e4,lk,hb4,tY⟩:=bR w3 34 #[.int .i64 0];obtain⟨b3,pB⟩ : ∃b,b=w.heap.size:=⟨_,rfl⟩;obtain⟨b4,Er⟩ : ∃b,b=w1.heap.size:=⟨_,rfl⟩;obtain⟨b5,pC⟩ : ∃b,b=w2.heap.size:=⟨_,rfl⟩;obtain⟨k,Eo⟩ : ∃b,b=w3.heap.size:=⟨_,rfl⟩;have bJ:Hid (Below w.heap.size w w4):=((hb1.trans (hb2.mono hb1.size)).trans (hb3.mono (by omega))).trans (hb4.mono (by omega))
 have L3:Hid (ae w4 b3 27 #[Wl.ptr g]):=by rw[pB];exact((l3.below hb2 (by omega)).below hb3 (by omega)).below hb4 (by omega)
 have L4:Hid (ae w4 b4 3 #[.int .i64 f]):=by rw[Er];exact(l4.below hb3 (by omega)).below hb4 (by omega)
 have L5:Hid (aB w4 b5 33 h.aC h.base vi va vc):=by rw[pC];exact l5.below hb4 (by omega)
 have LK:Hid (ae w4 k 34 #[.int .i64 0]):=by rw[Eo];exact lk
 have nR:Hid (w.heap.size<=k∧b3≠k∧b4≠k∧b5≠k):=⟨by omega,by omega,by omega,by omega⟩
 have Ov:Hid (∀W,Below w.heap.size w W->Calls Tryz.prog 36 #[Wl.ptr g, .int .i64 f, .agg (Hd.cells h vi va vc)] W (iT (fun j=>T j∧j<w.heap.size) W g d F B n0 f0 h0 f h r)):=fun W hb =>
  sP (l.tight.keep (Kp.all hb)) f h vi va vc ((hr.below hb).imp fun b hb hs=>hb hs.1) hf r (fun W' hb' => hc W' (hb.trans (hb'.mono hb.size))) hh s hN hM
 clear l3 l4 l5 lk hb1 hb2 hb3 hb4 hs1 hs2 hs3 tY hr hf hh s hN hM l hc;obtain⟨Q,hQ⟩ : ∃Q,Q=iT T w g d F B n0 f0 h0 f h r:=⟨_,rfl⟩;rw[<- hQ];have HQ:=aa hQ;clear hQ
 go_enter Tryz.func16,Tryz.ntmps16
 go_wp2_with fail
 refine(ko w3).mono ?_;rintro e XQ ⟨rfl,rfl⟩;rw[e4, <- pB, <- Er, <- pC, <- Eo];clear e1 e2 e3 e4 pB Er pC Eo
 go_wp2_with fail
 refine eT _ _ k w4 (fun W=>enters_of Tryz.func46 (by kernel_rfl) rfl _ W) LK.out ?_
 refine(Es b3 g w4 L3.out).mono ?_;rintro e XQ ⟨rfl,rfl⟩;obtain⟨nk,Ot,Uu,Mh⟩:=nR.out;refine⟨0,rfl,LK.out,fun w5 Ut bU => ?_⟩
 have bK:Hid (Below w.heap.size w w5):=bJ.grown bU bJ.size (by rintro j hj;cases hj;exact nk)
 have M3:Hid (ae w5 b3 27 #[Wl.ptr g]):=L3.out.kept bU (by simpa using Ot)
 have M4:Hid (ae w5 b4 3 #[.int .i64 f]):=L4.out.kept bU (by simpa using Uu)
 have M5:Hid (aB w5 b5 33 h.aC h.base vi va vc):=L5.out.kept bU Mh;have Ou:=aa Ut;clear Ut bU L3 L4 L5 LK bJ Ot Uu Mh;dsimp only
 go_wp2_with fail
 refine eT _ _ k w5 (fun W=>enters_of Tryz.func47 (by kernel_rfl) rfl _ W) Ou.out ?_
 refine(Ep b3 b4 b5 M3.out M4.out M5.out (Ov.out w5 bK.out)).mono ?_;rintro e w6 ⟨rfl,CH⟩;have Su:=Ou.out.lt;have hlk:ae w6 k 34 #[.int .i64 0]:=by
  rcases CH with ⟨_,h6⟩ | ⟨_,h6⟩
  ·exact h6.2.ag Ou.out fun _ hs=>by have:=hs.2;omega
  ·exact h6.2.ag Ou.out fun _ hs=>by have:=hs.2;omega
 refine⟨r.2,rfl,hlk,fun w7 Rm cr => ?_⟩
 have ug:iT T w g d F B n0 f0 h0 f h r (.returned (.int .i64 r.2)) w7:=by
  refine⟨rfl, ?_⟩;rcases CH with ⟨h0,h6⟩ | ⟨h0,h6⟩
  ·exact .inl ⟨h0,iX.outer bK.out h6 cr ⟨nk,Su⟩⟩
  ·exact .inr ⟨h0,iX.outer bK.out h6 cr ⟨nk,Su⟩⟩
 have Ow:=aa ug;clear hlk CH Rm cr ug;obtain⟨z,hz⟩ : ∃z,z=r.2:=⟨_,rfl⟩;rw[<- hz]at Ow ⊢
 clear hz;dsimp only;go_wp2;rw[HQ.out];exact Ow.out
end
end Go.Proofs.YtdkdjofnnnljjaaGreatDoor

namespace Go.Proofs.YtdkdjofnnnljjaaGreatDoor
open Go.RowKit
def sD{α:Type}(F:Fence)(n:Nat)(P:Program)(f:Nat)(held:Array Value)(encs:α->Array Value)(keeps:World->World->Prop)(gives:List α->α->World->Prop)(over:List α->Prop)(w:World):Prop :=
 ∀(l:Nat) (J Jx:List α->World->Prop) (A:World),Below w.heap.size w A ->
  (∀pre B C,J pre B->Below B.heap.size B C->J pre C) ->
  (∀pre x B,J pre B->gives pre x B->YieldAt F (n - 1) P l (encs x) B fun e C=>(e = .returned (.bool true)∧J (pre ++ [x]) C∧keeps B C)∨(e = .returned (.bool false)∧Jx (pre ++ [x]) C)) ->
  J [] A->CallsIn F n P f (#[.func (.yield l) #[] #[]]++held) A fun e B=>(∃v,e = .returned v)∧((∃xs,over xs∧J xs B) ∨ ∃xs,Jx xs B)
def Et{α:Type}(keeps:World->World->Prop)(I Ix:List α->World->Prop)(base:Nat)(xs:List α)(A:World):Exit->Act->World->Prop
 | .normal,_,B=>KeepsFrom base A B∧keeps A B∧I xs B
 | .ret,_,B=>KeepsFrom base A B∧Ix xs B
 | .exit _,_,_=>False
 | .goto _,_,_=>False
 | .panic _,_,_=>False
 | .outgrown,_,_=>False
theorem Cj{α:Type}{F:Fence}{n:Nat}{P:Program}{g:Operand}{ps:Array Tmp}{assign body:Code}{Q:Exit->Act->World->Prop}{a:Act}{w:World}
 (hro:F.round=none) (h1:1<=n) {f:Nat} {held:Array Value} (hg:a.eval g = .func (.func f) #[] held) (hF:F.fn f) (hen : ∀args w,(callFunc f args).run P w = .ok (.enter f args) w)
 {encs:α->Array Value} {keeps:World->World->Prop} {gives:List α->α->World->Prop} {over:List α->Prop} {w0:World} (hseq:sD F (n - 1) P f held encs keeps gives over w0) (hb0:Below w0.heap.size w0 w)
 (Sb : ∀ {A B C:World},keeps A B->keeps B C->keeps A C) (hkb : ∀(A:World) (l:Nat) (o o' : Obj),w.heap.size<=l->A.heap[l]? = some o->o.isCells=false->keeps A (A.putObj l o')) (hps : ∀x,(encs x).size=ps.size)
 (I Ix:List α->World->Prop) (hI:OwnFrom w.heap.size I) (hIx:OwnFrom w.heap.size Ix) (hG:OwnFrom w.heap.size (fun(p:List α × α)=>gives p.1 p.2)) (h0:I [] w) (Ax:α->Act->World->Prop) (hAx : ∀x a', OwnFrom w.heap.size (fun(_:Unit) A=>Ax x a' A))
 (hassign : ∀(l:Nat) (pre:List α) (x:α) (A:World) (K:Act->World->Prop),w.heap.size<=A.heap.size->I pre A->gives pre x A->(∀a' A', KeepsFrom w.heap.size A A' -> keeps A A' -> I pre A' -> gives pre x A' -> Ax x a' A' -> K a' A') ->
   assign.wpIn (F.inRound l) (n - 1 - 1) P (Exit.then K (fun _ _ _=>False)) { tmps:=(ps.zip (encs x)).foldl (fun t (p,v)=>t.setIfInBounds p v) a.tmps,defers := [] } A)
 (hbody : ∀(l:Nat) (pre:List α) (x:α) (a' : Act) (A:World),I pre A->gives pre x A->Ax x a' A->w.heap.size<=A.heap.size->body.wpIn (F.inRound l) (n - 1 - 1) P (Et keeps I Ix w.heap.size (pre ++ [x]) A) a' A)
 (hdone : ∀(D:Nat) (xs:List α) (A:World),w.heap.size<=D->over xs->I xs A->A.heap[D]? = some (.deferred (some []))->Q .normal { a with defers:={ target := .collected D,args := #[] } :: a.defers } A)
 (hstop : ∀(D:Nat) (xs:List α) (A:World),w.heap.size<=D->Ix xs A->A.heap[D]? = some (.deferred (some []))->Code.ret.wpIn F n P Q { a with defers:={ target := .collected D,args := #[] } :: a.defers } A) :
 (Code.rangeFunc g ps assign body).wpIn F n P Q a w:=by
 apply wpIn_rangeFunc
 intro fn hfn
 rw[hro]
 let rc (st:LoopState) (pe:Option Code):Obj := .loop { state:=st,pending:=pe,fn:=fn,tmps:=a.tmps,params:=ps,assign:=assign,body:=body,defers:=w.heap.size }
 have hrun:=run_enterLoop_outer (P:=P) (w:=w) fn a.tmps ps assign body;obtain⟨A0,hA0⟩ : ∃A0,A0=(w.alloc (.deferred (some []))).alloc (rc .ready none):=⟨_,rfl⟩;have Jk : (Instr.enterLoop fn a.tmps ps assign body none).run P w = .ok (w.heap.size+1, [{ target := .collected w.heap.size,args := #[] }]) A0:=by rw[hA0];exact hrun
 have SX:Below w.heap.size w A0:=by rw[hA0];exact((Below.refl _ w).alloc (Nat.le_refl _) _).alloc (by simp) _
 have hL:A0.heap[w.heap.size+1]? = some (rc .ready none):=by
  have:=World.alloc_heap_new (w.alloc (.deferred (some []))) (rc .ready none);rw[World.size_alloc]at this
  rw[hA0];exact this
 have hD:A0.heap[w.heap.size]? = some (.deferred (some [])):=by
  rw[hA0];exact(Below.heap_alloc _ _ _ (by simp)).trans (World.alloc_heap_new w _)
 have new : ∀ {β:Type} {R:β->World->Prop} {s:β} {B C:World},OwnFrom w.heap.size R->R s B->Below B.heap.size B C->R s C:=fun h hs hb=>h _ _ _ none hs (gD hb) (fun r e=>by cases e)
 have put : ∀ {β:Type} {R:β->World->Prop} {s:β} {B:World} {o:Obj} (o' : Obj),OwnFrom w.heap.size R->R s B->B.heap[w.heap.size+1]? = some o->o.isCells=false->R s (B.putObj (w.heap.size+1) o'):=fun o' h hs hl ho=>h.putObj o' hs (by omega) hl ho
 refine⟨w.heap.size+1,_,A0,{ target := .fn (.func f) held,args := #[.func (.yield (w.heap.size+1)) #[] #[]] },A0,f,#[.func (.yield (w.heap.size+1)) #[] #[]]++held,A0,Jk, ?_, ?_, ?_,fun _=>h1, ?_⟩
 ·simp only[resolve,hg];simp[go_sem]
 ·intro f' e;simp[Target.leads]at e;subst e;exact hF
 ·simp[invoke,go_sem,hen]
 refine(hseq (w.heap.size+1) (fun pre B=>I pre B∧B.heap[w.heap.size+1]? = some (rc .ready none)∧B.heap[w.heap.size]? = some (.deferred (some []))) (fun pre B=>Ix pre B∧B.heap[w.heap.size+1]? = some (rc .done (some .ret))∧B.heap[w.heap.size]? = some (.deferred (some []))) A0 (hb0.trans (SX.mono hb0.size))
  (fun pre B C hJ hb=>⟨new hI hJ.1 hb,(hb.block _ (Array.getElem?_eq_some_iff.1 hJ.2.1).1).trans hJ.2.1,(hb.block _ (Array.getElem?_eq_some_iff.1 hJ.2.2).1).trans hJ.2.2⟩) ?_
  ⟨new hI h0 SX,hL,hD⟩).mono ?_
 ·-- a round
  rintro pre x B ⟨hi,hl,hd⟩ Ww;have hlt:=(Array.getElem?_eq_some_iff.1 hl).1;refine⟨fn,_,assign,body,run_yield hl (hps x),roundIn_of_wpIn hfn (hassign _ pre x B _ (by omega) hi Ww ?_)⟩
  intro a' Ba hkf hka hia PM hax
  replace hl:=hkf.same _ _ (by omega) hl rfl
  replace hd:=hkf.same _ _ (Nat.le_refl _) hd rfl
  replace hlt:=(Array.getElem?_eq_some_iff.1 hl).1
  refine⟨_,run_beginRound hl rfl, ?_⟩;have hl2:(Ba.putObj (w.heap.size+1) (rc .busy none)).heap[w.heap.size+1]? = some (rc .busy none):=World.putObj_heap_same hlt;have M1:(Ba.putObj (w.heap.size+1) (rc .busy none)).heap[w.heap.size]? = some (.deferred (some [])):=(World.putObj_heap_other (by omega)).trans hd
  refine wpIn_mono (hbody _ pre x a' _ (put _ hI hia hl rfl) (put (s:=(pre,x)) _ hG PM hl rfl) (put (s:=()) _ (hAx x a') hax hl rfl) (by simp;omega)) ?_
  intro e a3 C hC
  cases e with
  | normal =>
   obtain⟨hk,hkk,SY⟩:=hC;have fk:=hk.same _ _ (by omega) hl2 rfl
   have CE:=hk.same _ _ (by omega) M1 rfl
   refine⟨_,_,run_endRound none fk, .inl ⟨rfl,⟨put _ hI SY fk rfl,World.putObj_heap_same (Array.getElem?_eq_some_iff.1 fk).1,(World.putObj_heap_other (by omega)).trans CE⟩, ?_⟩⟩
   exact Sb hka (Sb (Sb (hkb _ _ _ _ (by omega) hl rfl) hkk) (hkb _ _ _ _ (by omega) fk rfl))
  | ret =>
   obtain⟨hk,SY⟩:=hC;have fk:=hk.same _ _ (by omega) hl2 rfl
   have CE:=hk.same _ _ (by omega) M1 rfl
   exact⟨_,_,run_endRound (some .ret) fk, .inr ⟨rfl,put _ hIx SY fk rfl,World.putObj_heap_same (Array.getElem?_eq_some_iff.1 fk).1,(World.putObj_heap_other (by omega)).trans CE⟩⟩
  | exit _=>exact hC.elim
  | goto _=>exact hC.elim
  | panic _=>exact hC.elim
  | outgrown=>exact hC.elim
 ·-- behind the iterator
  rintro e B ⟨⟨v,rfl⟩,⟨xs,PN,hi,hl,hd⟩ | ⟨xs,hi,hl,hd⟩⟩
  ·exact⟨none,_,run_endLoop hl (by simp),hdone _ xs _ (Nat.le_refl _) PN (put _ hI hi hl rfl) ((World.putObj_heap_other (by omega)).trans hd)⟩
  ·exact⟨some .ret,_,run_endLoop hl (by simp),hstop _ xs _ (Nat.le_refl _) (put _ hIx hi hl rfl) ((World.putObj_heap_other (by omega)).trans hd)⟩
end Go.Proofs.YtdkdjofnnnljjaaGreatDoor

namespace Go.Proofs.YtdkdjofnnnljjaaGreatDoor
open Go.RowKit
set_option maxHeartbeats 2000000
set_option maxRecDepth 100000
section
open Go.RowKit Go.Shelf
attribute [local go_sem] Oper.semAt_some
structure zu where
 idx:Nat
 no:Int
 val:Value
 data:List UInt8
def vq(x:zu):Array Value := #[.int .i64 (x.idx:Int), .agg #[.int .i64 x.no,x.val]]
def Ip(F:Dk.av)(pre:List zu)(x:zu)(w:World):Prop:=F.length=pre.length+x.idx+1∧F[x.idx]? = some (x.no,x.data)∧Reads w x.val x.data
theorem zv(ao:Option Addr)(n c:Nat)(w:World) :
 Calls Tryz.prog 50 #[.slice ao n c] w fun e w' => e = .returned (.func (.func 77) #[] #[.pointer (some ⟨w.heap.size,0,none⟩)])∧w' = w.alloc (.cells #[.slice ao n c] 63):=by
 have zJ : ∀(fn:Fn) (first cap:Array Value) (w:World),(Instr.makeFunc fn first cap).run Tryz.prog w = .ok (.func fn first cap) w:=fun _ _ _ _=>rfl
 go_enter Tryz.func50,Tryz.ntmps50
 go_wp2;go_ret;exact⟨rfl,rfl⟩
theorem vr{p:Nat->TypeId->Prop}(Bn:Nat)(vb:Value)(F:Dk.av)(w0:World)(O7:Boxed w0 Bn 63 vb)(hv:pn p w0 vb F)(hlen:F.length<=17592186044416) :
 sD Fence.wide 8 Tryz.prog 77 #[.pointer (some ⟨Bn,0,none⟩)] vq (Below w0.heap.size) (Ip F) (fun xs=>xs.length=F.length) w0:=by
 intro lp J Jx A hA hJ hY h0
 obtain⟨ao,cap,rfl,hc1,hc2⟩:=cJ.shape hv;have HP:=aa (fun h=>cJ.places hv (fun a u=>⟨_,rfl⟩) h)
 have jB:Hid (∀W,Below w0.heap.size w0 W->W.cell? ⟨Bn,0,none⟩=some (.slice ao F.length cap)):=fun W h=>Boxed.cell ((h.block _ O7.lt).trans O7)
 have VE:=jB.out A hA;refine callsIn_of_wp Tryz.func77 rfl trivial ?_ rfl;simp only[Tryz.ntmps77,List.size_toArray,List.length_cons,List.length_nil,Nat.reduceAdd,Nat.reduceSub,Array.replicate_succ,Array.replicate_zero,List.push_toArray,List.append_toArray,List.nil_append,List.cons_append];obtain⟨n,hn⟩ : ∃n,n=F.length:=⟨_,rfl⟩;rw[<- hn]at hlen hc1 HP jB VE
 have HN:=aa hn;have Sa:=aa hY;have VG:=aa h0;have pS:=aa hA;have SZ:(n:Int)<=17592186044416:=by omega
 clear hv hn hY h0 hA hJ O7 hc2
 gi_wp2
 gi_loopw [3] (fun x wr => ∃(k:Nat) (z:Int) (pre:List zu),x = .int .i64 z∧Hid (z=(k:Int) - 1)∧Hid (k+pre.length=n)∧J pre wr∧Hid (Below w0.heap.size w0 wr)) (fun x _=>(intOf x+1).toNat)
 case atStart=>exact⟨n,(n:Int) - 1, [],rfl,rfl,rfl,VG.out,pS.out⟩
 case round =>
  clear VG pS VE;obtain⟨k,z,pre,rfl,HZ,HK,hJp,HB⟩:=hrel;have HJP:=aa hJp;clear hJp;obtain _ | j:=k
  ·obtain rfl:z = -1:=by have:=HZ.out;omega
   gi_wp2
   go_end0
   exact⟨⟨_,rfl⟩, .inl ⟨pre,by have:=HK.out;have:=HN.out;omega,HJP.out⟩⟩
  ·obtain rfl:z=(j:Int):=by have:=HZ.out;omega
   have hjn:(j:Int)<(n:Int):=by have:=HK.out;omega
   have hj0:(0:Int)<=(j:Int):=by omega
   obtain⟨x,hx⟩ : ∃x,F[j]? = some x:=⟨_,List.getElem?_eq_getElem (by have:=HN.out;omega)⟩
   obtain⟨g,off,rfl,_,hc⟩:=HP.out (by have:=HN.out;omega)
   obtain⟨u,hu,hcell⟩:=hc j x hx;obtain⟨uo,uc,rfl⟩:=hu.1.shape;have hcw:=hcell wr HB.out;have m0:wr.cell? ⟨g,off+j*2,none⟩=some (.int .i64 x.1):=hcw 0 _ rfl;have m1:wr.cell? ⟨g,off+j*2+1,none⟩=some (.slice uo x.2.length uc):=hcw 1 _ rfl;have hcB:=jB.out wr HB.out;obtain⟨fn,tmps,assign,body,hy,hR⟩:=Sa.out pre ⟨j,x.1, .slice uo x.2.length uc,x.2⟩ wr HJP.out ⟨by have:=HK.out;have:=HN.out;show _=_+j+1;omega,hx,hu.1.below HB.out⟩
   dsimp only [vq]at hy
   clear hc hu hcell hcw hx
   gi_wp2
   refine hR.mono ?_;rintro e W3 (⟨rfl,hJ3,hk3⟩ | ⟨rfl,hJ3⟩)
   ·have XV:=aa hJ3;have jz:=aa hk3
    clear hJ3 hk3
    gi_wp2
    go_roundw
    case rel=>exact⟨j,(j:Int) - 1,_,rfl,rfl,by show _=_;rw[List.length_append];have:=HK.out;simp;omega,XV.out,HB.trans jz.out⟩
    case measure=>simp[intOf]
   ·have XV:=aa hJ3
    clear hJ3
    gi_wp2
    exact bodyPost_ret (results_none rfl _ _ _) rfl ⟨⟨_,rfl⟩, .inr ⟨_,XV.out⟩⟩
end
end Go.Proofs.YtdkdjofnnnljjaaGreatDoor

namespace Go.Proofs.YtdkdjofnnnljjaaGreatDoor
open Go.RowKit
set_option maxHeartbeats 6400000
set_option maxRecDepth 8000
section
theorem oA(u:Value)(y:List UInt8)(w:World)(hu:Reads w u y)(hy:y.length<=70368744177664) :
 Calls Tryz.prog 80 #[u] w (Looks w (.tuple #[.int .i64 (Sg.numbers y).1, .int .i64 (Sg.numbers y).2.1, .int .i64 (Sg.numbers y).2.2])):=by
 have Hi:=kv u y w w.heap.size (Nat.le_refl _) hu hy;obtain⟨k1,q1,e1,h1,hx1,WV,jb⟩:=Cm.dV y 0 0;obtain⟨k2,q2,e2,h2,hx2,hk2,hk3⟩:=Cm.dV y q1 e1;have g1:Sg.n1 y=(k1,(q1:Int),e1):=h1;have g2:Sg.n2 y=(k2,(q2:Int),e2):=by unfold Sg.n2;rw[g1];exact h2
 obtain⟨d,hd⟩ : ∃d,d=Cm.done y q2 e2:=⟨_,rfl⟩;obtain⟨z,hz⟩ : ∃z,z=Vs.opens 2 k1:=⟨_,rfl⟩;obtain⟨r,hr⟩ : ∃r,r=Sg.numbers y:=⟨_,rfl⟩;have HR:Hid (r=if d≠0 then (0,0,d)else if z≠0 then (0,0,z)else (k1,k2,0)):=by
  show _=_;rw[hr];unfold Sg.numbers Sg.nd;rw[g2,g1];dsimp only;rw[Int.toNat_natCast, <- hd, <- hz]
 rw[<- hr];have N9:=aa Hi;have H1:=aa h1;have H2:=aa h2;have HD:Hid (d=Pk.done y q2 e2):=hd;have Uv:Hid (∀W,Calls Tryz.prog 84 #[.int .i64 k1] W (Says W (.int .i64 z))):=by
  intro W
  rw[hz];exact lT k1 W
 obtain⟨uo,uc,rfl⟩:=hu.shape;clear Hi h1 h2 g1 g2 hd hz hr hu hy
 go_enter Tryz.func80,Tryz.ntmps80
 go_wp2_with fail
 refine N9.mono ?_;rintro e w1 ⟨o,v,rfl,ho,hr1,hb1⟩;have ov:=aa hr1;have aG:Hid (Below w.heap.size w w1):=hb1;have HO:Hid (w.heap.size<=o):=ho;clear hr1 hb1 ho N9
 go_wp2_with fail
 refine(cY _ w.heap.size o v y 0 0 k1 q1 e1 ov.out hx1 H1).mono ?_;rintro e w2 ⟨rfl,hr2,hg2⟩;have bC:=aa hr2;have aR:Hid (Below w.heap.size w w2):=aG.grown hg2 aG.size (by rintro j hj;cases hj;exact HO.out)
 clear hr2 hg2 hx1
 go_wp2_with fail
 refine(cY _ w.heap.size o v y q1 e1 k2 q2 e2 bC.out hx2 H2).mono ?_;rintro e w3 ⟨rfl,hr3,hg3⟩;have oH:=aa hr3;have bh:Hid (Below w.heap.size w w3):=aR.grown hg3 aR.size (by rintro j hj;cases hj;exact HO.out)
 clear hr3 hg3 hx2
 go_wp2_with fail
 refine(js _ w.heap.size o v y q2 e2 oH.out).mono ?_;rintro e w4 ⟨rfl,q,rfl⟩;rw[<- HD.out];have bJ:Hid (Below w.heap.size w (w3.drewN q)):=bh.trans ((drawn w3 q).mono bh.size);generalize w3.drewN q=w4 at bJ ⊢
 by_cases h0:d=0
 ·subst h0
  have lZ:=aa (HR.trans (if_neg (by simp)))
  go_wp2_with fail
  refine(Uv.out w4).mono ?_;rintro e w5 ⟨rfl,rfl⟩;by_cases hz:z=0
  ·subst hz
   have jf:Hid (r=(k1,k2,0)):=lZ.trans (if_neg (by simp))
   go_wp2
   go_ret3
   rw[jf.out];exact⟨rfl,bJ.out⟩
  ·have hne:(z != 0)=true:=by simpa using hz
   have jf:Hid (r=(0,0,z)):=lZ.trans (if_pos hz);clear hz;go_wp2
   go_ret3
   rw[jf.out];exact⟨rfl,bJ.out⟩
 ·have hne:(d != 0)=true:=by simpa using h0
  have lZ:Hid (r=(0,0,d)):=HR.trans (if_pos h0);clear h0;go_wp2
  go_ret3
  rw[lZ.out];exact⟨rfl,bJ.out⟩
abbrev Sg.Uw(gb ga:Nat):Value := .func (.func 110) #[] #[.pointer (some ⟨gb,0,none⟩), .pointer (some ⟨ga,0,none⟩)]
def Mk(w:World)(u:Value)(e:Ending)(w' : World):Prop :=
 ∃gb ga,e = .returned (Sg.Uw gb ga)∧gb≠ga∧w.heap.size<=gb∧w.heap.size<=ga∧ae w' gb 30 #[u]∧ae w' ga 3 #[.int .i64 ((0:Nat):Int)]∧Below w.heap.size w w'
theorem zw(uo:Option Addr)(un uc:Nat)(w:World):Calls Tryz.prog 79 #[.slice uo un uc] w (Mk w (.slice uo un uc)):=by
 have zJ : ∀(fn:Fn) (first cap:Array Value) (w:World),(Instr.makeFunc fn first cap).run Tryz.prog w = .ok (.func fn first cap) w:=fun _ _ _ _=>rfl
 obtain⟨w1,e1,l1,b1,z1⟩ : ∃w1,w.alloc (.cells #[.slice uo un uc] 30)=w1∧ae w1 w.heap.size 30 #[.slice uo un uc]∧Below w.heap.size w w1∧w1.heap.size=w.heap.size+1:=⟨_,rfl,ae.new _ _ _,(Below.refl _ w).alloc (Nat.le_refl _) _,by simp⟩
 obtain⟨w2,e2,l2,b2,z2⟩ : ∃w2,w1.alloc (.cells #[.int .i64 0] 3)=w2∧ae w2 w1.heap.size 3 #[.int .i64 ((0:Nat):Int)]∧Below w1.heap.size w1 w2∧w2.heap.size=w1.heap.size+1:=⟨_,rfl,ae.new _ _ _,(Below.refl _ w1).alloc (Nat.le_refl _) _,by simp⟩
 have L1:=aa (l1.below b2 l1.lt);have L2:Hid (ae w2 w1.heap.size 3 #[.int .i64 0]):=l2;have HB:Hid (Below w.heap.size w w2):=b1.trans (b2.mono b1.size);have HZ:Hid (w1.heap.size=w.heap.size+1):=z1;clear l1 l2 b1 b2 z1 z2
 go_enter Tryz.func79,Tryz.ntmps79
 go_wp2_with (first
  | (refine aP (by rfl) _ _ _ (by rfl) w1.heap.size 0 _ _ #[.int .i64 0] (.int .i64 0) [.int .i64 0] (by rfl) (by rfl) (by rfl) (by kernel_rfl) (by rfl) L2.out (Nat.le_of_ble_eq_true rfl) (by rfl) ?_
     intro w3 fk hg3
     have fY:=aa fk;have pT:=aa hg3;clear fk hg3)
  | fail)
 go_ret;have hz:=HZ.out;exact⟨_,_,rfl,by omega,Nat.le_refl _,by omega,L1.out.kept pT.out (by simp;omega),fY.out,HB.grown pT.out HB.size (by rintro j hj;cases hj;omega)⟩
def Rp(w:World)(ga:Nat)(y:List UInt8)(c:Nat)(e:Ending)(w' : World):Prop :=
 ∃v,e = .returned (.tuple #[v, .int .i64 (c:Int), .bool true])∧bF w' w.heap.size 5 v y∧ae w' ga 3 #[.int .i64 (c:Int)]∧w.grownBy w' (some ga)
theorem xM(u:Value)(b:List UInt8)(a:Nat)(w:World)(gb ga:Nat)(y:List UInt8)(c:Nat)(hT:eh w)(hu:Reads w u b)(hlen:b.length<=140737487000000)(lb:ae w gb 30 #[u])(la:ae w ga 3 #[.int .i64 (a:Int)])(hn:cK.next b (a:Int)=(y,(c:Int),0)) :
 Calls Tryz.prog 110 #[.pointer (some ⟨gb,0,none⟩), .pointer (some ⟨ga,0,none⟩)] w (Rp w ga y c):=by
 have hx:=Cb u b (a:Int) w hu hT hlen;rw[hn]at hx
 have HX:=aa hx;obtain⟨c0,hc0,_,_,hy0,_⟩:=cK.j8 hn;have HY:Hid (0<y.length):=hy0;obtain⟨uo,uc,rfl⟩:=hu.shape;obtain⟨un,hun⟩ : ∃un,un=b.length:=⟨_,rfl⟩;rw[<- hun]at HX lb
 have p0:w.cell? ⟨gb,0,none⟩=some (.slice uo un uc):=lb.cell 0 _ rfl;have p1:w.cell? ⟨ga,0,none⟩=some (.int .i64 (a:Int)):=la.cell 0 _ rfl;have BD:=aa la;clear hx hc0 hy0 hu hT hlen lb la hn hun
 go_enter Tryz.func110,Tryz.ntmps110
 go_wp2_with fail
 refine HX.mono ?_;rintro e w1 ⟨v,rfl,lj,hb1⟩;dsimp only at lj ⊢
 obtain⟨vo,vc,hsh⟩:=lj.reads.shape;obtain⟨vn,Pt⟩ : ∃vn,vn=y.length:=⟨_,rfl⟩;rw[<- Pt]at hsh
 subst hsh;have dh:=aa (BD.below hb1 BD.lt);have HO1:=aa lj;have aG:=aa hb1;clear lj hb1 Pt p0 p1
 go_wp2_with (first
  | (refine aP (by rfl) _ _ _ (by rfl) ga 0 _ _ #[.int .i64 (c:Int)] (.int .i64 (c:Int)) [.int .i64 (c:Int)] (by rfl) (by rfl) (by rfl) (by kernel_rfl) (by rfl) dh.out (Nat.le_of_ble_eq_true rfl) (by rfl) ?_
     intro w2 hl2 hg2
     have ej:=aa hl2;have mg:=aa hg2;clear hl2 hg2)
  | fail)
 go_ret3
 refine⟨_,rfl, ?_,ej.out, ?_⟩
 ·refine HO1.grown mg.out (.inr fun h => ?_)
  exact dh.not_row (by decide) HO1.out h.symm
 ·exact aM (World.grownBy.mk aG.os aG.tape aG.output aG.size fun k hk _=>aG.block k hk) mg.out
theorem xN(u:Value)(b:List UInt8)(a:Nat)(w:World)(gb ga:Nat)(hT:eh w)(hu:Reads w u b)(hlen:b.length<=140737487000000)(lb:ae w gb 30 #[u])(la:ae w ga 3 #[.int .i64 (a:Int)])(hn:(cK.next b (a:Int)).2.2≠0) :
 Calls Tryz.prog 110 #[.pointer (some ⟨gb,0,none⟩), .pointer (some ⟨ga,0,none⟩)] w (Looks w (.tuple #[.slice none 0 0, .int .i64 0, .bool false])):=by
 have hx:=Cb u b (a:Int) w hu hT hlen;obtain⟨z,hz⟩ : ∃z,z=(cK.next b (a:Int)).2.2:=⟨_,rfl⟩;have HX:Hid (Calls Tryz.prog 111 #[u, .int .i64 (a:Int)] w (fun e w' => ∃v c,e = .returned (.tuple #[v, .int .i64 c, .int .i64 z])∧(∃o n k,v = .slice o n k)∧Below w.heap.size w w')):=by
  refine hx.mono ?_;rintro e w' ⟨v,rfl,ho,hb⟩;obtain⟨o,k,rfl⟩:=ho.reads.shape;exact⟨_,_,by rw[hz],⟨_,_,_,rfl⟩,hb⟩
 rw[<- hz]at hn
 obtain⟨uo,uc,rfl⟩:=hu.shape;obtain⟨un,hun⟩ : ∃un,un=b.length:=⟨_,rfl⟩;rw[<- hun]at HX lb
 have p0:w.cell? ⟨gb,0,none⟩=some (.slice uo un uc):=lb.cell 0 _ rfl;have p1:w.cell? ⟨ga,0,none⟩=some (.int .i64 (a:Int)):=la.cell 0 _ rfl;have hne:(z != 0)=true:=by simpa using hn
 clear hx hu hT hlen lb la hn hun hz
 go_enter Tryz.func110,Tryz.ntmps110
 go_wp2_with fail
 refine HX.mono ?_;rintro e w1 ⟨v,c,rfl,⟨vo,vn,vk,rfl⟩,hb1⟩;have aG:=aa hb1;clear hb1 p0 p1;go_wp2
 go_ret3
 exact⟨rfl,aG.out⟩
def Ux(b:List UInt8)(a:Nat)(w:World)(ga:Nat)(e:Ending)(w' : World):Prop :=
 ∃(v:Value) (n:Int) (tt:Bool),e = .returned (.tuple #[v, .int .i64 n, .bool tt])∧w.grownBy w' (some ga) ∧
  ((tt=true ∧ ∃(y:List UInt8) (c:Nat),cK.next b (a:Int)=(y,(c:Int),0)∧n=(c:Int)∧Reads w' v y∧ae w' ga 3 #[.int .i64 (c:Int)])∨(tt=false∧(cK.next b (a:Int)).2.2≠0))
theorem vt(u:Value)(b:List UInt8)(a:Nat)(w:World)(gb ga:Nat)(hT:eh w)(hu:Reads w u b)(hlen:b.length<=140737487000000)(lb:ae w gb 30 #[u])(la:ae w ga 3 #[.int .i64 (a:Int)]) :
 Calls Tryz.prog 110 #[.pointer (some ⟨gb,0,none⟩), .pointer (some ⟨ga,0,none⟩)] w (Ux b a w ga):=by
 obtain⟨y,e0,z,hn⟩ : ∃y e z,cK.next b (a:Int)=(y,e,z):=⟨_,_,_,rfl⟩;by_cases h0:z=0
 ·subst h0
  obtain⟨c,rfl,_⟩:=cK.j8 hn;refine(xM u b a w gb ga y c hT hu hlen lb la hn).mono ?_;rintro e w' ⟨v,rfl,ho,hl,hg⟩;exact⟨v,_,true,rfl,hg, .inl ⟨rfl,y,c,hn,rfl,ho.reads,hl⟩⟩
 ·refine(xN u b a w gb ga hT hu hlen lb la (by rw[hn];exact h0)).mono ?_
  rintro e w' ⟨rfl,hb⟩;exact⟨_,_,false,rfl,⟨hb.os,hb.tape,hb.output,hb.size,fun k hk _=>hb.block k hk⟩, .inr ⟨rfl,by rw[hn];exact h0⟩⟩
abbrev gN(w:World)(base:Nat)(v:Value)(l:List Re.Rec):Prop:=bb 12 Re.cells Re.Rec.aw (fun _ t=>t=5) w base 42 v l
section
variable {w w' W : World} {base : Nat} {v : Value} {l : List Re.Rec}
theorem gN.reads(h:gN w base v l):gS (fun _ t=>t=5∨t=42) w v l :=
 bb.reads (bb.imp h fun _ _ _ _ _ e => .inl e) gK fun _ _ => .inr rfl
theorem gN.shape(h:gN w base v l) : ∃o c,v = .slice o l.length c:=by
 obtain⟨ps,e,h1,_⟩:=h;obtain⟨a,c,e2⟩:=aU.shape h1;rw[gj, <- e]at e2
 exact⟨a,c,e2⟩
theorem gN.not(h:gN w base v l){b:Nat}{T:TypeId}{cs:Array Value}(hl:ae w b T cs)(hT:T≠42):some b≠v.ownBlock:=fun e=>by
 obtain⟨cs', hc,_⟩:=bb.blocks h e.symm;have hl' : w.heap[b]? = some (.cells cs T (0,0)):=hl;rw[hl']at hc
 simp only[Option.some.injEq,Obj.cells.injEq]at hc
 exact hT hc.2.1
theorem gN.other(h:gN w base v l){b:Nat}{T:TypeId}{cs:Array Value}(hl:ae w b T cs)(hT:T≠42)(hT2:T≠5)(hg:w.grownBy w' (some b)):gN w' base v l:=by
 refine bb.stays h (fun g e => ?_) (dS.aI hg fun g cs' t fr e hc ht => ?_)
 ·obtain⟨cs', hc,_⟩:=bb.blocks h e
  exact hg.block g (aK hc) fun e2=>h.not hl hT (by rw[<- e2,e])
 ·cases e
  have hl' : w.heap[b]? = some (.cells cs T (0,0)):=hl;rw[hl']at hc
  simp only[Option.some.injEq,Obj.cells.injEq]at hc
  exact hT2 (hc.2.1.trans ht)
theorem gN.behind(h:gN w base v l)(hb:Below base W w)(hs:base<=W.heap.size)(hg:w.grownBy w' v.ownBlock):Below base W w' :=
 hb.grown hg (Nat.le_trans hs hb.size) fun g e=>by obtain⟨_,_,h2⟩:=bb.blocks h e;exact h2
end
theorem Iq{w:World}{ops:Array Oper}{rest:List Oper}{o:Oper}{a:Act}{Q:Exit->Act->World->Prop}(hg:o.guard=none)(s x:Operand)(ho:o.op = .call { callee := .builtin .append,args := #[s,x],argTypes := #[61,61] })
 (base:Nat) (out:Value) (G:List Re.Rec) (hs:a.eval s=out) (hown:gN w base out G) (f:Re.Rec) (u:Value) (g:Nat) (hx:a.eval x = .slice (some ⟨g,0,none⟩) 1 1) (hl:ae w g 42 (Re.cells f u)) (hu:bB w u f.aw)
 (hlen:G.length<=1000000) (hbase:base<=w.heap.size) (hK : ∀v' w', gN w' base v' (G ++ [f])->w.grownBy w' out.ownBlock->wpList Tryz.prog ops Q rest (a.put o.dst v') w'):wpList Tryz.prog ops Q (o :: rest) a w:=by
 obtain⟨v', w', hrun,h1,h2,_⟩:=hown.snoc (P:=Tryz.prog) (t:=61) o.type gK Tryz.underlying61 rN rfl (by decide) hbase f u hl hu (by omega) (by omega) (fun g _ h=>absurd h (by decide))
 exact step_append hg s x 61 ho out _ v' hs hx hrun (hK v' w' h1 h2)
def zx(w:World)(b:List UInt8)(e:Ending)(w' : World):Prop :=
 Below w.heap.size w w' ∧ ((Sg.kR b∧e = .returned (.tuple #[.agg (Sg.cells 0 Hd.zero Nil Nil Nil 0 0), .int .i64 17])) ∨
  ∃f s l a vi va vc,Sg.Whole b f s l a∧e = .returned (.tuple #[.agg (Sg.cells f (Hd.of l) vi va vc (l.length:Int) (a:Int)), .int .i64 0])∧bL (fun b=>w.heap.size<=b) w' (Hd.of l) vi va vc)
theorem Ml(u:Value)(b:List UInt8)(w:World)(hT:eh w)(hW:bE w)(hu:Reads w u b)(hlen:b.length<=4000000) :
 Calls Tryz.prog 52 #[u] w (zx w b):=by
 obtain⟨Q,hQ⟩ : ∃Q:Ending->World->Prop,Q=zx w b:=⟨_,rfl⟩;rw[<- hQ];have HQ:Hid (∀e w', zx w b e w' -> Q e w'):=by rw[hQ];exact fun _ _ h=>h
 clear hQ;obtain⟨w1,e1,hc1,aq,hs1⟩:=LP w;have HT:=aa (fun W (h:Below w.heap.size w W)=>hT.below h)
 have HW:=aa (fun W (h:Below w.heap.size w W)=>hW.below h)
 have HU:=aa (fun W (h:Below w.heap.size w W)=>hu.below h)
 have ow:=aa hlen;obtain⟨gc,O6⟩ : ∃g,g=w.heap.size:=⟨_,rfl⟩;have Rq:Hid (w.heap.size<=gc∧gc<w1.heap.size):=⟨by omega,by omega⟩
 have kJ:Hid (eC w1 gc 0 Hd.zero Nil Nil Nil 0 0):=by rw[O6];exact hc1
 have aG:=aa aq;obtain⟨uo,uc,hsh⟩:=hu.shape;obtain⟨un,hun⟩ : ∃un,un=b.length:=⟨_,rfl⟩;rw[<- hun]at hsh
 subst hsh;clear hc1 aq hs1 hT hW hu hlen hun;dsimp only [Sg.cells,Hd.zero,Bl.zero]at e1
 go_enter Tryz.func52,Tryz.ntmps52
 go_wp2_with fail
 rw[<- O6];clear e1 O6;refine(zw uo un uc w1).mono ?_;rintro e w2 ⟨gb,ga,rfl,hne,hgb,PM,lb2,la2,hb2⟩;have aR:Hid (Below w.heap.size w w2):=aG.trans (hb2.mono aG.size);have ll:=aa (kJ.below hb2 kJ.ag.lt);have HG:Hid (gb≠ga∧w.heap.size<=ga∧gc≠ga):=⟨hne,Nat.le_trans aG.size PM,by have:=Rq.out;omega⟩
 have V1:=aa lb2;have XW:=aa la2;clear hne hgb PM lb2 la2 hb2;obtain⟨y0,e0,z0,zG⟩ : ∃y e z,cK.next b ((0:Nat):Int)=(y,e,z):=⟨_,_,_,rfl⟩;by_cases h0:z0=0
 ·subst h0
  obtain⟨c0,rfl,_,hc0,hy0,wO⟩:=cK.j8 zG;have Rs:=aa zG;have V2:Hid (c0<=b.length):=hc0
  go_wp2_with fail
  refine(xM (.slice uo un uc) b 0 w2 gb ga y0 c0 (HT.out _ aR.out) (HU.out _ aR.out) (by have:=ow.out;omega) V1.out XW.out zG).mono ?_
  rintro e w3 ⟨v3,rfl,fM,la3,hg3⟩;have bh:Hid (Below w.heap.size w w3):=aR.grown hg3 aR.size (by rintro j hj;cases hj;exact HG.2.1)
  have pY:=aa (ll.kept hg3 HG.2.2);have XX:=aa (V1.out.kept hg3 (by simpa using HG.1));have XY:=aa la3
  have hr3:=fM.reads;have qm:=oA v3 y0 w3 hr3 (by omega)
  obtain⟨o3,k3,hsh⟩:=hr3.shape;obtain⟨n3,Sl⟩ : ∃n,n=y0.length:=⟨_,rfl⟩;rw[<- Sl]at hsh
  subst hsh;clear hc0 hy0 wO zG fM la3 hg3 hr3 Sl V1 XW ll;rcases Sg.pd y0 with ⟨z,hz,hnz⟩ | ⟨f,s,hf,hs0,hs1,hnz⟩
  ·have vu:Hid (Sg.kR b):=fun f' s' l' e' hw=>by
    obtain⟨⟨y', c', k1,k2,_⟩,_,_⟩:=hw;rw[Rs.out]at k1
    simp only[Prod.mk.injEq]at k1
    obtain⟨rfl,_,_⟩:=k1;rw[hnz]at k2
    simp only[Prod.mk.injEq]at k2
    exact hz k2.2.2
   rw[hnz]at qm
   have wz:=aa qm;have hzb:(z != 0)=true:=by simpa using hz
   clear hnz qm hz
   go_wp2_with (first
    | (go_at_call 80
       refine wz.mono ?_;rintro e w4 ⟨rfl,hb4⟩;have bJ:=aa hb4;dsimp only;clear hb4)
    | (refine gZ rfl _ _ rfl rfl (pY.below bJ.out pY.ag.lt) pY.out rfl ?_;intro w9 gR cM;have jl:=aa gR;have gI:=aa cM;clear gR cM)
    | fail)
   refine ju rfl rfl jl.out rfl ?_;have bK:=aa (bh.trans (bJ.mono bh.size));exact HQ.out _ _ ⟨bK.grown gI.out bK.size (by rintro j hj;cases hj;exact Rq.1), .inl ⟨vu.out,rfl⟩⟩
  ·rw[hnz]at qm
   have uE:=aa qm;have wz:=aa hnz;have HF:=aa hf;clear qm hnz hf
   go_wp2_with fail
   refine uE.mono ?_;rintro e w4 ⟨rfl,hb4⟩;have bJ:Hid (Below w.heap.size w w4):=bh.trans (hb4.mono bh.size);have VM:=aa (pY.below hb4 pY.ag.lt);have XZ:=aa (XX.out.below hb4 XX.out.lt);have LA4:=aa (XY.out.below hb4 XY.out.lt);clear hb4 pY XX XY uE
   go_wp2_with fail
   refine(vt (.slice uo un uc) b c0 w4 gb ga (HT.out _ bJ.out) (HU.out _ bJ.out) (by have:=ow.out;omega) XZ.out LA4.out).mono ?_
   rintro e w5 ⟨v5,n5,t5,rfl,bU,hx5⟩;have bK:Hid (Below w.heap.size w w5):=bJ.grown bU bJ.size (by rintro j hj;cases hj;exact HG.2.1)
   have Sh:=aa (VM.kept bU HG.2.2);have LB5:=aa (XZ.out.kept bU (by simpa using HG.1))
   have Nz:=aa hx5;clear bU hx5 XZ LA4 VM;go_wp2
   go_loopw [6,11,12,13,14] (fun e l v n t wr => ∃(a:Nat) (rs:List Re.Rec) (nn:Int) (tt:Bool),e = .int .i64 (a:Int)∧n = .int .i64 nn∧t = .bool tt∧Hid (a<=b.length)∧Hid (gN wr w.heap.size l rs)∧Hid (Sg.zM f b c0 rs a)∧Hid (Below w.heap.size w wr)∧Hid (eC wr gc 0 Hd.zero Nil Nil Nil 0 0)∧Hid (ae wr gb 30 #[.slice uo un uc]) ∧
    Hid ((tt=true ∧ ∃(y:List UInt8) (c:Nat),cK.next b (a:Int)=(y,(c:Int),0)∧nn=(c:Int)∧Reads wr v y∧ae wr ga 3 #[.int .i64 (c:Int)])∨(tt=false∧(cK.next b (a:Int)).2.2≠0))) (fun e _ _ _ _ _=>b.length - (intOf e).toNat)
   case atStart=>exact⟨c0, [],n5,t5,rfl,rfl,rfl,V2.out,bb.bare _ _ _ _, .nil c0,bK.out,Sh.out,LB5.out,Nz.out⟩
   case round =>
    obtain⟨a,rs,nn,tt,rfl,rfl,rfl,HAL,RS,Nj,HB,HC,LB,uE⟩:=hrel;obtain⟨lo,lc,hls⟩:=gN.shape RS.out;obtain⟨ln,X0⟩ : ∃ln,ln=rs.length:=⟨_,rfl⟩;rw[<- X0]at hls
    have jX:=aa X0;subst hls;clear X0;rcases uE.out with ⟨rfl,y,c,hn,rfl,hv,la⟩ | ⟨rfl,hn⟩
    ·obtain⟨c', hc', hc1,hc2,wO,IX⟩:=cK.j8 hn
     obtain rfl:c=c' := by omega
     have TJ:Hid (a+6<=c∧c<=b.length):=⟨hc1,hc2⟩;have HN:=aa hn;have LA:=aa la;have Ji:=Gm f _ y wr (HW.out _ HB.out) hv (by omega)
     obtain⟨x,z,X4⟩ : ∃x z,Rt.get f y=(x,z):=⟨_,_,rfl⟩;rw[X4]at Ji
     obtain⟨vo,vk,hvs⟩:=hv.shape;obtain⟨vn,Pt⟩ : ∃vn,vn=y.length:=⟨_,rfl⟩;rw[<- Pt]at hvs
     subst hvs;have Ru:=aa Ji;have HXZ:=aa X4;clear hc' hc1 hc2 wO IX hn la Ji hv Pt X4 uE;by_cases hz:z=0
     ·subst hz
      have Uy:Hid (Sg.zM f b c0 (rs ++ [x]) c):=Nj.out.snoc HN.out HXZ.out;have Mm:Hid (rs.length<=1000000):=by
       have h1:=Nj.out.bound V2.out;have:=ow.out;show _<=_;omega
      go_wp2_with (first
       | (go_at_call 81
          refine Ru.mono ?_;rintro e w6 ⟨fP,vi6,rfl,vV,h6⟩;obtain⟨io,ic,Mn⟩:=vV.shape;subst Mn;have cy:Hid (Below wr.heap.size wr w6):=fP;have tD:=aa vV;dsimp only;clear fP vV h6)
       | (refine aY rfl _ _ rfl w6.heap.size Re.zero Nil x (.slice io x.aw.length ic) rfl rfl rfl (ae.new _ _ _) ?_
          intro w7 dH cr
          have vP:=aa dH;have fZ:Below w6.heap.size w6 w7:=aJ cr;have HX:Hid (Below wr.heap.size wr w7):=cy.trans (fZ.mono cy.size);have Av:=aa (tD.below fZ);clear dH cr fZ)
       | (refine cZ rfl _ rfl w6.heap.size x (.slice io x.aw.length ic) rfl vP.out ?_
          dsimp only [Re.cells])
       | (at_builtin
          refine Iq rfl _ _ rfl w.heap.size (.slice lo ln lc) rs rfl (bb.below (bb.below RS.out HX.out) ((Below.refl _ w7).alloc (Nat.le_refl _) _)) x (.slice io x.aw.length ic) w7.heap.size rfl (ae.new w7 42 (Re.cells x (.slice io x.aw.length ic))) (Av.below ((Below.refl _ w7).alloc (Nat.le_refl _) _)) Mm.out (Nat.le_trans (Nat.le_trans HB.size HX.size) (by simp)) ?_
          intro v8 w8 eU fh
          have fZ:Below wr.heap.size wr (w7.alloc (.cells (Re.cells x (.slice io x.aw.length ic)) 42)):=HX.alloc HX.size _;have hrow:gN (w7.alloc (.cells (Re.cells x (.slice io x.aw.length ic)) 42)) w.heap.size (.slice lo ln lc) rs:=bb.below RS.out fZ;have hbw:Below w.heap.size w w8:=gN.behind hrow (HB.trans (fZ.mono HB.size)) (Nat.le_refl _) fh;have Pb:eC w8 gc 0 Hd.zero Nil Nil Nil 0 0:=by
           have h:=HC.below fZ HC.ag.lt;exact⟨h.ag.kept fh (hrow.not h.ag (by decide)),h.vi,h.va,h.vc⟩
          have Uz:ae w8 gb 30 #[.slice uo un uc]:=by
           have h:=LB.out.below fZ LB.out.lt;exact h.kept fh (hrow.not h (by decide))
          have UA:ae w8 ga 3 #[.int .i64 (c:Int)]:=by
           have h:=LA.out.below fZ LA.out.lt;exact h.kept fh (hrow.not h (by decide))
          have fN:=aa eU;have cN:=aa hbw;have Pc:=aa Pb;have LB8:=aa Uz;have LA8:=aa UA;clear eU fh fZ hrow hbw Pb Uz UA)
       | (go_at_call 110
          refine(vt (.slice uo un uc) b c w8 gb ga (HT.out _ cN.out) (HU.out _ cN.out) (by have:=ow.out;omega) LB8.out LA8.out).mono ?_
          rintro e w9 ⟨v9,n9,t9,rfl,cM,gR⟩;have eY:Hid (Below w.heap.size w w9):=cN.grown cM cN.size (by rintro j hj;cases hj;exact HG.2.1)
          have Tq:=aa (Pc.kept cM HG.2.2);have LB9:=aa (LB8.out.kept cM (by simpa using HG.1))
          have Ph:=aa (fN.other LA8.out (by decide) (by decide) cM)
          have SB:=aa gR;clear cM gR)
       | fail)
      go_roundw
      case rel=>exact⟨c,rs ++ [x],n9,t9,rfl,rfl,rfl,TJ.2,Ph.out,Uy.out,eY.out,Tq.out,LB9.out,SB.out⟩
      case measure=>have:=TJ.out;simp[intOf];omega
     ·have hzb:(z != 0)=true:=by simpa using hz
      have Ck:Hid (Sg.sD f b a) := .inr (by rw[HN.out];show(Rt.get f y).2≠0;rw[HXZ.out];exact hz)
      clear hz;have Mo:Hid (∀f' s' l' e', Sg.Whole b f' s' l' e' -> f' = f∧s' = s∧l' = rs∧e' = a):=by
       intro f' s' l' e' hw
       obtain⟨⟨y', c', k1,k2,k3⟩,k4,_⟩:=hw;rw[Rs.out]at k1
       simp only[Prod.mk.injEq,Int.natCast_inj,and_true]at k1
       obtain⟨rfl,rfl⟩:=k1;rw[wz.out]at k2
       simp only[Prod.mk.injEq,and_true]at k2
       obtain⟨rfl,rfl⟩:=k2;obtain⟨rfl,rfl⟩:=k3.one k4 Nj.out Ck.out;exact⟨rfl,rfl,rfl,rfl⟩
      by_cases hlt:(ln:Int)<s
      ·have vu:Hid (Sg.kR b):=fun f' s' l' e' hw=>by
        obtain⟨h1,h2,h3,_⟩:=Mo.out _ _ _ _ hw;have h4:=hw.Kj;rw[h2,h3, <- jX.out]at h4
        omega
       go_wp2_with (first
        | (go_at_call 81
           refine Ru.mono ?_;rintro e w6 ⟨fP,vi6,rfl,vV,h6⟩;obtain⟨io,ic,Mn⟩:=vV.shape;subst Mn;have cy:Hid (Below wr.heap.size wr w6):=fP;have tD:=aa vV;dsimp only;clear fP vV h6)
        | (refine aY rfl _ _ rfl w6.heap.size Re.zero Nil x (.slice io x.aw.length ic) rfl rfl rfl (ae.new _ _ _) ?_
           intro w7 dH cr
           have vP:=aa dH;have fZ:Below w6.heap.size w6 w7:=aJ cr;have HX:Hid (Below wr.heap.size wr w7):=cy.trans (fZ.mono cy.size);have Av:=aa (tD.below fZ);clear dH cr fZ)
        | (refine gZ rfl _ _ rfl rfl (HC.below HX.out HC.ag.lt) HC.out rfl ?_
           intro w9 gR cM
           have jl:=aa gR;have gI:=aa cM;clear gR cM)
        | fail)
       refine ju rfl rfl jl.out rfl ?_;have jB:=aa (HB.trans (HX.mono HB.size));exact HQ.out _ _ ⟨jB.grown gI.out jB.size (by rintro j hj;cases hj;exact Rq.1), .inl ⟨vu.out,rfl⟩⟩
      ·have Eu:Hid (Sg.Whole b f s rs a):=⟨⟨_,_,Rs.out,wz.out,Nj.out⟩,Ck.out,by have:=jX.out;omega⟩
       have Mm:Hid (rs.length<=800000):=by
        obtain⟨_,_,h3,_⟩:=cK.j8 Rs.out;have h1:=Nj.out.bound V2.out;have:=ow.out;show _<=_;omega
       have Ev:Hid (∀x∈rs,x.cmd.aD 140737488355328):=fun x hx=>aD.up (Nj.out.good HF.out x hx).2.2.1 (by omega)
       go_wp2_with (first
        | (go_at_call 81
           refine Ru.mono ?_;rintro e w6 ⟨fP,vi6,rfl,vV,h6⟩;obtain⟨io,ic,Mn⟩:=vV.shape;subst Mn;have cy:Hid (Below wr.heap.size wr w6):=fP;have tD:=aa vV;dsimp only;clear fP vV h6)
        | (refine aY rfl _ _ rfl w6.heap.size Re.zero Nil x (.slice io x.aw.length ic) rfl rfl rfl (ae.new _ _ _) ?_
           intro w7 dH cr
           have vP:=aa dH;have fZ:Below w6.heap.size w6 w7:=aJ cr;have HX:Hid (Below wr.heap.size wr w7):=cy.trans (fZ.mono cy.size);have Av:=aa (tD.below fZ);clear dH cr fZ)
        | (go_at_call 82
           refine(Bv (.slice lo ln lc) rs _ (HW.out _ (HB.trans (HX.mono HB.size))) (gN.reads (bb.below RS.out HX.out)) Ev.out Mm.out).mono ?_;rintro e w8 ⟨vi,va,vc,rfl,Pu,eX⟩;have sF:=aa (Pu.imp (q' := fun b=>w.heap.size<=b) fun b hb=>Nat.le_trans (HB.trans (HX.mono HB.size)).size hb)
           have mQ:Hid (Below wr.heap.size wr w8):=HX.trans (eX.mono HX.size);dsimp only [Hd.cells];clear Pu eX)
        | (refine gZ rfl _ _ rfl rfl (HC.below mQ.out HC.ag.lt) (eC.mk (ae.new w8 _ _) sF.rows.sl.1 sF.rows.sl.2.1 sF.rows.sl.2.2:eC (w8.alloc (.cells (Sg.cells f (Hd.of rs) vi va vc (ln:Int) (a:Int)) 97)) w8.heap.size f (Hd.of rs) vi va vc (ln:Int) (a:Int)) rfl ?_
           intro w9 gR cM
           have jl:=aa gR;have gI:=aa cM;clear gR cM)
        | fail)
       refine ju rfl rfl jl.out rfl ?_;have jB:=aa (HB.trans (mQ.mono HB.size));exact HQ.out _ _ ⟨jB.grown gI.out jB.size (by rintro j hj;cases hj;exact Rq.1), .inr ⟨f,s,rs,a,vi,va,vc,Eu.out,by rw[<- jX.out];rfl,sF.FC (HC.below mQ.out HC.ag.lt) gI.out⟩⟩
    ·have Ck:Hid (Sg.sD f b a) := .inl hn
     have HX:Hid (Below wr.heap.size wr wr):=Below.refl _ _;clear hn uE;have Mo:Hid (∀f' s' l' e', Sg.Whole b f' s' l' e' -> f' = f∧s' = s∧l' = rs∧e' = a):=by
      intro f' s' l' e' hw
      obtain⟨⟨y', c', k1,k2,k3⟩,k4,_⟩:=hw;rw[Rs.out]at k1
      simp only[Prod.mk.injEq,Int.natCast_inj,and_true]at k1
      obtain⟨rfl,rfl⟩:=k1;rw[wz.out]at k2
      simp only[Prod.mk.injEq,and_true]at k2
      obtain⟨rfl,rfl⟩:=k2;obtain⟨rfl,rfl⟩:=k3.one k4 Nj.out Ck.out;exact⟨rfl,rfl,rfl,rfl⟩
     by_cases hlt:(ln:Int)<s
     ·have vu:Hid (Sg.kR b):=fun f' s' l' e' hw=>by
       obtain⟨h1,h2,h3,_⟩:=Mo.out _ _ _ _ hw;have h4:=hw.Kj;rw[h2,h3, <- jX.out]at h4
       omega
      go_wp2_with (first
       | (refine gZ rfl _ _ rfl rfl (HC.below HX.out HC.ag.lt) HC.out rfl ?_
          intro w9 gR cM
          have jl:=aa gR;have gI:=aa cM;clear gR cM)
       | fail)
      refine ju rfl rfl jl.out rfl ?_;have jB:=aa (HB.trans (HX.mono HB.size));exact HQ.out _ _ ⟨jB.grown gI.out jB.size (by rintro j hj;cases hj;exact Rq.1), .inl ⟨vu.out,rfl⟩⟩
     ·have Eu:Hid (Sg.Whole b f s rs a):=⟨⟨_,_,Rs.out,wz.out,Nj.out⟩,Ck.out,by have:=jX.out;omega⟩
      have Mm:Hid (rs.length<=800000):=by
       obtain⟨_,_,h3,_⟩:=cK.j8 Rs.out;have h1:=Nj.out.bound V2.out;have:=ow.out;show _<=_;omega
      have Ev:Hid (∀x∈rs,x.cmd.aD 140737488355328):=fun x hx=>aD.up (Nj.out.good HF.out x hx).2.2.1 (by omega)
      go_wp2_with (first
       | (go_at_call 82
          refine(Bv (.slice lo ln lc) rs _ (HW.out _ (HB.trans (HX.mono HB.size))) (gN.reads (bb.below RS.out HX.out)) Ev.out Mm.out).mono ?_;rintro e w8 ⟨vi,va,vc,rfl,Pu,eX⟩;have sF:=aa (Pu.imp (q' := fun b=>w.heap.size<=b) fun b hb=>Nat.le_trans (HB.trans (HX.mono HB.size)).size hb)
          have mQ:Hid (Below wr.heap.size wr w8):=HX.trans (eX.mono HX.size);dsimp only [Hd.cells];clear Pu eX)
       | (refine gZ rfl _ _ rfl rfl (HC.below mQ.out HC.ag.lt) (eC.mk (ae.new w8 _ _) sF.rows.sl.1 sF.rows.sl.2.1 sF.rows.sl.2.2:eC (w8.alloc (.cells (Sg.cells f (Hd.of rs) vi va vc (ln:Int) (a:Int)) 97)) w8.heap.size f (Hd.of rs) vi va vc (ln:Int) (a:Int)) rfl ?_
          intro w9 gR cM
          have jl:=aa gR;have gI:=aa cM;clear gR cM)
       | fail)
      refine ju rfl rfl jl.out rfl ?_;have jB:=aa (HB.trans (mQ.mono HB.size));exact HQ.out _ _ ⟨jB.grown gI.out jB.size (by rintro j hj;cases hj;exact Rq.1), .inr ⟨f,s,rs,a,vi,va,vc,Eu.out,by rw[<- jX.out];rfl,sF.FC (HC.below mQ.out HC.ag.lt) gI.out⟩⟩
 ·have vu:Hid (Sg.kR b):=fun f' s' l' e' hw=>by
   obtain⟨⟨y', c', k1,k2,_⟩,_,_⟩:=hw;rw[zG]at k1
   simp only[Prod.mk.injEq]at k1
   exact h0 k1.2.2
  have iC:=xN (.slice uo un uc) b 0 w2 gb ga (HT.out _ aR.out) (HU.out _ aR.out) (by have:=ow.out;omega) V1.out XW.out (by rw[zG];exact h0)
  have uE:=aa iC;obtain⟨z,hz,hnz⟩:=Sg.Bj;have HNZ:=aa hnz;have hzb:(z != 0)=true:=by simpa using hz
  clear iC hz hnz zG h0
  go_wp2_with fail
  refine uE.mono ?_;rintro e w3 ⟨rfl,hb3⟩;have bh:Hid (Below w.heap.size w w3):=aR.trans (hb3.mono aR.size);have pY:=aa (ll.below hb3 ll.ag.lt);have qm:=oA (.slice none 0 0) [] w3 (Reads.empty _) (by simp)
  rw[HNZ.out]at qm
  have wz:=aa qm;clear hb3 qm uE
  go_wp2_with (first
   | (go_at_call 80
      refine wz.mono ?_;rintro e w4 ⟨rfl,hb4⟩;have bJ:=aa hb4;dsimp only;clear hb4)
   | (refine gZ rfl _ _ rfl rfl (pY.below bJ.out pY.ag.lt) pY.out rfl ?_;intro w9 gR cM;have jl:=aa gR;have gI:=aa cM;clear gR cM)
   | fail)
  refine ju rfl rfl jl.out rfl ?_;have bK:=aa (bh.trans (bJ.mono bh.size));exact HQ.out _ _ ⟨bK.grown gI.out bK.size (by rintro j hj;cases hj;exact Rq.1), .inl ⟨vu.out,rfl⟩⟩
end
end Go.Proofs.YtdkdjofnnnljjaaGreatDoor
