/- WalCrashes: whatever a crash leaves was so since the last sync. -/
import Derived.Test.YtdkdjofnnnljjaaGreatDoorPWlPair
import Derived.Deep.Cut
import Derived.Deep.CutRange
import Derived.Deep.CutBlock
namespace Go.Proofs.YtdkdjofnnnljjaaGreatDoor
open Go.RowKit
set_option maxHeartbeats 12800000
set_option maxRecDepth 8000
theorem walCrashes_any{n0:Nat}(rv:Value)(l:List Wl.DC)(w:World)(E:Env n0 w)(hv:KL (fun k _=>k<w.heap.size) w rv l)(hs : ∀s∈l,s.x.Fits∧s.x.cmd.aD 9223372036854775807) :
 Calls Tryz.prog 3 #[rv] w (Truly w):=by
 have MN:=aa (DD rv l w hv fun x hx=>(hs x hx).2)
 have HE:=aa E;have HS:=aa hs;obtain⟨ao,cap,rfl,hc1,hc2⟩:=cJ.shape hv;have HPL:=aa (fun h=>cJ.places hv sH h)
 clear E hs hv
 go_enter Tryz.func3,Tryz.ntmps3
 go_wp2_with fail
 refine MN.mono ?_;rintro e w2 ⟨b,rfl,hb2,hbl⟩;have aR:=aa hb2;clear hb2 MN;cases b with
 | true =>
  have Yr:=aa (sR (HE.up aR.out))
  go_wp2_with (go_at_call 7;refine Yr.mono ?_;rintro e w3 ⟨rfl,hb3⟩;have bh:=aa hb3;clear hb3)
  go_ret;exact⟨rfl,aR.trans (bh.mono aR.size)⟩
 | false =>
  have N3:=aa (hbl rfl);clear hbl
  go_wp2_with fail
  refine(EV w2).mono ?_;rintro e w3 ⟨rfl,CE,hb3,hs3⟩;have bh:=aa (aR.trans (hb3.mono aR.size));obtain⟨d,Nn⟩ : ∃d,d=w2.heap.size:=⟨_,rfl⟩;have Ys:=HE.up bh.out;have hop:=pE Ys CE Wl.eJ.nil (by omega) (by omega) (fun q hq=>by simp[Dk.all]at hq) 2 1 Hd.zero Wl.ey.nil ((Wl.Ok.zero 1 0).He (by omega)) (Sg.file 1 Hd.zero []) (fun W vi va vc hb hr=>lL Ys (.inl rfl) (Wl.Ok.zero 1 0) (by omega) W vi va vc hb hr) (by rw[oc];omega)
  rw[<- Nn];rw[<- Nn]at hop
  have Py:=aa hop;have Ql:Hid (w.heap.size<=d):=by rw[Nn];exact aR.size
  clear CE hb3 hs3 Ys hop Nn
  go_wp2_with fail
  refine Py.mono ?_;rintro e w4 (⟨hno,_⟩ | ⟨_,gl,m,vi,va,vc,rfl,hm,hl4,hr4,hk4⟩)
  ·exact absurd (show Vs.opens 2 1=0 by decide) hno
  obtain⟨⟨io,ik,ic,rfl⟩,⟨bo,bk,bc,rfl⟩,⟨co,ck,cc,rfl⟩⟩:=hr4.rows.sl;obtain⟨w5,e5,l5,ew,hs5⟩:=eL w4 33 Hd.zero (.slice io ik ic) (.slice bo bk bc) (.slice co ck cc) hr4.rows;have bJ:Hid (Below w.heap.size w w4):=bh.trans (hk4.below bh.size fun b _ hb _ h=>by have:=Ql.out;omega)
  have bK:Hid (Below w.heap.size w w5):=bJ.trans (ew.mono bJ.size);have gQ:Hid (cW (fun j=>w.heap.size<=j∧j<w5.heap.size) w5 gl d [] (Wl.cv 1 (Sg.file 1 Hd.zero []) []) 1 1 Hd.zero):=(hl4.keep (Kp.all ew)).tight.imp fun j hj=>by
   have h1:=Ql.out;have h2:=bh.size;refine⟨?_,hj.2⟩;rcases hj.1 with hj | hj
   ·omega
   ·omega
  have HNW:=aa (BB w5);clear hl4 hr4 hk4 hm l5 ew hs5 Py bJ;dsimp only [Hd.cells,Hd.zero,Bl.zero]at e5 ⊢
  go_wp2_with fail
  refine HNW.mono ?_;rintro e w6 ⟨gp,rfl,Pz,fP⟩;have cy:Hid (Below w.heap.size w w6):=bK.trans (fP.mono bK.size);have Hj:Hid (∃U f k,uT w.heap.size U w6 gl d gp f k 0):=⟨fun _=>False,1,Hd.zero,_,_,_,_,_,_,_,gQ.keep (Kp.all fP),Pz,Wl.St.start,by simp,fun b h=>⟨h.1,fun h=>h⟩,fun b h=>⟨Nat.le_trans bK.size h,fun h=>h⟩,fun b h=>h.elim,fun b h=>⟨fun h' => by omega,fun h=>h⟩⟩
  obtain⟨nl,hnl⟩ : ∃n,n=l.length:=⟨_,rfl⟩;have V8:=aa hnl;rw[<- hnl];have ac7:nl<9223372036854775808:=by have:=V8.out;have:=N3.1;omega
  clear Pz fP hnl HNW gQ;go_wp2
  go_loopg [4,7,8] nl (fun g pl pp i wr => ∃k gl gp:Nat,pl=Wl.ptr gl∧pp=Wl.ptr gp∧i = .int .i64 (k:Int)∧k<=nl∧Hid (g=nl - k)∧Hid (∃U f h,uT w.heap.size U wr gl d gp f h k)∧Hid (Below w.heap.size w wr))
  case atStart=>exact⟨0,gl,gp,rfl,rfl,rfl,by omega,by show nl=nl - 0;omega,Hj,cy⟩
  case round =>
   obtain⟨k,gl,gp,rfl,rfl,rfl,hk,HG,HI,HB⟩:=hrel;by_cases hlt:k<nl
   ·have d1:decide ((k:Int)<(nl:Int))=true:=decide_eq_true (by omega)
    have tK : (k:Int)<(nl:Int):=by omega
    obtain⟨U0,f,h,T0,O0,D0,F,B,n,ps,p0⟩:=HI.out;obtain⟨c,lW⟩ : ∃c,l[k]? = some c:=⟨_,List.getElem?_eq_getElem (by have:=V8.out;omega)⟩
    obtain⟨kd,cn,cm,cx⟩:=c;obtain⟨g,off,rfl,_,hc⟩:=HPL.out (by have:=V8.out;omega)
    obtain⟨u,hu,hcell⟩:=hc k _ lW;obtain⟨uo,uc,rfl⟩:=hu.1.shape;obtain⟨im,Nh⟩ : ∃im,im=cx.aw.length:=⟨_,rfl⟩;rw[show(Wl.DC.aw ⟨kd,cn,cm,cx⟩).length=im from Nh.symm]at hu hcell
    have hcw:=hcell wr HB.out;have m0:wr.cell? ⟨g,off+k*15,none⟩=some (.int .i64 kd):=hcw 0 _ rfl;have m1:wr.cell? ⟨g,off+k*15+1,none⟩=some (.int .i64 cn):=hcw 1 _ rfl;have m2:wr.cell? ⟨g,off+k*15+2,none⟩=some (.int .i64 cm):=hcw 2 _ rfl;have m3:wr.cell? ⟨g,off+k*15+3,none⟩=some (.int .i64 cx.kind):=hcw 3 _ rfl;have m4:wr.cell? ⟨g,off+k*15+4,none⟩=some (.int .i64 cx.aF.round):=hcw 4 _ rfl;have m5:wr.cell? ⟨g,off+k*15+5,none⟩=some (.int .i64 cx.aF.node):=hcw 5 _ rfl;have m6:wr.cell? ⟨g,off+k*15+6,none⟩=some (.int .i64 cx.index):=hcw 6 _ rfl;have m7:wr.cell? ⟨g,off+k*15+7,none⟩=some (.int .i64 cx.cmd.kind):=hcw 7 _ rfl;have m8:wr.cell? ⟨g,off+k*15+8,none⟩=some (.int .i64 cx.cmd.bD):=hcw 8 _ rfl;have m9:wr.cell? ⟨g,off+k*15+9,none⟩=some (.int .i64 cx.cmd.seq):=hcw 9 _ rfl;have TQ:wr.cell? ⟨g,off+k*15+10,none⟩=some (.string ⟨cx.cmd.key.toArray⟩):=hcw 10 _ rfl;have QO:wr.cell? ⟨g,off+k*15+11,none⟩=some (.string ⟨cx.cmd.val.toArray⟩):=hcw 11 _ rfl;have Xr:wr.cell? ⟨g,off+k*15+12,none⟩=some (.string ⟨cx.cmd.old.toArray⟩):=hcw 12 _ rfl;have Xs:wr.cell? ⟨g,off+k*15+13,none⟩=some (.int .i64 cx.cmd.node):=hcw 13 _ rfl;have Xt:wr.cell? ⟨g,off+k*15+14,none⟩=some (.slice uo im uc):=hcw 14 _ rfl;have jC:=List.mem_of_getElem? lW;have HX:Hid (cx.Fits∧Re.iU cx=false∧cx.aw.length<=300):=⟨(HS.out _ jC).1,(N3.2 _ jC).1,(N3.2 _ jC).2⟩;have HU:Hid (jh (fun b=>b<w.heap.size) (.slice uo im uc) ∧ ∀W,Below w.heap.size w W->Reads W (.slice uo im uc) cx.aw):=⟨aS.AW hu,fun W h=>hu.1.below h⟩
    obtain⟨w3,e3,l3,hb3,hs3⟩:=bR wr 44 (Wl.kf ⟨kd,cn,cm,cx⟩ (.slice uo im uc));obtain⟨T,O,D,p1,Mu,vL,vF,qs,vi,va,vc,V9,Nc,hps⟩:=p0.begin;have HK:Hid (k<=39):=by have:=N3.1;have:=V8.out;show k<=39;omega
    have CG:=jm (V9.keep (Kp.all hb3)) (by have:=HK.out;omega)
    have Yt:=(V9.data ⟨h,f,vi,va,vc⟩ (by simp)).below hb3
    obtain⟨⟨jo,jk,jc,rfl⟩,⟨ho,hk2,hc2,rfl⟩,⟨qo,qk,qc,rfl⟩⟩:=Yt.rows.sl;have fY:=aa l3;have bh:=aa hb3;have VF:=aa p1;have Mv:=aa Mu;have BD:=aa CG;have Yu:=aa Yt;have Zq:Hid (qs.length<=k∧ps=(qs ++ [(⟨h,f, .slice jo jk jc, .slice ho hk2 hc2, .slice qo qk qc⟩:eE)]).map eE.is∧fw O D wr gp vL vF (qs ++ [⟨h,f, .slice jo jk jc, .slice ho hk2 hc2, .slice qo qk qc⟩])):=⟨Nc,hps,V9⟩;clear hc lW hcell hu hcw Nh jC p0 p1 Mu V9 Nc hps CG Yt l3 hb3 hs3 HI;dsimp only [Wl.kf]at e3
    go_wp2_with fail
    refine BD.mono ?_;rintro e w4 ⟨rfl,hb4⟩;obtain⟨w5,e5,l5,ew,hs5⟩:=eL w4 33 h (.slice jo jk jc) (.slice ho hk2 hc2) (.slice qo qk qc) (Yu.rows.below hb4);have gQ:=aa ((fY.below hb4 fY.lt).below ew (Nat.lt_of_lt_of_le fY.lt hb4.size));have MO:Hid (Below wr.heap.size wr w5):=bh.trans ((hb4.trans (ew.mono hb4.size)).mono bh.size);have bK:Hid (Below w.heap.size w w5):=HB.trans (MO.mono HB.size);have Yv:=aa ((Yu.below hb4).below ew);have ma:=aa l5;have HU5:Hid (wr.heap.size<=w4.heap.size∧w4.heap.size<w5.heap.size):=⟨Nat.le_trans bh.size hb4.size,by omega⟩
    obtain⟨U,hU⟩ : ∃U:Nat->Prop,U=fun b=>wr.heap.size<=b∧b<w5.heap.size:=⟨_,rfl⟩
    have ot:Hid (px w.heap.size U w5 gl d gp f h k T O D F B n ps):=by rw[hU];exact(VF.out _).below MO.out
    have rW:Hid ((∀b,U b->w.heap.size<=b∧b<w5.heap.size)∧U w4.heap.size∧U wr.heap.size):=by
     rw[hU];have h1:=HB.size;have h2:=HU5.out;exact⟨fun b h=>⟨by omega,h.2⟩,⟨h2.1,h2.2⟩,⟨Nat.le_refl _,by omega⟩⟩
    have SJ:Hid ((∀b,T b->b<w5.heap.size)∧(∀b,O b->b<w5.heap.size) ∧ ∀b,D b->b<w5.heap.size):=⟨fun b h=>Nat.lt_of_lt_of_le (Mv.1 b h) MO.size,fun b h=>Nat.lt_of_lt_of_le (Mv.2.1 b h) MO.size,fun b h=>Nat.lt_of_lt_of_le (Mv.2.2 b h) MO.size⟩
    have k0:w5.cell? ⟨wr.heap.size,0,none⟩=some (.int .i64 kd):=gQ.cell 0 _ rfl;clear hU hb4 ew l5 hs5 BD fY bh VF Mv Yu m0 m1 m2 m3 m4 m5 m6 m7 m8 m9 TQ QO Xr Xs Xt;dsimp only [Hd.cells]at e5 ⊢
    go_upto_block 2 with fail
    go_cut [4,7]from 30 to 129 (fun pl pp wx => ∃OL US:Nat,pl=Wl.ptr OL∧pp=Wl.ptr US∧Hid (∃f2 h2,uT w.heap.size U wx OL d US f2 h2 (k+1))∧Hid (∃p b vi va vc,aB wx w4.heap.size 33 p b vi va vc)∧Hid (Below w.heap.size w wx)∧Hid (w5.heap.size<=wx.heap.size))
    case first =>
     clear k0;by_cases k1:kd=1
     ·subst k1
      have Dq:Hid (ae w5.drew wr.heap.size 44 (Wl.kf ⟨1,cn,cm,cx⟩ (.slice uo im uc))):=gQ.below (drawn w5 1) gQ.lt;have VP:Hid (Below w5.heap.size w5 w5.drew):=drawn w5 1;have MP:Hid (Below w.heap.size w w5.drew):=bK.drew;have G7:=aa (BK (HE.up MP.out) HE.size (fun b h=>(rW.1 b h).2) MP.size (ot.below VP.out) SJ.2.1 SJ.2.2 (by have:=HK.out;omega) cx (.slice uo im uc) (HU.2 _ MP.out) HU.1 HX.1 HX.2.1 HX.2.2)
      obtain⟨ev,hev⟩ : ∃ev,ev=(Rt.put f cx).2:=⟨_,rfl⟩;have HEV:=aa hev;clear hev;go_wp2;refine wp_region_held_drew (S:=fun W=>ae W wr.heap.size 44 (Wl.kf ⟨1,cn,cm,cx⟩ (.slice uo im uc))) (by kernel_rfl) Dq.out (fun hHeld => ?_)
      refine bH 0 rfl hHeld ?_;refine bH 1 rfl hHeld ?_;refine bH 2 rfl hHeld ?_ (by intro W hSw;obtain⟨q3,q4,q5,q6,q7,q8,q9,VC,VD,q12,q13,q14⟩:=Wl.Pp hSw;go_simp;(try with_reducible rfl))
      refine bH 4 rfl hHeld ?_;refine bH 5 rfl hHeld ?_;refine bH 6 rfl hHeld ?_ (by intro W hSw;obtain⟨q3,q4,q5,q6,q7,q8,q9,VC,VD,q12,q13,q14⟩:=Wl.Pp hSw;go_simp;(try with_reducible rfl))
      refine wpAnyH_ready (rs := [3]) (by kernel_rfl) (by simp) ?_
      refine AllReadyH.cons rfl (fun K hK => ?_) AllReadyH.nil
      rw[if_pos (by rfl)]
      go_simp
      go_at_call 12
      refine G7.mono ?_;rintro e w6 ⟨rfl,sw,tr,T6,B6,k6,ps6,PA⟩;rw[<- HEV.out];have qw:Hid (ae w6 wr.heap.size 44 (Wl.kf ⟨1,cn,cm,cx⟩ (.slice uo im uc))):=sw.ag Dq.out fun _ => .inr rW.2.2
      have cy:Hid (Below w.heap.size w w6):=MP.trans (sw.below MP.size fun b _ hb _ => .inl hb)
      have oN:Hid (aB w6 w4.heap.size 33 h.aC h.base (.slice jo jk jc) (.slice ho hk2 hc2) (.slice qo qk qc)):=⟨sw.ag (ma.ag.below VP.out ma.ag.lt) fun _ => .inr rW.2.1,ma.vi,ma.va,ma.vc⟩
      have Gh:Hid (w5.heap.size<=w6.heap.size):=tr;have Fl:=aa (yX (fun b h=>Nat.lt_of_lt_of_le (rW.1 b h).2 tr) cy.size PA (by have:=HK.out;omega) (fun b h=>(rW.1 b h).1) (.slice uo im uc) (HU.2 _ cy.out) HU.1 HX.2.1)
      clear sw tr PA G7;refine hK.out _ _ qw.out (fun hHeld => ?_)
      clear hK K;refine wpAnyH_ready (rs := [7]) (by kernel_rfl) (by simp) ?_
      refine AllReadyH.cons rfl (fun K hK => ?_) AllReadyH.nil
      rw[if_pos (by rfl)]
      go_simp
      go_at_call 13
      refine Fl.mono ?_;rintro e w7 ⟨rfl,ou,tj,KJ⟩;rw[<- HEV.out];have rH:Hid (ae w7 wr.heap.size 44 (Wl.kf ⟨1,cn,cm,cx⟩ (.slice uo im uc))):=ou.ag qw.out fun _ => .inr rW.2.2
      have bw:Hid (Below w.heap.size w w7):=cy.trans (ou.below cy.size fun b _ hb _ => .inl hb)
      have UT:Hid (aB w7 w4.heap.size 33 h.aC h.base (.slice jo jk jc) (.slice ho hk2 hc2) (.slice qo qk qc)):=⟨ou.ag oN.ag fun _ => .inr rW.2.1,ma.vi,ma.va,ma.vc⟩
      have UU:Hid (w5.heap.size<=w7.heap.size):=Nat.le_trans Gh.out tj;have Fj:=aa KJ;clear ou tj KJ Fl;refine hK.out _ _ rH.out (fun hHeld => ?_)
      clear hK K;refine bH 8 rfl hHeld ?_;refine wpAnyH_done (by kernel_rfl) ?_ _
      clear hHeld;go_wp2
      go_meet
      exact⟨gl,gp,rfl,rfl,⟨f,k6,Fj.out⟩,⟨_,_,_,_,_,UT.out⟩,bw.out,UU.out⟩
     by_cases k2:kd=2
     ·subst k2
      have HC:=aa (yY (fun b h=>(rW.1 b h).2) bK.size ot.out SJ.2.1 SJ.2.2 (by have:=HK.out;omega))
      go_wp2_with fail
      refine HC.mono ?_;rintro e w6 ⟨rfl,sw,tr,T6,F6,eZ,Pz,MQ,UW,PA⟩;have cy:Hid (Below w.heap.size w w6):=bK.trans (sw.below bK.size fun b _ hb _ => .inl hb)
      have oN:Hid (aB w6 w4.heap.size 33 h.aC h.base (.slice jo jk jc) (.slice ho hk2 hc2) (.slice qo qk qc)):=⟨sw.ag ma.ag fun _ => .inr rW.2.1,ma.vi,ma.va,ma.vc⟩
      have Gh:Hid (w5.heap.size<=w6.heap.size):=tr;have ll:=aa (yZ (fun b h=>Nat.lt_of_lt_of_le (rW.1 b h).2 tr) cy.size eZ Pz MQ ot.st.last (by have:=ot.len;have:=HK.out;omega) UW ot.mU ot.qA PA)
      clear eZ Pz MQ UW PA tr sw HC
      go_wp2_with fail
      refine ll.mono ?_;rintro e w7 ⟨rfl,ou,tj,KJ⟩;have bw:Hid (Below w.heap.size w w7):=cy.trans (ou.below cy.size fun b _ hb _ => .inl hb)
      have UT:Hid (aB w7 w4.heap.size 33 h.aC h.base (.slice jo jk jc) (.slice ho hk2 hc2) (.slice qo qk qc)):=⟨ou.ag oN.ag fun _ => .inr rW.2.1,ma.vi,ma.va,ma.vc⟩
      have UU:Hid (w5.heap.size<=w7.heap.size):=Nat.le_trans Gh.out tj;have Fj:=aa KJ;clear ou tj KJ ll;go_wp2
      go_meet
      exact⟨gl,gp,rfl,rfl,⟨_,_,Fj.out⟩,⟨_,_,_,_,_,UT.out⟩,bw.out,UU.out⟩
     by_cases k3:kd=3
     ·subst k3
      have HC:=aa (wy (HE.up bK.out) (fun b h=>(rW.1 b h).2) bK.size ot.out SJ.2.1 SJ.2.2 (by have:=HK.out;omega) _ _ _ Yv.out)
      obtain⟨c0,c1,c2,c3,c4,c5⟩:=ma.all
      go_wp2_with fail
      refine HC.mono ?_;rintro e w6 ⟨rfl,sw,tr,T6,F6,B6,n6,eZ,Pz,MQ,TN,UW,PA⟩;have cy:Hid (Below w.heap.size w w6):=bK.trans (sw.below bK.size fun b _ hb _ => .inl hb)
      have oN:Hid (aB w6 w4.heap.size 33 h.aC h.base (.slice jo jk jc) (.slice ho hk2 hc2) (.slice qo qk qc)):=⟨sw.ag ma.ag fun _ => .inr rW.2.1,ma.vi,ma.va,ma.vc⟩
      have Gh:Hid (w5.heap.size<=w6.heap.size):=tr;have ll:=aa (BL (fun b h=>Nat.lt_of_lt_of_le (rW.1 b h).2 tr) cy.size eZ Pz MQ ot.len (by have:=HK.out;omega) TN UW ot.mU ot.qA PA)
      clear eZ Pz MQ TN UW PA tr sw HC c0 c1 c2 c3 c4 c5;obtain⟨c0,c1,c2,c3,c4,c5⟩:=oN.all
      go_wp2_with fail
      refine ll.mono ?_;rintro e w7 ⟨rfl,ou,tj,KJ⟩;have bw:Hid (Below w.heap.size w w7):=cy.trans (ou.below cy.size fun b _ hb _ => .inl hb)
      have UT:Hid (aB w7 w4.heap.size 33 h.aC h.base (.slice jo jk jc) (.slice ho hk2 hc2) (.slice qo qk qc)):=⟨ou.ag oN.ag fun _ => .inr rW.2.1,ma.vi,ma.va,ma.vc⟩
      have UU:Hid (w5.heap.size<=w7.heap.size):=Nat.le_trans Gh.out tj;have Fj:=aa KJ;clear ou tj KJ ll c0 c1 c2 c3 c4 c5;go_wp2
      go_meet
      exact⟨gl,gp,rfl,rfl,⟨_,_,Fj.out⟩,⟨_,_,_,_,_,UT.out⟩,bw.out,UU.out⟩
     by_cases k4:kd=4
     ·subst k4
      obtain⟨f', h', hin,RI, hf', zr, Sn,hst⟩:=ot.st.crash (by have:=HK.out;omega) cn cm
      have hwt:=ot.st.wt (by have:=HK.out;omega)
      have HC:=aa (xS ot.log.TI (ot.st.uS.kinds (by have:=HK.out;omega)) (by omega) cn cm)
      obtain⟨F', hF'⟩ : ∃F', F' = Dk.crash F B cn cm:=⟨_,rfl⟩;rw[<- hF']at RI Sn hst HC
      have VZ:=aa hin;have IB:=aa RI; have PB:=aa Sn;have HST:=aa hst;have RJ:=aa zr; have Yw:=aa hf';have k1:w5.cell? ⟨wr.heap.size,1,none⟩=some (.int .i64 cn):=gQ.cell 1 _ rfl;have k2:w5.cell? ⟨wr.heap.size,2,none⟩=some (.int .i64 cm):=gQ.cell 2 _ rfl;clear hin RI zr Sn hst hF' hf' hwt
      go_wp2_with fail
      refine HC.mono ?_;rintro e w6 ⟨rfl,hd6,sO⟩;clear k1 k2;have cy:Hid (Below w.heap.size w w6):=bK.trans (sO.below bK.size fun b _ hb _ h=>by have:=(ot.gi b h).1;omega)
      have Gh:Hid (w5.heap.size<=w6.heap.size):=sO.size;obtain⟨T6,Yx⟩ : ∃T6:Nat->Prop,T6=fun j=>(T j∨w5.heap.size<=j)∧j<w6.heap.size:=⟨_,rfl⟩
      have HD6:Hid (cu T6 w6 d F' []):=by rw[Yx];exact hd6.imp fun _ hlt h=>⟨h,hlt⟩
      have FH:Hid (∀b,T6 b->(w.heap.size<=b ∧ ¬U b)∧b<w6.heap.size):=by
       rw[Yx];intro b hb
       refine⟨?_,hb.2⟩;rcases hb.1 with h1 | h1
       ·exact ot.gi b h1
       ·exact⟨Nat.le_trans bK.size h1,fun h2=>by have:=(rW.1 b h2).2;omega⟩
      have oN:Hid (aB w6 w4.heap.size 33 h.aC h.base (.slice jo jk jc) (.slice ho hk2 hc2) (.slice qo qk qc)):=⟨sO.ag ma.ag fun _ h=>(ot.gi _ h).2 rW.2.1,ma.vi,ma.va,ma.vc⟩
      have UX:=aa (ot.past.keep (sO.imp fun b _ _ h h' => h.elim (ot.apart b h').1 (ot.apart b h').2))
      have hpe:=vI (HE.up cy.out) HD6.out PB.out (by have:=HK.out;omega) (by have:=HK.out;omega) (fun q hq=>by
       have h1:=Dk.oK hq;have h2:=PB.wt;have h3:(k+1)*54000<=42*54000:=Nat.mul_le_mul_right _ (by have:=HK.out;omega)
       have h4:Dk.mD ([]:List Dk.Op)=0:=rfl;have h5:Dk.all F' []=F' := rfl;rw[h5]at h1
       omega)
      have HPE:=aa hpe;clear hd6 sO Yx hpe HC
      go_wp2_with fail
      refine HPE.mono ?_;rintro e w7 ⟨pf,ph,xi,xa,xc,rfl,hpk,Wa,fZ⟩;obtain⟨rfl,rfl⟩:=hpk.one (show Wl.ey (Dk.all F' []) f' h' from IB.out)
      obtain⟨⟨xo,xk,xd,rfl⟩,⟨yo,yk,yd,rfl⟩,⟨zo,zk,zd,rfl⟩⟩:=Wa.rows.sl;obtain⟨w8,e8,l8,eX,Pw⟩:=eL w7 33 ph (.slice xo xk xd) (.slice yo yk yd) (.slice zo zk zd) Wa.rows;have bw:Hid (Below w6.heap.size w6 w7):=fZ;have cN:Hid (Below w6.heap.size w6 w8):=fZ.trans (eX.mono fZ.size);have Yy:Hid (bL (fun b=>w6.heap.size<=b∧b<w7.heap.size) w8 ph (.slice xo xk xd) (.slice yo yk yd) (.slice zo zk zd)):=Wa.tight.below eX
      have mQ:=aa l8;have Yb:Hid (w8.heap.size=w7.heap.size+1):=Pw;obtain⟨vL2,vF2,Yz,SL,IC⟩:=UX.out;have UY:Yz.length<=1000:=by
       have h9:=ot.len;rw[IC]at h9
       simp at h9
       have:=HK.out;omega
      have UZ:=aa (BJ (SL.keep (Kp.all cN.out)) UY ph pf (.slice xo xk xd) (.slice yo yk yd) (.slice zo zk zd) Yy.rows (by rw[<- IC];exact VZ.out))
      obtain⟨c0,c1,c2,c3,c4,c5⟩:=l8.all;clear fZ Wa hpk eX l8 Pw SL IC UY HPE UX;dsimp only [Hd.cells]at e8 ⊢
      go_wp2_with fail
      refine UZ.mono ?_;rintro e w9 ⟨rfl,j5⟩;have eY:Hid (Below w6.heap.size w6 w9):=cN.trans (j5.mono cN.size);have jl:Hid (aB w9 w7.heap.size 33 ph.aC ph.base (.slice xo xk xd) (.slice yo yk yd) (.slice zo zk zd)):=mQ.below j5 mQ.ag.lt;have SB:Hid (w7.heap.size<w9.heap.size):=Nat.lt_of_lt_of_le (by have:=Yb.out;omega) j5.size
      have HQ9:Hid (bL (fun b=>w6.heap.size<=b∧b<w7.heap.size) w9 ph (.slice xo xk xd) (.slice yo yk yd) (.slice zo zk zd)):=Yy.below j5
      have MR:Hid (Below w.heap.size w w9):=cy.trans (eY.mono cy.size);clear j5 c0 c1 c2 c3 c4 c5 UZ mQ Yy;have MS:=RJ.He (by have:=HK.out;omega)
      have hhd:=Wl.mS Yw.out RJ.out (by have:=HK.out;omega)
      have hop:=pE (HE.up MR.out) (HD6.keep (Kp.all eY.out)) PB.out (by have:=HK.out;omega) (by have:=HK.out;omega) (fun q hq=>by
       have h1:=Dk.oK hq;have h2:=PB.wt;have h3:(k+1)*54000<=42*54000:=Nat.mul_le_mul_right _ (by have:=HK.out;omega)
       have h4:Dk.mD ([]:List Dk.Op)=0:=rfl;have h5:Dk.all F' []=F' := rfl;rw[h5]at h1
       omega) 2 pf ph IB.out MS (Sg.file pf ph []) (fun W vi va vc hb hr=>lL (HE.up MR.out) Yw.out RJ.out (by have:=HK.out;omega) W vi va vc hb hr) (by omega)
      have Py:=aa hop;have YA:Hid (Vs.opens 2 pf=0):=by
       show _=_;rw[Vs.kV,if_pos Yw.out]
      clear MS hhd hop
      go_wp2_with fail
      refine Py.mono ?_;rintro e oL (⟨hno,_⟩ | ⟨_,OL,m2,vi2,va2,vc2,rfl,zH,U1,OM,ID⟩)
      ·exact absurd YA.out hno
      obtain⟨⟨io2,ik2,ic2,rfl⟩,⟨bo2,bk2,bc2,rfl⟩,⟨co2,ck2,cc2,rfl⟩⟩:=OM.rows.sl;obtain⟨jr,e11,YB,vW,Gj⟩:=eL oL 33 ph (.slice io2 ik2 ic2) (.slice bo2 bk2 bc2) (.slice co2 ck2 cc2) OM.rows;have tq:aB oL w7.heap.size 33 ph.aC ph.base (.slice xo xk xd) (.slice yo yk yd) (.slice zo zk zd):=⟨ID.ag jl.ag fun _ h=>by have:=(FH.out _ h).2;have:=bw.size;omega,jl.vi,jl.va,jl.vc⟩
      have tr:aB oL w4.heap.size 33 h.aC h.base (.slice jo jk jc) (.slice ho hk2 hc2) (.slice qo qk qc):=⟨ID.ag (oN.ag.below eY.out oN.ag.lt) fun _ h=>(FH.out _ h).1.2 rW.2.1,oN.vi,oN.va,oN.vc⟩
      have U2:bL (fun b=>w6.heap.size<=b∧b<w7.heap.size) oL ph (.slice xo xk xd) (.slice yo yk yd) (.slice zo zk zd):=HQ9.keep (ID.keep fun b _ _ _ _ h h' => by have:=(FH.out b h').2;omega)
      have Dr:Hid (aB jr w7.heap.size 33 ph.aC ph.base (.slice xo xk xd) (.slice yo yk yd) (.slice zo zk zd)):=tq.below vW tq.ag.lt;have U3:Hid (aB jr w4.heap.size 33 h.aC h.base (.slice jo jk jc) (.slice ho hk2 hc2) (.slice qo qk qc)):=tr.below vW tr.ag.lt;have RK:Hid (bL (fun b=>w6.heap.size<=b∧b<w7.heap.size) jr ph (.slice xo xk xd) (.slice yo yk yd) (.slice zo zk zd)):=U2.below vW
      have mF:Hid (Below w.heap.size w oL):=MR.trans (ID.below MR.size fun b _ hb _ h=>by have:=(FH.out b h).1.1;omega)
      have tZ:Hid (Below w.heap.size w jr):=mF.trans (vW.mono mF.size);have CV:Hid (cW (fun j=>(T6 j∨m2<=j)∧j<oL.heap.size) jr OL d F' ([]++Wl.cv (Wl.next F' []) (Sg.file pf ph []) (Dk.all F' [])) (Wl.next F' []) pf ph):=U1.tight.keep (Kp.all vW)
      have yw:=aa (OM.rows.below vW);have dE:Hid (w9.heap.size<=m2∧w9.heap.size<=oL.heap.size∧jr.heap.size=oL.heap.size+1):=⟨zH,ID.size,Gj⟩;have dX:=aa YB;obtain⟨c0,c1,c2,c3,c4,c5⟩:=Dr.all;obtain⟨y0,y1,y2,y3,y4,y5⟩:=YB.all;have Wb:=rE ph ph (.slice xo xk xd) (.slice yo yk yd) (.slice zo zk zd) (.slice io2 ik2 ic2) (.slice bo2 bk2 bc2) (.slice co2 ck2 cc2) jr RK.rows yw.out;rw[decide_eq_true (rfl:ph=ph)]at Wb
      have I6:=aa Wb;clear U1 OM ID zH tq tr U2 YB vW Gj Wb Py;dsimp only [Hd.cells]at e11 ⊢
      go_wp2_with fail
      refine I6.mono ?_;rintro e E4 ⟨rfl,vp⟩;obtain⟨vY,e13,YC,U4,U5⟩:=eL E4 33 ph (.slice xo xk xd) (.slice yo yk yd) (.slice zo zk zd) (RK.rows.below vp);obtain⟨PC,e14,l14,RL,U6⟩:=bR vY 3 #[.int .i64 pf];obtain⟨U7,e15,l15,OO,U8⟩:=bR PC 58 #[.slice (some ⟨E4.heap.size,0,none⟩) 1 1, .slice (some ⟨vY.heap.size,0,none⟩) 1 1];have vZ:Hid (Below jr.heap.size jr vY):=vp.trans (U4.mono vp.size);have U9:Hid (Below jr.heap.size jr PC):=vZ.trans (RL.mono vZ.size);have IE:Hid (Below jr.heap.size jr U7):=U9.trans (OO.mono U9.size);have RM:Hid (aB E4 w7.heap.size 33 ph.aC ph.base (.slice xo xk xd) (.slice yo yk yd) (.slice zo zk zd)):=Dr.below vp Dr.ag.lt;have Va:Hid (aB U7 w7.heap.size 33 ph.aC ph.base (.slice xo xk xd) (.slice yo yk yd) (.slice zo zk zd)):=Dr.below IE.out Dr.ag.lt;have YD:Hid (aB U7 w4.heap.size 33 h.aC h.base (.slice jo jk jc) (.slice ho hk2 hc2) (.slice qo qk qc)):=U3.below IE.out U3.ag.lt;have Vb:Hid (jr.heap.size<=E4.heap.size∧vY.heap.size=E4.heap.size+1∧PC.heap.size=vY.heap.size+1∧U7.heap.size=PC.heap.size+1):=⟨vp.size,U5,U6,U8⟩;have HPN:Hid (px w.heap.size U U7 OL d PC.heap.size pf ph (k+1) (fun j=>(T6 j∨m2<=j)∧j<oL.heap.size) (fun b=>E4.heap.size<=b) (fun b=>w6.heap.size<=b∧b<w7.heap.size) F' ([]++Wl.cv (Wl.next F' []) (Sg.file pf ph []) (Dk.all F' [])) (Wl.next F' []) [(ph,pf)]):=by
       have n9:=SB.out;have n2:=dE.out;have n15:=Vb.out;have nw:=MR.size;have n6:=Gh.out;have n69:=eY.size;refine⟨CV.keep (Kp.all IE.out),⟨.slice (some ⟨E4.heap.size,0,none⟩) 1 1, .slice (some ⟨vY.heap.size,0,none⟩) 1 1, [⟨ph,pf, .slice xo xk xd, .slice yo yk yd, .slice zo zk zd⟩],⟨l15,tI ((YC.ag.below RL YC.ag.lt).below OO (by omega)) rfl,tI (l14.below OO (by omega)) rfl,by show _<=_;omega,fun b e => ?_,fun b e => ?_,fun b h h' => by omega,fun q hq => ?_⟩,rfl⟩,HST.out,by simp,fun b h => ?_,fun b h=>⟨by omega,fun h' => by have:=(rW.1 b h').2;omega⟩,fun b h h' => by have:=(rW.1 b h').2;omega,fun b h=>⟨fun h' => by omega,fun h' => ?_⟩⟩
       ·simp only[Value.ownBlock,Option.some.injEq]at e;omega
       ·simp only[Value.ownBlock,Option.some.injEq]at e;omega
       ·obtain rfl:q=⟨ph,pf, .slice xo xk xd, .slice yo yk yd, .slice zo zk zd⟩:=by simpa using hq
        exact RK.below IE.out
       ·rcases h.1 with h1 | h1
        ·exact(FH.out b h1).1
        ·exact⟨by omega,fun h' => by have:=(rW.1 b h').2;omega⟩
       ·rcases h.1 with h1 | h1
        ·have:=(FH.out b h1).2;omega
        ·omega
      obtain⟨c0,c1,c2,c3,c4,c5⟩:=RM.all;obtain⟨y0,y1,y2,y3,y4,y5⟩:=Va.all;clear vp U4 RL OO YC l14 l15 U5 U6 U8 I6;dsimp only [Hd.cells]at e13
      go_wp2_with (refine cT rfl _ _ rfl rfl YD.out Va.out rfl ?_;intro w16 Vc OP)
      have YE:Hid (Below w.heap.size w w16):=(tZ.trans (IE.mono tZ.size)).grown OP (tZ.trans (IE.mono tZ.size)).size (fun j e=>by cases e;exact(rW.1 _ rW.2.1).1)
      have YF:=aa (HPN.keep (Kp.aI OP fun b o e _ h=>h (by cases e;exact rW.2.1)))
      have YG:Hid (w5.heap.size<=w16.heap.size):=by
       have n9:=SB.out;have n2:=dE.out;have n15:=Vb.out;have n6:=Gh.out;have n7:=bw.size;have n16:=OP.size;show _<=_;omega
      have YH:=aa Vc;clear Vc OP
      go_meet
      exact⟨OL,PC.heap.size,rfl,rfl,⟨pf,ph,_,_,_,_,_,_,_,YF.out⟩,⟨_,_,_,_,_,YH.out⟩,YE.out,YG.out⟩
     ·have b1:(kd == 1)=false:=by simpa using k1
      have b2:(kd == 2)=false:=by simpa using k2
      have b3:(kd == 3)=false:=by simpa using k3
      have b4:(kd == 4)=false:=by simpa using k4
      clear k1 k2 k3 k4;go_wp2
      go_meet
      exact⟨gl,gp,rfl,rfl,⟨f,h,T,O,D,F,B,n,ps,ot.log,ot.past,ot.st.skip,by have:=ot.len;omega,ot.gi,ot.mU,ot.qA,ot.apart⟩,⟨_,_,_,_,_,ma.out⟩,bK.out,Nat.le_refl _⟩
    case rest =>
     obtain⟨OL,US,rfl,rfl,HI,Aj,cy,Gh⟩:=hcut;obtain⟨f2,h2,T2,O2,D2,F2,B2,n2,ps2,p2⟩:=HI.out;obtain⟨xp,xb,xi,xa,xc,O9⟩:=Aj.out;obtain⟨vL2,vF2,Yz,yi,ya,yc,SL,IC⟩:=p2.past.Fu p2.st.last;have sK:Yz.length<=1000:=by
      have h9:=p2.len;rw[IC]at h9
      simp at h9
      have:=HK.out;omega
     have BD:=aa (jm SL sK);have Sk:=aa (SL.data ⟨h2,f2,yi,ya,yc⟩ (by simp))
     obtain⟨⟨RN,RO,RP,rfl⟩,⟨lY,EJ,EK,rfl⟩,⟨RQ,RR,RT,rfl⟩⟩:=Sk.rows.sl;have CM:=aa p2;have kM:=aa O9;clear p2 O9 SL IC sK HI Aj k0
     go_wp2_with fail
     refine BD.mono ?_;rintro e w6 ⟨rfl,fP⟩;have bw:Hid (Below w.heap.size w w6):=cy.trans (fP.mono cy.size);have Ob:=aa fP;have VU:=aa (Sk.rows.below fP);have oN:=aa (kM.below fP kM.ag.lt);clear fP BD
     go_wp2_with (refine cT rfl _ _ rfl rfl oN.out (aB.of (ae.new w6 33 (Hd.cells h2 (.slice RN RO RP) (.slice lY EJ EK) (.slice RQ RR RT))) VU.out) rfl ?_;intro w7 tH cr)
     have Fj:=aa ((CM.below Ob.out).keep (Kp.aI cr fun b o e _ h=>h (by cases e;exact rW.2.1)))
     have Vd : Hid (Below w.heap.size w w7):=bw.grown cr bw.size (fun j e=>by cases e;exact(rW.1 _ rW.2.1).1)
     have HQ7:=aa (VU.over oN.out cr);have rH:Hid (aB w7 w4.heap.size 33 h2.aC h2.base (.slice RN RO RP) (.slice lY EJ EK) (.slice RQ RR RT)):=tH;clear tH cr;have OQ:Hid (Below w7.heap.size w7 w7.drew):=drawn w7 1;have RU:Hid (aB w7.drew w4.heap.size 33 h2.aC h2.base (.slice RN RO RP) (.slice lY EJ EK) (.slice RQ RR RT)):=rH.below OQ.out rH.ag.lt;refine wp_region_held_drew (S:=fun W=>aB W w4.heap.size 33 h2.aC h2.base (.slice RN RO RP) (.slice lY EJ EK) (.slice RQ RR RT)) (by kernel_rfl) RU.out (fun hHeld => ?_)
     refine bH 0 rfl hHeld ?_;refine bH 2 rfl hHeld ?_ (by intro W hSw;obtain⟨q0,q1,q2,q3,q4,q5⟩:=hSw.all;go_simp;(try with_reducible rfl))
     refine wpAnyH_ready (rs := [1]) (by kernel_rfl) (by simp) ?_
     refine AllReadyH.cons rfl (fun K hK => ?_) AllReadyH.nil
     rw[if_pos (by rfl)]
     go_simp
     go_at_call 22
     refine(Du (Fj.below OQ.out).log (Fj.st.ok.He (by have:=HK.out;omega))).mono ?_
     rintro e w8 ⟨ui,ua,uc2,rfl,Pu,eX⟩;have sF:=aa Pu.rows;have cN:Hid (Below w7.heap.size w7 w8):=OQ.trans (eX.mono OQ.size);have mQ:Hid (aB w8 w4.heap.size 33 h2.aC h2.base (.slice RN RO RP) (.slice lY EJ EK) (.slice RQ RR RT)):=RU.below eX RU.ag.lt;clear eX Pu;refine hK.out _ _ mQ.out (fun hHeld => ?_)
     clear hK K;refine wpAnyH_ready (rs := [3]) (by kernel_rfl) (by simp) ?_
     refine AllReadyH.cons rfl (fun K hK => ?_) AllReadyH.nil
     rw[if_pos (by rfl)]
     go_simp
     go_at_call 21
     refine(rE h2 h2 ui ua uc2 (.slice RN RO RP) (.slice lY EJ EK) (.slice RQ RR RT) w8 sF.out (HQ7.below cN.out)).mono ?_;rintro e w9 ⟨rfl,j5⟩;have eY:Hid (Below w7.heap.size w7 w9):=cN.trans (j5.mono cN.size);have jl:Hid (aB w9 w4.heap.size 33 h2.aC h2.base (.slice RN RO RP) (.slice lY EJ EK) (.slice RQ RR RT)):=mQ.below j5 mQ.ag.lt;clear j5;rw[decide_eq_true (rfl:h2=h2)];refine hK.out _ _ jl.out (fun hHeld => ?_)
     clear hK K;refine bH 4 rfl hHeld ?_;refine bH 5 rfl hHeld ?_;refine bH 6 rfl hHeld ?_;refine bH 8 rfl hHeld ?_;refine wpAnyH_ready (rs := [7]) (by kernel_rfl) (by simp) ?_
     refine AllReadyH.cons rfl (fun K hK => ?_) AllReadyH.nil
     rw[if_pos (by rfl)]
     go_simp
     go_at_call 23
     refine(qx (Fj.below eY.out).log).mono ?_;rintro e w9' ⟨rfl,rfl⟩;refine hK.out _ _ jl.out (fun hHeld => ?_)
     clear hK K;refine bH 9 rfl hHeld ?_;refine bH 10 rfl hHeld ?_;refine wpAnyH_done (by kernel_rfl) ?_ _
     clear hHeld;have mF:Hid (Below w.heap.size w w9):=Vd.trans (eY.mono Vd.size);have YI:Hid (∃U f h,uT w.heap.size U w9 OL d US f h (k+1)):=⟨U,f2,h2,_,_,_,_,_,_,_,Fj.below eY.out⟩;go_wp2
     go_roundg (nl - (k+1))
     case measure=>have:=HG.out;omega
     case rel=>exact⟨k+1,OL,US,rfl,rfl,by go_num,by omega,rfl,YI,mF⟩
   ·obtain rfl:k=nl:=by omega
    have d1:decide ((k:Int)<(k:Int))=false:=by simp
    have Yr:=aa (sR (HE.up HB.out))
    go_wp2_with (go_at_call 7;refine Yr.mono ?_;rintro e w3 ⟨rfl,hb3⟩;have bh:=aa hb3;clear hb3)
    go_ret;exact⟨rfl,HB.trans (bh.mono HB.size)⟩
end Go.Proofs.YtdkdjofnnnljjaaGreatDoor
