/- Several texts of mine in one: GHc WlLog WlNum WlRepl. -/
import Derived.Test.YtdkdjofnnnljjaaGreatDoorPMsCame
import Derived.Test.YtdkdjofnnnljjaaGreatDoorPGFs
import Derived.Test.YtdkdjofnnnljjaaGreatDoorPGEw
import Derived.Test.YtdkdjofnnnljjaaGreatDoorPGCw
import Derived.Test.YtdkdjofnnnljjaaGreatDoorPGRh
import Derived.Test.YtdkdjofnnnljjaaGreatDoorPDkBuf
namespace Go.Proofs.YtdkdjofnnnljjaaGreatDoor
open Go.RowKit
set_option maxHeartbeats 12800000
set_option maxRecDepth 4000
structure Hd.az.G2(h:Hd.az):Prop where
 aw:h.aw.length<=140737488351232
 acc:h.acc.length<=900000
 bl:h.bl.length<=900000
theorem eL(w:World)(T:TypeId)(h:Hd.az)(vi va vc:Value)(r:cH w h vi va vc) : ∃w1,w.alloc (.cells (Hd.cells h vi va vc) T)=w1∧aB w1 w.heap.size T h.aC h.base vi va vc∧Below w.heap.size w w1∧w1.heap.size=w.heap.size+1 :=
 ⟨_,rfl,⟨ae.new w _ _,r.sl.1,r.sl.2.1,r.sl.2.2⟩,(Below.refl _ w).alloc (Nat.le_refl _) _,by simp⟩
theorem uL(h:Hd.az)(vi va vc:Value)(w:World)(hr:cH w h vi va vc)(hf:h.G2) :
 Calls Tryz.prog 73 #[.agg (Hd.cells h vi va vc)] w (sy (fun b=>w.heap.size<=b) w h):=by
 obtain⟨w1,e1,hx1,aq,hs1⟩:=eL w 113 h vi va vc hr;obtain⟨w2,e2,hz2,dN,hs2⟩:=eA w1 33;have rh:=aa (hx1.below dN (by omega))
 have jE:=aa hz2;have aR:Hid (Below w.heap.size w w2):=aq.trans (dN.mono aq.size);have bC:=aa (hr.below aR.out);have HF:=aa hf;have nR:Hid (w1.heap.size=w.heap.size+1):=hs1;obtain⟨_,_,_,c3,_,_⟩:=rh.all;clear hx1 hz2 aq dN hs2 hr hf hs1
 go_enter Tryz.func73,Tryz.ntmps73
 go_wp2_with fail
 refine(di vi h.aw w2 bC.aw HF.aw).mono ?_;rintro e w3 ⟨v3,rfl,fM,hb3⟩;obtain⟨io,ic,rfl⟩:=(fM.reads).shape;have wP:=aa fM.reads;have Wi:=aa ((jh.o7 fM).imp fun b hb=>Nat.le_trans aR.size hb)
 have oH:=aa (bC.below hb3);have vN:=aa (rh.below hb3 rh.ag.lt);have pH:=aa (jE.below hb3 jE.ag.lt);have bh:Hid (Below w.heap.size w w3):=aR.trans (hb3.mono aR.size);clear fM hb3 c3
 go_wp2_with (refine xl rfl _ _ rfl io h.aw.length ic rfl rfl vN.out ?_;intro w4 ZC hg4;have QC:=aa ZC;have Gg:=aa hg4;have c4:w4.cell? ⟨w.heap.size,4,none⟩=some va:=QC.all.2.2.2.2.1;clear ZC hg4)
 have rY:Hid (cH w4 h (.slice io h.aw.length ic) va vc):=(show cH w3 h (.slice io h.aw.length ic) va vc from⟨wP.out,oH.acc,oH.bl⟩).over vN.out Gg.out
 have sW:=aa (pH.kept Gg.out (by rw[nR.out];omega))
 have bJ:Hid (Below w.heap.size w w4):=bh.grown Gg.out bh.size (by rintro j hj;cases hj;exact Nat.le_refl _)
 refine(pg va h.acc w4 rY.acc (by have:=HF.acc;omega)).mono ?_
 rintro e w5 ⟨v5,rfl,eW,ew⟩;obtain⟨ao,ac,hs5⟩:=eW.shape;have Ag:=aa (eW.reads (En.sized _));have ot:=aa ((jh.o7 eW).imp fun b hb=>Nat.le_trans bJ.size hb)
 rw[List.length_map]at hs5
 have lZ:=aa (rY.below ew);have Dq:=aa (QC.below ew QC.ag.lt);have CF:=aa (sW.below ew sW.ag.lt);have bK:Hid (Below w.heap.size w w5):=bJ.trans (ew.mono bJ.size);clear eW ew c4;subst hs5
 go_wp2_with (refine nL rfl _ _ rfl ao h.acc.length ac rfl rfl Dq.out ?_;intro w6 Kl dt;have qw:=aa Kl;have pG:=aa dt;have c5:w6.cell? ⟨w.heap.size,5,none⟩=some vc:=qw.all.2.2.2.2.2;clear Kl dt)
 have jf:Hid (cH w6 h (.slice io h.aw.length ic) (.slice ao h.acc.length ac) vc):=(show cH w5 h (.slice io h.aw.length ic) (.slice ao h.acc.length ac) vc from⟨lZ.aw,Ag.out,lZ.bl⟩).over Dq.out pG.out
 have vU:=aa (CF.kept pG.out (by rw[nR.out];omega))
 have cy:Hid (Below w.heap.size w w6):=bK.grown pG.out bK.size (by rintro j hj;cases hj;exact Nat.le_refl _)
 refine(pg vc h.bl w6 jf.bl (by have:=HF.bl;omega)).mono ?_
 rintro e w7 ⟨v7,rfl,ou,fZ⟩;obtain⟨co,cc,tj⟩:=ou.shape;have Na:=aa (ou.reads (En.sized _));have Fj:=aa ((jh.o7 ou).imp fun b hb=>Nat.le_trans cy.size hb)
 rw[List.length_map]at tj
 have I3:=aa (jf.below fZ);have rH:=aa (qw.below fZ qw.ag.lt);have IZ:=aa (vU.below fZ vU.ag.lt);have bw:Hid (Below w.heap.size w w7):=cy.trans (fZ.mono cy.size);clear ou fZ c5;subst tj
 go_wp2_with (first
  | (refine nM rfl _ _ rfl co h.bl.length cc rfl rfl rH.out ?_;intro w8 Fk fh;have mQ:=aa Fk;have G3:=aa fh;have zK:=aa (IZ.kept G3.out (by rw[nR.out];omega));clear Fk fh)
  | (refine gw rfl _ rfl rfl mQ.out ?_)
  | (refine cT rfl _ _ rfl rfl zK.out mQ.out rfl ?_;intro w9 gR cM;have jl:=aa gR;have gI:=aa cM;clear gR cM))
 have sF:cH w8 h (.slice io h.aw.length ic) (.slice ao h.acc.length ac) (.slice co h.bl.length cc):=(show cH w7 h (.slice io h.aw.length ic) (.slice ao h.acc.length ac) (.slice co h.bl.length cc)from⟨I3.aw,I3.acc,Na.out⟩).over rH.out G3.out
 have cN:Below w.heap.size w w8:=bw.grown G3.out bw.size (by rintro j hj;cases hj;exact Nat.le_refl _)
 refine gX rfl rfl jl.out rfl ?_;exact⟨_,_,_,rfl,⟨sF.over zK.out gI.out,Wi.out,ot.out,Fj.out⟩,cN.grown gI.out cN.size (by rintro j hj;cases hj;rw[nR.out];omega)⟩
theorem xy(b:Int)(vi:Value)(l:List UInt8)(w:World)(hv:Reads w vi l) :
 Calls Tryz.prog 124 #[.int .i64 b,vi] w (fun e w' => e = .returned (.agg (Re.cells ⟨4,Bl.zero,b,Cm.zero,l⟩ vi))∧Below w.heap.size w w'):=by
 obtain⟨io,ic,rfl⟩:=hv.shape;obtain⟨n,hn⟩ : ∃n,n=l.length:=⟨_,rfl⟩;rw[<- hn];clear hn hv
 go_enter Tryz.func124,Tryz.ntmps124
 go_wp2_with (refine aY rfl _ _ rfl w.heap.size Re.zero Nil ⟨4,Bl.zero,b,Cm.zero,l⟩ (.slice io n ic) rfl rfl rfl (ae.new _ _ _) ?_;intro w5 eN bU;have gQ:=aa eN;have bK:Hid (Below w.heap.size w w5):=aJ bU;clear eN bU)
 refine kO rfl rfl gQ.out rfl ?_;exact⟨rfl,bK.out⟩
theorem Bq(h:Hd.az)(vi va vc:Value)(w:World)(hr:cH w h vi va vc)(hf:h.G2) :
 Calls Tryz.prog 56 #[.agg (Hd.cells h vi va vc)] w (sy (fun b=>w.heap.size<=b) w h):=by
 obtain⟨w1,e1,hx1,aq,hs1⟩:=eL w 33 h vi va vc hr;obtain⟨w2,e2,hz2,dN,hs2⟩:=eA w1 33;have rh:=aa (hx1.below dN (by omega))
 have jE:=aa hz2;have aR:Hid (Below w.heap.size w w2):=aq.trans (dN.mono aq.size);have bC:=aa (hr.below aR.out);have HF:=aa hf;have nR:Hid (w1.heap.size=w.heap.size+1):=hs1;have HC:=aa (uL h vi va vc w2 bC.out HF.out);clear hx1 hz2 aq dN hs2 hr hf hs1
 go_enter Tryz.func56,Tryz.ntmps56
 obtain⟨c0,c1,c2,c3,c4,c5⟩:=rh.all
 go_wp2_with fail
 refine HC.mono ?_;rintro e w3 ⟨ui,ua,uc,rfl,hr3,hb3⟩;clear c0 c1 c2 c3 c4 c5;have oH:=aa hr3;have bh:Hid (Below w.heap.size w w3):=aR.trans (hb3.mono aR.size);have pH:=aa (jE.below hb3 jE.ag.lt);have vN:Hid (aB (w3.alloc (.cells (Hd.cells h ui ua uc) 33)) w3.heap.size 33 h.aC h.base ui ua uc):=⟨ae.new _ _ _,hr3.rows.sl.1,hr3.rows.sl.2.1,hr3.rows.sl.2.2⟩;clear hr3 hb3
 go_wp2_with (refine cT rfl _ _ rfl rfl pH.out vN.out rfl ?_;intro w9 gR cM;have jl:=aa gR;have gI:=aa cM;clear gR cM)
 refine gX rfl rfl jl.out rfl ?_;exact⟨_,_,_,rfl,(oH.over pH.out gI.out).imp fun b hb=>Nat.le_trans aR.size hb,bh.grown gI.out bh.size (by rintro j hj;cases hj;rw[nR.out];omega)⟩
theorem En.uM : ∀ {l:List En.bz},En.eD l -> ∀x:Int,l.drop (En.below l (x+1))=En.cut x l
 | [],_,_=>rfl
 | a :: r,hp,x=>by
  by_cases h:a.index<x+1
  ·rw[En.jK r h,List.drop_succ_cons,En.uM (List.pairwise_cons.1 hp).2 x,En.iI,if_neg (by omega)]
  ·rw[En.dJ hp h,List.drop_zero]
   refine(En.NQ fun e he => ?_).symm
   rcases List.mem_cons.1 he with rfl | he
   ·omega
   ·have:=(List.pairwise_cons.1 hp).1 e he;omega
theorem Hd.uN(p:Bl.dM)(x:Re.Rec)(h:Re.hb x.kind=true):Bl.most [p,x.aF]=Hd.cQ p x:=by
 show Bl.top p x.aF=_;unfold Bl.top Hd.cQ;cases hl:Bl.less p x.aF
 ·rw[if_neg (by simp),if_neg (by simp)]
 ·rw[if_pos rfl,if_pos ⟨h,rfl⟩]
theorem Hd.G4{x:Re.Rec}(f:Hd.jM x)(h:Re.hi x.kind=false):x.index=0:=by
 have:=congrArg Re.Rec.index f.own;simp only[Re.own,h]at this
 simpa using this.symm
theorem Hd.uO(p:Bl.dM)(x:Re.Rec)(h:Re.hb x.kind=false):Hd.cQ p x=p:=by
 unfold Hd.cQ;rw[if_neg (fun h2=>by rw[h]at h2;cases h2.1)]
theorem Hd.nS{h:Hd.az}{x:Re.Rec}(hk:Re.check x=0)(hi:x.index<=h.base):Hd.apply h x=⟨Hd.cQ h.aC x,h.base,h.aw,h.acc,h.bl⟩:=by
 unfold Hd.apply;rw[if_neg (by rw[hk];simp),if_neg (fun h2=>by omega),Hd.ez _ (.inr (.inl hi))]
structure wo(w W:World)(h:Hd.az)(vi va vc:Value)(x:Re.Rec)(xi:Value):Prop where
 st:aB W w.heap.size 113 h.aC h.base vi va vc
 re:ai W (w.heap.size+1) x xi
 out:aB W (w.heap.size+2) 113 Bl.zero 0 Nil Nil Nil
 rows:cH W h vi va vc
 aw:Reads W xi x.aw
 below:Below w.heap.size w W
theorem wo.call{w W W' : World}{h:Hd.az}{vi va vc:Value}{x:Re.Rec}{xi:Value}(A:wo w W h vi va vc x xi)(hb:Below W.heap.size W W'):wo w W' h vi va vc x xi :=
 ⟨A.st.below hb A.st.ag.lt,A.re.below hb A.re.lt,A.out.below hb A.out.ag.lt,A.rows.below hb,A.aw.below hb,A.below.trans (hb.mono A.below.size)⟩
theorem wo.turn{w W W' : World}{h:Hd.az}{vi va vc:Value}{x:Re.Rec}{xi:Value}(A:wo w W h vi va vc x xi){h' : Hd.az}{IW Xd Xe : Value}(s:aB W' w.heap.size 113 h'.aC h'.base IW Xd Xe)(hg:W.grownBy W' (some w.heap.size))(r:cH W h' IW Xd Xe):wo w W' h' IW Xd Xe x xi :=
 ⟨s,A.re.kept hg (by simp),A.out.kept hg (by omega),r.over A.st hg,A.aw.dO A.st.ag A.st.Qq hg,A.below.grown hg A.below.size (by rintro j hj;cases hj;exact Nat.le_refl _)⟩
theorem wo.made{w W W' : World}{h:Hd.az}{vi va vc:Value}{x:Re.Rec}{xi:Value}(A:wo w W h vi va vc x xi)(hg:W.grownBy W' (some (w.heap.size+2))):mM w h (.returned (.agg (Hd.fQ h.aC h.base vi va vc))) W' :=
 ⟨vi,va,vc,rfl,A.rows.over A.out hg,A.below.grown hg A.below.size (by rintro j hj;cases hj;omega)⟩
theorem G5(w:World)(h:Hd.az)(vi va vc:Value)(x:Re.Rec)(xi:Value)(r:cH w h vi va vc)(hx:Reads w xi x.aw) :
 ∃w3,((w.alloc (.cells (Hd.cells h vi va vc) 113)).alloc (.cells (Re.cells x xi) 42)).alloc (.cells #[.int .i64 0, .int .i64 0, .int .i64 0, .slice none 0 0, .slice none 0 0, .slice none 0 0] 113)=w3∧wo w w3 h vi va vc x xi:=by
 obtain⟨w1,e1,hx1,aq,hs1⟩:=eL w 113 h vi va vc r;obtain⟨w2,e2,hl2,dN,hs2⟩:=bf w1 x xi;obtain⟨w3,e3,hz3,jx,hs3⟩:=eA w2 113;rw[hs1]at hl2 hs2
 rw[hs2]at hz3
 have hB:Below w.heap.size w w3:=(aq.trans (dN.mono aq.size)).trans (jx.mono (Nat.le_trans aq.size dN.size));exact⟨w3,by rw[e1,e2,e3],(hx1.below dN (by omega)).below jx (by omega),hl2.below jx (by omega),hz3,r.below hB,hx.below hB,hB⟩
theorem xz(h:Hd.az)(vi va vc:Value)(x:Re.Rec)(xi:Value)(w:World)(hW:bE w)(hr:cH w h vi va vc)(hv:Hd.Valid h)(CG:h.acc.length<=900000∧h.bl.length<=900000)(hx:Reads w xi x.aw)(hs:x.cmd.aD 140737488355328) :
 Calls Tryz.prog 72 #[.agg (Hd.cells h vi va vc), .agg (Re.cells x xi)] w (mM w (Hd.apply h x)):=by
 obtain⟨w3,e3,hA⟩:=G5 w h vi va vc x xi hr hx;have A3:=aa hA;have HW:=aa hW;have HV:=aa hv;have mR:=aa CG;have HS:=aa hs;have TE:Hid (∃o k c,xi = .slice o k c):=by obtain⟨xo,xc,e⟩:=hx.shape;exact⟨_,_,_,e⟩
 clear hA hW hr hv CG hx hs
 go_enter Tryz.func72,Tryz.ntmps72
 go_wp2_with (refine cZ rfl _ rfl (w.heap.size+1) x xi rfl A3.out.re ?_)
 refine(iE x xi w3 (HW.below A3.out.below) A3.out.aw HS.out).mono ?_;rintro e w4 ⟨rfl,hb4⟩;have A4:=aa (A3.out.call hb4);obtain⟨y,hy⟩ : ∃y,y=Re.check x:=⟨_,rfl⟩;rw[<- hy];clear hb4 A3 e3;by_cases hy0:y=0
 rotate_left
 ·have Xf:(y != 0)=true:=by simpa using hy0
  have Fl:Hid (Hd.apply h x=h):=Hd.GW (by rw[<- hy];exact hy0)
  clear hy hy0
  go_wp2_with (first
   | (refine dK rfl _ rfl rfl A4.out.st ?_)
   | (refine dF rfl _ _ rfl rfl A4.out.out A4.out.st rfl ?_;intro w7 tH cr;have rH:=aa tH;have vO:=aa cr;clear tH cr)
  )
  refine eK rfl rfl rH.out rfl ?_;show mM w (Hd.apply _ _) _ _;rw[Fl.out];exact A4.out.made vO.out
 subst hy0;have HY:Hid (Re.check x=0):=hy.symm;clear hy;obtain⟨kd,aF,ix,cm,im⟩:=x;obtain⟨p,b,aw,acc,bl⟩:=h;dsimp only at HV mR HS
 have hkn:=Hd.sA HY.out;dsimp only at hkn
 obtain rfl | rfl | rfl | rfl:kd=1∨kd=2∨kd=3∨kd=4:=by omega
 all_goals clear hkn
 ·skip
  have HF:=aa (Hd.cU.1 HY.out);have Fl:=aa (fun h=>Hd.nS (h:=⟨p,b,aw,acc,bl⟩) (x:=⟨1,aF,ix,cm,im⟩) HY.out h)
  have HM:Hid (Bl.most [p,aF]=Hd.cQ p ⟨1,aF,ix,cm,im⟩):=Hd.uN p ⟨1,aF,ix,cm,im⟩ rfl;obtain⟨mo,hmo⟩ : ∃m,m=Bl.most [p,aF]:=⟨_,rfl⟩;have QD:=aa hmo;have Km:lF (w4.alloc (.cells #[.int .i64 p.round, .int .i64 p.node, .int .i64 aF.round, .int .i64 aF.node] 29)) (.slice (some ⟨w4.heap.size,0,none⟩) 2 2) [p,aF]:=aQ.lit (rs := [p,aF].map Bl.cells) (ae.new _ _ _) (dC.map (k:=2) (f:=Bl.cells) (fun b=>⟨rfl,Bl.cR b⟩) [p,aF]) (by simp)
  have NX:=aa (AR _ _ _ Km);clear hmo Km;obtain rfl:ix=0:=Hd.G4 HF.out rfl;have hb0:0<=b:=HV.base.1;have c0:w4.cell? ⟨w.heap.size,0,none⟩=some (.int .i64 p.round):=A4.out.st.ag.cell 0 _ rfl;have c1:w4.cell? ⟨w.heap.size,1,none⟩=some (.int .i64 p.node):=A4.out.st.ag.cell 1 _ rfl;have d0:w4.cell? ⟨w.heap.size+1,0,none⟩=some (.int .i64 1):=A4.out.re.cell 0 _ rfl;have d1:w4.cell? ⟨w.heap.size+1,1,none⟩=some (.int .i64 aF.round):=A4.out.re.cell 1 _ rfl;have d2:w4.cell? ⟨w.heap.size+1,2,none⟩=some (.int .i64 aF.node):=A4.out.re.cell 2 _ rfl
  go_wp2_with fail
  refine NX.mono ?_;rintro e w5 ⟨rfl,ew⟩;rw[<- QD.out];have A5:=aa (A4.out.call (((Below.refl _ w4).alloc (Nat.le_refl _) _).trans (ew.mono (by simp))))
  clear ew c0 c1 d0 d1 d2
  go_wp2_with (first
   | (refine lG rfl _ _ rfl mo rfl rfl A5.out.st ?_;intro w6 Kl dt;have A6:=aa (A5.out.turn (h' := ⟨mo,b,aw,acc,bl⟩) Kl dt ⟨A5.out.rows.aw,A5.out.rows.acc,A5.out.rows.bl⟩);clear Kl dt;have c2:w6.cell? ⟨w.heap.size,2,none⟩=some (.int .i64 b):=A6.out.st.ag.cell 2 _ rfl;have d3:w6.cell? ⟨w.heap.size+1,3,none⟩=some (.int .i64 0):=A6.out.re.cell 3 _ rfl)
   | (refine dK rfl _ rfl rfl A6.out.st ?_)
   | (refine dF rfl _ _ rfl rfl A6.out.out A6.out.st rfl ?_;intro w7 tH cr;have rH:=aa tH;have vO:=aa cr;clear tH cr))
  refine eK rfl rfl rH.out rfl ?_;show mM w (Hd.apply _ _) _ _;rw[Fl.out hb0,show Hd.cQ p _=mo by rw[QD.out,HM.out]]
  exact A6.out.made vO.out
 ·skip
  have HF:=aa (Hd.cU.1 HY.out);have Fl:=aa (fun h=>Hd.nS (h:=⟨p,b,aw,acc,bl⟩) (x:=⟨2,aF,ix,cm,im⟩) HY.out h)
  have HM:Hid (Bl.most [p,aF]=Hd.cQ p ⟨2,aF,ix,cm,im⟩):=Hd.uN p ⟨2,aF,ix,cm,im⟩ rfl;obtain⟨mo,hmo⟩ : ∃m,m=Bl.most [p,aF]:=⟨_,rfl⟩;have QD:=aa hmo;have Km:lF (w4.alloc (.cells #[.int .i64 p.round, .int .i64 p.node, .int .i64 aF.round, .int .i64 aF.node] 29)) (.slice (some ⟨w4.heap.size,0,none⟩) 2 2) [p,aF]:=aQ.lit (rs := [p,aF].map Bl.cells) (ae.new _ _ _) (dC.map (k:=2) (f:=Bl.cells) (fun b=>⟨rfl,Bl.cR b⟩) [p,aF]) (by simp)
  have NX:=aa (AR _ _ _ Km);clear hmo Km;by_cases wq:ix<=b
  ·skip
   have c0:w4.cell? ⟨w.heap.size,0,none⟩=some (.int .i64 p.round):=A4.out.st.ag.cell 0 _ rfl;have c1:w4.cell? ⟨w.heap.size,1,none⟩=some (.int .i64 p.node):=A4.out.st.ag.cell 1 _ rfl;have d0:w4.cell? ⟨w.heap.size+1,0,none⟩=some (.int .i64 2):=A4.out.re.cell 0 _ rfl;have d1:w4.cell? ⟨w.heap.size+1,1,none⟩=some (.int .i64 aF.round):=A4.out.re.cell 1 _ rfl;have d2:w4.cell? ⟨w.heap.size+1,2,none⟩=some (.int .i64 aF.node):=A4.out.re.cell 2 _ rfl
   go_wp2_with fail
   refine NX.mono ?_;rintro e w5 ⟨rfl,ew⟩;rw[<- QD.out];have A5:=aa (A4.out.call (((Below.refl _ w4).alloc (Nat.le_refl _) _).trans (ew.mono (by simp))))
   clear ew c0 c1 d0 d1 d2
   go_wp2_with (first
    | (refine lG rfl _ _ rfl mo rfl rfl A5.out.st ?_;intro w6 Kl dt;have A6:=aa (A5.out.turn (h' := ⟨mo,b,aw,acc,bl⟩) Kl dt ⟨A5.out.rows.aw,A5.out.rows.acc,A5.out.rows.bl⟩);clear Kl dt;have c2:w6.cell? ⟨w.heap.size,2,none⟩=some (.int .i64 b):=A6.out.st.ag.cell 2 _ rfl;have d3:w6.cell? ⟨w.heap.size+1,3,none⟩=some (.int .i64 ix):=A6.out.re.cell 3 _ rfl)
    | (refine dK rfl _ rfl rfl A6.out.st ?_)
    | (refine dF rfl _ _ rfl rfl A6.out.out A6.out.st rfl ?_;intro w7 tH cr;have rH:=aa tH;have vO:=aa cr;clear tH cr))
   refine eK rfl rfl rH.out rfl ?_;show mM w (Hd.apply _ _) _ _;rw[Fl.out wq,show Hd.cQ p _=mo by rw[QD.out,HM.out]]
   exact A6.out.made vO.out
  ·have QE:Hid (b<ix):=by show _<_;omega
   have Br:decide (ix<=b)=false:=decide_eq_false wq;have c0:w4.cell? ⟨w.heap.size,0,none⟩=some (.int .i64 p.round):=A4.out.st.ag.cell 0 _ rfl;have c1:w4.cell? ⟨w.heap.size,1,none⟩=some (.int .i64 p.node):=A4.out.st.ag.cell 1 _ rfl;have d0:w4.cell? ⟨w.heap.size+1,0,none⟩=some (.int .i64 2):=A4.out.re.cell 0 _ rfl;have d1:w4.cell? ⟨w.heap.size+1,1,none⟩=some (.int .i64 aF.round):=A4.out.re.cell 1 _ rfl;have d2:w4.cell? ⟨w.heap.size+1,2,none⟩=some (.int .i64 aF.node):=A4.out.re.cell 2 _ rfl
   go_wp2_with fail
   refine NX.mono ?_;rintro e w5 ⟨rfl,ew⟩;rw[<- QD.out];have A5:=aa (A4.out.call (((Below.refl _ w4).alloc (Nat.le_refl _) _).trans (ew.mono (by simp))))
   clear ew c0 c1 d0 d1 d2
   go_wp2_with (first
    | (refine lG rfl _ _ rfl mo rfl rfl A5.out.st ?_;intro w6 Kl dt;have A6:=aa (A5.out.turn (h' := ⟨mo,b,aw,acc,bl⟩) Kl dt ⟨A5.out.rows.aw,A5.out.rows.acc,A5.out.rows.bl⟩);clear Kl dt;have c2:w6.cell? ⟨w.heap.size,2,none⟩=some (.int .i64 b):=A6.out.st.ag.cell 2 _ rfl;have c4:w6.cell? ⟨w.heap.size,4,none⟩=some (va):=A6.out.st.ag.cell 4 _ rfl;have d0:w6.cell? ⟨w.heap.size+1,0,none⟩=some (.int .i64 2):=A6.out.re.cell 0 _ rfl;have d1:w6.cell? ⟨w.heap.size+1,1,none⟩=some (.int .i64 aF.round):=A6.out.re.cell 1 _ rfl;have d2:w6.cell? ⟨w.heap.size+1,2,none⟩=some (.int .i64 aF.node):=A6.out.re.cell 2 _ rfl;have d3:w6.cell? ⟨w.heap.size+1,3,none⟩=some (.int .i64 ix):=A6.out.re.cell 3 _ rfl;have d4:w6.cell? ⟨w.heap.size+1,4,none⟩=some (.int .i64 cm.kind):=A6.out.re.cell 4 _ rfl;have d5:w6.cell? ⟨w.heap.size+1,5,none⟩=some (.int .i64 cm.bD):=A6.out.re.cell 5 _ rfl;have d6:w6.cell? ⟨w.heap.size+1,6,none⟩=some (.int .i64 cm.seq):=A6.out.re.cell 6 _ rfl;have d7:w6.cell? ⟨w.heap.size+1,7,none⟩=some (.string ⟨cm.key.toArray⟩):=A6.out.re.cell 7 _ rfl;have d8:w6.cell? ⟨w.heap.size+1,8,none⟩=some (.string ⟨cm.val.toArray⟩):=A6.out.re.cell 8 _ rfl;have d9:w6.cell? ⟨w.heap.size+1,9,none⟩=some (.string ⟨cm.old.toArray⟩):=A6.out.re.cell 9 _ rfl;have d10:w6.cell? ⟨w.heap.size+1,10,none⟩=some (.int .i64 cm.node):=A6.out.re.cell 10 _ rfl)
    | (fail))
   refine(Bt va acc ⟨ix,aF,cm⟩ w6 A6.out.rows.acc HV.GS (by have:=mR.1;omega)).mono ?_
   rintro e w7 ⟨v7,rfl,ou,fZ⟩;obtain⟨uo,uc,tj⟩:=ou.shape;have lK:Hid (aW w7 v7 (En.put acc ⟨ix,aF,cm⟩)):=ou.reads (En.sized _);have A7:=aa (A6.out.call fZ);clear ou fZ c2 c4 d0 d1 d2 d3 d4 d5 d6 d7 d8 d9 d10;subst tj;obtain⟨un,hun⟩ : ∃n,n=((En.put acc ⟨ix,aF,cm⟩).map En.cells).length:=⟨_,rfl⟩;rw[<- hun]at lK ⊢
   clear hun
   go_wp2_with (first
    | (refine nL rfl _ _ rfl uo un uc rfl rfl A7.out.st ?_;intro w8 Fk fh;have A8:=aa (A7.out.turn (h' := ⟨mo,b,aw,En.put acc ⟨ix,aF,cm⟩,bl⟩) Fk fh ⟨A7.out.rows.aw,lK.out,A7.out.rows.bl⟩);clear Fk fh)
    | (refine dK rfl _ rfl rfl A8.out.st ?_)
    | (refine dF rfl _ _ rfl rfl A8.out.out A8.out.st rfl ?_;intro w9 gR cM;have jl:=aa gR;have gI:=aa cM;clear gR cM))
   refine eK rfl rfl jl.out rfl ?_;have QF:Hd.apply ⟨p,b,aw,acc,bl⟩ ⟨2,aF,ix,cm,im⟩=⟨mo,b,aw,En.put acc ⟨ix,aF,cm⟩,bl⟩:=by
    unfold Hd.apply;rw[if_neg (by rw[HY.out];simp),if_neg (fun h=>by have:=h.1;simp at this),Hd.mN _ HY.out QE.out rfl,if_pos rfl,QD.out,HM.out]
    rfl
   show mM w (Hd.apply _ _) _ _;rw[QF];exact A8.out.made gI.out
 ·skip
  have HF:=aa (Hd.cU.1 HY.out);have Fl:=aa (fun h=>Hd.nS (h:=⟨p,b,aw,acc,bl⟩) (x:=⟨3,aF,ix,cm,im⟩) HY.out h)
  have Pg:Hid (Hd.cQ p ⟨3,aF,ix,cm,im⟩=p):=Hd.uO p ⟨3,aF,ix,cm,im⟩ rfl;obtain rfl:aF=Bl.zero:=Hd.Fg HF.out rfl;by_cases wq:ix<=b
  ·skip
   have c2:w4.cell? ⟨w.heap.size,2,none⟩=some (.int .i64 b):=A4.out.st.ag.cell 2 _ rfl;have d0:w4.cell? ⟨w.heap.size+1,0,none⟩=some (.int .i64 3):=A4.out.re.cell 0 _ rfl;have d3:w4.cell? ⟨w.heap.size+1,3,none⟩=some (.int .i64 ix):=A4.out.re.cell 3 _ rfl
   go_wp2_with (first
    | (refine dK rfl _ rfl rfl A4.out.st ?_)
    | (refine dF rfl _ _ rfl rfl A4.out.out A4.out.st rfl ?_;intro w7 tH cr;have rH:=aa tH;have vO:=aa cr;clear tH cr))
   refine eK rfl rfl rH.out rfl ?_;show mM w (Hd.apply _ _) _ _;rw[Fl.out wq,show Hd.cQ p _=p from Pg.out]
   exact A4.out.made vO.out
  ·have QE:Hid (b<ix):=by show _<_;omega
   have Br:decide (ix<=b)=false:=decide_eq_false wq;have c2:w4.cell? ⟨w.heap.size,2,none⟩=some (.int .i64 b):=A4.out.st.ag.cell 2 _ rfl;have c5:w4.cell? ⟨w.heap.size,5,none⟩=some (vc):=A4.out.st.ag.cell 5 _ rfl;have d0:w4.cell? ⟨w.heap.size+1,0,none⟩=some (.int .i64 3):=A4.out.re.cell 0 _ rfl;have d3:w4.cell? ⟨w.heap.size+1,3,none⟩=some (.int .i64 ix):=A4.out.re.cell 3 _ rfl;have QF:Hid (Hd.apply ⟨p,b,aw,acc,bl⟩ ⟨3,Bl.zero,ix,cm,im⟩=if En.found bl ix=true then ⟨p,b,aw,acc,bl⟩else ⟨p,b,aw,acc,En.put bl ⟨ix,Bl.zero,cm⟩⟩):=by
    show _=_;unfold Hd.apply;rw[if_neg (by rw[HY.out];simp),if_neg (fun h=>by have:=h.1;simp at this),Hd.mN _ HY.out QE.out rfl,if_neg (by simp),Pg.out]
    by_cases hf:En.found bl ix=true
    ·rw[if_pos hf,if_pos hf]
    ·rw[if_neg hf,if_neg hf]
     rfl
   go_wp2_with fail
   refine(Kn vc bl ix w4 A4.out.rows.bl HV.Di (by have:=mR.2;omega)).mono ?_
   rintro e w5 ⟨rfl,ew⟩;have A5:=aa (A4.out.call ew);obtain⟨fe,ZD⟩ : ∃e,e=En.find bl ix:=⟨_,rfl⟩;rw[<- ZD];obtain⟨f,hf⟩ : ∃f,f=En.found bl ix:=⟨_,rfl⟩;rw[<- hf]at QF ⊢
   clear ew ZD hf c2 c5 d0 d3 wq Br;cases f with
   | true =>
    go_wp2_with (first
     | (refine cq rfl _ _ rfl w5.heap.size En.zero fe rfl rfl (ae.new _ _ _) ?_;intro w6 eZ dt;have A6:=aa (A5.out.call (aJ dt));clear eZ dt)
     | (refine dK rfl _ rfl rfl A6.out.st ?_)
     | (refine dF rfl _ _ rfl rfl A6.out.out A6.out.st rfl ?_;intro w9 gR cM;have jl:=aa gR;have gI:=aa cM;clear gR cM))
    refine eK rfl rfl jl.out rfl ?_;show mM w (Hd.apply _ _) _ _;rw[QF.out];simp only[↓reduceIte];exact A6.out.made gI.out
   | false =>
    go_wp2_with ((refine cq rfl _ _ rfl w5.heap.size En.zero fe rfl rfl (ae.new _ _ _) ?_;intro w6 eZ dt;have A6:=aa (A5.out.call (aJ dt));clear eZ dt;have c5:w6.cell? ⟨w.heap.size,5,none⟩=some (vc):=A6.out.st.ag.cell 5 _ rfl;have d3:w6.cell? ⟨w.heap.size+1,3,none⟩=some (.int .i64 ix):=A6.out.re.cell 3 _ rfl;have d4:w6.cell? ⟨w.heap.size+1,4,none⟩=some (.int .i64 cm.kind):=A6.out.re.cell 4 _ rfl;have d5:w6.cell? ⟨w.heap.size+1,5,none⟩=some (.int .i64 cm.bD):=A6.out.re.cell 5 _ rfl;have d6:w6.cell? ⟨w.heap.size+1,6,none⟩=some (.int .i64 cm.seq):=A6.out.re.cell 6 _ rfl;have d7:w6.cell? ⟨w.heap.size+1,7,none⟩=some (.string ⟨cm.key.toArray⟩):=A6.out.re.cell 7 _ rfl;have d8:w6.cell? ⟨w.heap.size+1,8,none⟩=some (.string ⟨cm.val.toArray⟩):=A6.out.re.cell 8 _ rfl;have d9:w6.cell? ⟨w.heap.size+1,9,none⟩=some (.string ⟨cm.old.toArray⟩):=A6.out.re.cell 9 _ rfl;have d10:w6.cell? ⟨w.heap.size+1,10,none⟩=some (.int .i64 cm.node):=A6.out.re.cell 10 _ rfl))
    refine(Bt vc bl ⟨ix,Bl.zero,cm⟩ w6 A6.out.rows.bl HV.Di (by have:=mR.2;omega)).mono ?_
    rintro e w7 ⟨v7,rfl,ou,fZ⟩;obtain⟨uo,uc,tj⟩:=ou.shape;have lK:Hid (aW w7 v7 (En.put bl ⟨ix,Bl.zero,cm⟩)):=ou.reads (En.sized _);have A7:=aa (A6.out.call fZ);clear ou fZ c5 d3 d4 d5 d6 d7 d8 d9 d10;subst tj;obtain⟨un,hun⟩ : ∃n,n=((En.put bl ⟨ix,Bl.zero,cm⟩).map En.cells).length:=⟨_,rfl⟩;rw[<- hun]at lK ⊢
    clear hun
    go_wp2_with (first
     | (refine nM rfl _ _ rfl uo un uc rfl rfl A7.out.st ?_;intro w8 Fk fh;have A8:=aa (A7.out.turn (h' := ⟨p,b,aw,acc,En.put bl ⟨ix,Bl.zero,cm⟩⟩) Fk fh ⟨A7.out.rows.aw,A7.out.rows.acc,lK.out⟩);clear Fk fh)
     | (refine dK rfl _ rfl rfl A8.out.st ?_)
     | (refine dF rfl _ _ rfl rfl A8.out.out A8.out.st rfl ?_;intro w9 gR cM;have jl:=aa gR;have gI:=aa cM;clear gR cM))
    refine eK rfl rfl jl.out rfl ?_;show mM w (Hd.apply _ _) _ _;rw[QF.out];simp only[Bool.false_eq_true, ↓reduceIte];exact A8.out.made gI.out
 ·skip
  have HF:=aa (Hd.cU.1 HY.out);have Fl:=aa (fun h=>Hd.nS (h:=⟨p,b,aw,acc,bl⟩) (x:=⟨4,aF,ix,cm,im⟩) HY.out h)
  have Pg:Hid (Hd.cQ p ⟨4,aF,ix,cm,im⟩=p):=Hd.uO p ⟨4,aF,ix,cm,im⟩ rfl;by_cases wq:ix<=b
  ·skip
   have c2:w4.cell? ⟨w.heap.size,2,none⟩=some (.int .i64 b):=A4.out.st.ag.cell 2 _ rfl;have d0:w4.cell? ⟨w.heap.size+1,0,none⟩=some (.int .i64 4):=A4.out.re.cell 0 _ rfl;have d3:w4.cell? ⟨w.heap.size+1,3,none⟩=some (.int .i64 ix):=A4.out.re.cell 3 _ rfl
   go_wp2_with (first
    | (refine dK rfl _ rfl rfl A4.out.st ?_)
    | (refine dF rfl _ _ rfl rfl A4.out.out A4.out.st rfl ?_;intro w7 tH cr;have rH:=aa tH;have vO:=aa cr;clear tH cr))
   refine eK rfl rfl rH.out rfl ?_;show mM w (Hd.apply _ _) _ _;rw[Fl.out wq,show Hd.cQ p _=p from Pg.out]
   exact A4.out.made vO.out
  ·have QE:Hid (b<ix):=by show _<_;omega
   have Br:decide (ix<=b)=false:=decide_eq_false wq;have c2:w4.cell? ⟨w.heap.size,2,none⟩=some (.int .i64 b):=A4.out.st.ag.cell 2 _ rfl;have d0:w4.cell? ⟨w.heap.size+1,0,none⟩=some (.int .i64 4):=A4.out.re.cell 0 _ rfl;have d3:w4.cell? ⟨w.heap.size+1,3,none⟩=some (.int .i64 ix):=A4.out.re.cell 3 _ rfl;have QF:Hid (Hd.apply ⟨p,b,aw,acc,bl⟩ ⟨4,aF,ix,cm,im⟩=⟨p,ix,im,En.cut ix acc,En.cut ix bl⟩):=by
    show _=_;unfold Hd.apply;rw[if_neg (by rw[HY.out];simp),if_pos ⟨rfl,QE.out⟩]
   have hix:ix<=4294967296:=(HF.index rfl).2;have abR:1<=ix:=(HF.index rfl).1;go_wp2;clear c2 d0 d3;obtain⟨xo,xk,xc,rfl⟩:=TE.out;obtain⟨so,sk,sc,rfl⟩:=A4.out.rows.sl.1;have c2:w4.cell? ⟨w.heap.size,2,none⟩=some (.int .i64 b):=A4.out.st.ag.cell 2 _ rfl;have c3:w4.cell? ⟨w.heap.size,3,none⟩=some (.slice so sk sc):=A4.out.st.ag.cell 3 _ rfl;have d3:w4.cell? ⟨w.heap.size+1,3,none⟩=some (.int .i64 ix):=A4.out.re.cell 3 _ rfl;have d11:w4.cell? ⟨w.heap.size+1,11,none⟩=some (.slice xo xk xc):=A4.out.re.cell 11 _ rfl;have f2:=A4.out.st.ag.free 2;have f3:=A4.out.st.ag.free 3
   go_region
   obtain⟨w6,CH⟩ : ∃w6,w6=((w4.setCell ⟨w.heap.size,2,none⟩ (.int .i64 ix)).setCell ⟨w.heap.size,3,none⟩ (.slice xo xk xc)).drew:=⟨_,rfl⟩;rw[<- CH];have A6:Hid (wo w w6 ⟨p,ix,im,acc,bl⟩ (.slice xo xk xc) va vc ⟨4,aF,ix,cm,im⟩ (.slice xo xk xc)):=by
    rw[CH];exact(A4.out.turn (h' := ⟨p,ix,im,acc,bl⟩) ⟨(A4.out.st.ag.set 2 (.int .i64 ix)).set 3 (.slice xo xk xc),⟨_,_,_,rfl⟩,A4.out.st.va,A4.out.st.vc⟩ (aM (au _ _ _ _) (au _ _ _ _)) (show cH w4 ⟨p,ix,im,acc,bl⟩ (.slice xo xk xc) va vc from⟨A4.out.aw,A4.out.rows.acc,A4.out.rows.bl⟩)).call ((Below.refl _ _).drew)
   clear CH c2 c3 d3 d11 f2 f3;have c4:w6.cell? ⟨w.heap.size,4,none⟩=some (va):=A6.out.st.ag.cell 4 _ rfl;have d3:w6.cell? ⟨w.heap.size+1,3,none⟩=some (.int .i64 ix):=A6.out.re.cell 3 _ rfl
   go_wp2_with fail
   refine(Bu va acc (ix+1) w6 A6.out.rows.acc HV.GS (by have:=mR.1;omega)).mono ?_
   rintro e w7 ⟨v7,rfl,ou,fZ⟩;rw[En.uM HV.GS]at ou
   obtain⟨uo,uc,tj⟩:=ou.shape;have lK:Hid (aW w7 v7 (En.cut ix acc)):=ou.reads (En.sized _);have A7:=aa (A6.out.call fZ);clear ou fZ c4 d3;subst tj;obtain⟨un,hun⟩ : ∃n,n=((En.cut ix acc).map En.cells).length:=⟨_,rfl⟩;rw[<- hun]at lK ⊢
   clear hun
   go_wp2_with ((refine nL rfl _ _ rfl uo un uc rfl rfl A7.out.st ?_;intro w8 Fk fh;have A8:=aa (A7.out.turn (h' := ⟨p,ix,im,En.cut ix acc,bl⟩) Fk fh ⟨A7.out.rows.aw,lK.out,A7.out.rows.bl⟩);clear Fk fh;have c5:w8.cell? ⟨w.heap.size,5,none⟩=some (vc):=A8.out.st.ag.cell 5 _ rfl;have d3:w8.cell? ⟨w.heap.size+1,3,none⟩=some (.int .i64 ix):=A8.out.re.cell 3 _ rfl))
   refine(Bu vc bl (ix+1) w8 A8.out.rows.bl HV.Di (by have:=mR.2;omega)).mono ?_
   rintro e w9 ⟨v9,rfl,NY,j5⟩;rw[En.uM HV.Di]at NY
   obtain⟨to,tc,QH⟩:=NY.shape;have Ph:Hid (aW w9 v9 (En.cut ix bl)):=NY.reads (En.sized _);have A9:=aa (A8.out.call j5);clear NY j5 c5 d3;subst QH;obtain⟨tn,htn⟩ : ∃n,n=((En.cut ix bl).map En.cells).length:=⟨_,rfl⟩;rw[<- htn]at Ph ⊢
   clear htn
   go_wp2_with (first
    | (refine nM rfl _ _ rfl to tn tc rfl rfl A9.out.st ?_;intro oL tq rI;have VN:=aa (A9.out.turn (h' := ⟨p,ix,im,En.cut ix acc,En.cut ix bl⟩) tq rI ⟨A9.out.rows.aw,A9.out.rows.acc,Ph.out⟩);clear tq rI)
    | (refine dK rfl _ rfl rfl VN.out.st ?_)
    | (refine dF rfl _ _ rfl rfl VN.out.out VN.out.st rfl ?_;intro jr TF tW;have Dr:=aa TF;have ub:=aa tW;clear TF tW))
   refine eK rfl rfl Dr.out rfl ?_;show mM w (Hd.apply _ _) _ _;rw[QF.out];exact VN.out.made ub.out
theorem En.Fm(b:Int)(l:List En.bz):(En.cut b l).length<=l.length:=List.length_filter_le _ _
theorem Hd.nT(h:Hd.az)(x:Re.Rec):(Hd.apply h x).acc.length<=h.acc.length+1∧(Hd.apply h x).bl.length<=h.bl.length+1:=by
 unfold Hd.apply;split
 ·exact⟨by omega,by omega⟩
 ·split
  ·have h1:=En.Fm x.index h.acc
   have h2:=En.Fm x.index h.bl;exact⟨by show(En.cut x.index h.acc).length<=_;omega,by show(En.cut x.index h.bl).length<=_;omega⟩
  ·exact Hd.Fo h.base (h.acc,h.bl) x
theorem Hd.Ds(l:List Re.Rec):(Hd.of l).acc.length<=l.length∧(Hd.of l).bl.length<=l.length:=by
 induction l using Hd.dB with
 | h0=>exact⟨by simp[Hd.of,Hd.zero],by simp[Hd.of,Hd.zero]⟩
 | h1 l x ih =>
  rw[Hd.nN,List.length_append];have:=Hd.nT (Hd.of l) x;exact⟨by simp;omega,by simp;omega⟩
theorem Hd.Valid.zN{h:Hd.az}(v:Hd.Valid h)(h1:h.acc.length<=900000)(h2:h.bl.length<=900000):h.G2:=⟨by have:=v.aw;omega,h1,h2⟩
theorem NZ(h:Hd.az)(vi va vc:Value)(x:Re.Rec)(xi:Value)(w:World)(hW:bE w)(hr:cH w h vi va vc)(hv:Hd.Valid h)(CG:h.acc.length<=800000∧h.bl.length<=800000)(hx:Reads w xi x.aw)(hs:x.cmd.aD 140737488355328) :
 Calls Tryz.prog 42 #[.agg (Hd.cells h vi va vc), .agg (Re.cells x xi)] w (sy (fun b=>w.heap.size<=b) w (Hd.apply h x)):=by
 obtain⟨w1,e1,hx1,aq,hs1⟩:=eL w 33 h vi va vc hr;obtain⟨w2,e2,hl2,dN,hs2⟩:=bf w1 x xi;obtain⟨w3,e3,hz3,jx,hs3⟩:=eA w2 33;rw[hs1]at hl2 hs2
 rw[hs2]at hz3
 have hB:Below w.heap.size w w3:=(aq.trans (dN.mono aq.size)).trans (jx.mono (Nat.le_trans aq.size dN.size));have vN:=aa ((hx1.below dN (by omega)).below jx (by omega))
 have fY:=aa (hl2.below jx (by omega))
 have pH:=aa hz3;have HB:=aa hB;have uP:=aa (xz h vi va vc x xi w3 (hW.below hB) (hr.below hB) hv ⟨by omega,by omega⟩ (hx.below hB) hs)
 have HF:Hid (Hd.az.G2 (Hd.apply h x)):=Hd.Valid.zN (Hd.mO hv x) (by have:=Hd.nT h x;omega) (by have:=Hd.nT h x;omega)
 have HS:Hid (w1.heap.size=w.heap.size+1∧w2.heap.size=w.heap.size+1+1):=⟨hs1,hs2⟩;obtain⟨c0,c1,c2,c3,c4,c5⟩:=vN.all;clear hx1 hl2 hz3 aq dN jx hB hs1 hs2 hs3 hW hr hv CG hx hs
 go_enter Tryz.func42,Tryz.ntmps42
 go_wp2_with (refine cZ rfl _ rfl (w.heap.size+1) x xi (by first | rfl | (show _=_;rw[<- HS.1];rfl)) fY.out ?_)
 refine uP.mono ?_;rintro e w4 ⟨ui,ua,uc,rfl,hr4,hb4⟩;have rY:=aa hr4;have bJ:Hid (Below w.heap.size w w4):=HB.trans (hb4.mono HB.size);have sW:=aa (pH.below hb4 pH.ag.lt);clear hr4 hb4 c0 c1 c2 c3 c4 c5 vN fY uP
 go_wp2_with fail
 refine(uL (Hd.apply h x) ui ua uc w4 rY.out HF.out).mono ?_;rintro e w5 ⟨ti,ta,tc,rfl,ib,ew⟩;have lZ:=aa ib;have bK:Hid (Below w.heap.size w w5):=bJ.trans (ew.mono bJ.size);have CF:=aa (sW.below ew sW.ag.lt);have Dq:Hid (aB (w5.alloc (.cells (Hd.cells (Hd.apply h x) ti ta tc) 33)) w5.heap.size 33 (Hd.apply h x).aC (Hd.apply h x).base ti ta tc):=⟨ae.new _ _ _,ib.rows.sl.1,ib.rows.sl.2.1,ib.rows.sl.2.2⟩;clear ib ew
 go_wp2_with (refine cT rfl _ _ rfl (by first | rfl | (show _=_;rw[HS.2];rfl)) CF.out Dq.out rfl ?_;intro w9 gR cM;have jl:=aa gR;have gI:=aa cM;clear gR cM)
 refine gX rfl (by first | rfl | (rw[HS.2];rfl) | simp[HS.2]) jl.out rfl ?_
 exact⟨_,_,_,rfl,(lZ.over CF.out gI.out).imp fun b hb=>Nat.le_trans bJ.size hb,bK.grown gI.out bK.size (by rintro j hj;cases hj;omega)⟩
theorem Bv{p:Nat->TypeId->Prop}(v:Value)(l:List Re.Rec)(w:World)(hW:bE w)(hv:gS p w v l)(hs : ∀x∈l,x.cmd.aD 140737488355328)(hlen:l.length<=800000) :
 Calls Tryz.prog 82 #[v] w (sy (fun b=>w.heap.size<=b) w (Hd.of l)):=by
 obtain⟨ao,cap,rfl,hc1,hc2⟩:=cJ.shape hv;have HP:=aa (fun h=>cJ.places hv iJ h)
 obtain⟨w1,e1,hz1,aq,hs1⟩:=eA w 33;obtain⟨w2,e2,hx2,dN,hs2⟩:=eA w1 113;rw[hs1]at hx2
 have jE:=aa (hz1.below dN (by omega))
 have rh:=aa hx2;have vM:Hid (Below w.heap.size w w2):=aq.trans (dN.mono aq.size);obtain⟨gz,Ko⟩ : ∃g,g=w.heap.size:=⟨_,rfl⟩;obtain⟨gh,QI⟩ : ∃g,g=w.heap.size+1:=⟨_,rfl⟩;rw[<- Ko]at jE
 rw[<- QI]at rh
 obtain⟨n,hn⟩ : ∃n,n=l.length:=⟨_,rfl⟩;rw[<- hn]at hc1 HP hlen ⊢
 have HN:=aa hn;have HS:=aa hs;have mR:=aa hlen;have HW:=aa hW;have pj:Hid (gz≠gh∧w.heap.size<=gz∧w.heap.size<=gh):=⟨by omega,by omega,by omega⟩
 have hnb:n<9223372036854775808:=by omega
 have Xg:w1.heap.size=gh:=by omega
 clear hv hn hs hz1 hx2 aq dN hlen hc2 hW
 go_enter Tryz.func82,Tryz.ntmps82
 go_wp2;rw[<- QI, <- Ko];clear e1 e2 hs1 hs2 Xg Ko QI
 go_loopw [8] (fun i wr => ∃(k:Nat) (vi va vc:Value),i = .int .i64 (k:Int)∧k<=n∧Hid (aB wr gh 113 (Hd.of (l.take k)).aC (Hd.of (l.take k)).base vi va vc)∧Hid (cH wr (Hd.of (l.take k)) vi va vc)∧Hid (aB wr gz 33 Bl.zero 0 Nil Nil Nil)∧Hid (Below w.heap.size w wr)) (fun i _=>n - (intOf i).toNat)
 case atStart=>exact⟨0,Nil,Nil,Nil,rfl,by omega,rh.out,⟨Reads.empty w2,aQ.empty _ _,aQ.empty _ _⟩,jE.out,vM.out⟩
 case round =>
  obtain⟨k,vi,va,vc,rfl,hk,HX,HR,HZ,HB⟩:=hrel;by_cases hlt:k<n
  ·obtain⟨x,hxl⟩ : ∃x,l[k]? = some x:=⟨_,List.getElem?_eq_getElem (by have:=HN.out;omega)⟩
   obtain⟨g,off,rfl,_,hc⟩:=HP.out (by have:=HN.out;omega)
   obtain⟨u,hu,hcell⟩:=hc k x hxl;obtain⟨uo,uc,rfl⟩:=hu.1.shape;have HU:=aa (fun W (h:Below w.heap.size w W)=>hu.1.below h)
   have Aj:=aa (HS.out x (List.mem_of_getElem? hxl));have TG:Hid (Hd.of (l.take (k+1))=Hd.apply (Hd.of (l.take k)) x):=by show _=_;rw[Hd.nU hxl,Hd.nN]
   have bj:Hid (∀j v,(Re.cells x (.slice uo x.aw.length uc))[j]? = some v->wr.cell? ⟨g,off+k*12+j,none⟩=some v):=fun j v hj=>by rw[Nat.add_assoc];exact hcell wr HB.out j v hj
   clear hc hu hcell hxl;have G6:Hid (gh<wr.heap.size∧gz<wr.heap.size):=⟨HX.ag.lt,HZ.ag.lt⟩;obtain⟨h,hh⟩ : ∃h,h=Hd.of (l.take k):=⟨_,rfl⟩;have HV:Hid (Hd.Valid h):=by rw[hh];exact Hd.Bc _
   have xA:Hid (h.acc.length<=900000∧h.bl.length<=900000):=by
    have h1:=Hd.Ds (l.take k);rw[<- hh,List.length_take]at h1
    have:=mR.out;exact⟨by have:=h1.1;omega,by have:=h1.2;omega⟩
   rw[<- hh]at HX HR TG
   clear hh
   go_wp2_with (first
    | (refine iK rfl _ rfl g (off+k*12) x (.slice uo x.aw.length uc) rfl bj.out ?_)
    | (refine aY rfl _ _ rfl wr.heap.size Re.zero Nil x (.slice uo x.aw.length uc) rfl rfl rfl (ae.new _ _ _) ?_;intro w5 eN bU;have gQ:=aa eN;have bK:Hid (Below wr.heap.size wr w5):=aJ bU;have Dq:=aa (HX.below bK.out G6.1);clear eN bU)
    | (refine dK rfl _ rfl rfl Dq.out ?_)
    | (refine cZ rfl _ rfl wr.heap.size x (.slice uo x.aw.length uc) rfl gQ.out ?_))
   have jB:Hid (Below w.heap.size w w5):=HB.trans (bK.mono HB.size);refine(xz h vi va vc x (.slice uo x.aw.length uc) w5 (HW.below jB.out) (HR.below bK.out) HV.out xA.out (HU.out _ jB.out) Aj.out).mono ?_;rintro e w6 ⟨ui,ua,TH, rfl,qP,fP⟩;have jf:=aa qP;have qw:=aa (Dq.below fP Dq.ag.lt);have vU:=aa ((HZ.below bK.out G6.2).below fP (Nat.lt_of_lt_of_le G6.2 bK.size));have cy:Hid (Below w.heap.size w w6):=jB.trans (fP.mono jB.size);have HY6:Hid (aB (w6.alloc (.cells (Hd.cells (Hd.apply h x) ui ua TH) 33)) w6.heap.size 33 (Hd.apply h x).aC (Hd.apply h x).base ui ua TH):=⟨ae.new _ _ _,qP.sl.1,qP.sl.2.1,qP.sl.2.2⟩;clear qP fP gQ bj
   go_wp2_with (refine dF rfl _ _ rfl rfl qw.out HY6.out rfl ?_;intro w7 tH cr;have rH:=aa tH;have vO:=aa cr;clear tH cr)
   have mQ:Hid (aB w7 gh 113 (Hd.of (l.take (k+1))).aC (Hd.of (l.take (k+1))).base ui ua TH):=by rw[TG.out];exact rH.out
   have sF:Hid (cH w7 (Hd.of (l.take (k+1))) ui ua TH):=by rw[TG.out];exact jf.over qw.out vO.out
   have zK:=aa (vU.kept vO.out pj.1);have cN:Hid (Below w.heap.size w w7):=cy.grown vO.out cy.size (by rintro j hj;cases hj;have:=pj.2.2;omega)
   go_wp2
   go_roundw
   case rel=>exact⟨k+1,ui,ua,TH, by go_num,by omega,mQ.out,sF.out,zK.out,cN.out⟩
   case measure=>simp[intOf];omega
  ·obtain rfl:n=k:=by omega
   have hall:l.take n=l:=List.take_of_length_le (by have:=HN.out;omega)
   rw[hall]at HX HR
   have HF:Hid (Hd.az.G2 (Hd.of l)):=Hd.Valid.zN (Hd.Bc l) (by have:=(Hd.Ds l).1;have:=HN.out;have:=mR.out;omega) (by have:=(Hd.Ds l).2;have:=HN.out;have:=mR.out;omega)
   clear hall
   go_wp2_with (refine dK rfl _ rfl rfl HX.out ?_)
   refine(uL (Hd.of l) vi va vc wr HR.out HF.out).mono ?_;rintro e w5 ⟨ti,ta,tc,rfl,ib,ew⟩;have lZ:=aa ib;have bK:Hid (Below w.heap.size w w5):=HB.trans (ew.mono HB.size);have CF:=aa (HZ.below ew HZ.ag.lt);have Dq:Hid (aB (w5.alloc (.cells (Hd.cells (Hd.of l) ti ta tc) 33)) w5.heap.size 33 (Hd.of l).aC (Hd.of l).base ti ta tc):=⟨ae.new _ _ _,ib.rows.sl.1,ib.rows.sl.2.1,ib.rows.sl.2.2⟩;clear ib ew
   go_wp2_with (refine cT rfl _ _ rfl rfl CF.out Dq.out rfl ?_;intro w9 gR cM;have jl:=aa gR;have gI:=aa cM;clear gR cM)
   refine gX rfl rfl jl.out rfl ?_;exact⟨_,_,_,rfl,(lZ.over CF.out gI.out).imp fun b hb=>Nat.le_trans HB.size hb,bK.grown gI.out bK.size (by rintro j hj;cases hj;have:=pj.2.1;omega)⟩
end Go.Proofs.YtdkdjofnnnljjaaGreatDoor

namespace Go.Proofs.YtdkdjofnnnljjaaGreatDoor
open Go.RowKit
set_option maxHeartbeats 1600000
set_option maxRecDepth 4000
section
theorem Reads.tight{w:World}{v:Value}{l:List UInt8}(h:Reads w v l):jh (fun b=>b<w.heap.size) v:=aS.AW (aS.iL h fun _ _ hb=>hb)
theorem gH.AW{q:Nat->Prop}{w:World}{v:Value}{k:Nat}{rs:List (Array Value)}(h:gH (fun b _=>q b) w v k rs):jh q v:=by
 intro x n c e h0
 subst e;obtain⟨ao,cap,e2,_⟩:=h.1;cases e2;obtain⟨y,m,d,_,_,_,e3,_,hq⟩:=h.2 h0;cases e3;exact hq
theorem jh.both{q q' : Nat->Prop}{v:Value}(h:jh q v)(h' : jh q' v):jh (fun b=>q b∧q' b) v:=fun x n c e h0=>⟨h x n c e h0,h' x n c e h0⟩
theorem bL.tight{q:Nat->Prop}{w:World}{h:Hd.az}{vi va vc:Value}(r:bL q w h vi va vc):bL (fun b=>q b∧b<w.heap.size) w h vi va vc :=
 ⟨r.rows,r.pi.both r.aw.tight,r.pa.both (gH.AW (gH.iL (p:=fun b _=>b<w.heap.size) r.acc (by omega) (En.sized _) fun _ _ hb=>hb)),r.pc.both (gH.AW (gH.iL (p:=fun b _=>b<w.heap.size) r.bl (by omega) (En.sized _) fun _ _ hb=>hb))⟩
def Wl.cells(dv:Value)(n f:Int)(h:Hd.az)(vi va vc:Value):Array Value := #[dv, .int .i64 n, .int .i64 f, .int .i64 h.aC.round, .int .i64 h.aC.node, .int .i64 h.base,vi,va,vc]
abbrev Wl.ptr(g:Nat):Value := .pointer (some ⟨g,0,none⟩)
structure iR(T S:Nat->Prop)(w:World)(g d:Nat)(F:Dk.av)(B:List Dk.Op)(n f:Int)(h:Hd.az)(vi va vc:Value):Prop where
 I4:cu S w d F B
 sub : ∀k,S k->T k∧k≠g
 here:T g
 ag:ae w g 78 (Wl.cells (Wl.ptr d) n f h vi va vc)
 yS:bL (fun b=>T b ∧ ¬S b∧b≠g) w h vi va vc
def cW(T:Nat->Prop)(w:World)(g d:Nat)(F:Dk.av)(B:List Dk.Op)(n f:Int)(h:Hd.az):Prop := ∃S vi va vc,iR T S w g d F B n f h vi va vc
def iX(T:Nat->Prop)(w:World)(g d:Nat)(F:Dk.av)(B:List Dk.Op)(n f:Int)(h:Hd.az)(w' : World):Prop :=
 cW (fun j=>T j∨w.heap.size<=j) w' g d F B n f h∧Kp (fun j _ => ¬T j) w w'
section
variable {T S : Nat -> Prop} {w w' : World} {g d : Nat} {F F' : Dk.av} {B B' : List Dk.Op} {n f : Int} {h : Hd.az} {vi va vc : Value}
theorem iR.keep(l:iR T S w g d F B n f h vi va vc)(hk:Kp (fun k _=>T k) w w'):iR T S w' g d F B n f h vi va vc :=
 ⟨l.I4.keep (hk.imp fun b _ _ hs=>(l.sub b hs).1),l.sub,l.here,hk.ag l.ag fun _=>l.here,l.yS.keep (hk.keep fun _ _ _ _ _ hp=>hp.1)⟩
theorem iR.imp{T' : Nat->Prop}(l:iR T S w g d F B n f h vi va vc)(ht : ∀k,T k->T' k):iR T' S w g d F B n f h vi va vc :=
 ⟨l.I4,fun k hs=>⟨ht k (l.sub k hs).1,(l.sub k hs).2⟩,ht g l.here,l.ag,l.yS.imp fun b hb=>⟨ht b hb.1,hb.2⟩⟩
theorem iR.tight(l:iR T S w g d F B n f h vi va vc):iR (fun k=>T k∧k<w.heap.size) (fun k=>S k∧k<w.heap.size) w g d F B n f h vi va vc :=
 ⟨l.I4.imp fun _ hlt hs=>⟨hs,hlt⟩,fun k hs=>⟨⟨(l.sub k hs.1).1,hs.2⟩,(l.sub k hs.1).2⟩,⟨l.here,l.ag.lt⟩,l.ag,l.yS.tight.imp fun _ hb=>⟨⟨hb.1.1,hb.2⟩,fun hs=>hb.1.2.1 hs.1,hb.1.2.2⟩⟩
theorem iR.held(l:iR T S w g d F B n f h vi va vc)(hd:cu (fun j=>S j∨w.heap.size<=j) w' d F' B')(hk:Kp (fun j _ => ¬S j) w w') :
 iR (fun j=>T j∨w.heap.size<=j) (fun j=>S j∨w.heap.size<=j) w' g d F' B' n f h vi va vc:=by
 have hg:=l.ag.lt;refine⟨hd,fun k hs => ?_, .inl l.here,hk.ag l.ag fun _ hs=>(l.sub g hs).2 rfl,((l.yS.tight).keep (hk.keep fun _ _ _ _ _ hp=>hp.1.2.1)).imp fun b hb=>⟨.inl hb.1.1,fun hs => ?_,hb.1.2.2⟩⟩
 ·rcases hs with hs | hs
  ·exact⟨.inl (l.sub k hs).1,(l.sub k hs).2⟩
  ·exact⟨.inr hs,by omega⟩
 ·have:=hb.2
  rcases hs with hs | hs
  ·exact hb.1.2.1 hs
  ·omega
theorem cW.keep(l:cW T w g d F B n f h)(hk:Kp (fun k _=>T k) w w'):cW T w' g d F B n f h:=by
 obtain⟨S,vi,va,vc,l⟩:=l;exact⟨S,vi,va,vc,l.keep hk⟩
theorem cW.imp{T' : Nat->Prop}(l:cW T w g d F B n f h)(ht : ∀k,T k->T' k):cW T' w g d F B n f h:=by
 obtain⟨S,vi,va,vc,l⟩:=l;exact⟨S,vi,va,vc,l.imp ht⟩
theorem cW.tight(l:cW T w g d F B n f h):cW (fun k=>T k∧k<w.heap.size) w g d F B n f h:=by
 obtain⟨S,vi,va,vc,l⟩:=l;exact⟨_,vi,va,vc,l.tight⟩
theorem cW.TI(l:cW T w g d F B n f h):cu T w d F B:=by
 obtain⟨S,vi,va,vc,l⟩:=l;exact l.I4.imp fun k _ hs=>(l.sub k hs).1
theorem iX.same(l:cW T w g d F B n f h)(hb:Below w.heap.size w w'):iX T w g d F B n f h w' := ⟨(l.keep (Kp.all hb)).imp fun _ ht => .inl ht,Kp.all hb⟩
end
structure Env(n0:Nat)(w:World):Prop where
 size:n0<=w.heap.size
 stay : ∀W,Below n0 w W->eh W∧bE W
theorem Env.on{n0:Nat}{w w' : World}(e:Env n0 w)(hb:Below n0 w w'):Env n0 w' := ⟨Nat.le_trans e.size hb.size,fun W h=>e.stay W (hb.trans h)⟩
theorem Env.up{n0:Nat}{w w' : World}(e:Env n0 w)(hb:Below w.heap.size w w'):Env n0 w' := e.on (hb.mono e.size)
theorem Env.crc{n0:Nat}{w:World}(e:Env n0 w):eh w:=(e.stay w (Below.refl _ _)).1
theorem Env.words{n0:Nat}{w:World}(e:Env n0 w):bE w:=(e.stay w (Below.refl _ _)).2
section
variable {T : Nat -> Prop} {w : World} {g d : Nat} {F : Dk.av} {B : List Dk.Op} {n f : Int} {h : Hd.az}
theorem uQ(l:cW T w g d F B n f h)(hk:Dk.sx B)(hs:Dk.wt F+2*Dk.mD B<=17592186044416) :
 Calls Tryz.prog 14 #[Wl.ptr g] w fun e w' => e = .returned (.tuple #[])∧iX T w g d (Dk.all F B) [] n f h w' := by
 obtain⟨S,vi,va,vc,l⟩:=l;have HC:=aa (Kq l.I4 hk hs);have c0:w.cell? ⟨g,0,none⟩=some (Wl.ptr d):=l.ag.cell 0 _ rfl;have HL:=aa l;clear l hk hs
 go_enter Tryz.func14,Tryz.ntmps14
 go_wp2_with (go_at_call 45;refine HC.mono ?_;rintro e w' ⟨rfl,hd,hkp⟩)
 go_end0
 exact⟨rfl,⟨_,vi,va,vc,HL.held hd hkp⟩,hkp.imp fun b _ _ ht hs=>ht (HL.sub b hs).1⟩
theorem qx(l:cW T w g d F B n f h):Calls Tryz.prog 23 #[Wl.ptr g] w (Says w (.int .i64 f)):=by
 obtain⟨S,vi,va,vc,l⟩:=l;have c2:w.cell? ⟨g,2,none⟩=some (.int .i64 f):=l.ag.cell 2 _ rfl;clear l
 go_enter Tryz.func23,Tryz.ntmps23
 go_wp2;go_ret;exact⟨rfl,rfl⟩
theorem Bw(l:cW T w g d F B n f h)(hs:Dk.mD B<=1099511627776):Calls Tryz.prog 29 #[Wl.ptr g] w (Looks w (.bool (decide (0<B.length)))):=by
 obtain⟨S,vi,va,vc,l⟩:=l;have HC:=aa (qy l.I4 hs);have c0:w.cell? ⟨g,0,none⟩=some (Wl.ptr d):=l.ag.cell 0 _ rfl;clear l hs
 go_enter Tryz.func29,Tryz.ntmps29
 go_wp2_with (go_at_call 28;refine HC.mono ?_;rintro e w' ⟨v,rfl,hv,hb⟩;obtain⟨o,c,rfl,_,_⟩:=hv.shape;have HB:=aa hb;clear hv hb)
 go_ret;exact⟨rfl,HB.out⟩
theorem Dt{ops:Array Oper}{rest:List Oper}{op:Oper}{a:Act}{Q:Exit->Act->World->Prop}{dv vi va vc:Value}(hgd:op.guard=none)(x:Operand)(ho:op.op = .load 33 x)(hx:a.eval x = .pointer (some ⟨g,3,none⟩))(hl:ae w g 78 (Wl.cells dv n f h vi va vc))
 (hK:wpList Tryz.prog ops Q rest (a.put op.dst (.agg (Hd.cells h vi va vc))) w):wpList Tryz.prog ops Q (op :: rest) a w :=
 wpList_load_mid hgd _ x ho g 3 hx (Hd.cells h vi va vc).toList _ (fun j v hv=>by
  have hv' : (Hd.cells h vi va vc)[j]? = some v:=by simpa using hv
  have:(Wl.cells dv n f h vi va vc)[3+j]? = some v:=by
   match j,hv' with
   | 0,hv=>exact hv
   | 1,hv=>exact hv
   | 2,hv=>exact hv
   | 3,hv=>exact hv
   | 4,hv=>exact hv
   | 5,hv=>exact hv
   | j+6,hv=>simp[Hd.cells]at hv
  exact hl.cell (3+j) v this) Tryz.underlying33 rfl (by kernel_rfl) hK
theorem Du(l:cW T w g d F B n f h)(hf:h.G2):Calls Tryz.prog 22 #[Wl.ptr g] w (sy (fun b=>w.heap.size<=b) w h):=by
 obtain⟨S,vi,va,vc,l⟩:=l;obtain⟨w1,e1,hz1,aq,hs1⟩:=eA w 33;have dh:=aa (l.ag.below aq l.ag.lt);have oC:=aa hz1;have aG:=aa aq;have HC:=aa (Bq h vi va vc w1 (l.yS.rows.below aq) hf);clear hz1 aq l hf hs1
 go_enter Tryz.func22,Tryz.ntmps22
 go_wp2_with (refine Dt rfl _ rfl rfl dh.out ?_)
 refine HC.mono ?_;rintro e w3 ⟨ui,ua,uc,rfl,hr3,hb3⟩;have oH:=aa hr3;have bh:Hid (Below w.heap.size w w3):=aG.trans (hb3.mono aG.size);have pH:=aa (oC.below hb3 oC.ag.lt);have vN:Hid (aB (w3.alloc (.cells (Hd.cells h ui ua uc) 33)) w3.heap.size 33 h.aC h.base ui ua uc):=⟨ae.new _ _ _,hr3.rows.sl.1,hr3.rows.sl.2.1,hr3.rows.sl.2.2⟩;clear hr3 hb3
 go_wp2_with (refine cT rfl _ _ rfl rfl pH.out vN.out rfl ?_;intro w9 gR cM;have jl:=aa gR;have gI:=aa cM;clear gR cM)
 refine gX rfl rfl jl.out rfl ?_;exact⟨_,_,_,rfl,(oH.over pH.out gI.out).imp fun b hb=>Nat.le_trans aG.size hb,bh.grown gI.out bh.size (by rintro j hj;cases hj;exact Nat.le_refl _)⟩
end
end
end Go.Proofs.YtdkdjofnnnljjaaGreatDoor

namespace Go.Proofs.YtdkdjofnnnljjaaGreatDoor
open Go.RowKit
set_option maxHeartbeats 3200000
set_option maxRecDepth 8000
theorem Wl.Dv{F:Dk.av}{k:Nat}{q:Int × List UInt8}(h:F[k]? = some q):Wl.j9 (F.take (k+1))=max (Wl.j9 (F.take k)) q.1:=by rw[List.take_add_one,h];exact Wl.oZ _ _
theorem Wl.Dw{a:Int}{B:List Dk.Op}{k:Nat}{x:Dk.Op}(h:B[k]? = some x):Wl.ke a (B.take (k+1))=if x.kind=1 then max (Wl.ke a (B.take k)) x.no else Wl.ke a (B.take k):=by rw[List.take_add_one,h];exact Wl.o6 _ _ _
theorem Dx{S:Nat->Prop}{w:World}{d:Nat}{F:Dk.av}{B:List Dk.Op}(h:cu S w d F B){N M:Nat}(s:Wl.eJ F B N M)(hN:N<=1000)(hM:M<=1000000000) :
 Calls Tryz.prog 68 #[Wl.ptr d] w (Looks w (.int .i64 (Wl.next F B))):=by
 have hw:=s.wt;have hlf:=Dk.mz F;have Pj:=Dk.j4 B;have HC:=aa (xB h (by omega))
 have TJ:=aa (fun W (hb:Below w.heap.size w W)=>qy (h.below hb) (by omega))
 have Bx:=s.next;obtain⟨z,hz⟩ : ∃z,z=Wl.next F B:=⟨_,rfl⟩;rw[<- hz]at Bx ⊢
 have HZ:=aa hz;have WX:z<=1001:=by omega
 have hz1:=Wl.mL F B;rw[<- hz]at hz1
 have hF9:F.length<=1000000000:=by omega
 have ZE:B.length<=1000000000:=by omega
 clear h s hN hM hw hz Bx hlf Pj
 go_enter Tryz.func68,Tryz.ntmps68
 go_wp2_with (go_at_call 25;refine HC.mono ?_;rintro e w1 ⟨v1,rfl,Jy,hb1⟩;obtain⟨fo,fc,rfl,hc1,CD⟩:=Jy.shape)
 have HP:=aa (fun x=>cJ.places Jy (fun a u=>⟨_,rfl⟩) x)
 have aG:=aa hb1;obtain⟨n,hn⟩ : ∃n,n=F.length:=⟨_,rfl⟩;rw[<- hn]at hc1 HP hF9 ⊢
 have HN:=aa hn;have SZ:(n:Int)<=1000000000:=by omega
 clear Jy hb1 hn HC;go_wp2
 go_loopw [3,11] (fun y i wr => ∃(k:Nat) (m:Int),i = .int .i64 (k:Int)∧k<=n∧y = .int .i64 m∧Hid (m=Wl.j9 (F.take k))∧Hid (Below w1.heap.size w1 wr)) (fun _ i _=>n - (intOf i).toNat)
 case atStart=>exact⟨0,0,rfl,by omega,rfl,rfl,Below.refl _ _⟩
 case round =>
  obtain⟨k,m,rfl,hk,rfl,HM,HB⟩:=hrel;by_cases hlt:k<n
  ·have WA:(k:Int)<(n:Int):=by omega
   obtain⟨q,hq⟩ : ∃q,F[k]? = some q:=⟨_,List.getElem?_eq_getElem (by have:=HN.out;omega)⟩
   obtain⟨g,off,rfl,_,hc⟩:=HP.out (by have:=HN.out;omega)
   obtain⟨u,hu,hcell⟩:=hc k q hq;obtain⟨uo,uc,rfl⟩:=hu.1.shape;have hcw:=hcell wr HB.out;have m0:wr.cell? ⟨g,off+k*2,none⟩=some (.int .i64 q.1):=hcw 0 _ rfl;have m1:wr.cell? ⟨g,off+k*2+1,none⟩=some (.slice uo q.2.length uc):=hcw 1 _ rfl;obtain⟨m2,zH⟩ : ∃m2,max m q.1=m2:=⟨_,rfl⟩;have dE:Hid (m2=Wl.j9 (F.take (k+1))):=by show _=_;rw[Wl.Dv hq, <- HM.out,zH]
   have pS:Hid (Below w1.heap.size w1 (wr.alloc (.cells (Dk.iY q (.slice uo q.2.length uc)) 72))):=HB.alloc HB.size _;clear hc hu hcell hcw hq;go_wp2
   go_roundw
   case rel=>exact⟨k+1,m2,by go_num,by omega,rfl,dE.out,pS.out⟩
   case measure=>simp[intOf];omega
  ·obtain rfl:n=k:=by omega
   have HLF:Hid (m=Wl.j9 F):=by have h:=HM.out;rw[List.take_of_length_le (by have:=HN.out;omega)]at h;exact h
   have pJ:Hid (Below w.heap.size w wr):=aG.trans (HB.mono aG.size);have Xh:=aa (TJ.out wr pJ.out)
   go_wp2_with (go_at_call 28;refine Xh.mono ?_;rintro e w2 ⟨v2,rfl,lY,hb2⟩;obtain⟨bo,bc,rfl,hc2,zH⟩:=lY.shape)
   have ZF:=aa (fun x=>cJ.places lY (fun a u=>⟨_,rfl⟩) x)
   have aR:Hid (Below w.heap.size w w2):=pJ.trans (hb2.mono pJ.size);obtain⟨nb,hnb⟩ : ∃n,n=B.length:=⟨_,rfl⟩;rw[<- hnb]at hc2 ZF ZE ⊢
   have QJ:=aa hnb;have abV:(nb:Int)<=1000000000:=by omega
   clear lY hb2 hnb TJ Xh HM HB pJ;go_wp2
   go_loopw [3,23] (fun y i wr => ∃(k:Nat) (p:Int),i = .int .i64 (k:Int)∧k<=nb∧y = .int .i64 p∧Hid (p=Wl.ke m (B.take k))∧Hid (Below w2.heap.size w2 wr)) (fun _ i _=>nb - (intOf i).toNat)
   case atStart=>exact⟨0,m,rfl,by omega,rfl,rfl,Below.refl _ _⟩
   case round =>
    obtain⟨k,p,rfl,hk,rfl,HM,HB⟩:=hrel;by_cases hlt:k<nb
    ·have WA:(k:Int)<(nb:Int):=by omega
     obtain⟨q,hq⟩ : ∃q,B[k]? = some q:=⟨_,List.getElem?_eq_getElem (by have:=QJ.out;omega)⟩
     obtain⟨g,off,rfl,_,hc⟩:=ZF.out (by have:=QJ.out;omega)
     obtain⟨u,hu,hcell⟩:=hc k q hq;obtain⟨uo,uc,rfl⟩:=hu.1.shape;have hcw:=hcell wr HB.out;have m0:wr.cell? ⟨g,off+k*3,none⟩=some (.int .i64 q.kind):=hcw 0 _ rfl;have m1:wr.cell? ⟨g,off+k*3+1,none⟩=some (.int .i64 q.no):=hcw 1 _ rfl;have m2:wr.cell? ⟨g,off+k*3+2,none⟩=some (.slice uo q.data.length uc):=hcw 2 _ rfl;obtain⟨m3,M8⟩ : ∃m3,max p q.no=m3:=⟨_,rfl⟩;have HT:=aa (Wl.Dw (a:=m) hq);have pS:Hid (Below w2.heap.size w2 (wr.alloc (.cells (Dk.ay q (.slice uo q.data.length uc)) 91))):=HB.alloc HB.size _;clear hc hu hcell hcw hq;by_cases jb:q.kind=1
     ·have hkb:(q.kind == 1)=true:=by simpa using jb
      have dE:Hid (m3=Wl.ke m (B.take (k+1))):=by show _=_;rw[HT.out,if_pos jb, <- HM.out,M8]
      clear jb;go_wp2
      go_roundw
      case rel=>exact⟨k+1,m3,by go_num,by omega,rfl,dE.out,pS.out⟩
      case measure=>simp[intOf];omega
     ·have hkb:(q.kind == 1)=false:=by simpa using jb
      have dE:Hid (p=Wl.ke m (B.take (k+1))):=by show _=_;rw[HT.out,if_neg jb];exact HM.out
      clear jb M8;go_wp2
      go_roundw
      case rel=>exact⟨k+1,p,by go_num,by omega,rfl,dE.out,pS.out⟩
      case measure=>simp[intOf];omega
    ·obtain rfl:nb=k:=by omega
     have hpz:p+1=z:=by
      have h:=HM.out;rw[List.take_of_length_le (by have:=QJ.out;omega)]at h
      rw[HZ.out,h,HLF.out]
      rfl
     have HBF:Hid (Below w.heap.size w wr):=aR.trans (HB.mono aR.size);obtain rfl:p=z - 1:=by omega
     clear hpz HM;go_wp2;go_ret;exact⟨by first | rfl | (trace_state;simp),HBF.out⟩
end Go.Proofs.YtdkdjofnnnljjaaGreatDoor

namespace Go.Proofs.YtdkdjofnnnljjaaGreatDoor
open Go.RowKit
set_option maxHeartbeats 3200000
set_option maxRecDepth 8000
section
section
variable {ops : Array Oper} {rest : List Oper} {op : Oper} {a : Act} {w : World} {Q : Exit -> Act -> World -> Prop} {g : Nat} {dv : Value} {n f : Int} {h : Hd.az} {vi va vc : Value}
theorem Kr(hgd:op.guard=none)(x y:Operand)(ho:op.op = .store 3 x y)(m:Int)(hx:a.eval x = .pointer (some ⟨g,1,none⟩))(hy:a.eval y = .int .i64 m)(hl:ae w g 78 (Wl.cells dv n f h vi va vc))
 (hK : ∀w', ae w' g 78 (Wl.cells dv m f h vi va vc)->w.grownBy w' (some g)->wpList Tryz.prog ops Q rest (a.put op.dst undef) w'):wpList Tryz.prog ops Q (op :: rest) a w :=
 aP hgd _ x y ho g 1 _ _ (Wl.cells dv m f h vi va vc) (.int .i64 m) [.int .i64 m] hx hy rfl (by kernel_rfl) rfl hl (Nat.le_of_ble_eq_true rfl) rfl hK
end
theorem iR.turn{T S:Nat->Prop}{w w' : World}{g d:Nat}{F:Dk.av}{B:List Dk.Op}{n f m f' : Int}{h:Hd.az}{vi va vc:Value}(l:iR T S w g d F B n f h vi va vc)(hl:ae w' g 78 (Wl.cells (Wl.ptr d) m f' h vi va vc))(hg:w.grownBy w' (some g)):iR T S w' g d F B m f' h vi va vc :=
 ⟨l.I4.keep (Kp.aI hg fun b o e _ hs=>by simp only[Option.some.injEq]at e;subst e;exact(l.sub _ hs).2 rfl),l.sub,l.here,hl,l.yS.keep (dS.aI hg fun b cs t fr e _ hp=>by simp only[Option.some.injEq]at e;subst e;exact hp.2.2 rfl)⟩
def Ks(T S:Nat->Prop)(w:World)(g d:Nat)(F:Dk.av)(B:List Dk.Op)(n f:Int)(h:Hd.az)(vi va vc:Value)(e:Ending)(w' : World):Prop :=
 e = .returned (.tuple #[]) ∧ ∃S', iR (fun j=>T j∨w.heap.size<=j) S' w' g d F B n f h vi va vc∧(∀j,S' j->S j∨w.heap.size<=j)∧Kp (fun j _ => ¬S j∧j≠g) w w'
theorem Wl.Bz(n:Int)(head:List UInt8)(V:Dk.av)(q:Int × List UInt8):Wl.cv n head (V ++ [q])=Wl.cv n head V ++ [⟨3,q.1, []⟩]:=by simp[Wl.cv]
theorem Wl.Dy(n:Int)(head:List UInt8)(V:Dk.av):(Wl.cv n head V).length=V.length+2:=by simp[Wl.cv]
theorem wu{T S:Nat->Prop}{w:World}{g d:Nat}{F:Dk.av}{B:List Dk.Op}{n0 f:Int}{h:Hd.az}{vi va vc:Value}(l:iR T S w g d F B n0 f h vi va vc)(hS : ∀k,S k->k<w.heap.size)(n:Int)(hn:1<=n∧n<=4294967296)
 (v:Value) (head:List UInt8) (hv:Reads w v head) (hvp:jh (fun b => ¬S b) v) (hh:head.length<=1000000) {N M:Nat} (s:Wl.eJ F B N M) (hN:N<=1000) (hM:M<=1000000000) :
 Calls Tryz.prog 67 #[Wl.ptr g, .int .i64 n,v] w (Ks T S w g d F (B++Wl.cv n head (Dk.all F B)) n f h vi va vc):=by
 have hw:=s.wt;have mC:=s.kinds hN;have Dz:=s.count;have TK : ∀q∈Dk.all F B,1<=q.1∧q.1<=4294967296:=fun q hq=>by have:=s.all.files q hq;omega
 have Pj:=Dk.j4 B;have HC:=aa (BA l.I4 mC (by omega))
 obtain⟨vo,TL,rfl⟩:=hv.shape;have HL:=aa l;have HV:=aa hv;have VO:=aa hvp;have HH:=aa hh;have HN:=aa hn;have ZG:=aa TK;have HS:=aa hS;have c0:w.cell? ⟨g,0,none⟩=some (Wl.ptr d):=l.ag.cell 0 _ rfl;obtain⟨V,hV⟩ : ∃V,V=Dk.all F B:=⟨_,rfl⟩;rw[<- hV]at HC ZG Dz ⊢
 have ZH:Hid (V.length<=1000):=Nat.le_trans Dz hN;have ow:Hid (B.length<=1000000000):=by show _<=_;omega
 clear l hv hvp hh hn TK s hN hM hw mC Pj hS hV Dz
 go_enter Tryz.func67,Tryz.ntmps67
 go_wp2_with (go_at_call 51;refine HC.mono ?_;rintro e w1 ⟨v1,rfl,Jy,hb1⟩;obtain⟨fo,fc,rfl,hc1,CD⟩:=Jy.shape;have aH:=HL.keep (Kp.all hb1);have c1:w1.cell? ⟨g,0,none⟩=some (Wl.ptr d):=aH.ag.cell 0 _ rfl;have ZI:=aa (Kt aH.I4 n (by have:=ow.out;omega)))
 have Xi:Hid (∀W,Kp (fun j _ => ¬S j) w1 W->W.cell? ⟨g,0,none⟩=some (Wl.ptr d)):=fun W hk=>(hk.ag aH.ag fun _ hs=>(HL.sub g hs).2 rfl).cell 0 _ rfl
 have HKV:Hid (∀W,Kp (fun j _ => ¬S j) w1 W->Reads W (.slice vo head.length TL) head):=fun W hk=>((Reads.AW (HV.below hb1) VO.out).keep (hk.keep fun _ _ _ _ _ hp=>hp)).1
 have ZJ:Hid (∀W,Kp (fun j _ => ¬S j) w1 W->pn (fun k _=>w.heap.size<=k) W (.slice fo V.length fc) V):=fun W hk=>cJ.keep Jy (hk.keep fun b _ _ _ _ hp hs=>by have:=HS.out b hs;exact absurd hp (by omega))
 have dh:=aa aH;have aG:=aa hb1;clear Jy hb1 aH HC HV VO c0;refine ZI.mono ?_;rintro e w2 ⟨rfl,M1,hk2⟩;rw[if_pos HN.out]at M1
 have c2:=Xi.out w2 hk2;have HD2:=aa M1;have sZ:=aa hk2;have G7:=aa (Fp M1 n (.slice vo head.length TL) head (HKV.out w2 hk2) (by have:=HH.out;omega) (by rw[List.length_append];have:=ow.out;simp;omega))
 clear M1 hk2 ZI c1
 go_wp2_with fail
 refine G7.mono ?_;rintro e w3 ⟨rfl,CE,hk3⟩;rw[if_pos HN.out]at CE
 have hs2:=sZ.size;have ZK:cu (fun j=>S j∨w1.heap.size<=j) w3 d F (B++Wl.cv n head (V.take 0)):=by
  have e:B++Wl.cv n head (V.take 0)=B ++ [⟨1,n, []⟩] ++ [⟨2,n,head⟩]:=by simp[Wl.cv]
  rw[e];exact CE.imp fun j _ hs=>by
   rcases hs with hs | hs
   ·exact hs
   ·exact .inr (Nat.le_trans hs2 hs)
 have hK3:Kp (fun j _ => ¬S j) w1 w3:=sZ.then hk3 fun b o h hs kB => by
  rcases kB with kB | kB
  ·exact hs kB
  ·have:=aK h;omega
 have Sm:=aa ZK;have jz:=aa hK3;obtain⟨m,hm⟩ : ∃m,m=V.length:=⟨_,rfl⟩;have HM:=aa hm;rw[<- hm]at hc1 ZJ ⊢
 have hm9:(m:Int)<=1000:=by have:=ZH.out;omega
 clear CE hk3 ZK hK3 G7 c2 HD2 sZ hs2 hm;go_wp2
 go_loopw [29] (fun i wr => ∃k:Nat,i = .int .i64 (k:Int)∧k<=m∧Hid (cu (fun j=>S j∨w1.heap.size<=j) wr d F (B++Wl.cv n head (V.take k)))∧Hid (Kp (fun j _ => ¬S j) w1 wr)) (fun i _=>m - (intOf i).toNat)
 case atStart=>exact⟨0,rfl,by omega,Sm.out,jz.out⟩
 case round =>
  clear Sm jz;obtain⟨k,rfl,hk,HD,HK⟩:=hrel;by_cases hlt:k<m
  ·have WA:(k:Int)<(m:Int):=by omega
   obtain⟨q,hq⟩ : ∃q,V[k]? = some q:=⟨_,List.getElem?_eq_getElem (by have:=HM.out;omega)⟩
   obtain⟨fg,off,rfl,_,hc⟩:=cJ.places (ZJ.out wr HK.out) (fun a u=>⟨_,rfl⟩) (by have:=HM.out;omega)
   obtain⟨u,hu,hcell⟩:=hc k q hq;obtain⟨uo,uc,rfl⟩:=hu.1.shape;have hcw:=hcell wr (Below.refl _ _);have m0:wr.cell? ⟨fg,off+k*2,none⟩=some (.int .i64 q.1):=hcw 0 _ rfl;have m1:wr.cell? ⟨fg,off+k*2+1,none⟩=some (.slice uo q.2.length uc):=hcw 1 _ rfl;have HQ:=aa (ZG.out q (List.mem_of_getElem? hq));have HT:Hid (Wl.cv n head (V.take (k+1))=Wl.cv n head (V.take k) ++ [⟨3,q.1, []⟩]):=by show _=_;rw[List.take_add_one,hq];exact Wl.Bz _ _ _ _
   obtain⟨w4,e4⟩ : ∃w4,w4=wr.alloc (.cells (Dk.iY q (.slice uo q.2.length uc)) 72):=⟨_,rfl⟩;have hl4:ae w4 wr.heap.size 72 (Dk.iY q (.slice uo q.2.length uc)):=by rw[e4];exact ae.new _ _ _
   have hb4:Below wr.heap.size wr w4:=by rw[e4];exact(Below.refl _ wr).alloc (Nat.le_refl _) _
   dsimp only [Dk.iY]at e4
   have zF:=aa hl4;have bJ:=aa hb4;have HD4:=aa (((HD.imp (S' := fun j=>(S j∨w1.heap.size<=j)∧j<wr.heap.size) fun _ hlt hs=>⟨hs,hlt⟩).below hb4).below (drawn w4 1))
   have ET:Hid (Kp (fun j _ => ¬S j) w1 w4.drew):=HK.trans ((Kp.all hb4).trans (Kp.drew w4))
   have Fq:=aa (Ku HD4.out q.1 (by rw[List.length_append,Wl.Dy,List.length_take];have:=ow.out;have:=ZH.out;omega))
   have k0:=Xi.out _ ET.out;have k1:w4.drew.cell? ⟨wr.heap.size,0,none⟩=some (.int .i64 q.1):=(hl4.below (drawn w4 1) hl4.lt).cell 0 _ rfl;clear hc hu hcell hcw hq hl4 hb4;go_wp2;rw[<- e4];clear e4 m0 m1;refine wp_region_held_drew (S:=fun W=>W.cell? ⟨g,0,none⟩=some (Wl.ptr d)∧W.cell? ⟨wr.heap.size,0,none⟩=some (.int .i64 q.1)) (by kernel_rfl) ⟨k0,k1⟩ (fun hHeld => ?_)
   clear k0 k1;refine bH 0 rfl hHeld ?_;refine bH 1 rfl hHeld ?_;refine bH 2 rfl hHeld ?_;refine bH 3 rfl hHeld ?_ (by intro W hSw;obtain⟨s1,s2⟩:=hSw;go_simp;(try with_reducible rfl))
   refine bH 4 rfl hHeld ?_;refine bH 5 rfl hHeld ?_ (by intro W hSw;obtain⟨s1,s2⟩:=hSw;go_simp;(try with_reducible rfl))
   refine wpAnyH_ready (rs := [6]) (by kernel_rfl) (by simp) ?_
   refine AllReadyH.cons rfl (fun K hK => ?_) AllReadyH.nil
   rw[if_pos (by kernel_rfl)]
   go_simp
   go_at_call 89
   refine Fq.mono ?_;rintro e w5 ⟨rfl,S9,Su⟩;rw[if_pos HQ.out]at S9
   have tY:=ET.size;have Xj:Kp (fun j _ => ¬S j) w1 w5:=ET.then Su fun b o h hs kB => by
    rcases kB.1 with kB | kB
    ·exact hs kB
    ·have:=aK h;omega
   have ZL:cu (fun j=>S j∨w1.heap.size<=j) w5 d F (B++Wl.cv n head (V.take (k+1))):=by
    rw[HT.out, <- List.append_assoc];exact S9.imp fun j _ hs=>by
     rcases hs with hs | hs
     ·exact hs.1
     ·exact .inr (Nat.le_trans tY hs)
   have h1:w5.cell? ⟨wr.heap.size,0,none⟩=some (.int .i64 q.1):=(Su.ag (zF.below (drawn w4 1) zF.lt) fun _ hs=>Nat.lt_irrefl _ hs.2).cell 0 _ rfl
   have VP:=aa ZL;have zV:=aa Xj;refine hK.out _ _ ⟨Xi.out w5 Xj,h1⟩ (fun hHeld => ?_)
   clear hK K S9 Su ZL Xj h1 tY;refine wpAnyH_done (by kernel_rfl) ?_ _
   clear hHeld;go_wp2
   go_roundw
   case rel=>exact⟨k+1,by go_num,by omega,VP.out,zV.out⟩
   case measure=>simp[intOf];omega
  ·obtain rfl:m=k:=by omega
   have hall:V.take m=V:=List.take_of_length_le (by have:=HM.out;omega)
   rw[hall]at HD
   have gP:=dh.held HD.out HK.out;have oy:=aa gP;have Tp:=gP.ag;clear hall gP
   go_wp2_with (refine Kr rfl _ _ rfl n rfl rfl oy.ag ?_;intro w9 gP cM;have xA:=aa gP;have gI:=aa cM;clear gP cM)
   go_end0
   have hs1:=aG.size;refine⟨rfl,_,(oy.turn xA.out gI.out).imp fun j hj => ?_,fun j hj => ?_, ?_⟩
   ·rcases hj with hj | hj
    ·exact .inl hj
    ·exact .inr (Nat.le_trans hs1 hj)
   ·rcases hj with hj | hj
    ·exact .inl hj
    ·exact .inr (Nat.le_trans hs1 hj)
   ·exact((Kp.all aG.out).trans (HK.imp fun b o _ h=>h.1)).trans (Kp.aI gI.out fun b o e _ h=>by simp only[Option.some.injEq]at e;exact h.2 e.symm)
end
end Go.Proofs.YtdkdjofnnnljjaaGreatDoor
