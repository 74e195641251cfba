/- Several texts of mine in one: WlPeek WlOpen WlOk WlAwake WlNobody SgApp GSc. -/
import Derived.Test.YtdkdjofnnnljjaaGreatDoorPSgRead
import Derived.Test.YtdkdjofnnnljjaaGreatDoorPMsCame
import Derived.Test.YtdkdjofnnnljjaaGreatDoorPGFs
import Derived.Test.YtdkdjofnnnljjaaGreatDoorPDkBuf
import Derived.Test.YtdkdjofnnnljjaaGreatDoorPRound
import Derived.Test.YtdkdjofnnnljjaaGreatDoorPWlRepl
import Derived.Test.YtdkdjofnnnljjaaGreatDoorPSgMem
namespace Go.Proofs.YtdkdjofnnnljjaaGreatDoor
open Go.RowKit
set_option maxHeartbeats 3200000
set_option maxRecDepth 100000
section
open Go.RowKit Go.Shelf
attribute [local go_sem] Oper.semAt_some
def EL(w:World)(F:Dk.av)(e:Ending)(w' : World):Prop :=
 ∃f h vi va vc,e = .returned (.tuple #[.int .i64 f, .agg (Hd.cells h vi va vc)])∧Wl.ey F f h∧bL (fun b=>w.heap.size<=b) w' h vi va vc∧Below w.heap.size w w'
def xX(w:World)(F:Dk.av)(pre:List zu)(W:World):Prop :=
 ae W w.heap.size 3 #[.int .i64 0]∧aB W (w.heap.size+1) 33 Bl.zero 0 Nil Nil Nil∧(∀q∈F.drop (F.length - pre.length),Sg.kR q.2)∧Below w.heap.size w W
def MT(w:World)(F:Dk.av)(_:List zu)(W:World):Prop :=
 ∃f h vi va vc,ae W w.heap.size 3 #[.int .i64 f]∧aB W (w.heap.size+1) 33 h.aC h.base vi va vc∧bL (fun b=>w.heap.size<=b) W h vi va vc∧Wl.ey F f h∧Below w.heap.size w W
theorem aB.Ve{W W' : World}{row:Option Nat}{g:Nat}{T:TypeId}{p:Bl.dM}{b:Int}{vi va vc:Value}(h:aB W g T p b vi va vc)(hg:W.grownBy W' row)(hr : ∀r,row=some r -> ∃o:Obj,W.heap[r]? = some o∧o.isCells=false):aB W' g T p b vi va vc:=⟨oa h.ag hg hr,h.vi,h.va,h.vc⟩
theorem IF(w:World)(F:Dk.av)(B:Nat)(hB:w.heap.size<=B):OwnFrom B (xX w F):=by
 rintro pre W W' row ⟨h1,h2,h3,h4⟩ hg hr;have hr' : ∀r,row=some r -> ∃o:Obj,W.heap[r]? = some o∧o.isCells=false:=fun r e=>(hr r e).2
 exact⟨oa h1 hg hr', h2.Ve hg hr', h3,vB h4 hg h4.size (fun r e=>(hr r e).1) hB⟩
theorem xY(w:World)(F:Dk.av)(B:Nat)(hB:w.heap.size<=B):OwnFrom B (MT w F):=by
 rintro pre W W' row ⟨f,h,vi,va,vc,h1,h2,h3,h4,h5⟩ hg hr;have hr' : ∀r,row=some r -> ∃o:Obj,W.heap[r]? = some o∧o.isCells=false:=fun r e=>(hr r e).2
 exact⟨f,h,vi,va,vc,oa h1 hg hr', h2.Ve hg hr', h3.keep (xO hg hr'),h4,vB h5 hg h5.size (fun r e=>(hr r e).1) hB⟩
theorem IG{F:Dk.av}{m i:Nat}{n:Int}{d:List UInt8}(hlen:F.length=m+i+1)(hat:F[i]? = some (n,d))(hd:Sg.kR d)(h : ∀q∈F.drop (F.length - m),Sg.kR q.2) : ∀q∈F.drop (F.length - (m+1)),Sg.kR q.2:=by
 have e:F.drop (F.length - (m+1))=(n,d) :: F.drop (F.length - m):=by
  rw[show F.length - (m+1)=i by omega,show F.length - m=i+1 by omega]
  have hi:i<F.length:=by omega
  rw[List.drop_eq_getElem_cons hi];rw[List.getElem?_eq_getElem hi,Option.some.injEq]at hat
  rw[hat]
 rw[e];intro q hq
 rcases List.mem_cons.1 hq with rfl | hq
 ·exact hd
 ·exact h q hq
theorem OS{F:Dk.av}{m i:Nat}{n:Int}{d:List UInt8}(hlen:F.length=m+i+1)(hat:F[i]? = some (n,d)){f:Int}{h:Hd.az}(hd:Wl.kS d f h)(ht : ∀q∈F.drop (F.length - m),Sg.kR q.2):Wl.ey F f h:=by
 refine .inl ⟨F.take i,n,d,F.drop (i+1), ?_,hd,fun q hq=>ht q (by rw[show F.length - m=i+1 by omega];exact hq)⟩
 have hi:i<F.length:=by omega
 rw[List.getElem?_eq_getElem hi,Option.some.injEq]at hat
 rw[<- hat, <- List.drop_eq_getElem_cons hi,List.take_append_drop]
theorem II{F:Dk.av}{m:Nat}(hm:m=F.length)(ht : ∀q∈F.drop (F.length - m),Sg.kR q.2):Wl.ey F 1 Hd.zero :=
 .inr ⟨fun q hq=>ht q (by rw[hm,Nat.sub_self];exact hq),rfl,rfl⟩
theorem xX.below{w:World}{F:Dk.av}{pre:List zu}{W W' : World}(h:xX w F pre W)(hb:Below W.heap.size W W'):xX w F pre W' :=
 ⟨h.1.below hb h.1.lt,h.2.1.below hb h.2.1.ag.lt,h.2.2.1,h.2.2.2.trans (hb.mono h.2.2.2.size)⟩
theorem sS{B:Nat}{A A' : World}(hb:Below A.heap.size A A'):KeepsFrom B A A' := ⟨hb.size,fun k _ _ h _=>(hb.block k (aK h)).trans h⟩
theorem IJ{B:Nat}{A:World}{l:Nat}{o:Obj}(o' : Obj)(hl:B<=l)(h:A.heap[l]? = some o):Below B A (A.putObj l o'):=(Below.refl B A).grown (grownBy_putObj' A l o') (Nat.le_trans hl (Nat.le_of_lt (aK h))) fun k e=>by simp only[Option.some.injEq]at e;omega
def Vf(dx:Option Addr)(r2 r3 n0:Nat)(v:Value)(x:zu)(a:Act)(A:World):Prop :=
 ∃g,a={ tmps := #[.pointer dx,undef, .pointer (some ⟨r2,0,none⟩), .pointer (some ⟨r3,0,none⟩),undef, .pointer (some ⟨g,0,none⟩),undef,undef, .pointer dx,v, .func (.func 77) #[] #[.pointer (some ⟨n0,0,none⟩)], .int .i64 (x.idx:Int), .agg #[.int .i64 x.no,x.val],undef,undef,undef,undef,undef,undef,undef,undef,undef,undef,undef,undef,undef,undef],defers := [] }∧ae A g 72 #[.int .i64 x.no,x.val]
theorem wE{fn:Func}{p q:Tmp}{ty tz:TypeId}(h:fn.results = #[.cell p ty, .cell q tz])(tmps:Array Value)(P:Program)(w:World) :
 (results fn tmps).run P w=((asAddr (tmps.getD p undef)).run P w).andThen fun a w₁=>((loadVar ty a).run P w₁).andThen fun v w₂=>((asAddr (tmps.getD q undef)).run P w₂).andThen fun b w₃=>((loadVar tz b).run P w₃).andThen fun u w₄ => .ok (.tuple #[v,u]) w₄:=by
 simp only[results,h];simp[Sem.run_bind,Result.andThen]
theorem OT(w:World)(g:Nat)(x:Int)(h:ae w g 3 #[.int .i64 x]):(loadVar 3 ⟨g,0,none⟩).run Tryz.prog w = .ok (.int .i64 x) w:=by
 have c0:w.cell? ⟨g,0,none⟩=some (.int .i64 x):=h.cell 0 _ rfl;go_simp
theorem Cx{w W:World}{F:Dk.av}{xs:List zu}{tmps:Array Value}{D:Nat}(h2:tmps.getD 2 undef = .pointer (some ⟨w.heap.size,0,none⟩))(h3:tmps.getD 3 undef = .pointer (some ⟨w.heap.size+1,0,none⟩))(hx:MT w F xs W)(hD:w.heap.size<=D)(hK:W.heap[D]? = some (.deferred (some []))) :
 bodyPostM Fence.wide 9 Tryz.prog Tryz.f19 (EL w F) .ret { tmps:=tmps,defers := [{ target:=Target.collected D,args := #[] }] } W:=by
 obtain⟨f,h,vi,va,vc,l1,l2,l3,l4,l5⟩:=xY w F w.heap.size (Nat.le_refl _) xs W (W.putObj D (.deferred none)) (some D) hx (grownBy_putObj' W D _) fun r e=>by cases e;exact⟨hD,_,hK,rfl⟩
 refine⟨by simp, .inl ⟨_,_,rfl,run_takeDeferred hK, ?_⟩⟩
 refine⟨.tuple #[.int .i64 f, .agg (Hd.fQ h.aC h.base vi va vc)], ?_,f,h,vi,va,vc,rfl,l4,l3,l5⟩;rw[wE rfl];dsimp only;rw[h2,h3];simp[asAddr,Result.andThen,OT _ _ _ l1,qj _ _ _ _ _ _ _ l2]
theorem aB.zeros{w:World}{g:Nat}{T:TypeId}{p:Bl.dM}{b:Int}{vi va vc:Value}(h:aB w g T p b vi va vc) :
 aB ((((((w.setCell ⟨g,0,none⟩ (.int .i64 0)).setCell ⟨g,1,none⟩ (.int .i64 0)).setCell ⟨g,2,none⟩ (.int .i64 0)).setCell ⟨g,3,none⟩ Nil).setCell ⟨g,4,none⟩ Nil).setCell ⟨g,5,none⟩ Nil) g T Bl.zero 0 Nil Nil Nil ∧
 w.grownBy ((((((w.setCell ⟨g,0,none⟩ (.int .i64 0)).setCell ⟨g,1,none⟩ (.int .i64 0)).setCell ⟨g,2,none⟩ (.int .i64 0)).setCell ⟨g,3,none⟩ Nil).setCell ⟨g,4,none⟩ Nil).setCell ⟨g,5,none⟩ Nil) (some g) :=
 ⟨⟨(((((h.ag.set 0 _).set 1 _).set 2 _).set 3 _).set 4 _).set 5 _,⟨_,_,_,rfl⟩,⟨_,_,_,rfl⟩,⟨_,_,_,rfl⟩⟩,aM (aM (aM (aM (aM (au _ _ _ _) (au _ _ _ _)) (au _ _ _ _)) (au _ _ _ _)) (au _ _ _ _)) (au _ _ _ _)⟩
theorem OU(dv:Value)(F:Dk.av)(w:World)(hd : ∃x,dv = .pointer x)(PD : ∀W,Below w.heap.size w W->Calls Tryz.prog 51 #[dv] W (Listed W F))(hT:eh w)(hW:bE w)
 (hsm : ∀q∈F,q.2.length<=4000000) (hlen:F.length<=17592186044416):Calls Tryz.prog 19 #[dv] w (EL w F):=by
 obtain⟨dx,rfl⟩:=hd;refine(callsIn_wide (n:=9)).1 ?_;refine callsIn_of_wp_marks Tryz.func19 rfl trivial ?_ rfl;simp only[Tryz.ntmps19,List.size_toArray,List.length_cons,List.length_nil,Nat.reduceAdd,Nat.reduceSub,Array.replicate_succ,Array.replicate_zero,List.push_toArray,List.append_toArray,List.nil_append,List.cons_append];obtain⟨w1,e1,aH,aq,hs1⟩ : ∃w1,w.alloc (.cells #[.int .i64 0] 3)=w1∧ae w1 w.heap.size 3 #[.int .i64 0]∧Below w.heap.size w w1∧w1.heap.size=w.heap.size+1:=⟨_,rfl,ae.new _ _ _,(Below.refl _ w).alloc (Nat.le_refl _) _,by simp⟩
 obtain⟨w2,e2,hx2,dN,hs2⟩:=eA w1 33;rw[hs1]at hx2
 have ej:=aa (aH.below dN (by omega));have rh:=aa hx2;have aR:Hid (Below w.heap.size w w2):=aq.trans (dN.mono aq.size)
 have lU:=aa hs1;have HV:=aa (PD w2 aR.out);have HT:Hid (∀W,Below w.heap.size w W->eh W):=fun W h=>hT.below h
 have HW:Hid (∀W,Below w.heap.size w W->bE W):=fun W h=>hW.below h
 have N3:=aa hsm;have mR:=aa hlen;clear aH hx2 aq dN hs1 hs2 PD hT hW hsm hlen
 gi_wp2_with (first
  | (refine⟨trivial, ?_⟩;gi_at_call 51;refine(callsIn_wide.2 HV.out).mono ?_;rintro e w3 ⟨v3,rfl,hf3,hb3⟩;obtain⟨fo,fc,rfl,hc3,M8⟩:=hf3.shape;have Jc:=aa hf3;have bh:Hid (Below w.heap.size w w3):=aR.trans (hb3.mono aR.size);have vM:=aa hb3;clear hb3 hf3)
  | (refine⟨trivial, ?_⟩;gi_at_call 50;refine(callsIn_wide.2 (zv fo F.length fc w3)).mono ?_;rintro e w4 ⟨rfl,rfl⟩))
 obtain⟨wb,PE⟩ : ∃wb,wb=w3.alloc (.cells #[.slice fo F.length fc] 63):=⟨_,rfl⟩;have Wc:Boxed wb w3.heap.size 63 (.slice fo F.length fc):=by rw[PE];exact Boxed.new w3 _ _
 have PF:Below w3.heap.size w3 wb:=by rw[PE];exact(Below.refl _ w3).alloc (Nat.le_refl _) _
 rw[<- PE];have pJ:Hid (Below w.heap.size w wb):=bh.trans (PF.mono bh.size);rw[lU.out];have HSB:Hid (w.heap.size+1<wb.heap.size):=Nat.lt_of_lt_of_le rh.ag.lt (Nat.le_trans vM.size PF.size);refine Cj (n:=9) rfl (by omega) (f:=77) (held := #[.pointer (some ⟨w3.heap.size,0,none⟩)]) (by simp[Act.eval]) trivial (enters_of Tryz.func77 (by kernel_rfl) rfl)
  (vr w3.heap.size _ F wb Wc (cJ.below Jc.out PF) mR.out) (Below.refl _ _) Below.trans (fun A l o o' hl h _=>IJ o' hl h) (fun _=>rfl)
  (xX w F) (MT w F) (IF w F _ pJ.size) (xY w F _ pJ.size)
  (fun s W W' row hs hg hr=>⟨hs.1,hs.2.1,((aS.iL (p:=fun _ _=>True) hs.2.2 fun _ _ _=>trivial).keep (xO hg fun r e=>(hr r e).2)).1⟩)
  ⟨ej.below (vM.trans (PF.mono vM.size)) ej.lt,rh.below (vM.trans (PF.mono vM.size)) rh.ag.lt,fun q hq=>by simp at hq,pJ.out⟩
  (Vf dx w.heap.size (w.heap.size+1) w3.heap.size (.slice fo F.length fc)) (fun x a' s W W' row hs hg hr=>by obtain⟨g,e,h⟩:=hs;exact⟨g,e,oa h hg fun r e=>(hr r e).2⟩) ?assign ?body ?done ?stop
 case assign =>
  rintro lp pre ⟨xi,xn,xv,xd⟩ A K hsz hI ⟨fL,hg2,hg3⟩ hK;have HI:=aa hI;simp only at fL hg2 hg3
  obtain⟨xo,xc,rfl⟩:=hg3.shape;have pT:=aa hg3;have hb:Below A.heap.size A (A.alloc (.cells #[.int .i64 xn, .slice xo xd.length xc] 72)):=(Below.refl _ A).alloc (Nat.le_refl _) _;have HK:=aa (fun a' h=>hK a' _ (sS hb) (hb.mono hsz) (HI.below hb) ⟨fL,hg2,pT.below hb⟩ h)
  clear hI fL hg2 hg3 hK hsz hb;unfold vq
  gi_wp2
  exact HK.out _ ⟨_,rfl,ae.new _ _ _⟩
 case body =>
  rintro lp pre ⟨xi,xn,xv,xd⟩ a' A hI ⟨fL,hg2,hg3⟩ ⟨g,rfl,N2⟩ hsz;simp only at fL hg2 hg3
  obtain⟨xo,xc,rfl⟩:=hg3.shape;have HI:=aa hI;have HG:=aa hg3;have vR:=aa hsz;have HLG:=aa N2;have pI:=aa fL;have mg:=aa hg2;have HD:Hid (xd.length<=4000000):=N3.out (xn,xd) (List.mem_of_getElem? hg2);have m1:A.cell? ⟨g,1,none⟩=some (.slice xo xd.length xc):=N2.cell 1 _ rfl;have JA:=aa (Ml (.slice xo xd.length xc) xd A (HT.out A hI.2.2.2) (HW.out A hI.2.2.2) hg3 HD.out);clear hI fL hg2 hg3 N2 hsz Wc PF PE Jc vM HV ej rh aR bh
  gi_wp2_with fail
  refine⟨trivial, ?_⟩;refine(CallsIn.inRound lp (callsIn_wide.2 JA.out)).mono ?_;rintro e w5 ⟨ew,⟨ht,rfl⟩ | ⟨f,s,l,a,vi,va,vc,hw,rfl,hr⟩⟩
  ·have bK:=aa ew;have HTN:=aa ht
   dsimp only [Sg.cells];clear ew ht JA m1
   gi_wp2
   have hb:Below A.heap.size A (w5.alloc (.cells (Sg.cells 0 Hd.zero Nil Nil Nil 0 0) 97)):=bK.alloc bK.size _;have hi:=HI.below hb;exact⟨sS hb,hb.mono vR.out,hi.1,hi.2.1,by rw[List.length_append];exact IG pI.out mg.out HTN.out hi.2.2.1,hi.2.2.2⟩
  ·obtain⟨⟨io,ik,ic,rfl⟩,⟨ao,ak,ac,rfl⟩,⟨co,ck,cc,rfl⟩⟩:=hr.rows.sl
   have bK:=aa ew;have Xv:=aa hw;have HR:=aa hr;dsimp only [Sg.cells];clear ew hw hr JA m1
   gi_wp2
   obtain⟨w6,e6⟩ : ∃w6,w6=w5.alloc (.cells (Sg.cells f (Hd.of l) (.slice io ik ic) (.slice ao ak ac) (.slice co ck cc) (l.length:Int) (a:Int)) 97):=⟨_,rfl⟩;have eZ:ae w6 w5.heap.size 97 (Sg.cells f (Hd.of l) (.slice io ik ic) (.slice ao ak ac) (.slice co ck cc) (l.length:Int) (a:Int)):=by rw[e6];exact ae.new _ _ _
   have fP:Below A.heap.size A w6:=by rw[e6];exact bK.alloc bK.size _
   have qP:bL (fun b=>A.heap.size<=b) w6 (Hd.of l) (.slice io ik ic) (.slice ao ak ac) (.slice co ck cc):=by rw[e6];exact HR.below ((Below.refl _ w5).alloc (Nat.le_refl _) _)
   have cy:=aa fP;have jf:=aa qP;dsimp only [Sg.cells]at e6
   rw[<- e6];clear e6 fP qP;refine lz (S:=fun W=>ae W w5.heap.size 97 (Sg.cells f (Hd.of l) (.slice io ik ic) (.slice ao ak ac) (.slice co ck cc) (l.length:Int) (a:Int))) (by kernel_rfl) (by kernel_rfl) eZ (fun hHeld => ?_)
   refine bH 0 rfl hHeld ?_;refine bH 1 rfl hHeld ?_ (by intro W hSw;have c0:W.cell? ⟨w5.heap.size,0,none⟩=some (.int .i64 f):=hSw.cell 0 _ rfl;go_simp;(try with_reducible rfl))
   refine bH 2 rfl hHeld ?_;refine bH 3 rfl hHeld ?_ (by intro W hSw;have c1:W.cell? ⟨w5.heap.size,1,none⟩=some (.int .i64 (Hd.of l).aC.round):=hSw.cell 1 _ rfl;have c2:W.cell? ⟨w5.heap.size,2,none⟩=some (.int .i64 (Hd.of l).aC.node):=hSw.cell 2 _ rfl;have c3:W.cell? ⟨w5.heap.size,3,none⟩=some (.int .i64 (Hd.of l).base):=hSw.cell 3 _ rfl;have c4:W.cell? ⟨w5.heap.size,4,none⟩=some (.slice io ik ic):=hSw.cell 4 _ rfl;have c5:W.cell? ⟨w5.heap.size,5,none⟩=some (.slice ao ak ac):=hSw.cell 5 _ rfl;have c6:W.cell? ⟨w5.heap.size,6,none⟩=some (.slice co ck cc):=hSw.cell 6 _ rfl;go_simp;(try with_reducible rfl))
   have tD:Hid (xX w F pre w6.drew):=HI.below (cy.trans ((drawn w6 1).mono cy.size));have HSW:Hid (w.heap.size+1<w5.heap.size):=Nat.lt_of_lt_of_le HI.2.1.ag.lt bK.size;refine wpAnyH_ready (rs := [4]) (by kernel_rfl) (by simp) ?_
   refine bq 4 3 (.tmp 2) (.tmp 22) rfl rfl rfl w.heap.size 0 3 #[.int .i64 0] #[.int .i64 f] (.int .i64 f) [.int .i64 f] ?x4 ?y4 rfl (by kernel_rfl) rfl tD.1 (Nat.le_of_ble_eq_true rfl) rfl ?k4
   case x4=>kernel_rfl
   case y4=>kernel_rfl
   intro w7 dH cr
   have vP:=aa dH;have vO:=aa cr;clear dH cr;refine⟨hHeld.kept vO.out (by have:=HSW.out;simp;omega),fun MU => ?_⟩
   refine wpAnyH_ready (rs := [5]) (by kernel_rfl) (by simp) ?_
   refine bq 5 33 (.tmp 3) (.tmp 24) rfl rfl rfl (w.heap.size+1) 0 33 (Hd.fQ Bl.zero 0 Nil Nil Nil) (Hd.fQ (Hd.of l).aC (Hd.of l).base (.slice io ik ic) (.slice ao ak ac) (.slice co ck cc)) (.agg (Hd.fQ (Hd.of l).aC (Hd.of l).base (.slice io ik ic) (.slice ao ak ac) (.slice co ck cc))) (Hd.fQ (Hd.of l).aC (Hd.of l).base (.slice io ik ic) (.slice ao ak ac) (.slice co ck cc)).toList ?x5 ?y5 rfl (by kernel_rfl) rfl (tD.2.1.ag.kept vO.out (by simp)) (Nat.le_of_ble_eq_true rfl) rfl ?k5
   case x5=>kernel_rfl
   case y5=>kernel_rfl
   intro w8 Ps fh
   have CP:=aa Ps;have G3:=aa fh;clear Ps fh;refine⟨MU.kept G3.out (by have:=HSW.out;simp;omega),fun RV => ?_⟩
   refine wpAnyH_done (by kernel_rfl) ?_ _
   refine jF.on ?_;clear hHeld MU RV
   gi_wp2
   have Oo:=HSB.out;have Wb:=vR.out;have Vg:Below A.heap.size A w6.drew:=cy.drew;have hn : ∀k,wb.heap.size<=k->k<A.heap.size->w8.heap[k]? = A.heap[k]? := fun k h1 h2=>by
    have h6:=Vg.size;rw[G3.block k (Nat.lt_of_lt_of_le (Nat.lt_of_lt_of_le h2 h6) vO.size) (by simp only[ne_eq,Option.some.injEq];omega),vO.block k (Nat.lt_of_lt_of_le h2 h6) (by simp only[ne_eq,Option.some.injEq];omega)]
    exact Vg.block k h2
   have hq : ∀ {B C:World} {r:Nat},B.grownBy C (some r)->r<A.heap.size->dS (fun b _=>A.heap.size<=b) B C:=fun hg hr=>dS.aI hg fun g cs t fr e _ hp=>by simp only[Option.some.injEq]at e;omega
   have hr3:=HI.2.1.ag.lt;have YJ:=HI.2.2.2.size;refine⟨⟨Nat.le_trans Vg.size (Nat.le_trans vO.size G3.size),fun k o hk h _=>(hn k hk (aK h)).trans h⟩,f,Hd.of l, .slice io ik ic, .slice ao ak ac, .slice co ck cc,vP.kept G3.out (by simp),⟨CP.out,⟨_,_,_,rfl⟩,⟨_,_,_,rfl⟩,⟨_,_,_,rfl⟩⟩,
    ((((jf.below (drawn w6 1)).keep (hq vO.out (by omega))).keep (hq G3.out hr3)).imp fun b hb=>Nat.le_trans YJ hb),OS pI.out mg.out ⟨s,l,a,Xv.out,rfl⟩ HI.2.2.1, ?_⟩
   exact((tD.2.2.2).grown vO.out (Nat.le_trans YJ Vg.size) (by rintro j hj;cases hj;exact Nat.le_refl _)).grown G3.out (Nat.le_trans (Nat.le_trans YJ Vg.size) vO.size) (by rintro j hj;cases hj;omega)
 case done =>
  rintro D xs W hD hlen ⟨h1,h2,h3,h4⟩ hK;have H1:=aa h1;have H2:=aa h2;have IB:Hid (Wl.ey F 1 Hd.zero):=II hlen h3;have HB:=aa h4;have Vh:=aa hK;have vX:=aa hD;clear h1 h2 h3 h4 hK hD hlen Wc PF PE Jc vM HV ej rh aR bh;have p0:W.cell? ⟨w.heap.size,0,none⟩=some (.int .i64 0):=H1.cell 0 _ rfl;have p1:=H1.free 0;obtain⟨c0,c1,c2,c3,c4,c5⟩:=H2.all;have f0:=H2.ag.free 0;have f1:=H2.ag.free 1;have f2:=H2.ag.free 2;have f3:=H2.ag.free 3;have f4:=H2.ag.free 4;have f5:=H2.ag.free 5
  gi_wp2_with (refine⟨trivial, ?_⟩;gi_at_call 53;refine(callsIn_wide.2 (C6 0 _)).mono ?_;rintro e w6 ⟨rfl,rfl⟩)
  have hl0:=H1.set 0 (.int .i64 (Vs.format 0));have hg0:=au W w.heap.size 0 (.int .i64 (Vs.format 0));obtain⟨hz,Ko⟩:=(H2.kept hg0 (by omega)).zeros
  have hb:=(HB.grown hg0 HB.size (by rintro j hj;cases hj;exact Nat.le_refl _)).grown Ko (Nat.le_trans HB.size hg0.size) (by rintro j hj;cases hj;omega)
  have PE:=pJ.size;have hdd:=vX.out;have Oo:=HSB.out;have hkd:_:=(Ko.block D (Nat.lt_of_lt_of_le (aK Vh.out) hg0.size) (by simp only[ne_eq,Option.some.injEq];omega)).trans ((hg0.block D (aK Vh.out) (by simp only[ne_eq,Option.some.injEq];omega)).trans Vh.out)
  exact Cx (xs:=xs) rfl rfl ⟨1,Hd.zero,Nil,Nil,Nil,hl0.kept Ko (by simp),hz,bL.zero _ _,IB.out,hb⟩ (Nat.le_trans PE hdd) hkd
 case stop =>
  rintro D xs W hD ⟨f,h,vi,va,vc,h1,h2,h3,h4,h5⟩ hK;have H1:=aa h1;have H2:=aa h2;have H3:=aa h3;have IB:=aa h4;have HB:=aa h5;have Vh:=aa hK;have vX:=aa hD;clear h1 h2 h3 h4 h5 hK hD Wc PF PE Jc vM HV ej rh aR bh
  gi_wp2
  exact Cx (xs:=xs) rfl rfl ⟨f,h,vi,va,vc,H1.out,H2.out,H3.out,IB.out,HB.out⟩ (Nat.le_trans pJ.size vX.out) Vh.out
end
end Go.Proofs.YtdkdjofnnnljjaaGreatDoor

namespace Go.Proofs.YtdkdjofnnnljjaaGreatDoor
open Go.RowKit
set_option maxHeartbeats 3200000
set_option maxRecDepth 8000
theorem vI{S:Nat->Prop}{w:World}{n0 d:Nat}{F:Dk.av}{B:List Dk.Op}(E:Env n0 w)(h:cu S w d F B){N M:Nat}(s:Wl.eJ F B N M)(hN:N<=1000)(hM:M<=1000000000)(hsm : ∀q∈Dk.all F B,q.2.length<=4000000) :
 Calls Tryz.prog 19 #[Wl.ptr d] w (EL w (Dk.all F B)):=by
 have hw:=s.wt;exact OU (Wl.ptr d) (Dk.all F B) w ⟨_,rfl⟩ (fun W hb=>BA (h.below hb) (s.kinds hN) (by omega)) E.crc E.words hsm (by have:=s.count;omega)
theorem IK(b3 b7:Nat)(v f:Int)(w:World)(l3:ae w b3 3 #[.int .i64 v])(l7:ae w b7 3 #[.int .i64 f]):Calls Tryz.prog 33 #[Wl.ptr b3,Wl.ptr b7] w (Says w (.int .i64 (Vs.opens v f))):=by
 have c3:w.cell? ⟨b3,0,none⟩=some (.int .i64 v):=l3.cell 0 _ rfl;have c7:w.cell? ⟨b7,0,none⟩=some (.int .i64 f):=l7.cell 0 _ rfl;have HC:=aa (rj v f w);obtain⟨z,hz⟩ : ∃z,z=Vs.opens v f:=⟨_,rfl⟩;rw[<- hz]at HC ⊢
 clear l3 l7 hz
 go_enter Tryz.func33,Tryz.ntmps33
 go_wp2_with (go_at_call 34;refine HC.mono ?_;rintro e w' ⟨rfl,rfl⟩)
 go_ret;exact⟨rfl,rfl⟩
theorem Cy{fn:Func}{p q u:Tmp}{ty:TypeId}(h:fn.results = #[.tmp q, .cell p ty, .tmp u])(tmps:Array Value)(P:Program)(w:World) :
 (results fn tmps).run P w=((asAddr (tmps.getD p undef)).run P w).andThen fun a w₁=>((loadVar ty a).run P w₁).andThen fun v w₂ => .ok (.tuple #[tmps.getD q undef,v,tmps.getD u undef]) w₂:=by
 simp only[results,h];simp[Sem.run_bind,Result.andThen]
theorem Cz{fn:Func}{R:Ending->World->Prop}{a:Act}{w:World}{t q u:Tmp}{g:Nat}{p:Bl.dM}{b:Int}{vi va vc:Value}(h:fn.results = #[.tmp q, .cell t 33, .tmp u])(hp:a.tmps.getD t undef = .pointer (some ⟨g,0,none⟩))
 (hl:aB w g 33 p b vi va vc) (hd:a.defers = []) (hR:R (.returned (.tuple #[a.tmps.getD q undef, .agg (Hd.fQ p b vi va vc),a.tmps.getD u undef])) w):bodyPost Tryz.prog fn R .ret a w:=by
 refine bodyPost_ret ?_ hd hR;rw[Cy h,hp];simp[asAddr,Result.andThen,qj w g p b vi va vc hl]
def MV(T:Nat->Prop)(w:World)(d:Nat)(F:Dk.av)(B:List Dk.Op)(v f:Int)(k:Hd.az)(head:List UInt8)(e:Ending)(w' : World):Prop :=
 (Vs.opens v f≠0∧e = .returned (.tuple #[.pointer none, .agg (Hd.cells Hd.zero Nil Nil Nil), .int .i64 (Vs.opens v f)])∧Below w.heap.size w w') ∨
 (Vs.opens v f=0 ∧ ∃gl m vi va vc,e = .returned (.tuple #[Wl.ptr gl, .agg (Hd.cells k vi va vc), .int .i64 0])∧w.heap.size<=m∧cW (fun j=>T j∨m<=j) w' gl d F (B++Wl.cv (Wl.next F B) head (Dk.all F B)) (Wl.next F B) f k∧bL (fun b=>w.heap.size<=b∧b<m) w' k vi va vc∧Kp (fun j _ => ¬T j) w w')
theorem pE{T:Nat->Prop}{w:World}{n0 d:Nat}{F:Dk.av}{B:List Dk.Op}(E:Env n0 w)(hd:cu T w d F B){N M:Nat}(s:Wl.eJ F B N M)(hN:N<=900)(hM:M<=1000000000)(hsm : ∀q∈Dk.all F B,q.2.length<=4000000)(v f:Int)(k:Hd.az)(hp:Wl.ey (Dk.all F B) f k)(hf:k.G2)
 (head:List UInt8) (hc : ∀W vi va vc,Below w.heap.size w W->cH W k vi va vc->Calls Tryz.prog 65 #[.int .i64 f, .agg (Hd.cells k vi va vc)] W (kF W (head,0))) (hh:head.length<=1000000) :
 Calls Tryz.prog 9 #[Wl.ptr d, .int .i64 v] w (MV T w d F B v f k head):=by
 have zJ : ∀(fn:Fn) (first cap:Array Value) (w:World),(Instr.makeFunc fn first cap).run Tryz.prog w = .ok (.func fn first cap) w:=fun _ _ _ _=>rfl
 have YK:cu (fun j=>T j∧j<w.heap.size) w d F B:=hd.imp fun _ hlt h=>⟨h,hlt⟩
 obtain⟨w1,e1,l2,hb1,hs1⟩:=bR w 25 #[Wl.ptr d];obtain⟨w2,e2,l3,hb2,hs2⟩:=bR w1 3 #[.int .i64 v];obtain⟨w3,e3,l5,hb3,hs3⟩:=eA w2 33;obtain⟨b2,Ci⟩ : ∃b,b=w.heap.size:=⟨_,rfl⟩;obtain⟨b3,pB⟩ : ∃b,b=w1.heap.size:=⟨_,rfl⟩;obtain⟨b5,pC⟩ : ∃b,b=w2.heap.size:=⟨_,rfl⟩;have bh:Hid (Below w.heap.size w w3):=(hb1.trans (hb2.mono hb1.size)).trans (hb3.mono (by omega))
 have L2:Hid (ae w3 b2 25 #[Wl.ptr d]):=by rw[Ci];exact(l2.below hb2 (by omega)).below hb3 (by omega)
 have L3:Hid (ae w3 b3 3 #[.int .i64 v]):=by rw[pB];exact l3.below hb3 (by omega)
 have L5:Hid (aB w3 b5 33 Bl.zero 0 Nil Nil Nil):=by rw[pC];exact l5
 have nR:Hid (w.heap.size<=b2∧w.heap.size<=b3∧w.heap.size<=b5∧b2<w3.heap.size∧b3<w3.heap.size∧b5<w3.heap.size∧b2≠b5∧b3≠b5):=⟨by omega,by omega,by omega,by omega,by omega,by omega,by omega,by omega⟩
 have IB:=aa (vI (E.up bh.out) (YK.below bh.out) s (by omega) hM hsm)
 have HDT:=aa YK;have PB:=aa s;have Vi:Hid (N<=900∧M<=1000000000):=⟨hN,hM⟩;have HP:=aa hp;have HF:=aa hf;have HC:=aa hc;have HH:=aa hh;clear l2 l3 l5 hb1 hb2 hb3 hs1 hs2 hs3 hd YK s hN hM hsm hp hf hc hh E;obtain⟨Q,hQ⟩ : ∃Q,Q=MV T w d F B v f k head:=⟨_,rfl⟩;rw[<- hQ];have HQ:=aa hQ;clear hQ;have c20:w3.cell? ⟨w.heap.size,0,none⟩=some (Wl.ptr d):=by rw[<- Ci];exact L2.out.cell 0 _ rfl
 go_enter Tryz.func9,Tryz.ntmps9
 go_wp2_with fail
 rw[<- Ci, <- pB, <- pC];refine IB.mono ?_;rintro e w4 ⟨f', k', vi,va,vc,rfl,hpk,hr4,hb4⟩;obtain⟨rfl,rfl⟩:=hpk.one HP.out;obtain⟨⟨io,ik,ic,rfl⟩,⟨ao,ak,ac,rfl⟩,⟨co,ck,cc,rfl⟩⟩:=hr4.rows.sl;have bJ:=aa hb4;have rY:=aa hr4;clear hpk hr4 hb4 c20 e1 e2 e3 Ci pB pC IB;obtain⟨w5,e5,l7,ew,hs5⟩:=bR w4 3 #[.int .i64 f'];obtain⟨w6,e6,l8,fP,tr⟩:=eL w5 33 k' (.slice io ik ic) (.slice ao ak ac) (.slice co ck cc) (rY.rows.below ew);obtain⟨w7,e7,lg,fZ,tj⟩:=bR w6 78 #[Wl.ptr d, .int .i64 0, .int .i64 0, .int .i64 0, .int .i64 0, .int .i64 0, .slice none 0 0, .slice none 0 0, .slice none 0 0];obtain⟨w8,e8,l9,eX,Pw⟩:=bR w7 27 #[Wl.ptr w6.heap.size];obtain⟨w9,e9,lk,j5,QH⟩:=bR w8 34 #[.int .i64 0];dsimp only [Hd.cells]at e6
 have c2:w4.cell? ⟨b2,0,none⟩=some (Wl.ptr d):=(L2.out.below bJ.out L2.out.lt).cell 0 _ rfl;have c26:w6.cell? ⟨b2,0,none⟩=some (Wl.ptr d):=((((L2.out.below bJ.out L2.out.lt).below ew (Nat.lt_of_lt_of_le L2.out.lt bJ.size))).below fP (Nat.lt_of_lt_of_le L2.out.lt (Nat.le_trans bJ.size ew.size))).cell 0 _ rfl;have c27:(w5.alloc (.cells #[.int .i64 k'.aC.round, .int .i64 k'.aC.node, .int .i64 k'.base, .slice io ik ic, .slice ao ak ac, .slice co ck cc] 33)).cell? ⟨b2,0,none⟩=some (Wl.ptr d):=by rw[e6];exact c26
 dsimp only [Hd.cells]
 go_wp2_with fail
 have e8' : w7.alloc (.cells #[.pointer (some ⟨w4.heap.size+1+1,0,none⟩)] 27)=w8:=by rw[show w4.heap.size+1+1=w6.heap.size by omega];exact e8
 rw[e8'];refine(ko w8).mono ?_;rintro e w9' ⟨rfl,rfl⟩;rw[e9];obtain⟨m,hm⟩ : ∃m,m=w4.heap.size:=⟨_,rfl⟩;obtain⟨gl,kH⟩ : ∃m,m=w4.heap.size+1+1:=⟨_,rfl⟩;obtain⟨b8,RX⟩ : ∃m,m=w4.heap.size+1:=⟨_,rfl⟩;obtain⟨b9,RY⟩ : ∃m,m=w4.heap.size+1+1+1:=⟨_,rfl⟩;obtain⟨k,Eo⟩ : ∃k,k=w8.heap.size:=⟨_,rfl⟩;rw[<- RY, <- kH, <- RX, <- hm, <- Eo];have eY:Hid (Below w4.heap.size w4 w9):=(((ew.trans (fP.mono (by omega))).trans (fZ.mono (by omega))).trans (eX.mono (by omega))).trans (j5.mono (by omega))
 have P2:Hid (ae w9 b2 25 #[Wl.ptr d]):=(L2.out.below bJ.out L2.out.lt).below eY.out (Nat.lt_of_lt_of_le L2.out.lt bJ.size);have P3:Hid (ae w9 b3 3 #[.int .i64 v]):=(L3.out.below bJ.out L3.out.lt).below eY.out (Nat.lt_of_lt_of_le L3.out.lt bJ.size);have P5:Hid (aB w9 b5 33 Bl.zero 0 Nil Nil Nil):=(L5.out.below bJ.out L5.out.ag.lt).below eY.out (Nat.lt_of_lt_of_le L5.out.ag.lt bJ.size);have P7:Hid (ae w9 m 3 #[.int .i64 f']):=by rw[hm];exact(((l7.below fP (by omega)).below fZ (by omega)).below eX (by omega)).below j5 (by omega)
 have P8:Hid (aB w9 b8 33 k'.aC k'.base (.slice io ik ic) (.slice ao ak ac) (.slice co ck cc)):=by rw[RX,show w4.heap.size+1=w5.heap.size by omega];exact((l8.below fZ (by omega)).below eX (by omega)).below j5 (by omega)
 have PG:Hid (ae w9 gl 78 (Wl.cells (Wl.ptr d) 0 0 Hd.zero Nil Nil Nil)):=by rw[kH,show w4.heap.size+1+1=w6.heap.size by omega];exact(lg.below eX (by omega)).below j5 (by omega)
 have P9:Hid (ae w9 b9 27 #[Wl.ptr gl]):=by rw[RY,kH,show w4.heap.size+1+1+1=w7.heap.size by omega,show w4.heap.size+1+1=w6.heap.size by omega];exact l9.below j5 (by omega)
 have PK:Hid (ae w9 k 34 #[.int .i64 0]):=by rw[Eo];exact lk
 have YL:=bJ.size;have hne:=nR.out;have Vj:Hid (m<=gl∧m<=b8∧m<=b9∧m<=k∧m≠gl∧b8≠gl∧b9≠gl∧k≠gl∧m≠k∧b8≠k∧b9≠k∧b2<m∧b3<m∧b5<m∧w3.heap.size<=m):=⟨by omega,by omega,by omega,by omega,by omega,by omega,by omega,by omega,by omega,by omega,by omega,by omega,by omega,by omega,by omega⟩
 have j6:=aa hm;clear e5 e6 e7 e8 e8' e9 l7 l8 lg l9 lk ew fP fZ eX j5 hs5 tr tj Pw QH hm kH RX RY Eo c2 c26 c27 YL hne L2 L3 L5
 go_wp2_with fail
 refine eT _ _ k w9 (fun W=>enters_of Tryz.func31 (by kernel_rfl) rfl _ W) PK.out ?_
 refine(IL b2 d w9 P2.out).mono ?_;rintro e w9' ⟨rfl,rfl⟩;refine⟨0,rfl,PK.out,fun oL Vk rI => ?_⟩
 obtain⟨ng,n8,n9,nk,YM,Wd,We,SM,Vl,Vm,Vn,YN,YO,Vo,n3⟩:=Vj.out;have R3:Hid (ae oL b3 3 #[.int .i64 v]):=P3.out.kept rI (by simp;omega)
 have R7:Hid (ae oL m 3 #[.int .i64 f']):=P7.out.kept rI (by simpa using Vl)
 have wD:=aa rI;have RZ:=aa Vk;clear Vk rI P2 PK;dsimp only
 go_wp2_with fail
 refine eT _ _ k oL (fun W=>enters_of Tryz.func33 (by kernel_rfl) rfl _ W) RZ.out ?_
 refine(IK b3 m v f' oL R3.out R7.out).mono ?_;rintro e adq ⟨rfl,rfl⟩;refine⟨Vs.opens v f', rfl,RZ.out,fun jr Vp tW => ?_⟩
 have ub:=aa (aM wD.out tW);have MW:=aa Vp;have R1:Below w4.heap.size w4 jr:=eY.grown ub.out eY.size (by rintro j hj;cases hj;rw[<- j6.out];exact nk)
 have tZ:Hid (Below w4.heap.size w4 jr):=R1;have pJ:Hid (Below w.heap.size w jr):=(bh.trans (bJ.mono bh.size)).trans (R1.mono (Nat.le_trans bh.size bJ.size));have Q5:Hid (aB jr b5 33 Bl.zero 0 Nil Nil Nil):=P5.out.kept ub.out (by omega)
 have Q7:Hid (ae jr m 3 #[.int .i64 f']):=P7.out.kept ub.out (by simpa using Vl)
 have Q8:Hid (aB jr b8 33 k'.aC k'.base (.slice io ik ic) (.slice ao ak ac) (.slice co ck cc)):=P8.out.kept ub.out Vm;have QG:Hid (ae jr gl 78 (Wl.cells (Wl.ptr d) 0 0 Hd.zero Nil Nil Nil)):=PG.out.kept ub.out (by simpa using SM.symm)
 have Q9:Hid (ae jr b9 27 #[Wl.ptr gl]):=P9.out.kept ub.out (by simpa using Vn)
 clear Vp tW R1 wD ub R3 R7 RZ P3 P5 P7 P8 PG P9 eY ng n8 n9 nk YM Wd We SM Vl Vm Vn YN YO Vo n3;dsimp only;obtain⟨z,hz⟩ : ∃z,z=Vs.opens v f' := ⟨_,rfl⟩;rw[<- hz]at MW ⊢
 have HZ:=aa hz;clear hz;by_cases h0:z=0
 ·subst h0
  obtain⟨ng,n8,n9,nk,YM,Wd,We,SM,Vl,Vm,Vn,YN,YO,Vo,n3⟩:=Vj.out;have hw3:=bh.size;have OG:=j6.out;have sX:cW (fun j=>(T j∧j<w.heap.size)∨j=gl) jr gl d F B 0 0 Hd.zero:=⟨fun j=>T j∧j<w.heap.size,Nil,Nil,Nil,⟨HDT.below pJ.out,fun j hs=>⟨.inl hs,by have:=hs.2;omega⟩, .inr rfl,QG.out,bL.zero _ _⟩⟩
  have yw:=aa (rY.tight.below tZ.out);have Vq:=sP sX f' k' (.slice io ik ic) (.slice ao ak ac) (.slice co ck cc) (yw.imp fun b hb hs=>by
   have h1:=hb.1;have h2:=hb.2;rcases hs with hs | hs
   ·have:=hs.2;omega
   ·omega) HF.out (head,0) (fun W hb=>HC.out W _ _ _ (pJ.trans (hb.mono pJ.size)) (yw.rows.below hb)) HH.out PB.out Vi.1 Vi.2
  have Ov:=aa Vq;clear sX Vq OG
  go_wp2_with fail
  refine eT _ _ k jr (fun W=>enters_of Tryz.func35 (by kernel_rfl) rfl _ W) MW.out ?_
  refine(Io b9 m b8 Q9.out Q7.out Q8.out Ov.out).mono ?_;rintro e E4 ⟨rfl,Vr⟩;obtain⟨_,h12⟩:=Vr.resolve_right fun h=>absurd rfl h.1
  have OG:=j6.out;have hout : ∀j,w.heap.size<=j->j≠gl -> ¬((T j∧j<w.heap.size)∨j=gl):=fun j h1 h2 hs=>by
   rcases hs with hs | hs
   ·have:=hs.2;omega
   ·exact h2 hs
  refine⟨0,rfl,h12.2.ag MW.out (fun _=>hout k (by omega) SM),fun vY YP ud => ?_⟩
  have T8:Hid (aB vY b8 33 k'.aC k'.base (.slice io ik ic) (.slice ao ak ac) (.slice co ck cc)):=(⟨h12.2.ag Q8.out.ag (fun _=>hout b8 (by omega) Wd),Q8.out.vi,Q8.out.va,Q8.out.vc⟩:aB E4 b8 33 k'.aC k'.base (.slice io ik ic) (.slice ao ak ac) (.slice co ck cc)).kept ud Vm
  have T5:Hid (aB vY b5 33 Bl.zero 0 Nil Nil Nil):=(⟨h12.2.ag Q5.out.ag (fun _=>hout b5 nR.2.2.1 (by omega)),Q5.out.vi,Q5.out.va,Q5.out.vc⟩:aB E4 b5 33 Bl.zero 0 Nil Nil Nil).kept ud (by omega)
  have T9:Hid (ae vY b9 27 #[Wl.ptr gl]):=(h12.2.ag Q9.out fun _=>hout b9 (by omega) We).kept ud (by simpa using Vn)
  have YQ:Hid (bL (fun b=>w3.heap.size<=b∧b<w4.heap.size) vY k' (.slice io ik ic) (.slice ao ak ac) (.slice co ck cc)):=(yw.keep (h12.2.keep fun b _ _ _ _ hp=>hout b (Nat.le_trans hw3 hp.1) (by have:=hp.2;omega))).keep (dS.aI ud fun b cs t fr e _ hp=>by simp only[Option.some.injEq]at e;have:=hp.2;omega)
  have YR:=MW.out.lt;have Qm:Hid (cW (fun j=>(T j∧j<w.heap.size)∨m<=j) vY gl d F (B++Wl.cv (Wl.next F B) head (Dk.all F B)) (Wl.next F B) f' k'):=(h12.1.keep (Kp.aI ud fun b o e _ hs=>by
   simp only[Option.some.injEq]at e
   subst e;rcases hs with hs | hs
   ·exact hout _ (by omega) SM hs
   ·omega)).imp fun j hj=>by
   have:=tZ.size;rcases hj with (hj | hj) | hj
   ·exact .inl hj
   ·exact .inr (by omega)
   ·exact .inr (by omega)
  have YS:Hid (Kp (fun j _ => ¬T j) w vY):=((Kp.all pJ.out).then h12.2 fun b o h hs kB => by
   rcases kB with kB | kB
   ·exact hs kB.1
   ·have:=aK h;omega).then (Kp.aI (q:=fun b _=>b<w.heap.size) ud fun b o e _ kB => by simp only[Option.some.injEq]at e;omega) fun b o h _=>aK h
  have HGK:Hid (m<=k∧w.heap.size<=b5∧b5<w3.heap.size∧b5≠b8∧b5≠b9∧b5<m∧w.heap.size<=m):=⟨nk,nR.2.2.1,nR.2.2.2.2.2.1,by omega,by omega,Vo,by omega⟩
  clear h12 Vr YP ud YR hout ng n8 n9 nk YM Wd We SM Vl Vm Vn YN YO Vo n3 hw3 OG Q5 Q7 Q8 Q9 QG Ov yw;have T8d:Hid (aB vY.drew b8 33 k'.aC k'.base (.slice io ik ic) (.slice ao ak ac) (.slice co ck cc)):=T8.out.below (drawn vY 1) T8.out.ag.lt;have T9d:Hid (ae vY.drew b9 27 #[Wl.ptr gl]):=T9.out;dsimp only;go_wp2;refine wp_region_held_drew (S:=fun W=>ae W b9 27 #[Wl.ptr gl]∧aB W b8 33 k'.aC k'.base (.slice io ik ic) (.slice ao ak ac) (.slice co ck cc)) (by kernel_rfl) ⟨T9d.out,T8d.out⟩ (fun hHeld => ?_)
  refine bH 0 rfl hHeld ?_ (by intro W hSw;obtain⟨s1,s2⟩:=hSw;have q0:W.cell? ⟨b9,0,none⟩=some (Wl.ptr gl):=s1.cell 0 _ rfl;go_simp;(try with_reducible rfl))
  refine bH 1 rfl hHeld ?_ (by intro W hSw;obtain⟨s1,s2⟩:=hSw;obtain⟨q0,q1,q2,q3,q4,q5⟩:=s2.all;go_simp;(try with_reducible rfl))
  refine bH 2 rfl hHeld ?_;refine wpAnyH_ready (rs := [3]) (by kernel_rfl) (by simp) ?_
  refine bq 3 33 (.tmp 5) (.tmp 35) rfl rfl rfl b5 0 33 (Hd.fQ Bl.zero 0 Nil Nil Nil) (Hd.fQ k'.aC k'.base (.slice io ik ic) (.slice ao ak ac) (.slice co ck cc)) (.agg (Hd.fQ k'.aC k'.base (.slice io ik ic) (.slice ao ak ac) (.slice co ck cc))) (Hd.fQ k'.aC k'.base (.slice io ik ic) (.slice ao ak ac) (.slice co ck cc)).toList ?x3 ?y3 rfl (by kernel_rfl) rfl T5.out.ag (Nat.le_of_ble_eq_true rfl) rfl ?k3
  case x3=>kernel_rfl
  case y3=>kernel_rfl
  intro PC Vt OV
  have YT:=aa Vt;have R2:=aa OV;obtain⟨nk,n5w,n53,n58,n59,Vo,nwm⟩:=HGK.out;refine⟨⟨T9d.out.kept OV (by simpa using n59.symm),T8d.out.kept OV n58.symm⟩,fun hHeld => ?_⟩
  clear Vt OV;refine bH 4 rfl hHeld ?_;refine wpAnyH_done (by kernel_rfl) ?_ _
  clear hHeld;go_wp2;refine Cz (g:=b5) rfl rfl (⟨YT.out,⟨_,_,_,rfl⟩,⟨_,_,_,rfl⟩,⟨_,_,_,rfl⟩⟩:aB PC b5 33 k'.aC k'.base (.slice io ik ic) (.slice ao ak ac) (.slice co ck cc)) rfl ?_;rw[HQ.out];have OG:=j6.out;have hw3:=bh.size;refine .inr ⟨HZ.symm,gl,m, .slice io ik ic, .slice ao ak ac, .slice co ck cc,rfl,nwm, ?_, ?_, ?_⟩
  ·exact(Qm.keep ((Kp.drew vY).trans (Kp.aI R2.out fun b o e _ hs=>by
    simp only[Option.some.injEq]at e
    rcases hs with hs | hs
    ·have:=hs.2;omega
    ·omega))).imp fun j hj=>by
    rcases hj with hj | hj
    ·exact .inl hj.1
    ·exact .inr hj
  ·exact(((YQ.below (drawn vY 1)).keep (dS.aI R2.out fun b cs t fr e _ hp=>by simp only[Option.some.injEq]at e;have:=hp.1;omega)).imp fun b hb=>⟨Nat.le_trans hw3 hb.1,by have:=hb.2;omega⟩)
  ·exact(YS.trans (Kp.drew vY)).then (Kp.aI (q:=fun b _=>b<w.heap.size) R2.out fun b o e _ kB => by simp only[Option.some.injEq]at e;omega) fun b o h _=>aK h
 ·have H0:=aa h0
  have hzb:(z != 0)=true:=by simpa using h0
  go_wp2_with fail
  refine nu _ k jr z h0 MW.out ?_;dsimp only;clear h0;have HX:Hid (aB (jr.alloc (.cells (Hd.cells Hd.zero Nil Nil Nil) 33)) jr.heap.size 33 Hd.zero.aC Hd.zero.base Nil Nil Nil):=⟨ae.new _ _ _,⟨_,_,_,rfl⟩,⟨_,_,_,rfl⟩,⟨_,_,_,rfl⟩⟩;have Nz:=aa nR.2.2.1
  go_wp2_with (refine cT rfl _ _ rfl rfl Q5.out HX.out rfl ?_;intro E4 Vu Vv;have RM:=aa Vu;have YU:=aa Vv;clear Vu Vv)
  refine Cz rfl rfl RM.out rfl ?_;rw[HQ.out];exact .inl ⟨by rw[<- HZ.out];exact H0.out,by rw[<- HZ.out];rfl,pJ.grown YU.out pJ.size (by rintro j hj;cases hj;exact Nz.out)⟩
end Go.Proofs.YtdkdjofnnnljjaaGreatDoor

namespace Go.Proofs.YtdkdjofnnnljjaaGreatDoor
open Go.RowKit
section
namespace Wl
structure Ok(f:Int)(i:Nat)(h:Hd.az):Prop where
 valid:Hd.Valid h
 zN:h.acc.length<=i∧h.bl.length<=i
 aw:h.aw.length<=300
 acc : ∀e∈h.acc,Vs.has f e.cmd.kind=true∧e.cmd.Fits
 bl : ∀e∈h.bl,Vs.has f e.cmd.kind=true∧e.cmd.Fits
section
variable {f : Int} {i : Nat} {h : Hd.az}
theorem Ok.zero(f:Int)(i:Nat):Ok f i Hd.zero:=⟨Hd.o9,⟨Nat.zero_le _,Nat.zero_le _⟩,by simp[Hd.zero],fun e he=>by simp[Hd.zero]at he,fun e he=>by simp[Hd.zero]at he⟩
theorem Ok.up(o:Ok f i h){j:Nat}(hj:i<=j):Ok f j h:=⟨o.valid,⟨Nat.le_trans o.zN.1 hj,Nat.le_trans o.zN.2 hj⟩,o.aw,o.acc,o.bl⟩
theorem Ok.th(o:Ok f i h) : ∀e∈h.acc,En.bO e=true∧Cm.check e.cmd=0:=fun e he=>by have:=((En.dG _ _).1 o.valid.acc).2 e he;exact⟨this.1,this.2.1⟩
theorem Ok.uG(o:Ok f i h) : ∀e∈h.bl,En.bO e=true∧Cm.check e.cmd=0:=fun e he=>by have:=((En.dG _ _).1 o.valid.bl).2 e he;exact⟨this.1,this.2.1⟩
theorem vJ{e:En.bz}(h:En.bO e=true):(1<=e.index∧e.index<=4294967296)∧Bl.may e.aF=true:=by
 unfold En.bO at h
 simp only[Bool.and_eq_true,decide_eq_true_eq]at h
 exact⟨⟨h.1.1,h.1.2⟩,h.2⟩
theorem CA{b:Bl.dM}(h:Bl.may b=true) : -9223372036854775808<=b.round∧b.round<=9223372036854775807 ∧ -9223372036854775808<=b.node∧b.node<=9223372036854775807:=by
 rcases Bl.kP _ h with rfl | h
 ·simp[Bl.zero]
 ·omega
theorem xZ : Cm.zero.Fits:=by constructor<;>simp[Cm.zero,Cm.aL]
theorem qN{x:Re.Rec}(h:Hd.jM x)(hh:Re.hc x.kind=true->Vs.has f x.cmd.kind=true):Re.aO f x=0:=by
 unfold Re.aO;rw[if_neg (by simpa using Hd.cU.2 h)]
 cases hc:Re.hc x.kind with
 | true=>rw[hh hc];rfl
 | false=>rfl
theorem Ok.recs(o:Ok f i h) : ∀x∈Hd.recs h,Re.aO f x=0∧x.Fits∧x.aw.length<=300:=by
 intro x hx
 unfold Hd.recs at hx
 rcases List.mem_append.1 hx with hx | hx
 ·rcases List.mem_append.1 hx with hx | hx
  ·rcases List.mem_append.1 hx with hx | hx
   ·split at hx
    ·rename_i hb
     obtain rfl:x=Hd.bV h:=by simpa using hx
     refine⟨qN (Hd.Bf o.valid hb) (fun hc=>by cases hc),⟨fun z hz => ?_,xZ⟩,o.aw⟩
     have h1:=o.valid.base;simp[Re.bX,Hd.bV,Bl.zero]at hz
     omega
    ·simp at hx
   ·split at hx
    ·rename_i hp
     obtain rfl:x=Hd.cw h:=by simpa using hx
     refine⟨qN (Hd.xu o.valid hp) (fun hc=>by cases hc),⟨fun z hz => ?_,xZ⟩,by simp[Hd.cw]⟩
     have:=CA o.valid.aC;simp[Re.bX,Hd.cw]at hz
     omega
    ·simp at hx
  ·obtain⟨e,he,rfl⟩:=List.mem_map.1 hx
   have h1:=o.th e he;have h2:=o.valid.th e he;have h3:=vJ h1.1;have h4:=CA h3.2;refine⟨qN (Hd.Bd h1.1 h1.2 h2.2.1) fun _=>(o.acc e he).1,⟨fun z hz => ?_,(o.acc e he).2⟩,by simp[Hd.aX]⟩
   simp[Re.bX,Hd.aX]at hz
   omega
 ·obtain⟨e,he,rfl⟩:=List.mem_map.1 hx
  have h1:=o.uG e he;have h3:=vJ h1.1;refine⟨qN (Hd.Be h1.1 h1.2) fun _=>(o.bl e he).1,⟨fun z hz => ?_,(o.bl e he).2⟩,by simp[Hd.recC]⟩
  simp[Re.bX,Hd.recC,Bl.zero]at hz
  omega
theorem Ok.len(o:Ok f i h):(Hd.recs h).length<=2+2*i:=by
 have h1:=o.zN;unfold Hd.recs;simp only[List.length_append,List.length_map];have h2:(if 0<h.base then [Hd.bV h]else []).length<=1:=by split<;>simp
 have h3:(if h.aC≠Bl.zero then [Hd.cw h]else []).length<=1:=by split<;>simp
 omega
theorem Ok.two(o:Ok f i h):Ok 2 i h:=by
 have key : ∀x:Re.Rec,Re.aO f x=0->Re.hc x.kind=true->Vs.has 2 x.cmd.kind=true:=fun x hx hc=>by
  have h1:=Rt.nD x;rw[Re.fR hx]at h1
  unfold Re.aO at h1
  rw[if_neg (by rw[Re.fR hx];simp),hc]at h1
  cases hv:Vs.has 2 x.cmd.kind with
  | true=>rfl
  | false=>rw[hv]at h1;simp at h1
 exact⟨o.valid,o.zN,o.aw,fun e he=>⟨key (Hd.aX e) (o.recs _ (by unfold Hd.recs;simp;exact .inr (.inr (.inl ⟨e,he,rfl⟩)))).1 rfl,(o.acc e he).2⟩,fun e he=>⟨key (Hd.recC e) (o.recs _ (by unfold Hd.recs;simp;exact .inr (.inr (.inr ⟨e,he,rfl⟩)))).1 rfl,(o.bl e he).2⟩⟩
theorem FK{b:Int}{s:List En.bz × List En.bz}{x:Re.Rec}(h1:En.eD s.1)(h2:En.eD s.2):(∀e∈(Hd.two b s x).1,e∈s.1∨(e=Hd.jO x∧Re.hc x.kind=true)) ∧ ∀e∈(Hd.two b s x).2,e∈s.2∨(e=Hd.jO x∧Re.hc x.kind=true):=by
 by_cases hn:Re.check x≠0∨x.index<=b∨Re.hc x.kind=false
 ·rw[Hd.ez s hn]
  exact⟨fun e he => .inl he,fun e he => .inl he⟩
 ·have hk:Re.hc x.kind=true:=by
   cases h:Re.hc x.kind with
   | true=>rfl
   | false=>exact absurd (.inr (.inr h)) hn
  unfold Hd.two;rw[if_neg hn];split
  ·exact⟨fun e he=>by
    rcases(En.eI h1).1 he with rfl | he
    ·exact .inr ⟨rfl,hk⟩
    ·exact .inl he.1,fun e he => .inl he⟩
  ·split
   ·exact⟨fun e he => .inl he,fun e he => .inl he⟩
   ·exact⟨fun e he => .inl he,fun e he=>by
     rcases(En.eI h2).1 he with rfl | he
     ·exact .inr ⟨rfl,hk⟩
     ·exact .inl he.1⟩
theorem Ok.apply(o:Ok f i h){x:Re.Rec}(hx:Re.aO f x=0)(hf:x.Fits)(hi:x.aw.length<=300):Ok f (i+1) (Hd.apply h x):=by
 have Nr:=Re.fR hx;have hl:=Hd.nT h x;have hv:Re.hc x.kind=true->Vs.has f x.cmd.kind=true:=fun hc=>by
  unfold Re.aO at hx
  rw[if_neg (by rw[Nr];simp),hc]at hx
  cases hv:Vs.has f x.cmd.kind with
  | true=>rfl
  | false=>rw[hv]at hx;simp at hx
 refine⟨Hd.mO o.valid x,⟨Nat.le_trans hl.1 (by have:=o.zN.1;omega),Nat.le_trans hl.2 (by have:=o.zN.2;omega)⟩, ?_, ?_, ?_⟩
 ·unfold Hd.apply
  rw[if_neg (by rw[Nr];simp)]
  split
  ·exact hi
  ·exact o.aw
 ·intro e he
  unfold Hd.apply at he
  rw[if_neg (by rw[Nr];simp)]at he
  split at he
  ·exact o.acc e (En.iv.1 he).1
  ·rcases(FK (s:=(h.acc,h.bl)) o.valid.GS o.valid.Di).1 e he with he | ⟨rfl,hc⟩
   ·exact o.acc e he
   ·exact⟨hv hc,hf.c⟩
 ·intro e he
  unfold Hd.apply at he
  rw[if_neg (by rw[Nr];simp)]at he
  split at he
  ·exact o.bl e (En.iv.1 he).1
  ·rcases(FK (s:=(h.acc,h.bl)) o.valid.GS o.valid.Di).2 e he with he | ⟨rfl,hc⟩
   ·exact o.bl e he
   ·exact⟨hv hc,hf.c⟩
end
theorem rJ{f:Int}{x:Re.Rec}(h:Re.aO f x=0)(hx:x.Fits)(hi:x.aw.length<=300):(cK.frame (Rt.aN f x)).length<=620:=by
 have h1:=(Sg.iG h hx).2.2;have h2:=cK.eR (Rt.aN f x);have h3:=aA (n:=(Rt.aN f x).length) (by omega)
 omega
theorem MX{f:Int}(y:List UInt8) : ∀l:List Re.Rec,(∀x∈l,(cK.frame (Rt.aN f x)).length<=620)->(cK.flat (y :: l.map (Rt.aN f))).length<=(cK.frame y).length+620*l.length:=by
 intro l
 induction l using Hd.dB with
 | h0=>intro _;simp[cK.flat]
 | h1 l x ih =>
  intro h
  have h1:=ih fun c hc=>h c (by simp[hc])
  have h2:=h x (by simp)
  have e:cK.flat (y :: (l ++ [x]).map (Rt.aN f))=cK.flat (y :: l.map (Rt.aN f))++cK.frame (Rt.aN f x):=by simp[cK.flat]
  rw[e,List.length_append,List.length_append];simp;omega
theorem mS{f:Int}(hf:f=1∨f=2){i:Nat}{h:Hd.az}(o:Ok f i h)(hi:i<=41):(Sg.file f h []).length<=53000:=by
 have h0:=o.len;have h1:=MX (f:=f) (Sg.first f (Hd.recs h).length) (Hd.recs h) fun x hx=>by
  obtain⟨a,b,c⟩:=o.recs x hx;exact rJ a b c
 have h2:=cK.eR (Sg.first f (Hd.recs h).length)
 have h3:=aA (n:=f.toNat) (by omega)
 have h4:=aA (n:=(Hd.recs h).length) (by omega)
 have h5:(Sg.first f (Hd.recs h).length).length=(enc f.toNat).length+(enc (Hd.recs h).length).length:=by simp[Sg.first]
 have h6:=aA (n:=(Sg.first f (Hd.recs h).length).length) (by omega)
 show(cK.flat _).length<=_;unfold Sg.bodies;rw[List.append_nil];omega
structure St(i:Nat)(F:Dk.av)(B:List Dk.Op)(n f:Int)(k:Hd.az)(ps:List (Hd.az × Int)):Prop where
 uS:eJ F B (i+1) ((i+1)*54000)
 log : ∃h more,Log F B n f h more (fun f h=>(h,f)∈ps)∧Hd.of (Hd.recs h++more)=k
 fmt:f=1∨f=2
 Vw : ∀p∈ps,Ok p.2 i p.1
 last : ∃qs,ps=qs ++ [(k,f)]
 num:1<=n∧n<=(i:Int)+1
section
variable {i : Nat} {F : Dk.av} {B : List Dk.Op} {n f : Int} {k : Hd.az} {ps : List (Hd.az × Int)}
theorem St.ok(s:St i F B n f k ps):Ok f i k:=by
 obtain⟨qs,e⟩:=s.last;exact s.Vw (k,f) (by rw[e];simp)
theorem St.skip(s:St i F B n f k ps):St (i+1) F B n f k ps :=
 ⟨s.uS.more (by omega) (by omega),s.log,s.fmt,fun p hp=>(s.Vw p hp).up (by omega),s.last,⟨s.num.1,by have:=s.num.2;omega⟩⟩
theorem St.wt(s:St i F B n f k ps)(hi:i<=41):Dk.wt F+Dk.mD B<=3000000:=by
 have h3:=s.uS.wt;have:(i+1)*54000<=42*54000:=Nat.mul_le_mul_right _ (by omega)
 omega
theorem St.add(s:St i F B n f k ps){x:Re.Rec}(hx:Re.aO f x=0)(hf:x.Fits)(hi:x.aw.length<=300):St (i+1) F (B ++ [⟨2,n,cK.frame (Rt.aN f x)⟩]) n f (Hd.apply k x) (ps ++ [(Hd.apply k x,f)]):=by
 obtain⟨h,more,g,e⟩:=s.log;have e' : Hd.of (Hd.recs h++(more ++ [x]))=Hd.apply k x:=by rw[<- List.append_assoc,Hd.nN,e]
 refine⟨((s.uS.snoc (x:=⟨2,n,cK.frame (Rt.aN f x)⟩) ⟨.inr (.inl rfl),s.num.1,by have:=s.num.2;push_cast;exact this⟩ (rJ hx hf hi)).more (by omega) (by omega)),⟨h,more ++ [x],g.add ⟨hx,hf⟩ (fun f h hp=>by simp[hp]) (by rw[e'];simp),e'⟩,s.fmt,fun p hp => ?_,⟨ps,rfl⟩,⟨s.num.1,by have:=s.num.2;omega⟩⟩
 rcases List.mem_append.1 hp with hp | hp
 ·exact(s.Vw p hp).up (by omega)
 ·obtain rfl:p=(Hd.apply k x,f):=by simpa using hp
  exact s.ok.apply hx hf hi
theorem St.sync(s:St i F B n f k ps):St i (Dk.all F B) [] n f k [(k,f)]:=by
 obtain⟨h,more,g,e⟩:=s.log;refine⟨s.uS.all,⟨h,more,g.sync (by rw[e];simp),e⟩,s.fmt,fun p hp => ?_,⟨[],rfl⟩,s.num⟩
 obtain rfl:p=(k,f):=by simpa using hp
 exact s.ok
theorem St.begin(s:St i F B n f k ps)(hi:i<=40){f' : Int}(hf' : f' = 1∨f' = 2){h' : Hd.az}(o:Ok f' i h'):St (i+1) F (B++cv (next F B) (Sg.file f' h' []) (Dk.all F B)) (next F B) f' h' (ps ++ [(h', f')]):=by
 obtain⟨h,more,g,e⟩:=s.log;have vK:=o.recs;have hl:=o.len;have h0:=mS hf' o (by omega)
 have g' := Log.begun (P' := fun f h=>(h,f)∈ps ++ [(h', f')]) g.fine g.now.J0 g.last (fun q hq=>lt_next hq) hf' o.valid (fun x hx=>⟨(vK x hx).1,(vK x hx).2.1⟩) (by omega) (fun f h hp=>by simp[hp]) (by simp) ((Dk.all F B).map (·.1)) (fun m hm=>by
  obtain⟨q,hq,rfl⟩:=List.mem_map.1 hm;have:=lt_next hq;omega)
 refine⟨(s.uS.cv h0).more (by omega) (by omega),⟨h', [],by unfold cv;rw[<- List.append_assoc, <- List.append_assoc];exact g', by rw[List.append_nil,Hd.nK o.valid]⟩,hf', fun p hp => ?_,⟨ps,rfl⟩,⟨mL F B,by have:=s.uS.next;push_cast at this ⊢; omega⟩⟩
 rcases List.mem_append.1 hp with hp | hp
 ·exact(s.Vw p hp).up (by omega)
 ·obtain rfl:p=(h', f'):=by simpa using hp
  exact o.up (by omega)
theorem St.crash(s:St i F B n f k ps)(hi:i<=40)(keep cut:Int) : ∃f' h', (h', f')∈ps∧ey (Dk.crash F B keep cut) f' h' ∧ (f' = 1∨f' = 2)∧Ok f' i h' ∧ eJ (Dk.crash F B keep cut) [] (i+1) ((i+1)*54000) ∧
 St (i+1) (Dk.crash F B keep cut) (cv (next (Dk.crash F B keep cut) []) (Sg.file f' h' []) (Dk.crash F B keep cut)) (next (Dk.crash F B keep cut) []) f' h' [(h', f')]:=by
 obtain⟨h,more,g,e⟩:=s.log;obtain⟨f', h', hp,pk,fin⟩:=g.crashed keep cut;have o:=s.Vw _ hp;have hs:=s.uS.crash keep cut;have hf' : f' = 1∨f' = 2:=by
  rcases pk with ⟨A,m,b,C,_,⟨s', l,e', hw,_⟩,_⟩ | ⟨_,rfl,_⟩
  ·exact hw.format
  ·exact .inl rfl
 have vK:=o.recs;have hl:=o.len;have h0:=mS hf' o (by omega)
 have g' := Log.begun (F:=Dk.crash F B keep cut) (B := []) (P:=fun a b=>a=f' ∧ b=h') (P' := fun f h=>(h,f) ∈ [(h', f')]) fin (f0:=f') (h0:=h') pk ⟨rfl,rfl⟩ (fun q hq=>lt_next (F:=Dk.crash F B keep cut) (B := []) hq) hf' o.valid (fun x hx=>⟨(vK x hx).1,(vK x hx).2.1⟩) (by omega) (fun f h hp=>by simp[hp.1,hp.2]) (by simp) ((Dk.crash F B keep cut).map (·.1)) (fun m hm=>by
  obtain⟨q,hq,rfl⟩:=List.mem_map.1 hm;have:=lt_next (F:=Dk.crash F B keep cut) (B := []) hq;omega)
 have Oo:=hs.cv h0;refine⟨f', h', hp,pk,hf', o,hs,⟨Oo.more (by omega) (by omega),⟨h', [],g', by rw[List.append_nil,Hd.nK o.valid]⟩,hf', fun p hp => ?_,⟨[],rfl⟩,⟨mL _ [],by have:=hs.next;push_cast at this ⊢; omega⟩⟩⟩
 obtain rfl:p=(h', f'):=by simpa using hp
 exact o.up (by omega)
theorem St.start : St 0 [] (cv 1 (Sg.file 1 Hd.zero []) []) 1 1 Hd.zero [(Hd.zero,1)]:=by
 have o:=Ok.zero 1 0;have h0:=mS (.inl rfl) o (by omega)
 have vK:=o.recs;have hl:=o.len;have g' := Log.begun (F := []) (B := []) (P:=fun a b=>a=1∧b=Hd.zero) (P' := fun f h=>(h,f) ∈ [(Hd.zero,(1:Int))]) (jM.synced ey.nil ⟨rfl,rfl⟩) (f0:=1) (h0:=Hd.zero) ey.nil ⟨rfl,rfl⟩ (n:=1) (fun q hq=>by simp[Dk.all]at hq) (.inl rfl) o.valid (fun x hx=>⟨(vK x hx).1,(vK x hx).2.1⟩) (by omega) (fun f h hp=>by simp[hp.1,hp.2]) (by simp) [] (fun m hm=>by simp at hm)
 have Oo:=(eJ.nil).cv h0;refine⟨Oo.more (by omega) (by omega),⟨Hd.zero, [],g', by rw[List.append_nil,Hd.nK Hd.o9]⟩, .inl rfl,fun p hp => ?_,⟨[],rfl⟩,⟨by omega,by omega⟩⟩
 obtain rfl:p=(Hd.zero,1):=by simpa using hp
 exact o
end
end Wl
end
end Go.Proofs.YtdkdjofnnnljjaaGreatDoor

namespace Go.Proofs.YtdkdjofnnnljjaaGreatDoor
open Go.RowKit
set_option maxHeartbeats 3200000
set_option maxRecDepth 8000
theorem lL{n0:Nat}{w:World}(E:Env n0 w){f:Int}(hf:f=1∨f=2){i:Nat}{k:Hd.az}(o:Wl.Ok f i k)(hi:i<=41)(W:World)(vi va vc:Value)(hb:Below w.heap.size w W)(hr:cH W k vi va vc) :
 Calls Tryz.prog 65 #[.int .i64 f, .agg (Hd.cells k vi va vc)] W (kF W (Sg.file f k [],0)):=by
 have vK:=o.recs;have hl:=o.len;have h:=EM true f k vi va vc W (E.up hb).crc (E.up hb).words hr (by simp[o.valid]) (Hd.Valid.zN o.valid (by have:=o.zN.1;omega) (by have:=o.zN.2;omega)) (by omega) (fun e he=>aD.up (Cm.gu (o.th e he).2) (by omega)) (fun e he=>aD.up (Cm.gu (o.uG e he).2) (by omega))
  (fun x hx=>by obtain⟨h1,h2,h3⟩:=vK x hx;exact⟨h2,(Sg.iG h1 h2).1.2.2.1,by omega⟩)
 have e:Sg.head true f k=(Sg.file f k [],0):=by
  unfold Sg.head;rw[Vs.kV,if_pos hf,if_neg (by simp),if_neg (by simp),Sg.ni fun x hx=>(vK x hx).1,if_neg (by simp)]
 rw[e]at h
 exact h
theorem Wl.Ok.He{f:Int}{i:Nat}{k:Hd.az}(o:Wl.Ok f i k)(hi:i<=41):k.G2:=Hd.Valid.zN o.valid (by have:=o.zN.1;omega) (by have:=o.zN.2;omega)
theorem oc : (Sg.file 1 Hd.zero []).length=7:=by
 unfold Sg.file Sg.bodies;rw[show Hd.recs Hd.zero = []from rfl]
 have h1:Sg.first 1 0 = [1,0]:=by decide+kernel
 have h2:=cK.eR [1,0];have h3:(enc ([1,0]:List UInt8).length).length=1:=by decide+kernel
 have e:cK.flat [[1,0]]=cK.frame [1,0]:=by simp[cK.flat]
 have h4:([1,0]:List UInt8).length=2:=rfl;show(cK.flat [Sg.first 1 0]).length=7
 rw[h1,e];omega
theorem IM(head:List UInt8):Dk.all [] ([]++Wl.cv (Wl.next [] []) head (Dk.all [] [])) = [(1,head)]:=by
 show Dk.done (Dk.done [] ⟨1,1, []⟩) ⟨2,1,head⟩=_;rw[Wl.rA (V := []) (fun q hq=>by simp at hq)]
 show Dk.done ([] ++ [(1, [])]) ⟨2,1,head⟩=_;rw[Wl.mK (V := []) (fun q hq=>by simp at hq)]
 rfl
theorem sR{w:World}{n0:Nat}(E:Env n0 w):Calls Tryz.prog 7 #[] w (Looks w (.bool true)):=by
 have HN:=aa (EV w);have HE:=aa E;clear E
 go_enter Tryz.func7,Tryz.ntmps7
 go_wp2_with fail
 refine HN.mono ?_;rintro e w1 ⟨rfl,SP,hb1,hs1⟩;obtain⟨d,Nn⟩ : ∃d,d=w.heap.size:=⟨_,rfl⟩;have YV:=HE.up hb1;have hop:=pE YV SP Wl.eJ.nil (by omega) (by omega) (fun q hq=>by simp[Dk.all]at hq) 1 1 Hd.zero Wl.ey.nil ((Wl.Ok.zero 1 0).He (by omega)) (Sg.file 1 Hd.zero []) (fun W vi va vc hb hr=>lL YV (.inl rfl) (Wl.Ok.zero 1 0) (by omega) W vi va vc hb hr) (by rw[oc];omega)
 have aG:=aa hb1;rw[<- Nn];rw[<- Nn]at hop
 have Py:=aa hop;have Ql:=aa Nn;have hwd:w.heap.size<=d:=Nat.le_of_eq Nn.symm;have HWD:=aa hwd;clear SP hb1 hs1 YV hop Nn hwd HN
 go_wp2_with fail
 refine Py.mono ?_;rintro e w2 (⟨hno,_⟩ | ⟨_,gl,m,vi,va,vc,rfl,hm,hl2,hr2,hk2⟩)
 ·exact absurd (show Vs.opens 1 1=0 by decide) hno
 obtain⟨⟨io,ik,ic,rfl⟩,⟨ao,ak,ac,rfl⟩,⟨co,ck,cc,rfl⟩⟩:=hr2.rows.sl;have hb2:Below w.heap.size w w2:=aG.trans (hk2.below aG.size fun b _ hb _ h=>by have:=HWD.out;omega)
 have s:=Wl.St.start;have hw:=s.wt (by omega)
 have hal:=IM (Sg.file 1 Hd.zero []);obtain⟨w3,e3,l3,hb3,hs3⟩:=eL w2 33 Hd.zero (.slice io ik ic) (.slice ao ak ac) (.slice co ck cc) hr2.rows;have fk:=hl2.keep (Kp.all hb3);have OH:=uQ fk (s.uS.kinds (by omega)) (by have:=hw;show Dk.wt []+2*Dk.mD (Wl.cv 1 (Sg.file 1 Hd.zero []) [])<=_;omega)
 rw[hal]at OH
 have SH:=aa OH;have bh:Hid (Below w.heap.size w w3):=hb2.trans (hb3.mono hb2.size);have VR:Hid (w.heap.size<=m):=Nat.le_trans aG.size hm;clear hm hl2 hr2 hk2 hb2 s hw hal fk OH l3 hb3 hs3 Py;dsimp only [Hd.cells,Hd.zero,Bl.zero]at e3 ⊢
 go_wp2_with fail
 refine SH.mono ?_;rintro e w4 ⟨rfl,hl4,hk4⟩;have zF:=aa hl4;have bJ:Hid (Below w.heap.size w w4):=bh.trans (hk4.below bh.size fun b _ hb _ h=>by
  have h1:=VR.out;have h2:=HWD.out;have h3:=Ql.out;rcases h with h | h
  ·rw[h]at hb;omega
  ·omega)
 have HFI:=aa (xB hl4.TI (by rw[Dk.ji,oc];simp[Dk.wt]))
 clear hl4 hk4 e3 SH
 go_wp2_with fail
 refine HFI.mono ?_;rintro e w5 ⟨v5,rfl,YW,ew⟩;have bK:Hid (Below w.heap.size w w5):=bJ.trans (ew.mono bJ.size);have gQ:=aa (zF.keep (Kp.all ew));obtain⟨fo,fc,rfl,WQ,hm5⟩:=YW.shape;obtain⟨fg,off,rfl,_,hc⟩:=cJ.places YW (fun a u=>⟨_,rfl⟩) (by simp)
 obtain⟨u,hu,hcell⟩:=hc 0 _ rfl;obtain⟨uo,uc,rfl⟩:=hu.1.shape;have Xh:=aa hcell;have m0:w5.cell? ⟨fg,off,none⟩=some (.int .i64 1):=by have:=hcell w5 (Below.refl _ _) 0 (.int .i64 1) rfl;simpa using this
 have m1:w5.cell? ⟨fg,off+1,none⟩=some (.slice uo 7 uc):=by have:=hcell w5 (Below.refl _ _) 1 (.slice uo (Sg.file 1 Hd.zero []).length uc) rfl;rw[oc]at this;simpa using this
 clear YW ew hc hu hcell HFI;have HFO:=aa (qx gQ.out);have HDI:=aa (Bw gQ.out (by simp[Dk.mD]))
 go_wp2_with (first
  | (go_at_call 23;refine HFO.mono ?_;rintro e w6 ⟨rfl,rfl⟩)
  | (go_at_call 29;refine HDI.mono ?_;rintro e w7 ⟨rfl,fZ⟩;have bw:=aa fZ;clear fZ))
 go_ret;exact⟨rfl,bK.trans (bw.mono bK.size)⟩
end Go.Proofs.YtdkdjofnnnljjaaGreatDoor

namespace Go.Proofs.YtdkdjofnnnljjaaGreatDoor
open Go.RowKit
theorem envWl{w:World}(hT:eh w)(hW:bE w):Env w.heap.size w:=⟨Nat.le_refl _,fun _ h=>⟨hT.below h,hW.below h⟩⟩
end Go.Proofs.YtdkdjofnnnljjaaGreatDoor

namespace Go.Proofs.YtdkdjofnnnljjaaGreatDoor
open Go.RowKit
theorem IP{q:Nat->Prop}{w:World}{base:Nat}{out u:Value}{G M:List Re.Rec}(ty:TypeId)(h:bg q w base out G)(hm:gS (fun b _=>q b) w u M)(hlen:G.length+M.length<=10000000)(hn : ∀b,q b->b<base)(hbase:base<=w.heap.size) :
 ∃v' w', (Builtin.append_ #[61,61] ty #[out,u]).run Tryz.prog w = .ok v' w' ∧ bg q w' base v' (G++M)∧w.grownBy w' out.ownBlock:=by
 obtain⟨ps,e,h1,h2⟩:=h;obtain⟨qs,e', h3,h4⟩:=hm;subst e;subst e';have hl:(rowsOf Re.cells ps).length=(ps.map (·.1)).length:=gj ps
 have hl' : (rowsOf Re.cells qs).length=(qs.map (·.1)).length:=gj qs
 obtain⟨v', w', hrun,h5,h6,_⟩:=bG (P:=Tryz.prog) 61 ty 42 12 136 _ Tryz.underlying61 rN rfl (by decide) base (rowsOf Re.cells ps) (rowsOf Re.cells qs) out _ h1 h3.1 (eM gK fun q hq=>(h4 q hq).one) (by rw[hl,hl'];omega) (by rw[hl,hl'];omega) hbase
 have zI : dS (fun b _=>q b) w w' := dS.aI h6 fun g' cs t' fr e' hcs=>by
  obtain⟨cs', hc', hb'⟩:=aU.cells h1 e';rw[hc']at hcs
  cases hcs;intro h
  have:=hn _ h;omega
 refine⟨v', w', hrun,⟨ps++qs,by simp,by simpa[rowsOf] using h5,fun q hq => ?_⟩,h6⟩
 rcases List.mem_append.1 hq with hq | hq
 ·exact(h2 q hq).keep zI
 ·exact(h4 q hq).keep zI
theorem EN{q:Nat->Prop}{w:World}{ops:Array Oper}{rest:List Oper}{o:Oper}{a:Act}{Q:Exit->Act->World->Prop}(hg:o.guard=none)(s x:Operand)(ho:o.op = .call { callee := .builtin .append,args := #[s,x],argTypes := #[61,61] })
 (base:Nat) (out u:Value) (G M:List Re.Rec) (hs:a.eval s=out) (hx:a.eval x=u) (hown:bg q w base out G) (hm:gS (fun b _=>q b) w u M)
 (hlen:G.length+M.length<=10000000) (hn : ∀b,q b->b<base) (hbase:base<=w.heap.size) (hK : ∀v' w', bg q w' base v' (G++M)->w.grownBy w' out.ownBlock->wpList Tryz.prog ops Q rest (a.put o.dst v') w'):wpList Tryz.prog ops Q (o :: rest) a w:=by
 obtain⟨v', w', hrun,h1,h2⟩:=IP o.type hown hm hlen hn hbase;exact step_append hg s x 61 ho out _ v' hs hx hrun (hK v' w' h1 h2)
end Go.Proofs.YtdkdjofnnnljjaaGreatDoor

namespace Go.Proofs.YtdkdjofnnnljjaaGreatDoor
open Go.RowKit
set_option maxHeartbeats 3200000
set_option maxRecDepth 4000
theorem BG(q:Nat->Prop)(h:Hd.az)(vi va vc v:Value)(more:List Re.Rec)(w:World)(hi:jh q vi)(Sy : ∀b,q b->b<w.heap.size)(hr:cH w h vi va vc)(hv:Hd.Valid h)(hl:h.acc.length<=100∧h.bl.length<=100)
 (hm:gS (fun k _=>q k) w v more) (hml:more.length<=500) (EY:(Hd.recs h).length<=500) (hs : ∀x∈Hd.recs h++more,x.cmd.aD 140737488355328) :
 Calls Tryz.prog 44 #[.agg (Hd.cells h vi va vc),v] w (sy (fun b=>q b∨w.heap.size<=b) w (Hd.of (Hd.recs h++more))):=by
 obtain⟨w1,e1,hx1,aq,hs1⟩:=kT w h vi va vc;obtain⟨w2,e2,hz2,dN,hs2⟩:=eA w1 33;have kM:Hid (aB w2 w.heap.size 33 h.aC h.base vi va vc):=(aB.of hx1 hr).below dN (by omega)
 have jE:=aa hz2;have aR:Hid (Below w.heap.size w w2):=aq.trans (dN.mono aq.size);have nR:Hid (w1.heap.size=w.heap.size+1):=hs1;have HM:Hid (∀W,Below w.heap.size w W->gS (fun k _=>q k) W v more):=fun W hb=>cJ.below hm hb
 have Vx:=aa (zh q h vi va vc w2 (hr.below aR.out) hi (fun c hb=>Nat.lt_of_lt_of_le (Sy c hb) aR.size) hv ⟨by omega,by omega⟩)
 have Sk:Hid (∀b,q b->b<w2.heap.size):=fun b hb=>Nat.lt_of_lt_of_le (Sy b hb) aR.size
 have HML:=aa hml;have Po:=aa EY;have IY:=aa hs;obtain⟨R,hR⟩ : ∃R,R=Hd.recs h:=⟨_,rfl⟩;rw[<- hR]at Vx Po IY ⊢
 clear hx1 hz2 aq dN hs1 hs2 hr hv hl hm hml EY hs hR hi Sy
 go_enter Tryz.func44,Tryz.ntmps44
 go_wp2_with (refine gw rfl _ rfl rfl kM.out ?_)
 refine Vx.mono ?_;rintro e w3 ⟨v3,rfl,fM,hb3⟩;have om:=aa fM;have bh:Hid (Below w2.heap.size w2 w3):=hb3;have pJ:Hid (Below w.heap.size w w3):=aR.trans (hb3.mono aR.size);have pH:=aa (jE.below hb3 jE.ag.lt);clear fM hb3
 go_wp2_with (at_builtin;refine EN rfl _ _ rfl w2.heap.size v3 v R more rfl rfl om.out (HM.out w3 pJ.out) (by have:=Po.out;have:=HML.out;omega) Sk.out bh.size ?_;intro v4 w4 Px hg4;have qQ:=aa Px;have bJ:Hid (Below w2.heap.size w2 w4):=bg.behind om.out bh.out (Nat.le_refl _) hg4;clear Px hg4)
 have sW:=aa (jE.below bJ.out jE.ag.lt);have R4:Hid (Below w.heap.size w w4):=aR.trans (bJ.mono aR.size);refine(Oy (D:=fun b=>q b∨w.heap.size<=b) v4 (R++more) w4 (fun _ hb => .inr (Nat.le_trans R4.size hb)) (bg.reads' qQ.out (fun _ hb => .inl hb) fun _ hb => .inr (Nat.le_trans aR.size hb)) IY.out (by rw[List.length_append];have:=Po.out;have:=HML.out;omega)).mono ?_
 rintro e w5 ⟨ti,ta,tc,rfl,ib,ew⟩;have lZ:=aa ib;have bK:Hid (Below w.heap.size w w5):=R4.trans (ew.mono R4.size);have CF:=aa (sW.below ew sW.ag.lt);have Dq:Hid (aB (w5.alloc (.cells (Hd.cells (Hd.of (R++more)) ti ta tc) 33)) w5.heap.size 33 (Hd.of (R++more)).aC (Hd.of (R++more)).base ti ta tc):=⟨ae.new _ _ _,ib.rows.sl.1,ib.rows.sl.2.1,ib.rows.sl.2.2⟩;clear ib ew
 go_wp2_with (refine cT rfl _ _ rfl rfl CF.out Dq.out rfl ?_;intro w9 gR cM;have jl:=aa gR;have gI:=aa cM;clear gR cM)
 refine gX rfl rfl jl.out rfl ?_;exact⟨_,_,_,rfl,lZ.over CF.out gI.out,bK.grown gI.out bK.size (by rintro j hj;cases hj;rw[nR.out];omega)⟩
end Go.Proofs.YtdkdjofnnnljjaaGreatDoor
