/- wal.Peek: the last file that is not torn tells the log. -/
import Derived.Test.YtdkdjofnnnljjaaGreatDoorPWlBack
import Derived.Test.YtdkdjofnnnljjaaGreatDoorPGBm
import Derived.Test.YtdkdjofnnnljjaaGreatDoorPGFs
import Derived.Test.YtdkdjofnnnljjaaGreatDoorPDkBuf
import Derived.Test.YtdkdjofnnnljjaaGreatDoorSgRead
import Derived.Test.YtdkdjofnnnljjaaGreatDoorPRound
namespace Go.Proofs.YtdkdjofnnnljjaaGreatDoor
open Go.RowKit
set_option maxHeartbeats 3200000
set_option maxRecDepth 100000
section
open Go.RowKit Go.Shelf
attribute [local go_sem] Oper.semAt_some
def Peeked(w:World)(F:Dk.Files)(e:Ending)(w' : World):Prop :=
 ∃f h vi va vc,e = .returned (.tuple #[.int .i64 f, .agg (Hd.cells h vi va vc)])∧Wl.Peek F f h∧HardQ (fun b=>w.heap.size≤b) w' h vi va vc∧Below w.heap.size w w'
def peekI(w:World)(F:Dk.Files)(pre:List Back)(W:World):Prop :=
 Lies W w.heap.size 3 #[.int .i64 0]∧SixAt W (w.heap.size+1) 33 Bl.zero 0 Nil Nil Nil∧(∀q∈F.drop (F.length - pre.length),Sg.Torn q.2)∧Below w.heap.size w W
def peekX(w:World)(F:Dk.Files)(_:List Back)(W:World):Prop :=
 ∃f h vi va vc,Lies W w.heap.size 3 #[.int .i64 f]∧SixAt W (w.heap.size+1) 33 h.prom h.base vi va vc∧HardQ (fun b=>w.heap.size≤b) W h vi va vc∧Wl.Peek F f h∧Below w.heap.size w W
theorem SixAt.rowk{W W' : World}{row:Option Nat}{g:Nat}{T:TypeId}{p:Bl.Bal}{b:Int}{vi va vc:Value}(h:SixAt W g T p b vi va vc)(hg:W.grownBy W' row)(hr : ∀r,row=some r → ∃o:Obj,W.heap[r]? = some o∧o.isCells=false):SixAt W' g T p b vi va vc:=⟨lies_rowk h.lies hg hr,h.vi,h.va,h.vc⟩
theorem peekI_own(w:World)(F:Dk.Files)(B:Nat)(hB:w.heap.size≤B):OwnFrom B (peekI w F):=by
 rintro pre W W' row ⟨h1,h2,h3,h4⟩ hg hr
 have hr' : ∀r,row=some r → ∃o:Obj,W.heap[r]? = some o∧o.isCells=false:=fun r e=>(hr r e).2
 exact⟨lies_rowk h1 hg hr', h2.rowk hg hr', h3,below_rowk h4 hg h4.size (fun r e=>(hr r e).1) hB⟩
theorem peekX_own(w:World)(F:Dk.Files)(B:Nat)(hB:w.heap.size≤B):OwnFrom B (peekX w F):=by
 rintro pre W W' row ⟨f,h,vi,va,vc,h1,h2,h3,h4,h5⟩ hg hr
 have hr' : ∀r,row=some r → ∃o:Obj,W.heap[r]? = some o∧o.isCells=false:=fun r e=>(hr r e).2
 exact⟨f,h,vi,va,vc,lies_rowk h1 hg hr', h2.rowk hg hr', h3.keep (keep_rowk hg hr'),h4,below_rowk h5 hg h5.size (fun r e=>(hr r e).1) hB⟩
theorem drop_torn{F:Dk.Files}{m i:Nat}{n:Int}{d:List UInt8}(hlen:F.length=m+i+1)(hat:F[i]? = some (n,d))(hd:Sg.Torn d)(h : ∀q∈F.drop (F.length - m),Sg.Torn q.2) : ∀q∈F.drop (F.length - (m+1)),Sg.Torn q.2:=by
 have e:F.drop (F.length - (m+1))=(n,d) :: F.drop (F.length - m):=by
  rw[show F.length - (m+1)=i by omega,show F.length - m=i+1 by omega]
  have hi:i<F.length:=by omega
  rw[List.drop_eq_getElem_cons hi]
  rw[List.getElem?_eq_getElem hi,Option.some.injEq]at hat
  rw[hat]
 rw[e]
 intro q hq
 rcases List.mem_cons.1 hq with rfl | hq
 ·exact hd
 ·exact h q hq
theorem peek_at{F:Dk.Files}{m i:Nat}{n:Int}{d:List UInt8}(hlen:F.length=m+i+1)(hat:F[i]? = some (n,d)){f:Int}{h:Hd.Hard}(hd:Wl.Tells d f h)(ht : ∀q∈F.drop (F.length - m),Sg.Torn q.2):Wl.Peek F f h:=by
 refine .inl ⟨F.take i,n,d,F.drop (i+1), ?_,hd,fun q hq=>ht q (by rw[show F.length - m=i+1 by omega];exact hq)⟩
 have hi:i<F.length:=by omega
 rw[List.getElem?_eq_getElem hi,Option.some.injEq]at hat
 rw[← hat, ← List.drop_eq_getElem_cons hi,List.take_append_drop]
theorem peek_none{F:Dk.Files}{m:Nat}(hm:m=F.length)(ht : ∀q∈F.drop (F.length - m),Sg.Torn q.2):Wl.Peek F 1 Hd.zero :=
 .inr ⟨fun q hq=>ht q (by rw[hm,Nat.sub_self];exact hq),rfl,rfl⟩
theorem peekI.below{w:World}{F:Dk.Files}{pre:List Back}{W W' : World}(h:peekI w F pre W)(hb:Below W.heap.size W W'):peekI w F pre W' :=
 ⟨h.1.below hb h.1.lt,h.2.1.below hb h.2.1.lies.lt,h.2.2.1,h.2.2.2.trans (hb.mono h.2.2.2.size)⟩
theorem backGiven.below{F:Dk.Files}{pre:List Back}{x:Back}{W W' : World}(h:backGiven F pre x W)(hb:Below W.heap.size W W'):backGiven F pre x W' := ⟨h.1,h.2.1,h.2.2.below hb⟩
theorem keeps_below{B:Nat}{A A' : World}(hb:Below A.heap.size A A'):KeepsFrom B A A' := ⟨hb.size,fun k _ _ h _=>(hb.block k (lt_of_obj h)).trans h⟩
theorem below_put{B:Nat}{A:World}{l:Nat}{o:Obj}(o' : Obj)(hl:B≤l)(h:A.heap[l]? = some o):Below B A (A.putObj l o'):=(Below.refl B A).grown (grownBy_putObj' A l o') (Nat.le_trans hl (Nat.le_of_lt (lt_of_obj h))) fun k e=>by simp only[Option.some.injEq]at e;omega
def peekA(dx:Option Addr)(r2 r3 n0:Nat)(v:Value)(x:Back)(a:Act)(A:World):Prop :=
 ∃g,a={ tmps := #[.pointer dx,undef, .pointer (some ⟨r2,0,none⟩), .pointer (some ⟨r3,0,none⟩),undef, .pointer (some ⟨g,0,none⟩),undef,undef, .pointer dx,v, .func (.func 77) #[] #[.pointer (some ⟨n0,0,none⟩)], .int .i64 (x.idx:Int), .agg #[.int .i64 x.no,x.val],undef,undef,undef,undef,undef,undef,undef,undef,undef,undef,undef,undef,undef,undef],defers := [] }∧Lies A g 72 #[.int .i64 x.no,x.val]
theorem results_cells{fn:Func}{p q:Tmp}{ty tz:TypeId}(h:fn.results = #[.cell p ty, .cell q tz])(tmps:Array Value)(P:Program)(w:World) :
 (results fn tmps).run P w=((asAddr (tmps.getD p undef)).run P w).andThen fun a w₁=>((loadVar ty a).run P w₁).andThen fun v w₂=>((asAddr (tmps.getD q undef)).run P w₂).andThen fun b w₃=>((loadVar tz b).run P w₃).andThen fun u w₄ => .ok (.tuple #[v,u]) w₄:=by
 simp only[results,h]
 simp[Sem.run_bind,Result.andThen]
theorem run_int(w:World)(g:Nat)(x:Int)(h:Lies w g 3 #[.int .i64 x]):(loadVar 3 ⟨g,0,none⟩).run Tryz.prog w = .ok (.int .i64 x) w:=by
 have c0:w.cell? ⟨g,0,none⟩=some (.int .i64 x):=h.cell 0 _ rfl
 go_simp
theorem peek_end{w W:World}{F:Dk.Files}{xs:List Back}{tmps:Array Value}{D:Nat}(h2:tmps.getD 2 undef = .pointer (some ⟨w.heap.size,0,none⟩))(h3:tmps.getD 3 undef = .pointer (some ⟨w.heap.size+1,0,none⟩))(hx:peekX w F xs W)(hD:w.heap.size≤D)(hK:W.heap[D]? = some (.deferred (some []))) :
 bodyPostM Fence.wide 9 Tryz.prog Tryz.f19 (Peeked w F) .ret { tmps:=tmps,defers := [{ target:=Target.collected D,args := #[] }] } W:=by
 obtain⟨f,h,vi,va,vc,l1,l2,l3,l4,l5⟩:=peekX_own w F w.heap.size (Nat.le_refl _) xs W (W.putObj D (.deferred none)) (some D) hx (grownBy_putObj' W D _) fun r e=>by cases e;exact⟨hD,_,hK,rfl⟩
 refine⟨by simp, .inl ⟨_,_,rfl,run_takeDeferred hK, ?_⟩⟩
 refine⟨.tuple #[.int .i64 f, .agg (Hd.six h.prom h.base vi va vc)], ?_,f,h,vi,va,vc,rfl,l4,l3,l5⟩
 rw[results_cells rfl]
 dsimp only
 rw[h2,h3]
 simp[asAddr,Result.andThen,run_int _ _ _ l1,run_hard _ _ _ _ _ _ _ l2]
theorem SixAt.zeros{w:World}{g:Nat}{T:TypeId}{p:Bl.Bal}{b:Int}{vi va vc:Value}(h:SixAt w g T p b vi va vc) :
 SixAt ((((((w.setCell ⟨g,0,none⟩ (.int .i64 0)).setCell ⟨g,1,none⟩ (.int .i64 0)).setCell ⟨g,2,none⟩ (.int .i64 0)).setCell ⟨g,3,none⟩ Nil).setCell ⟨g,4,none⟩ Nil).setCell ⟨g,5,none⟩ Nil) g T Bl.zero 0 Nil Nil Nil ∧
 w.grownBy ((((((w.setCell ⟨g,0,none⟩ (.int .i64 0)).setCell ⟨g,1,none⟩ (.int .i64 0)).setCell ⟨g,2,none⟩ (.int .i64 0)).setCell ⟨g,3,none⟩ Nil).setCell ⟨g,4,none⟩ Nil).setCell ⟨g,5,none⟩ Nil) (some g) :=
 ⟨⟨(((((h.lies.set 0 _).set 1 _).set 2 _).set 3 _).set 4 _).set 5 _,⟨_,_,_,rfl⟩,⟨_,_,_,rfl⟩,⟨_,_,_,rfl⟩⟩,grown_on (grown_on (grown_on (grown_on (grown_on (grown_set _ _ _ _) (grown_set _ _ _ _)) (grown_set _ _ _ _)) (grown_set _ _ _ _)) (grown_set _ _ _ _)) (grown_set _ _ _ _)⟩
theorem peek_of(dv:Value)(F:Dk.Files)(w:World)(hd : ∃x,dv = .pointer x)(hview : ∀W,Below w.heap.size w W→Calls Tryz.prog 51 #[dv] W (Listed W F))(hT:CrcTab w)(hW:WordsIn w)
 (hsm : ∀q∈F,q.2.length≤4000000) (hlen:F.length≤17592186044416):Calls Tryz.prog 19 #[dv] w (Peeked w F):=by
 obtain⟨dx,rfl⟩:=hd
 refine(callsIn_wide (n:=9)).1 ?_
 refine callsIn_of_wp_marks Tryz.func19 rfl trivial ?_ rfl
 simp only[Tryz.ntmps19,List.size_toArray,List.length_cons,List.length_nil,Nat.reduceAdd,Nat.reduceSub,Array.replicate_succ,Array.replicate_zero,List.push_toArray,List.append_toArray,List.nil_append,List.cons_append]
 obtain⟨w1,e1,hl1,hB1,hs1⟩ : ∃w1,w.alloc (.cells #[.int .i64 0] 3)=w1∧Lies w1 w.heap.size 3 #[.int .i64 0]∧Below w.heap.size w w1∧w1.heap.size=w.heap.size+1:=⟨_,rfl,Lies.new _ _ _,(Below.refl _ w).alloc (Nat.le_refl _) _,by simp⟩
 obtain⟨w2,e2,hx2,hB2,hs2⟩:=box_zero w1 33
 rw[hs1]at hx2
 have HL2:=Lib.hid (hl1.below hB2 (by omega));have HX2:=Lib.hid hx2;have HB2:Hid (Below w.heap.size w w2):=hB1.trans (hB2.mono hB1.size)
 have HS1:=Lib.hid hs1
 have HV:=Lib.hid (hview w2 HB2.out)
 have HT:Hid (∀W,Below w.heap.size w W→CrcTab W):=fun W h=>hT.below h
 have HW:Hid (∀W,Below w.heap.size w W→WordsIn W):=fun W h=>hW.below h
 have HSM:=Lib.hid hsm;have HLEN:=Lib.hid hlen
 clear hl1 hx2 hB1 hB2 hs1 hs2 hview hT hW hsm hlen
 gi_wp2_with (first
  | (refine⟨trivial, ?_⟩;gi_at_call 51;refine(callsIn_wide.2 HV.out).mono ?_;rintro e w3 ⟨v3,rfl,hf3,hb3⟩;obtain⟨fo,fc,rfl,hc3,hm3⟩:=hf3.shape;have HF3:=Lib.hid hf3;have HB3:Hid (Below w.heap.size w w3):=HB2.out.trans (hb3.mono HB2.out.size);have HBB:=Lib.hid hb3;clear hb3 hf3)
  | (refine⟨trivial, ?_⟩;gi_at_call 50;refine(callsIn_wide.2 (backward_any fo F.length fc w3)).mono ?_;rintro e w4 ⟨rfl,rfl⟩))
 obtain⟨wb,hwb⟩ : ∃wb,wb=w3.alloc (.cells #[.slice fo F.length fc] 63):=⟨_,rfl⟩
 have hbx:Boxed wb w3.heap.size 63 (.slice fo F.length fc):=by rw[hwb];exact Boxed.new w3 _ _
 have hbb:Below w3.heap.size w3 wb:=by rw[hwb];exact(Below.refl _ w3).alloc (Nat.le_refl _) _
 rw[← hwb]
 have HBW:Hid (Below w.heap.size w wb):=HB3.out.trans (hbb.mono HB3.out.size)
 rw[HS1.out]
 have HSB:Hid (w.heap.size+1<wb.heap.size):=Nat.lt_of_lt_of_le HX2.out.lies.lt (Nat.le_trans HBB.out.size hbb.size)
 refine range_stops (n:=9) rfl (by omega) (f:=77) (held := #[.pointer (some ⟨w3.heap.size,0,none⟩)]) (by simp[Act.eval]) trivial (enters_of Tryz.func77 (by kernel_rfl) rfl)
  (backward_stops w3.heap.size _ F wb hbx (ListP.below HF3.out hbb) HLEN.out) (Below.refl _ _) Below.trans (fun A l o o' hl h _=>below_put o' hl h) (fun _=>rfl)
  (peekI w F) (peekX w F) (peekI_own w F _ HBW.out.size) (peekX_own w F _ HBW.out.size)
  (fun s W W' row hs hg hr=>⟨hs.1,hs.2.1,((ReadsP.of_reads (p:=fun _ _=>True) hs.2.2 fun _ _ _=>trivial).keep (keep_rowk hg fun r e=>(hr r e).2)).1⟩)
  ⟨HL2.out.below (HBB.out.trans (hbb.mono HBB.out.size)) HL2.out.lt,HX2.out.below (HBB.out.trans (hbb.mono HBB.out.size)) HX2.out.lies.lt,fun q hq=>by simp at hq,HBW.out⟩
  (peekA dx w.heap.size (w.heap.size+1) w3.heap.size (.slice fo F.length fc)) (fun x a' s W W' row hs hg hr=>by obtain⟨g,e,h⟩:=hs;exact⟨g,e,lies_rowk h hg fun r e=>(hr r e).2⟩) ?assign ?body ?done ?stop
 case assign =>
  rintro lp pre ⟨xi,xn,xv,xd⟩ A K hsz hI ⟨hg1,hg2,hg3⟩ hK
  have HI:=Lib.hid hI
  simp only at hg1 hg2 hg3
  obtain⟨xo,xc,rfl⟩:=hg3.shape
  have HG3:=Lib.hid hg3
  have hb:Below A.heap.size A (A.alloc (.cells #[.int .i64 xn, .slice xo xd.length xc] 72)):=(Below.refl _ A).alloc (Nat.le_refl _) _
  have HK:=Lib.hid (fun a' h=>hK a' _ (keeps_below hb) (hb.mono hsz) (HI.out.below hb) ⟨hg1,hg2,HG3.out.below hb⟩ h)
  clear hI hg1 hg2 hg3 hK hsz hb
  unfold backArgs
  gi_wp2
  exact HK.out _ ⟨_,rfl,Lies.new _ _ _⟩
 case body =>
  rintro lp pre ⟨xi,xn,xv,xd⟩ a' A hI ⟨hg1,hg2,hg3⟩ ⟨g,rfl,hlg⟩ hsz
  simp only at hg1 hg2 hg3
  obtain⟨xo,xc,rfl⟩:=hg3.shape
  have HI:=Lib.hid hI;have HG:=Lib.hid hg3;have HSZ:=Lib.hid hsz
  have HLG:=Lib.hid hlg
  have HG1:=Lib.hid hg1;have HG2:=Lib.hid hg2
  have HD:Hid (xd.length≤4000000):=HSM.out (xn,xd) (List.mem_of_getElem? hg2)
  have m1:A.cell? ⟨g,1,none⟩=some (.slice xo xd.length xc):=hlg.cell 1 _ rfl
  have HRD:=Lib.hid (readSg_q (.slice xo xd.length xc) xd A (HT.out A hI.2.2.2) (HW.out A hI.2.2.2) hg3 HD.out)
  clear hI hg1 hg2 hg3 hlg hsz hbx hbb hwb HF3 HBB HV HL2 HX2 HB2 HB3
  gi_wp2_with fail
  refine⟨trivial, ?_⟩
  refine(CallsIn.inRound lp (callsIn_wide.2 HRD.out)).mono ?_
  rintro e w5 ⟨hb5,⟨ht,rfl⟩ | ⟨f,s,l,a,vi,va,vc,hw,rfl,hr⟩⟩
  ·have HB5:=Lib.hid hb5;have HTN:=Lib.hid ht
   dsimp only [Sg.cells]
   clear hb5 ht HRD m1
   gi_wp2
   have hb:Below A.heap.size A (w5.alloc (.cells (Sg.cells 0 Hd.zero Nil Nil Nil 0 0) 97)):=HB5.out.alloc HB5.out.size _
   have hi:=HI.out.below hb
   exact⟨keeps_below hb,hb.mono HSZ.out,hi.1,hi.2.1,by rw[List.length_append];exact drop_torn HG1.out HG2.out HTN.out hi.2.2.1,hi.2.2.2⟩
  ·obtain⟨⟨io,ik,ic,rfl⟩,⟨ao,ak,ac,rfl⟩,⟨co,ck,cc,rfl⟩⟩:=hr.rows.sl
   have HB5:=Lib.hid hb5;have HWH:=Lib.hid hw;have HR:=Lib.hid hr
   dsimp only [Sg.cells]
   clear hb5 hw hr HRD m1
   gi_wp2
   obtain⟨w6,e6⟩ : ∃w6,w6=w5.alloc (.cells (Sg.cells f (Hd.of l) (.slice io ik ic) (.slice ao ak ac) (.slice co ck cc) (l.length:Int) (a:Int)) 97):=⟨_,rfl⟩
   have hl6:Lies w6 w5.heap.size 97 (Sg.cells f (Hd.of l) (.slice io ik ic) (.slice ao ak ac) (.slice co ck cc) (l.length:Int) (a:Int)):=by rw[e6];exact Lies.new _ _ _
   have hb6:Below A.heap.size A w6:=by rw[e6];exact HB5.out.alloc HB5.out.size _
   have hr6:HardQ (fun b=>A.heap.size≤b) w6 (Hd.of l) (.slice io ik ic) (.slice ao ak ac) (.slice co ck cc):=by rw[e6];exact HR.out.below ((Below.refl _ w5).alloc (Nat.le_refl _) _)
   have HB6:=Lib.hid hb6;have HR6:=Lib.hid hr6
   dsimp only [Sg.cells]at e6
   rw[← e6]
   clear e6 hb6 hr6
   refine region_round (S:=fun W=>Lies W w5.heap.size 97 (Sg.cells f (Hd.of l) (.slice io ik ic) (.slice ao ak ac) (.slice co ck cc) (l.length:Int) (a:Int))) (by kernel_rfl) (by kernel_rfl) hl6 (fun hHeld => ?_)
   refine wpT 0 rfl hHeld ?_
   refine wpT 1 rfl hHeld ?_ (by intro W hSw;have c0:W.cell? ⟨w5.heap.size,0,none⟩=some (.int .i64 f):=hSw.cell 0 _ rfl;go_simp;(try with_reducible rfl))
   refine wpT 2 rfl hHeld ?_
   refine wpT 3 rfl hHeld ?_ (by intro W hSw;have c1:W.cell? ⟨w5.heap.size,1,none⟩=some (.int .i64 (Hd.of l).prom.round):=hSw.cell 1 _ rfl;have c2:W.cell? ⟨w5.heap.size,2,none⟩=some (.int .i64 (Hd.of l).prom.node):=hSw.cell 2 _ rfl;have c3:W.cell? ⟨w5.heap.size,3,none⟩=some (.int .i64 (Hd.of l).base):=hSw.cell 3 _ rfl;have c4:W.cell? ⟨w5.heap.size,4,none⟩=some (.slice io ik ic):=hSw.cell 4 _ rfl;have c5:W.cell? ⟨w5.heap.size,5,none⟩=some (.slice ao ak ac):=hSw.cell 5 _ rfl;have c6:W.cell? ⟨w5.heap.size,6,none⟩=some (.slice co ck cc):=hSw.cell 6 _ rfl;go_simp;(try with_reducible rfl))
   have HI6:Hid (peekI w F pre w6.drew):=HI.out.below (HB6.out.trans ((drawn w6 1).mono HB6.out.size))
   have HSW:Hid (w.heap.size+1<w5.heap.size):=Nat.lt_of_lt_of_le HI.out.2.1.lies.lt HB5.out.size
   refine wpAnyH_ready (rs := [4]) (by kernel_rfl) (by simp) ?_
   refine ready_store 4 3 (.tmp 2) (.tmp 22) rfl rfl rfl w.heap.size 0 3 #[.int .i64 0] #[.int .i64 f] (.int .i64 f) [.int .i64 f] ?x4 ?y4 rfl (by kernel_rfl) rfl HI6.out.1 (Nat.le_of_ble_eq_true rfl) rfl ?k4
   case x4=>kernel_rfl
   case y4=>kernel_rfl
   intro w7 hl7 hg7
   have HL7:=Lib.hid hl7;have HG7:=Lib.hid hg7
   clear hl7 hg7
   refine⟨hHeld.kept HG7.out (by have:=HSW.out;simp;omega),fun hHeld2 => ?_⟩
   refine wpAnyH_ready (rs := [5]) (by kernel_rfl) (by simp) ?_
   refine ready_store 5 33 (.tmp 3) (.tmp 24) rfl rfl rfl (w.heap.size+1) 0 33 (Hd.six Bl.zero 0 Nil Nil Nil) (Hd.six (Hd.of l).prom (Hd.of l).base (.slice io ik ic) (.slice ao ak ac) (.slice co ck cc)) (.agg (Hd.six (Hd.of l).prom (Hd.of l).base (.slice io ik ic) (.slice ao ak ac) (.slice co ck cc))) (Hd.six (Hd.of l).prom (Hd.of l).base (.slice io ik ic) (.slice ao ak ac) (.slice co ck cc)).toList ?x5 ?y5 rfl (by kernel_rfl) rfl (HI6.out.2.1.lies.kept HG7.out (by simp)) (Nat.le_of_ble_eq_true rfl) rfl ?k5
   case x5=>kernel_rfl
   case y5=>kernel_rfl
   intro w8 hl8 hg8
   have HL8:=Lib.hid hl8;have HG8:=Lib.hid hg8
   clear hl8 hg8
   refine⟨hHeld2.kept HG8.out (by have:=HSW.out;simp;omega),fun hHeld3 => ?_⟩
   refine wpAnyH_done (by kernel_rfl) ?_ _
   refine OnlyOn.on ?_
   clear hHeld hHeld2 hHeld3
   gi_wp2
   have hsb:=HSB.out;have hsa:=HSZ.out
   have hbd:Below A.heap.size A w6.drew:=HB6.out.drew
   have hn : ∀k,wb.heap.size≤k→k<A.heap.size→w8.heap[k]? = A.heap[k]? := fun k h1 h2=>by
    have h6:=hbd.size
    rw[HG8.out.block k (Nat.lt_of_lt_of_le (Nat.lt_of_lt_of_le h2 h6) HG7.out.size) (by simp only[ne_eq,Option.some.injEq];omega),HG7.out.block k (Nat.lt_of_lt_of_le h2 h6) (by simp only[ne_eq,Option.some.injEq];omega)]
    exact hbd.block k h2
   have hq : ∀ {B C:World} {r:Nat},B.grownBy C (some r)→r<A.heap.size→Keep (fun b _=>A.heap.size≤b) B C:=fun hg hr=>Keep.of_grown hg fun g cs t fr e _ hp=>by simp only[Option.some.injEq]at e;omega
   have hr3:=HI.out.2.1.lies.lt
   have hwa:=HI.out.2.2.2.size
   refine⟨⟨Nat.le_trans hbd.size (Nat.le_trans HG7.out.size HG8.out.size),fun k o hk h _=>(hn k hk (lt_of_obj h)).trans h⟩,f,Hd.of l, .slice io ik ic, .slice ao ak ac, .slice co ck cc,HL7.out.kept HG8.out (by simp),⟨HL8.out,⟨_,_,_,rfl⟩,⟨_,_,_,rfl⟩,⟨_,_,_,rfl⟩⟩,
    ((((HR6.out.below (drawn w6 1)).keep (hq HG7.out (by omega))).keep (hq HG8.out hr3)).imp fun b hb=>Nat.le_trans hwa hb),peek_at HG1.out HG2.out ⟨s,l,a,HWH.out,rfl⟩ HI.out.2.2.1, ?_⟩
   exact((HI6.out.2.2.2).grown HG7.out (Nat.le_trans hwa hbd.size) (by rintro j hj;cases hj;exact Nat.le_refl _)).grown HG8.out (Nat.le_trans (Nat.le_trans hwa hbd.size) HG7.out.size) (by rintro j hj;cases hj;omega)
 case done =>
  rintro D xs W hD hlen ⟨h1,h2,h3,h4⟩ hK
  have H1:=Lib.hid h1;have H2:=Lib.hid h2;have HPK:Hid (Wl.Peek F 1 Hd.zero):=peek_none hlen h3
  have HB:=Lib.hid h4;have HKD:=Lib.hid hK;have HDD:=Lib.hid hD
  clear h1 h2 h3 h4 hK hD hlen hbx hbb hwb HF3 HBB HV HL2 HX2 HB2 HB3
  have p0:W.cell? ⟨w.heap.size,0,none⟩=some (.int .i64 0):=H1.out.cell 0 _ rfl
  have p1:=H1.out.free 0
  obtain⟨c0,c1,c2,c3,c4,c5⟩:=H2.out.all
  have f0:=H2.out.lies.free 0;have f1:=H2.out.lies.free 1;have f2:=H2.out.lies.free 2;have f3:=H2.out.lies.free 3;have f4:=H2.out.lies.free 4;have f5:=H2.out.lies.free 5
  gi_wp2_with (refine⟨trivial, ?_⟩;gi_at_call 53;refine(callsIn_wide.2 (format_any 0 _)).mono ?_;rintro e w6 ⟨rfl,rfl⟩)
  have hl0:=H1.out.set 0 (.int .i64 (Vs.format 0))
  have hg0:=grown_set W w.heap.size 0 (.int .i64 (Vs.format 0))
  obtain⟨hz,hgz⟩:=(H2.out.kept hg0 (by omega)).zeros
  have hb:=(HB.out.grown hg0 HB.out.size (by rintro j hj;cases hj;exact Nat.le_refl _)).grown hgz (Nat.le_trans HB.out.size hg0.size) (by rintro j hj;cases hj;omega)
  have hwb:=HBW.out.size
  have hdd:=HDD.out
  have hsb:=HSB.out
  have hkd:_:=(hgz.block D (Nat.lt_of_lt_of_le (lt_of_obj HKD.out) hg0.size) (by simp only[ne_eq,Option.some.injEq];omega)).trans ((hg0.block D (lt_of_obj HKD.out) (by simp only[ne_eq,Option.some.injEq];omega)).trans HKD.out)
  exact peek_end (xs:=xs) rfl rfl ⟨1,Hd.zero,Nil,Nil,Nil,hl0.kept hgz (by simp),hz,HardQ.zero _ _,HPK.out,hb⟩ (Nat.le_trans hwb hdd) hkd
 case stop =>
  rintro D xs W hD ⟨f,h,vi,va,vc,h1,h2,h3,h4,h5⟩ hK
  have H1:=Lib.hid h1;have H2:=Lib.hid h2;have H3:=Lib.hid h3;have HPK:=Lib.hid h4
  have HB:=Lib.hid h5;have HKD:=Lib.hid hK;have HDD:=Lib.hid hD
  clear h1 h2 h3 h4 h5 hK hD hbx hbb hwb HF3 HBB HV HL2 HX2 HB2 HB3
  gi_wp2
  exact peek_end (xs:=xs) rfl rfl ⟨f,h,vi,va,vc,H1.out,H2.out,H3.out,HPK.out,HB.out⟩ (Nat.le_trans HBW.out.size HDD.out) HKD.out
end
end Go.Proofs.YtdkdjofnnnljjaaGreatDoor
