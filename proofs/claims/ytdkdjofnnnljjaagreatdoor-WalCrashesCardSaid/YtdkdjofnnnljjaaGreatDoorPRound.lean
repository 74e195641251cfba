/- Several texts of mine in one: Told DkIter DkApply DkHold DkHeld DkCrash Round. -/
import Derived.Test.YtdkdjofnnnljjaaGreatDoorPPkMath
import Derived.RangeFuncBound
import Derived.RangeFuncCalls
import Derived.Test.YtdkdjofnnnljjaaGreatDoorPGFs
import Derived.RangeFuncNested
import Derived.RangeFuncLeaves
import Derived.Shelf.Abstract
import Derived.OwnWalkIn
import Derived.TacticsInMore
import Derived.LoopNIn
import Derived.LoopIn
import Derived.Test.YtdkdjofnnnljjaaGreatDoorPGCw
import Derived.Deep.RegionHeld
import Derived.TacticsIn
import Derived.OrdersIn
namespace Go.Proofs.YtdkdjofnnnljjaaGreatDoor
open Go.RowKit
def Told{α:Type}(F:Fence)(n:Nat)(P:Program)(f:Nat)(held:Array Value)(encs:α->Array Value)(keeps:World->World->Prop)(gives:List α->α->World->Prop)(over:List α->World->Prop)(w:World):Prop :=
 ∀(l:Nat) (J:List α->World->Prop) (A:World),Below w.heap.size w A ->
  (∀pre B C,J pre B->Below B.heap.size B C->J pre C) ->
  (∀pre x B,J pre B->gives pre x B->YieldAt F (n - 1) P l (encs x) B fun e C=>e = .returned (.bool true)∧J (pre ++ [x]) C∧keeps B C) ->
  J [] A->CallsIn F n P f (#[.func (.yield l) #[] #[]]++held) A fun e B=>(∃v,e = .returned v) ∧ ∃xs,over xs B∧J xs B
def FQ{α:Type}(keeps:World->World->Prop)(I:List α->World->Prop)(base:Nat)(xs:List α)(A:World):Exit->Act->World->Prop
 | .normal,_,B=>KeepsFrom base A B∧keeps A B∧I xs B
 | .ret,_,_=>False
 | .exit _,_,_=>False
 | .goto _,_,_=>False
 | .panic _,_,_=>False
 | .outgrown,_,_=>False
theorem tP{α:Type}{F:Fence}{n:Nat}{P:Program}{g:Operand}{ps:Array Tmp}{assign body:Code}{Q:Exit->Act->World->Prop}{a:Act}{w:World}
 (hro:F.round=none) (h1:1<=n) {f:Nat} {held:Array Value} (hg:a.eval g = .func (.func f) #[] held) (hF:F.fn f) (hen : ∀args w,(callFunc f args).run P w = .ok (.enter f args) w)
 {encs:α->Array Value} {keeps:World->World->Prop} {gives:List α->α->World->Prop} {over:List α->World->Prop} {w0:World} (hseq:Told F (n - 1) P f held encs keeps gives over w0) (hb0:Below w0.heap.size w0 w)
 (Sb : ∀ {A B C:World},keeps A B->keeps B C->keeps A C) (hkb : ∀(A:World) (l:Nat) (o o' : Obj),w.heap.size<=l->A.heap[l]? = some o->o.isCells=false->keeps A (A.putObj l o')) (hps : ∀x,(encs x).size=ps.size)
 (I:List α->World->Prop) (hI:OwnFrom w.heap.size I) (hG:OwnFrom w.heap.size (fun(p:List α × α)=>gives p.1 p.2)) (hO:OwnFrom w.heap.size over) (h0:I [] w) (a₁:α->Act)
 (hassign : ∀(l:Nat) (x:α) (A:World) (K:Act->World->Prop),K (a₁ x) A ->
   assign.wpIn (F.inRound l) (n - 1 - 1) P (Exit.then K (fun _ _ _=>False)) { tmps:=(ps.zip (encs x)).foldl (fun t (p,v)=>t.setIfInBounds p v) a.tmps,defers := [] } A)
 (hbody : ∀(l:Nat) (pre:List α) (x:α) (A:World),I pre A->gives pre x A->w.heap.size<=A.heap.size->body.wpIn (F.inRound l) (n - 1 - 1) P (FQ keeps I w.heap.size (pre ++ [x]) A) (a₁ x) A)
 (hdone : ∀(D:Nat) (xs:List α) (A:World),w.heap.size<=D->over xs A->I xs A->A.heap[D]? = some (.deferred (some []))->Q .normal { a with defers:={ target := .collected D,args := #[] } :: a.defers } A) :
 (Code.rangeFunc g ps assign body).wpIn F n P Q a w:=by
 apply wpIn_rangeFunc
 intro fn hfn
 rw[hro]
 let rc (st:LoopState) (pe:Option Code):Obj := .loop { state:=st,pending:=pe,fn:=fn,tmps:=a.tmps,params:=ps,assign:=assign,body:=body,defers:=w.heap.size }
 have hrun:=run_enterLoop_outer (P:=P) (w:=w) fn a.tmps ps assign body;obtain⟨A0,hA0⟩ : ∃A0,A0=(w.alloc (.deferred (some []))).alloc (rc .ready none):=⟨_,rfl⟩;have Jk : (Instr.enterLoop fn a.tmps ps assign body none).run P w = .ok (w.heap.size+1, [{ target := .collected w.heap.size,args := #[] }]) A0:=by rw[hA0];exact hrun
 have SX:Below w.heap.size w A0:=by rw[hA0];exact((Below.refl _ w).alloc (Nat.le_refl _) _).alloc (by simp) _
 have hL:A0.heap[w.heap.size+1]? = some (rc .ready none):=by
  have:=World.alloc_heap_new (w.alloc (.deferred (some []))) (rc .ready none);rw[World.size_alloc]at this
  rw[hA0];exact this
 have hD:A0.heap[w.heap.size]? = some (.deferred (some [])):=by
  rw[hA0];exact(Below.heap_alloc _ _ _ (by simp)).trans (World.alloc_heap_new w _)
 have new : ∀ {β:Type} {R:β->World->Prop} {s:β} {B C:World},OwnFrom w.heap.size R->R s B->Below B.heap.size B C->R s C:=fun h hs hb=>h _ _ _ none hs (gD hb) (fun r e=>by cases e)
 have put : ∀ {β:Type} {R:β->World->Prop} {s:β} {B:World} {o:Obj} (o' : Obj),OwnFrom w.heap.size R->R s B->B.heap[w.heap.size+1]? = some o->o.isCells=false->R s (B.putObj (w.heap.size+1) o'):=fun o' h hs hl ho=>h.putObj o' hs (by omega) hl ho
 refine⟨w.heap.size+1,_,A0,{ target := .fn (.func f) held,args := #[.func (.yield (w.heap.size+1)) #[] #[]] },A0,f,#[.func (.yield (w.heap.size+1)) #[] #[]]++held,A0,Jk, ?_, ?_, ?_,fun _=>h1, ?_⟩
 ·simp only[resolve,hg];simp[go_sem]
 ·intro f' e;simp[Target.leads]at e;subst e;exact hF
 ·simp[invoke,go_sem,hen]
 refine(hseq (w.heap.size+1) (fun pre B=>I pre B∧B.heap[w.heap.size+1]? = some (rc .ready none)∧B.heap[w.heap.size]? = some (.deferred (some []))) A0 (hb0.trans (SX.mono hb0.size))
  (fun pre B C hJ hb=>⟨new hI hJ.1 hb,(hb.block _ (Array.getElem?_eq_some_iff.1 hJ.2.1).1).trans hJ.2.1,(hb.block _ (Array.getElem?_eq_some_iff.1 hJ.2.2).1).trans hJ.2.2⟩) ?_
  ⟨new hI h0 SX,hL,hD⟩).mono ?_
 ·-- a round
  rintro pre x B ⟨hi,hl,hd⟩ Ww;have hlt:=(Array.getElem?_eq_some_iff.1 hl).1;refine⟨fn,_,assign,body,run_yield hl (hps x),roundIn_of_wpIn hfn (hassign _ x B _ ⟨_,run_beginRound hl rfl, ?_⟩)⟩;have hl2:(B.putObj (w.heap.size+1) (rc .busy none)).heap[w.heap.size+1]? = some (rc .busy none):=World.putObj_heap_same hlt;have M1:(B.putObj (w.heap.size+1) (rc .busy none)).heap[w.heap.size]? = some (.deferred (some [])):=(World.putObj_heap_other (by omega)).trans hd
  refine wpIn_mono (hbody _ pre x _ (put _ hI hi hl rfl) (put (s:=(pre,x)) _ hG Ww hl rfl) (by simp;omega)) ?_
  intro e a3 C hC
  cases e with
  | normal =>
   obtain⟨hk,hkk,SY⟩:=hC;have fk:=hk.same _ _ (by omega) hl2 rfl
   have CE:=hk.same _ _ (by omega) M1 rfl
   refine⟨_,_,run_endRound none fk,rfl,⟨put _ hI SY fk rfl,World.putObj_heap_same (Array.getElem?_eq_some_iff.1 fk).1,(World.putObj_heap_other (by omega)).trans CE⟩, ?_⟩
   exact Sb (Sb (hkb _ _ _ _ (by omega) hl rfl) hkk) (hkb _ _ _ _ (by omega) fk rfl)
  | ret=>exact hC.elim
  | exit _=>exact hC.elim
  | goto _=>exact hC.elim
  | panic _=>exact hC.elim
  | outgrown=>exact hC.elim
 ·-- behind the iterator
  rintro e B ⟨⟨v,rfl⟩,xs,PN,hi,hl,hd⟩;exact⟨none,_,run_endLoop hl (by simp),hdone _ xs _ (Nat.le_refl _) (put _ hO PN hl rfl) (put _ hI hi hl rfl) ((World.putObj_heap_other (by omega)).trans hd)⟩
end Go.Proofs.YtdkdjofnnnljjaaGreatDoor

namespace Go.Proofs.YtdkdjofnnnljjaaGreatDoor
open Go.RowKit
set_option maxHeartbeats 2000000
set_option maxRecDepth 100000
section
open Go.RowKit Go.Shelf
attribute [local go_sem] Oper.semAt_some
def pQ(x:Int × Value):Array Value := #[.int .i64 x.1,x.2]
def wN(us:List (Int × Value))(pre:List (Int × Value))(x:Int × Value)(_:World):Prop := ∃post,us=pre++x :: post
def Jl(us:List (Int × Value))(xs:List (Int × Value))(_:World):Prop:=xs=us
theorem sj(mv:Option Nat)(w:World) :
 Calls Tryz.prog 83 #[.map mv] w fun e w' => e = .returned (.func (.func 117) #[] #[.pointer (some ⟨w.heap.size,0,none⟩)])∧w' = w.alloc (.cells #[.map mv] 74):=by
 go_enter Tryz.func83,Tryz.ntmps83
 go_wp2;go_ret;exact⟨rfl,rfl⟩
theorem mq.kp{q:Nat->Obj->Prop}{w w' : World}{mv:Option Nat}{us:List (Int × Value)}(h:mq w (.map mv) us)(hk:Kp q w w')(hq : ∀b,mv=some b -> ∀o,q b o):mq w' (.map mv) us:=by
 rcases h with h | ⟨b,e,h⟩
 ·exact .inl h
 ·simp only[Value.map.injEq]at e
  subst e;exact .inr ⟨b,rfl,h.of_block (hk.block h.lt (hq b rfl))⟩
theorem mq.below{w w' : World}{mv:Option Nat}{us:List (Int × Value)}(h:mq w (.map mv) us)(hb:Below w.heap.size w w'):mq w' (.map mv) us:=by
 rcases h with h | ⟨b,e,h⟩
 ·exact .inl h
 ·exact .inr ⟨b,e,h.below hb h.lt⟩
theorem mq.see{w:World}{mv:Option Nat}{us:List (Int × Value)}(h:mq w (.map mv) us)(hr : ∀u∈us,1<=u.1∧u.1<=4294967296){i:Nat}{u:Int × Value}(hi:us[i]? = some u) :
 (Instr.lookup 74 (.map mv) (.int .i64 u.1) false).run Tryz.prog w = .ok u.2 w:=by
 have hm:=List.mem_of_getElem? hi;rcases h with ⟨_,rfl⟩ | ⟨b,e,h⟩
 ·simp at hm
 ·simp only[Value.map.injEq]at e
  subst e;have hb:=hr u hm;have:=h.see (n:=u.1) (by omega) (by omega)
  rw[Dk.get_of_mem h.Aa (show(u.1,u.2)∈us from hm)]at this
  exact this
theorem pR{α:Type} : ∀ {l:List α} {i:Nat} {u:α},l[i]? = some u->l=l.take i++u :: l.drop (i+1)
 | [],i,u,h=>by simp at h
 | a :: r,0,u,h=>by simp at h;simp[h]
 | a :: r,i+1,u,h=>by
  have:=pR (l:=r) (i:=i) (by simpa using h)
  simp only[List.take_succ_cons,List.drop_succ_cons,List.cons_append];exact congrArg _ this
theorem Ab{w:World}{base n:Nat}{v:Value}{xs:List Value}{E:TypeId}(h:w.ownsRow base E 1 v n xs) :
 ∃ao cap,v = .slice ao n cap∧n<=cap∧cap<=9223372036854775807∧(0<n -> ∃g cur,ao=some ⟨g,0,none⟩∧w.heap[g]? = some (.cells cur E (0,0)) ∧ ∀w' : World,w'.heap[g]? = w.heap[g]? -> ∀j u,xs[j]? = some u->w'.cell? ⟨g,j,none⟩=some u):=by
 have h' := h;rcases h.2 with ⟨rfl,h0⟩ | ⟨g,cap,cur,rfl,_,hg,hc,hm,_,_⟩
 ·exact⟨none,0,by rw[h0],by omega,by omega,fun h=>by omega⟩
 ·refine⟨_,cap,rfl,hc,by unfold maxLen at hm;exact hm,fun _=>⟨g,cur,rfl,hg,fun w' e j u hu => ?_⟩⟩
  have:=World.ownsRow.cells h' (g:=g) rfl j u hu;rw[Addr.add_lit,Nat.zero_add]at this
  rw[<- this];exact World.cell?_of_block e
theorem sr(q:Nat->Obj->Prop)(mv:Option Nat)(Bn:Nat)(us:List (Int × Value))(w0:World)(PO : ∀b,mv=some b -> ∀o,q b o)(Y8 : ∀o,q Bn o)(Wx : ∀k cs fr,q k (.cells cs 3 fr))
 (O7:Boxed w0 Bn 74 (.map mv)) (hm:mq w0 (.map mv) us) (hr : ∀u∈us,1<=u.1∧u.1<=4294967296) (hl:us.length<=17592186044416) :
 Told Fence.wide 8 Tryz.prog 117 #[.pointer (some ⟨Bn,0,none⟩)] pQ (Kp q) (wN us) (Jl us) w0:=by
 intro lp J A hA hJ hY h0
 have sV:Boxed A Bn 74 (.map mv):=(hA.block _ O7.lt).trans O7;have Wy:=hm.below hA;have VE:=sV.cell;refine callsIn_of_wp Tryz.func117 rfl trivial ?_ rfl;simp only[Tryz.ntmps117,List.size_toArray,List.length_cons,List.length_nil,Nat.reduceAdd,Nat.reduceSub,Array.replicate_succ,Array.replicate_zero,List.push_toArray,List.append_toArray,List.nil_append,List.cons_append];have cS:=CO mv us A Wy hl
 gi_wp2_with (first
  | (refine⟨trivial, ?_⟩;gi_at_call 119;refine(callsIn_wide.2 (callsIn_wide.1 (Jm mv A))).mono ?_;rintro e w1 ⟨rfl,rfl⟩)
  | (refine⟨trivial, ?_⟩;gi_at_call 118;refine(callsIn_wide.2 (callsIn_wide.1 cS)).mono ?_;rintro e w1 ⟨v1,rfl,lj,hb1⟩;obtain⟨ao1,FR,rfl,hc1,hc2,hp1⟩:=Ab lj))
 have Wz:Below A.heap.size A w1:=((Below.refl _ A).alloc (Nat.le_refl _) _).trans (hb1.mono (by simp))
 have pS:=aa Wz;have VF:=aa hp1;have HMA:=aa Wy;have jB:=aa sV;have HL:=aa hl;have HR:=aa hr;have HQI:=aa Wx;have HQN:=aa Y8;have HQB:=aa PO;have VG:Hid (J [] w1):=hJ _ _ _ h0 Wz;have Sa:=aa hY;obtain⟨n,hn⟩ : ∃n,n=us.length:=⟨_,rfl⟩;rw[<- hn]at hc1
 have SZ:n<=17592186044416:=by omega
 have HN:=aa hn;rw[<- hn];clear cS lj hb1 hp1 Wz Wy sV VE hl hr Wx Y8 PO O7 hm hY h0 hn hA
 gi_loopw [9] (fun x wr => ∃i:Nat,x = .int .i64 (i:Int)∧i<=n∧J (us.take i) wr∧Kp q w1 wr) (fun x _=>n - (intOf x).toNat)
 case atStart=>exact⟨0,rfl,Nat.zero_le _,by simpa using VG.out,Kp.refl _ _⟩
 case round =>
  obtain⟨i,rfl,hin,Y9,hk⟩:=hrel;have Za:=aa Y9;have HK:=aa hk;clear Y9 hk;by_cases hlt:i<n
  ·have hint:((i:Nat):Int)<(n:Int):=by omega
   obtain⟨u,hu⟩ : ∃u,us[i]? = some u:=⟨_,List.getElem?_eq_getElem (by have:=HN.out;omega)⟩
   obtain⟨g,cur,rfl,O6,hcell⟩:=VF.out (by have:=HN.out;omega)
   have WA:wr.cell? ⟨g,i,none⟩=some (.int .i64 u.1):=hcell wr ((HK.same g _ O6 (HQI.out g cur _)).trans O6.symm) i _ (by simp[hu])
   have hBw:Boxed wr Bn 74 (.map mv):=HK.same Bn _ ((pS.block _ jB.lt).trans jB.out) (HQN.out _);have hcB:=hBw.cell;have abp:=((HMA.below pS.out).kp HK.out HQB.out).see HR.out hu;have Jn:wN us (us.take i) u wr:=⟨us.drop (i+1),pR hu⟩;obtain⟨fn,tmps,assign,body,hy,hR⟩:=Sa.out (us.take i) u wr Za.out Jn;dsimp only [pQ]at hy
   clear O6 hcell Jn hBw
   gi_wp2
   refine hR.mono ?_;rintro e W3 ⟨rfl,hJ3,hk3⟩
   gi_wp2
   go_roundw
   case rel=>exact⟨i+1,by simp,by omega,by rw[List.take_add_one,hu];exact hJ3,HK.trans hk3⟩
   case measure=>simp[intOf];omega
  ·have hint : ¬((i:Nat):Int)<(n:Int):=by omega
   gi_wp2
   go_end0
   refine⟨⟨_,rfl⟩,us,rfl, ?_⟩;have:=Za.out
   rwa[List.take_of_length_le (by have:=HN.out;omega)]at this
end
end Go.Proofs.YtdkdjofnnnljjaaGreatDoor

namespace Go.Proofs.YtdkdjofnnnljjaaGreatDoor
open Go.RowKit
set_option maxHeartbeats 400000
set_option maxRecDepth 4000
theorem gF(n:Int)(m:Nat)(w:World) :
 Calls Tryz.prog 48 #[.int .i64 n, .int .i64 (m:Int)] w (Says w (.int .i64 (Dk.cP n m:Nat))):=by
 have e:min (max n 0) (m:Int)=((Dk.cP n m:Nat):Int):=by unfold Dk.cP;omega
 go_enter Tryz.func48,Tryz.ntmps48
 go_wp2;go_ret
 first | exact⟨rfl,rfl⟩ | exact⟨ie e,rfl⟩
def dW(w:World)(b:Nat)(zs:List Row)(x:Dk.Op)(e:Ending)(w' : World):Prop :=
 e = .returned (.tuple #[]) ∧ ∃zs', aT w' b zs' ∧ Dk.aZ (·.2) zs' = Dk.done (Dk.aZ (·.2) zs) x∧Kp (fun k _=>k≠b ∧ ¬Bl zs k) w w' ∧ ∀k,Bl zs' k->Bl zs k∨w.heap.size<=k
theorem FT(b:Nat)(zs:List Row)(x:Dk.Op)(dv:Value)(z:Value × List UInt8)(w:World)(h:aT w b zs)(hk:x.kind=2)(hg:Dk.get zs x.no=some z)(hn:1<=x.no∧x.no<=4294967296)(hd:Reads w dv x.data)(hs:Dk.wt (Dk.aZ (·.2) zs)+x.data.length<=17592186044416) :
 Calls Tryz.prog 49 #[.map (some b), .agg #[.int .i64 x.kind, .int .i64 x.no,dv]] w (dW w b zs x):=by
 obtain⟨k,n,data⟩:=x;simp only at hk hg hn hd hs
 subst hk;obtain⟨ao,cap,rfl⟩:=hd.shape;obtain⟨w1,fJ⟩ : ∃w1,w.alloc (.cells #[.int .i64 2, .int .i64 n, .slice ao data.length cap] 91)=w1:=⟨_,rfl⟩;have hb1:Below w.heap.size w w1:=by rw[<- fJ];exact(Below.refl _ w).alloc (Nat.le_refl _) _
 have Jo:ae w1 w.heap.size 91 #[.int .i64 2, .int .i64 n, .slice ao data.length cap]:=by rw[<- fJ];exact ae.new w _ _
 have hs1:w1.heap.size=w.heap.size+1:=by rw[<- fJ];simp
 have h' := h.below hb1 (Nat.le_refl _);have S0 := hd.below hb1;have c0:w1.cell? ⟨w.heap.size,0,none⟩=some (.int .i64 2):=Jo.cell 0 _ rfl;have c1:w1.cell? ⟨w.heap.size,1,none⟩=some (.int .i64 n):=Jo.cell 1 _ rfl;have c2:w1.cell? ⟨w.heap.size,2,none⟩=some (.slice ao data.length cap):=Jo.cell 2 _ rfl;have S1:=aa Jo;have ow:Hid (b<w.heap.size):=h.map.lt;have mr:=h'.map.look (n:=n) (by omega) (by omega)
 rw[Dk.my]at mr
 have hlen:zs.length<=17592186044416:=by
  have:=Dk.mz (Dk.aZ (·.2) zs)
  simp only[Dk.aZ,List.length_map]at this
  have h2:=hs;simp only[Dk.aZ]at h2
  omega
 have Ac : (Dk.aZ (·.1) zs).length<4611686018427387904:=by rw[h.len];omega
 have Ad:Dk.get (Dk.aZ (·.2) zs) n=(Dk.get zs n).map (·.2):=Dk.my _ _ _
 have mg:=aa Ad;have HS:=aa hs;have HH:=aa h'; have HD:=aa S0; have aG:=aa hb1;have lU:=aa hs1;have HL:=aa Ac;clear Ad hs h' S0 hb1 hs1 h hd Jo Ac hlen;have over : ∀(w2:World) (zs' : List Row),aT w2 b zs' -> Dk.aZ (·.2) zs' = Dk.done (Dk.aZ (·.2) zs) ⟨2,n,data⟩->Kp (fun k _=>k≠b ∧ ¬Bl zs k) w1 w2->(∀k,Bl zs' k->Bl zs k∨w1.heap.size<=k)->dW w b zs ⟨2,n,data⟩ (.returned (.tuple #[])) w2:=fun _ _ h1 h2 h3 h4 =>
  ⟨rfl,_,h1,h2,(Kp.all aG.out).trans h3,fun k hk=>(h4 k hk).imp id (fun h=>by have:=lU.out;omega)⟩
 have HO:=aa over;clear over;rw[hg]at mr
 rw[hg]at mg
 simp only[Option.map_some,Option.getD_some,Option.isSome_some]at mr
 obtain⟨vz,dz⟩:=z;simp only at mr
 have jC:=Dk.get_mem hg;have PQ:bF w1 0 5 vz dz:=HH.own _ jC;obtain⟨zo,zc,rfl⟩ : ∃zo zc,vz = .slice zo dz.length zc:=PQ.reads.shape;have hle:dz.length+data.length<=140737488355328:=by
  have h1:=HS.out;have h2:(n,dz)∈Dk.aZ (·.2) zs:=List.mem_map.2 ⟨_,jC,rfl⟩
  have h3:=Dk.oK h2;simp only at h3
  omega
 have HM:=aa jC;have WB:=aa PQ;have qZ:=aa hle;clear hle;clear jC PQ
 go_enter Tryz.func49,Tryz.ntmps49
 go_wp2;refine wp_region_held_drew (S:=fun W=>W.cell? ⟨w.heap.size,1,none⟩=some (.int .i64 n)∧W.cell? ⟨w.heap.size,2,none⟩=some (.slice ao data.length cap)) (by kernel_rfl) (⟨c1,c2⟩) (fun hHeld => ?_)
 refine wpAnyH_take (i:=0) (v := ?v0) rfl (by kernel_rfl) (by kernel_rfl) (by kernel_rfl) (fun _ _ _ h=>h) (Or.inl ⟨by rfl, ?hy0⟩) hHeld ?Jp
 case hy0=>(intro W hSw;obtain⟨s1,s2⟩:=hSw;go_simp;(try with_reducible rfl))
 refine wpAnyH_take (i:=1) (v := ?v1) rfl (by kernel_rfl) (by kernel_rfl) (by kernel_rfl) (fun _ _ _ h=>h) (Or.inl ⟨by rfl, ?wO⟩) hHeld ?Jq
 case wO=>(intro W hSw;obtain⟨s1,s2⟩:=hSw;go_simp;(try with_reducible rfl))
 refine wpAnyH_take (i:=2) (v := ?v2) rfl (by kernel_rfl) (by kernel_rfl) (by kernel_rfl) (fun _ _ _ h=>h) (Or.inl ⟨by rfl, ?IX⟩) hHeld ?Jr
 case IX=>(intro W hSw;obtain⟨s1,s2⟩:=hSw;go_simp;(try with_reducible rfl))
 refine wpAnyH_take (i:=3) (v := ?v3) rfl (by kernel_rfl) (by kernel_rfl) (by kernel_rfl) (fun _ _ _ h=>h) (Or.inl ⟨by rfl, ?WC⟩) hHeld ?S4
 case WC=>(intro W hSw;obtain⟨s1,s2⟩:=hSw;go_simp;(try with_reducible rfl))
 refine wpAnyH_take (i:=4) (v := ?v4) rfl (by kernel_rfl) (by kernel_rfl) (by kernel_rfl) (fun _ _ _ h=>h) (Or.inl ⟨by rfl, ?PR⟩) hHeld ?Js
 case PR=>(intro W hSw;obtain⟨s1,s2⟩:=hSw;go_simp;(try with_reducible rfl))
 refine wpAnyH_take (i:=5) (v := ?v5) rfl (by kernel_rfl) (by kernel_rfl) (by kernel_rfl) (fun _ _ _ h=>h) (Or.inl ⟨by rfl, ?hy5⟩) hHeld ?Zb
 case hy5=>(intro W hSw;obtain⟨s1,s2⟩:=hSw;go_simp;(try with_reducible rfl))
 obtain⟨v2,w2,hrun,lY,hg2,S5⟩:=oh (P:=Tryz.prog) (w:=w1.drew) 30 30 5 Tryz.underlying30 eV 0 dz data _ _ (bF.drew WB.out) (Reads.below HD.out (drawn w1 1)) qZ.out (Nat.zero_le _);have hL2:ae w2 w.heap.size 91 #[.int .i64 2, .int .i64 n, .slice ao data.length cap]:=ae.kept (w:=w1.drew) S1.out hg2 (S1.not_row (by decide) WB.out)
 have ej:=aa hL2;have lR:=aa lY;have HG:=aa hg2;have HA2:=aa S5;clear hL2 lY hg2 S5;refine wpAnyH_ready (rs := [6]) (by kernel_rfl) (by simp) ?_
 refine bt 6 (.tmp 34) (.tmp 36) 30 rfl rfl rfl (.slice zo dz.length zc) (.slice ao data.length cap) v2 w2 ?s6 ?x6 hrun ⟨⟨ej.cell 1 _ rfl,ej.cell 2 _ rfl⟩,fun hHeld => ?_⟩
 case s6=>kernel_rfl
 case x6=>kernel_rfl
 clear hrun;have M6:some b≠(Value.slice zo dz.length zc).ownBlock:=fun e=>HH.yh ⟨_,HM.out,e.symm⟩
 have Ns:=ct.kept (ct.drew HH.map) HG.out M6;refine wpAnyH_ready (rs := [7]) (by kernel_rfl) (by simp) ?_
 refine lS 7 (.tmp 31) (.tmp 33) (.tmp 37) rfl rfl rfl b (Dk.aZ (·.1) zs) n v2 ?m7 ?x7 ?u7 Ns (by omega) (by omega) HL.out ?k7
 case m7=>kernel_rfl
 case x7=>kernel_rfl
 case u7=>kernel_rfl
 intro w3 M8 hg3
 have hL3:=ej.kept hg3 (by have:=ow.out;simp;omega)
 have fY:=aa hL3;have Ae:=aa M8;have pT:=aa hg3;clear hL3 M8 hg3 M6 Ns;refine⟨⟨fY.cell 1 _ rfl,fY.cell 2 _ rfl⟩,fun hHeld => ?_⟩
 refine wpAnyH_done (by kernel_rfl) ?_ _
 clear hHeld;go_wp2
 go_end0
 have hp:=(HH.below (drawn w1 1) (Nat.le_refl _)).put n hn v2 (dz++data) _ HG.out (fun g e=>⟨_,hg,e⟩) lR.out (fun g e=>by
  rcases HA2.out with h2 | h2
  ·exact .inl (h2 ▸ e)
  ·rw[h2]at e
   simp only[Option.some.injEq]at e
   exact .inr (Nat.le_of_eq e)) Ae.out pT.out
 exact HO.out _ _ hp.1 (by rw[Dk.pU];unfold Dk.done;rw[mg.out];rfl) ((Kp.all (drawn w1 1)).trans hp.2.1) hp.2.2
theorem j0(b:Nat)(zs:List Row)(x:Dk.Op)(dv:Value)(w:World)(h:aT w b zs)(hk:Dk.isKind x.kind)(hn:1<=x.no∧x.no<=4294967296)(hd:Reads w dv x.data)(hs:Dk.wt (Dk.aZ (·.2) zs)+x.data.length<=17592186044416) :
 Calls Tryz.prog 49 #[.map (some b), .agg #[.int .i64 x.kind, .int .i64 x.no,dv]] w (dW w b zs x):=by
 obtain⟨k,n,data⟩:=x;simp only at hk hn hd hs
 obtain⟨ao,cap,rfl⟩:=hd.shape;obtain⟨w1,fJ⟩ : ∃w1,w.alloc (.cells #[.int .i64 k, .int .i64 n, .slice ao data.length cap] 91)=w1:=⟨_,rfl⟩;have hb1:Below w.heap.size w w1:=by rw[<- fJ];exact(Below.refl _ w).alloc (Nat.le_refl _) _
 have Jo:ae w1 w.heap.size 91 #[.int .i64 k, .int .i64 n, .slice ao data.length cap]:=by rw[<- fJ];exact ae.new w _ _
 have hs1:w1.heap.size=w.heap.size+1:=by rw[<- fJ];simp
 have h' := h.below hb1 (Nat.le_refl _);have S0 := hd.below hb1;have c0:w1.cell? ⟨w.heap.size,0,none⟩=some (.int .i64 k):=Jo.cell 0 _ rfl;have c1:w1.cell? ⟨w.heap.size,1,none⟩=some (.int .i64 n):=Jo.cell 1 _ rfl;have c2:w1.cell? ⟨w.heap.size,2,none⟩=some (.slice ao data.length cap):=Jo.cell 2 _ rfl;have S1:=aa Jo;have ow:Hid (b<w.heap.size):=h.map.lt;have mr:=h'.map.look (n:=n) (by omega) (by omega)
 rw[Dk.my]at mr
 have hlen:zs.length<=17592186044416:=by
  have:=Dk.mz (Dk.aZ (·.2) zs)
  simp only[Dk.aZ,List.length_map]at this
  have h2:=hs;simp only[Dk.aZ]at h2
  omega
 have Ac : (Dk.aZ (·.1) zs).length<4611686018427387904:=by rw[h.len];omega
 have Ad:Dk.get (Dk.aZ (·.2) zs) n=(Dk.get zs n).map (·.2):=Dk.my _ _ _
 have mg:=aa Ad;have HS:=aa hs;have HH:=aa h'; have HD:=aa S0; have aG:=aa hb1;have lU:=aa hs1;have HL:=aa Ac;have HX:=aa h;have HDX:=aa hd;clear Ad hs h' S0 hb1 hs1 h hd Jo Ac hlen;have nothing:Dk.done (Dk.aZ (·.2) zs) ⟨k,n,data⟩=Dk.aZ (·.2) zs->dW w b zs ⟨k,n,data⟩ (.returned (.tuple #[])) w1:=fun e =>
  ⟨rfl,zs,HH.out,e.symm,(Kp.all aG.out),fun k hk => .inl hk⟩
 have HN:=aa nothing;clear nothing;have over : ∀(w2:World) (zs' : List Row),aT w2 b zs' -> Dk.aZ (·.2) zs' = Dk.done (Dk.aZ (·.2) zs) ⟨k,n,data⟩->Kp (fun k _=>k≠b ∧ ¬Bl zs k) w1 w2->(∀k,Bl zs' k->Bl zs k∨w1.heap.size<=k)->dW w b zs ⟨k,n,data⟩ (.returned (.tuple #[])) w2:=fun _ _ h1 h2 h3 h4 =>
  ⟨rfl,_,h1,h2,(Kp.all aG.out).trans h3,fun k hk=>(h4 k hk).imp id (fun h=>by have:=lU.out;omega)⟩
 have HO:=aa over;clear over;cases hg:Dk.get zs n with
 | none =>
  rw[hg]at mr
  rw[hg]at mg
  simp only[Option.map_none,Option.getD_none,Option.isSome_none]at mr
  rcases hk with rfl | rfl | rfl
  ·go_enter Tryz.func49,Tryz.ntmps49
   go_wp2_with (at_mapUpdate;refine tQ rfl _ _ _ rfl b _ n _ rfl rfl rfl HH.map (by omega) (by omega) HL.out ?_;intro w2 zH hg2)
   go_end0
   have hp:=HH.put n hn (.slice none 0 0) [] none (World.grownBy.refl _ _) (fun g e=>by cases e) (bF.empty _ _ _) (fun g e=>by simp[Value.ownBlock]at e) zH hg2
   exact HO.out _ _ hp.1 (by rw[Dk.pU];unfold Dk.done;rw[mg.out];rfl) hp.2.1 hp.2.2
  ·go_enter Tryz.func49,Tryz.ntmps49
   go_wp2
   go_end0
   exact HN.out (by unfold Dk.done;rw[mg.out];rfl)
  ·go_enter Tryz.func49,Tryz.ntmps49
   go_wp2_with (refine su rfl _ _ rfl b _ n rfl rfl HH.map (by omega) (by omega) ?_;intro w2 zH hg2)
   go_end0
   have hp:=HH.del n zH hg2;refine HO.out _ _ hp.1 ?_ hp.2.1 hp.2.2;rw[Dk.pV,Dk.Af (by rw[mg.out];rfl)]
   unfold Dk.done;rw[mg.out]
   rfl
 | some z =>
  rw[hg]at mr
  rw[hg]at mg
  simp only[Option.map_some,Option.getD_some,Option.isSome_some]at mr
  obtain⟨vz,dz⟩:=z;simp only at mr
  have jC:=Dk.get_mem hg;have PQ:bF w1 0 5 vz dz:=HH.own _ jC;obtain⟨zo,zc,rfl⟩ : ∃zo zc,vz = .slice zo dz.length zc:=PQ.reads.shape;have hle:dz.length+data.length<=140737488355328:=by
   have h1:=HS.out;have h2:(n,dz)∈Dk.aZ (·.2) zs:=List.mem_map.2 ⟨_,jC,rfl⟩
   have h3:=Dk.oK h2;simp only at h3
   omega
  have HM:=aa jC;have WB:=aa PQ;have qZ:=aa hle;clear hle;clear jC PQ;rcases hk with rfl | rfl | rfl
  ·go_enter Tryz.func49,Tryz.ntmps49
   go_wp2
   go_end0
   exact HN.out (by unfold Dk.done;rw[mg.out];rfl)
  ·exact FT b zs ⟨2,n,data⟩ _ _ w HX.out rfl hg hn HDX.out HS.out
  ·go_enter Tryz.func49,Tryz.ntmps49
   go_wp2_with (refine su rfl _ _ rfl b _ n rfl rfl HH.map (by omega) (by omega) ?_;intro w2 zH hg2)
   go_end0
   have hp:=HH.del n zH hg2;refine HO.out _ _ hp.1 ?_ hp.2.1 hp.2.2;rw[Dk.pV];unfold Dk.done;rw[mg.out]
   rfl
end Go.Proofs.YtdkdjofnnnljjaaGreatDoor

namespace Go.Proofs.YtdkdjofnnnljjaaGreatDoor
open Go.RowKit
set_option maxHeartbeats 400000
set_option maxRecDepth 4000
theorem EV(w:World):Calls Tryz.prog 8 #[] w fun e w' => e = .returned (.pointer (some ⟨w.heap.size,0,none⟩))∧cu (fun k=>k=w.heap.size) w' w.heap.size [] []∧Below w.heap.size w w' ∧ w'.heap.size=w.heap.size+1:=by
 have hL:=ae.new w 76 #[.map none, .slice none 0 0];have HB:=aa ((Below.refl w.heap.size w).alloc (Nat.le_refl _) (.cells #[.map none, .slice none 0 0] 76));have HL:=aa hL;clear hL
 go_enter Tryz.func8,Tryz.ntmps8
 go_wp2;go_ret;exact⟨rfl,⟨none, .slice none 0 0, [], [],⟨HL.out,rfl, .inl ⟨rfl,rfl,rfl⟩,fun k hk=>by obtain⟨z,hz,_⟩:=hk;simp at hz,aU.empty _ _ _ _,fun g e=>by simp[Value.ownBlock]at e,fun q hq=>by simp at hq⟩,rfl,rfl⟩,HB.out,by simp⟩
theorem ep.hold{S:Nat->Prop}{w w3 w5 w6:World}{d b:Nat}{bv EW v3:Value}{zs:List Row}{qs:List (Dk.Op × Value)}(h:ep S w d (some b) bv zs qs)(x:Dk.Op)(hb3:Below w.heap.size w w3)(fM:bF w3 w.heap.size 5 v3 x.data)(o:Obj)
 (eW:aU w5 0 91 3 EW (rowsOf Dk.ay (qs ++ [(x,v3)]))) (bU:(w3.alloc o).grownBy w5 bv.ownBlock) (ra:EW.ownBlock=bv.ownBlock∨EW.ownBlock=some (w3.alloc o).heap.size)
 (eZ:ae w6 d 76 #[.map (some b),EW]) (dt:w5.grownBy w6 (some d)) :
 ep (fun j=>S j∨w.heap.size<=j) w6 d (some b) EW zs (qs ++ [(x,v3)])∧Kp (fun j _ => ¬S j) w w6:=by
 have hs3:=hb3.size;have ha:(w3.alloc o).heap.size=w3.heap.size+1:=by simp
 have hk:Kp (fun j _=>j≠d∧bv.ownBlock≠some j) w w6:=by
  refine Kp.trans (Kp.all (w' := w3.alloc o) (hb3.alloc hs3 o)) ((Kp.aI bU fun j _ e _ hq=>hq.2 e).trans (Kp.aI dt fun j _ e _ hq=>hq.1 (by simpa using e.symm)))
 have hmap : ∃b', some b=some b' ∧ S b' ∧ aT w b' zs:=by
  rcases h.map with ⟨e,_⟩ | h'
  ·cases e
  ·exact h'
 obtain⟨b', e,VH,hf⟩:=hmap;simp only[Option.some.injEq]at e
 subst e;have Jt : ∀j,bv.ownBlock=some j -> ∃cs,w.heap[j]? = some (.cells cs 91 (0,0)):=fun j e=>by
  obtain⟨cs,hc,_⟩:=h.row.cells e;exact⟨cs,hc⟩
 have hl:w.heap[d]? = some (.cells #[.map (some b),bv] 76 (0,0)):=h.ag;have S6 : ∀j,Bl zs j->j≠d∧bv.ownBlock≠some j:=fun j hj=>by
  obtain⟨cs,hc⟩:=hf.cells hj;refine⟨fun e => ?_,fun e => ?_⟩
  ·subst e;rw[hl]at hc;cases hc
  ·obtain⟨cs', hc'⟩:=Jt j e;rw[hc]at hc'; cases hc'
 have S7:b≠d∧bv.ownBlock≠some b:=by
  refine⟨fun e => ?_,fun e => ?_⟩
  ·subst e;exact hf.map.fp hl
  ·obtain⟨cs', hc'⟩:=Jt b e;exact hf.map.fp hc'
 have PS:aT w6 b zs:=hf.stays (hk.block hf.map.lt fun _=>S7) fun j hj=>hk.block (hf.lt hj) fun _=>S6 j hj
 have S9 : ∀g,EW.ownBlock=some g->g≠d:=fun g e e' => by
  subst e';obtain⟨cs,hc,_⟩:=eW.cells e;have WD:g<(w3.alloc o).heap.size:=by have:=h.ag.lt;omega
  have h1:w3.heap[g]? = _:=(hb3.block g h.ag.lt).trans hl;have h2:=(Below.heap_alloc w3 o g (by have:=h.ag.lt;omega)).trans h1
  have hne:some g≠bv.ownBlock:=fun WE => by obtain⟨cs', hc'⟩:=Jt g WE.symm;rw[hl]at hc'; cases hc'
  have h3:=(bU.block g WD hne).trans h2;rw[h3]at hc
  cases hc
 refine⟨⟨eZ, .inl h.here, .inr ⟨b,rfl, .inl VH,PS⟩,fun k zI => .inl (h.blk k zI),eW.stays fun g e => ?_,fun g e => ?_,fun q hq => ?_⟩,hk.imp fun j o' _ hS => ?_⟩
 ·obtain⟨cs,hc,_⟩:=eW.cells e
  exact dt.block g (aK hc) (fun e' => S9 g e (by simpa using e'))
 ·rcases ra with e' | e'
  ·exact .inl (h.FU g (e' ▸ e))
  ·rw[e']at e
   simp only[Option.some.injEq]at e
   right;omega
 ·rcases List.mem_append.1 hq with hq | hq
  ·refine((h.data q hq).keep (hk.keep fun j cs t fr e hp => ?_)).imp fun j cs t fr _ hp=>⟨hp.1, .inl hp.2.1,hp.2.2⟩
   obtain⟨rfl,_,hz⟩:=hp;refine⟨fun e' => ?_,fun e' => ?_⟩
   ·subst e'; rw[hl]at e;cases e
   ·obtain⟨cs', hc'⟩:=Jt j e'; rw[e]at hc'; cases hc'
  ·obtain rfl:q=(x,v3):=by simpa using hq
   have sw:bF w6 w.heap.size 5 v3 x.data:=by
    refine fM.stays fun g e => ?_
    obtain⟨cs,hc,hg⟩:=fM.cells e;have h1:(w3.alloc o).heap[g]? = w3.heap[g]? := Below.heap_alloc w3 o g (aK hc);have hne:some g≠bv.ownBlock:=fun e' => by
     obtain⟨cs', hc'⟩:=Jt g e'.symm;have:=aK hc';omega
    have hgd:g≠d:=by have:=h.ag.lt;omega
    rw[dt.block g (by have:=aK hc;have:=bU.size;omega) (by simpa using hgd),bU.block g (by have:=aK hc;omega) hne,h1]
   refine aS.own sw fun g e => ?_
   obtain⟨cs,hc,hg⟩:=fM.cells e;exact⟨rfl, .inr hg,fun hz=>by have:=hf.lt hz;omega⟩
 ·refine⟨fun e=>hS (e ▸ h.here),fun e=>hS (h.FU j e)⟩
end Go.Proofs.YtdkdjofnnnljjaaGreatDoor

namespace Go.Proofs.YtdkdjofnnnljjaaGreatDoor
open Go.RowKit
set_option maxHeartbeats 1600000
set_option maxRecDepth 4000
def mA(S:Nat->Prop)(w:World)(d:Nat)(F:Dk.av)(B:List Dk.Op)(e:Ending)(w' : World):Prop :=
 e = .returned (.tuple #[])∧cu (fun j=>S j∨w.heap.size<=j) w' d F B∧Kp (fun j _ => ¬S j) w w'
theorem Ju{S:Nat->Prop}{w:World}{d:Nat}{F:Dk.av}{B:List Dk.Op}(h:cu S w d F B)(k n:Int)(v:Value)(hn : ¬(1<=n∧n<=4294967296)) :
 Calls Tryz.prog 71 #[.pointer (some ⟨d,0,none⟩), .int .i64 k, .int .i64 n,v] w (mA S w d F B):=by
 have HE:Hid (mA S w d F B (.returned (.tuple #[])) w):=⟨rfl,h.imp fun j _ hS => .inl hS,Kp.refl _ _⟩
 clear h;by_cases h1:n<1
 ·go_enter Tryz.func71,Tryz.ntmps71
  go_wp2
  go_end0
  exact HE.out
 ·have h2:4294967296<n:=by omega
  clear hn
  go_enter Tryz.func71,Tryz.ntmps71
  go_wp2
  go_end0
  exact HE.out
theorem FV{S:Nat->Prop}{w:World}{d:Nat}{b:Nat}{bv:Value}{zs:List Row}{qs:List (Dk.Op × Value)}(h:ep S w d (some b) bv zs qs)(k n:Int)(v:Value)(data:List UInt8)(hd:Reads w v data)(hl:data.length<=17592186044416)(hq:qs.length<=1099511627776)(hn:1<=n)(VI:n<=4294967296) :
 Calls Tryz.prog 71 #[.pointer (some ⟨d,0,none⟩), .int .i64 k, .int .i64 n,v] w (mA S w d (Dk.aZ (·.2) zs) (qs.map (·.1) ++ [⟨k,n,data⟩])):=by
 obtain⟨ao,cap,rfl⟩:=hd.shape;obtain⟨S2,M9⟩ : ∃S2,S2=S:=⟨_,rfl⟩;have H2:Hid (ep S2 w d (some b) bv zs qs∧Reads w (.slice ao data.length cap) data):=⟨M9 ▸ h,hd⟩;have HB:Hid (∀(u u3:World),ep S2 u d (some b) bv zs qs->Below u.heap.size u u3->aU u3 0 91 3 bv (rowsOf Dk.ay qs)):=fun u u3 hu hb=>aU.keep hu.row hb (Nat.le_refl _)
 have HC:Hid (∀(u u3:World) (o:Obj) (u5:World),ep S2 u d (some b) bv zs qs->Below u.heap.size u u3->(u3.alloc o).grownBy u5 bv.ownBlock->ae u5 d 76 #[.map (some b),bv]):=fun u u3 o u5 hu hb hg =>
  ((hu.ag.below hb hu.ag.lt).alloc o).kept hg (((hu.ag.below hb hu.ag.lt).alloc o).not_row (by decide) ((aU.keep hu.row hb (Nat.le_refl _)).alloc o))
 have HE:Hid (∀(u w6:World) (EW : Value) {v3:Value},ep (fun j=>S2 j∨w.heap.size<=j) w6 d (some b) EW zs (qs ++ [(⟨k,n,data⟩,v3)])∧Kp (fun j _ => ¬S2 j) w w6->cu (fun j=>S j∨w.heap.size<=j) w6 d (Dk.aZ (·.2) zs) (qs.map (·.1) ++ [⟨k,n,data⟩])∧Kp (fun j _ => ¬S j) w w6):=fun u w6 EW v3 hh=>by
  subst M9;exact⟨⟨_,EW, zs,_,hh.1,rfl,by simp⟩,hh.2⟩
 have c0:w.cell? ⟨d,0,none⟩=some (.map (some b)):=h.ag.cell 0 _ rfl;have c1:w.cell? ⟨d,1,none⟩=some bv:=h.ag.cell 1 _ rfl;clear h hd M9;have Nt : ∀(x:Nat) (u:World),(binOp .eql 74 (.map (some x)) (.map none)).run Tryz.prog u = .ok (.bool false) u:=fun _ _=>by kernel_rfl
 have PT : ∀u:World,(binOp .eql 74 (.map none) (.map none)).run Tryz.prog u = .ok (.bool true) u:=fun _=>by kernel_rfl
 go_enter Tryz.func71,Tryz.ntmps71
 go_wp2;refine wp_region_held_drew (S:=fun _=>True) (by kernel_rfl) (trivial) (fun hHeld => ?_)
 refine bH 0 rfl hHeld ?_;refine bH 1 rfl hHeld ?_;refine bH 2 rfl hHeld ?_;refine bH 3 rfl hHeld ?_;refine bH 5 rfl hHeld ?_;refine bH 6 rfl hHeld ?_;refine bH 7 rfl hHeld ?_;refine wpAnyH_ready (rs := [4,8]) (by kernel_rfl) (by simp) ?_
 refine AllReadyH.cons rfl (fun K hK => ?_) (AllReadyH.cons rfl (fun K hK => ?_) AllReadyH.nil)
 ·rw[if_pos (by rfl)]
  go_simp;refine hK.out _ _ trivial (fun hHeld => ?_)
  clear hK K;refine wpAnyH_ready (rs := [8]) (by kernel_rfl) (by simp) ?_
  refine AllReadyH.cons rfl (fun K hK => ?_) AllReadyH.nil
  rw[if_pos (by rfl)]
  go_simp
  go_at_call 61
  refine(di (.slice ao data.length cap) data w.drew (Reads.below H2.2 (drawn w 1)) (by omega)).mono ?_
  rintro e w3 ⟨v3,rfl,fM,hb3⟩;obtain⟨eu,bQ,rfl⟩:=fM.reads.shape;have om:=aa fM;have bh:=aa (on (drawn w 1) hb3);clear fM hb3;refine hK.out _ _ trivial (fun hHeld => ?_)
  clear hK K;refine bH 9 rfl hHeld ?_;refine wpAnyH_ready (rs := [10]) (by kernel_rfl) (by simp) ?_
  refine AllReadyH.cons rfl (fun K hK => ?_) AllReadyH.nil
  rw[if_pos (by rfl)]
  go_simp;refine hK.out _ _ trivial (fun hHeld => ?_)
  clear hK K;obtain⟨v5,w5,hrun,eW,bU,ra⟩:=bG (P:=Tryz.prog) (w:=w3.alloc (.cells (Dk.ay ⟨k,n,data⟩ (.slice eu data.length bQ)) 91)) 67 67 91 3 40 _ Tryz.underlying67 lu rfl (by decide) 0 (rowsOf Dk.ay qs) [Dk.ay ⟨k,n,data⟩ (.slice eu data.length bQ)] bv _ ((HB.out w w3 H2.1 bh.out).alloc _) (aQ.single (ae.new w3 _ _)) (fun r hr=>by obtain rfl:=List.mem_singleton.1 hr;exact⟨rfl,(Dk.gG ⟨k,n,data⟩ (.slice eu data.length bQ)).2 rfl⟩) (by simp[rowsOf];omega) (by simp[rowsOf];omega) (Nat.zero_le _)
  obtain⟨iV,dA,rfl⟩:=aU.shape eW;have mB : aU w5 0 91 3 (.slice iV (rowsOf Dk.ay qs ++ [Dk.ay ⟨k,n,data⟩ (.slice eu data.length bQ)]).length dA) (rowsOf Dk.ay (qs ++ [(⟨k,n,data⟩, .slice eu data.length bQ)])):=by rw[show rowsOf Dk.ay (qs ++ [(⟨k,n,data⟩, .slice eu data.length bQ)])=rowsOf Dk.ay qs ++ [Dk.ay ⟨k,n,data⟩ (.slice eu data.length bQ)] by simp[rowsOf]];exact eW
  have iW:=aa mB; have j3:=aa bU;have Ag:=aa ra;have gV:=aa hrun;have eN:=HC.out w w3 _ w5 H2.1 bh.out j3.out;clear eW mB bU ra hrun;refine wpAnyH_ready (rs := [11]) (by kernel_rfl) (by simp) ?_
  refine bt 11 (.tmp 31) (.tmp 37) 67 rfl rfl rfl bv (.slice (some ⟨w3.heap.size,0,none⟩) 1 1) (.slice iV (rowsOf Dk.ay qs ++ [Dk.ay ⟨k,n,data⟩ (.slice eu data.length bQ)]).length dA) w5 ?PU ?Jv gV.out ⟨trivial,fun hHeld => ?_⟩
  case PU=>kernel_rfl
  case Jv=>kernel_rfl
  refine bH 12 rfl hHeld ?_;refine bH 13 rfl hHeld ?_;refine wpAnyH_ready (rs := [14]) (by kernel_rfl) (by simp) ?_
  refine bq 14 67 (.tmp 40) (.tmp 38) rfl rfl rfl d 1 76 #[.map (some b),bv] #[.map (some b), .slice iV (rowsOf Dk.ay qs ++ [Dk.ay ⟨k,n,data⟩ (.slice eu data.length bQ)]).length dA] (.slice iV (rowsOf Dk.ay qs ++ [Dk.ay ⟨k,n,data⟩ (.slice eu data.length bQ)]).length dA) [.slice iV (rowsOf Dk.ay qs ++ [Dk.ay ⟨k,n,data⟩ (.slice eu data.length bQ)]).length dA] ?PV ?PW rfl (by kernel_rfl) rfl eN (Nat.le_of_ble_eq_true rfl) rfl ?WG
  case PV=>kernel_rfl
  case PW=>kernel_rfl
  intro w6 eZ dt
  have dX:=aa eZ;have pG:=aa dt;clear eZ dt eN;refine⟨trivial,fun hHeld => ?_⟩
  refine wpAnyH_done (by kernel_rfl) ?_ _
  clear hHeld;go_wp2
  go_end0
  exact⟨rfl,HE.out w w6 _ (H2.1.hold ⟨k,n,data⟩ bh.out om.out _ iW.out j3.out Ag.out dX.out pG.out)⟩
 ·rw[if_pos (by rfl)]
  go_simp
  go_at_call 61
  refine(di (.slice ao data.length cap) data w.drew (Reads.below H2.2 (drawn w 1)) (by omega)).mono ?_
  rintro e w3 ⟨v3,rfl,fM,hb3⟩;obtain⟨eu,bQ,rfl⟩:=fM.reads.shape;have om:=aa fM;have bh:=aa (on (drawn w 1) hb3);clear fM hb3;refine hK.out _ _ trivial (fun hHeld => ?_)
  clear hK K;refine bH 9 rfl hHeld ?_;have q3:w3.cell? ⟨d,1,none⟩=some bv:=(H2.1.ag.below bh.out H2.1.ag.lt).cell 1 _ rfl;refine wpAnyH_ready (rs := [4,10]) (by kernel_rfl) (by simp) ?_
  refine AllReadyH.cons rfl (fun K hK => ?_) (AllReadyH.cons rfl (fun K hK => ?_) AllReadyH.nil)
  ·rw[if_pos (by rfl)]
   go_simp;refine hK.out _ _ trivial (fun hHeld => ?_)
   clear hK K;clear q3;refine wpAnyH_ready (rs := [10]) (by kernel_rfl) (by simp) ?_
   refine AllReadyH.cons rfl (fun K hK => ?_) AllReadyH.nil
   rw[if_pos (by rfl)]
   go_simp;refine hK.out _ _ trivial (fun hHeld => ?_)
   clear hK K;obtain⟨v5,w5,hrun,eW,bU,ra⟩:=bG (P:=Tryz.prog) (w:=w3.alloc (.cells (Dk.ay ⟨k,n,data⟩ (.slice eu data.length bQ)) 91)) 67 67 91 3 40 _ Tryz.underlying67 lu rfl (by decide) 0 (rowsOf Dk.ay qs) [Dk.ay ⟨k,n,data⟩ (.slice eu data.length bQ)] bv _ ((HB.out w w3 H2.1 bh.out).alloc _) (aQ.single (ae.new w3 _ _)) (fun r hr=>by obtain rfl:=List.mem_singleton.1 hr;exact⟨rfl,(Dk.gG ⟨k,n,data⟩ (.slice eu data.length bQ)).2 rfl⟩) (by simp[rowsOf];omega) (by simp[rowsOf];omega) (Nat.zero_le _)
   obtain⟨iV,dA,rfl⟩:=aU.shape eW;have mB : aU w5 0 91 3 (.slice iV (rowsOf Dk.ay qs ++ [Dk.ay ⟨k,n,data⟩ (.slice eu data.length bQ)]).length dA) (rowsOf Dk.ay (qs ++ [(⟨k,n,data⟩, .slice eu data.length bQ)])):=by rw[show rowsOf Dk.ay (qs ++ [(⟨k,n,data⟩, .slice eu data.length bQ)])=rowsOf Dk.ay qs ++ [Dk.ay ⟨k,n,data⟩ (.slice eu data.length bQ)] by simp[rowsOf]];exact eW
   have iW:=aa mB; have j3:=aa bU;have Ag:=aa ra;have gV:=aa hrun;have eN:=HC.out w w3 _ w5 H2.1 bh.out j3.out;clear eW mB bU ra hrun;refine wpAnyH_ready (rs := [11]) (by kernel_rfl) (by simp) ?_
   refine bt 11 (.tmp 31) (.tmp 37) 67 rfl rfl rfl bv (.slice (some ⟨w3.heap.size,0,none⟩) 1 1) (.slice iV (rowsOf Dk.ay qs ++ [Dk.ay ⟨k,n,data⟩ (.slice eu data.length bQ)]).length dA) w5 ?PX ?Jw gV.out ⟨trivial,fun hHeld => ?_⟩
   case PX=>kernel_rfl
   case Jw=>kernel_rfl
   refine bH 12 rfl hHeld ?_;refine bH 13 rfl hHeld ?_;refine wpAnyH_ready (rs := [14]) (by kernel_rfl) (by simp) ?_
   refine bq 14 67 (.tmp 40) (.tmp 38) rfl rfl rfl d 1 76 #[.map (some b),bv] #[.map (some b), .slice iV (rowsOf Dk.ay qs ++ [Dk.ay ⟨k,n,data⟩ (.slice eu data.length bQ)]).length dA] (.slice iV (rowsOf Dk.ay qs ++ [Dk.ay ⟨k,n,data⟩ (.slice eu data.length bQ)]).length dA) [.slice iV (rowsOf Dk.ay qs ++ [Dk.ay ⟨k,n,data⟩ (.slice eu data.length bQ)]).length dA] ?PY ?PZ rfl (by kernel_rfl) rfl eN (Nat.le_of_ble_eq_true rfl) rfl ?WH
   case PY=>kernel_rfl
   case PZ=>kernel_rfl
   intro w6 eZ dt
   have dX:=aa eZ;have pG:=aa dt;clear eZ dt eN;refine⟨trivial,fun hHeld => ?_⟩
   refine wpAnyH_done (by kernel_rfl) ?_ _
   clear hHeld;go_wp2
   go_end0
   exact⟨rfl,HE.out w w6 _ (H2.1.hold ⟨k,n,data⟩ bh.out om.out _ iW.out j3.out Ag.out dX.out pG.out)⟩
  ·rw[if_pos (by rfl)]
   go_simp;refine hK.out _ _ trivial (fun hHeld => ?_)
   clear hK K;clear q3;have q4:(w3.alloc (.cells #[.int .i64 k, .int .i64 n, .slice eu data.length bQ] 91)).cell? ⟨d,1,none⟩=some bv:=((H2.1.ag.below bh.out H2.1.ag.lt).alloc _).cell 1 _ rfl;refine wpAnyH_ready (rs := [4]) (by kernel_rfl) (by simp) ?_
   refine AllReadyH.cons rfl (fun K hK => ?_) AllReadyH.nil
   rw[if_pos (by rfl)]
   go_simp;refine hK.out _ _ trivial (fun hHeld => ?_)
   clear hK K;clear q4;obtain⟨v5,w5,hrun,eW,bU,ra⟩:=bG (P:=Tryz.prog) (w:=w3.alloc (.cells (Dk.ay ⟨k,n,data⟩ (.slice eu data.length bQ)) 91)) 67 67 91 3 40 _ Tryz.underlying67 lu rfl (by decide) 0 (rowsOf Dk.ay qs) [Dk.ay ⟨k,n,data⟩ (.slice eu data.length bQ)] bv _ ((HB.out w w3 H2.1 bh.out).alloc _) (aQ.single (ae.new w3 _ _)) (fun r hr=>by obtain rfl:=List.mem_singleton.1 hr;exact⟨rfl,(Dk.gG ⟨k,n,data⟩ (.slice eu data.length bQ)).2 rfl⟩) (by simp[rowsOf];omega) (by simp[rowsOf];omega) (Nat.zero_le _)
   obtain⟨iV,dA,rfl⟩:=aU.shape eW;have mB : aU w5 0 91 3 (.slice iV (rowsOf Dk.ay qs ++ [Dk.ay ⟨k,n,data⟩ (.slice eu data.length bQ)]).length dA) (rowsOf Dk.ay (qs ++ [(⟨k,n,data⟩, .slice eu data.length bQ)])):=by rw[show rowsOf Dk.ay (qs ++ [(⟨k,n,data⟩, .slice eu data.length bQ)])=rowsOf Dk.ay qs ++ [Dk.ay ⟨k,n,data⟩ (.slice eu data.length bQ)] by simp[rowsOf]];exact eW
   have iW:=aa mB; have j3:=aa bU;have Ag:=aa ra;have gV:=aa hrun;have eN:=HC.out w w3 _ w5 H2.1 bh.out j3.out;clear eW mB bU ra hrun;refine wpAnyH_ready (rs := [11]) (by kernel_rfl) (by simp) ?_
   refine bt 11 (.tmp 31) (.tmp 37) 67 rfl rfl rfl bv (.slice (some ⟨w3.heap.size,0,none⟩) 1 1) (.slice iV (rowsOf Dk.ay qs ++ [Dk.ay ⟨k,n,data⟩ (.slice eu data.length bQ)]).length dA) w5 ?P0 ?P4 gV.out ⟨trivial,fun hHeld => ?_⟩
   case P0=>kernel_rfl
   case P4=>kernel_rfl
   refine bH 12 rfl hHeld ?_;refine bH 13 rfl hHeld ?_;refine wpAnyH_ready (rs := [14]) (by kernel_rfl) (by simp) ?_
   refine bq 14 67 (.tmp 40) (.tmp 38) rfl rfl rfl d 1 76 #[.map (some b),bv] #[.map (some b), .slice iV (rowsOf Dk.ay qs ++ [Dk.ay ⟨k,n,data⟩ (.slice eu data.length bQ)]).length dA] (.slice iV (rowsOf Dk.ay qs ++ [Dk.ay ⟨k,n,data⟩ (.slice eu data.length bQ)]).length dA) [.slice iV (rowsOf Dk.ay qs ++ [Dk.ay ⟨k,n,data⟩ (.slice eu data.length bQ)]).length dA] ?P6 ?Qa rfl (by kernel_rfl) rfl eN (Nat.le_of_ble_eq_true rfl) rfl ?WI
   case P6=>kernel_rfl
   case Qa=>kernel_rfl
   intro w6 eZ dt
   have dX:=aa eZ;have pG:=aa dt;clear eZ dt eN;refine⟨trivial,fun hHeld => ?_⟩
   refine wpAnyH_done (by kernel_rfl) ?_ _
   clear hHeld;go_wp2
   go_end0
   exact⟨rfl,HE.out w w6 _ (H2.1.hold ⟨k,n,data⟩ bh.out om.out _ iW.out j3.out Ag.out dX.out pG.out)⟩
theorem FX{S:Nat->Prop}{w:World}{d:Nat} {bv:Value}{zs:List Row}{qs:List (Dk.Op × Value)}(h:ep S w d none bv zs qs)(k n:Int)(v:Value)(data:List UInt8)(hd:Reads w v data)(hl:data.length<=17592186044416)(hq:qs.length<=1099511627776)(hn:1<=n)(VI:n<=4294967296) :
 Calls Tryz.prog 71 #[.pointer (some ⟨d,0,none⟩), .int .i64 k, .int .i64 n,v] w (mA S w d (Dk.aZ (·.2) zs) (qs.map (·.1) ++ [⟨k,n,data⟩])):=by
 obtain⟨ao,cap,rfl⟩:=hd.shape;have Zc:zs = []∧qs = []:=by
  rcases h.map with ⟨_,h1,h2⟩ | ⟨b,e,_⟩
  ·exact⟨h1,h2⟩
  ·cases e
 have HZ:=aa Zc;clear Zc;have Ns := @run_makeMap Tryz.prog;obtain⟨w1,fJ⟩ : ∃w1,w.alloc (.map #[] 0)=w1:=⟨_,rfl⟩;have hb1:Below w.heap.size w w1:=by rw[<- fJ];exact(Below.refl _ w).alloc (Nat.le_refl _) _
 have Jy:aT w1 w.heap.size []:=by rw[<- fJ];exact aT.new w
 have dh:Hid (ae w1 d 76 #[.map none,bv]):=h.ag.below hb1 h.ag.lt;have aG:=aa hb1;have Zd:=aa Jy;have HP:=aa h;have HD:=aa hd;have c0:w.cell? ⟨d,0,none⟩=some (.map none):=h.ag.cell 0 _ rfl;have q1:w1.cell? ⟨d,1,none⟩=some bv:=dh.cell 1 _ rfl;clear h hd hb1 Jy;obtain⟨S2,M9⟩ : ∃S2:Nat->Prop,S2=fun j=>S j∨w.heap.size<=j:=⟨_,rfl⟩
 have kM:=aa M9;clear M9;have Nt : ∀(x:Nat) (u:World),(binOp .eql 74 (.map (some x)) (.map none)).run Tryz.prog u = .ok (.bool false) u:=fun _ _=>by kernel_rfl
 have PT : ∀u:World,(binOp .eql 74 (.map none) (.map none)).run Tryz.prog u = .ok (.bool true) u:=fun _=>by kernel_rfl
 go_enter Tryz.func71,Tryz.ntmps71
 go_wp2_with (refine aP rfl 74 _ _ rfl d 0 76 _ #[.map (some w.heap.size),bv] (.map (some w.heap.size)) [.map (some w.heap.size)] rfl rfl rfl (by kernel_rfl) rfl dh.out (Nat.le_of_ble_eq_true rfl) rfl ?_;intro w2 hl2 hg2)
 obtain⟨b,hb⟩ : ∃b,w.heap.size=b:=⟨_,rfl⟩;have HK:Hid (Kp (fun j _ => ¬S j) w w2):=(Kp.all aG.out).trans (Kp.aI hg2 fun j _ e _ hq=>hq (by simp only[Option.some.injEq]at e;exact e ▸ HP.here))
 have WJ:ep S2 w2 d (some b) bv zs qs:=by
  rw[kM.out, <- hb,HZ.1,HZ.2];have WK:=HP.ag.lt;refine⟨hl2, .inl HP.here, .inr ⟨_,rfl, .inr (Nat.le_refl _),Zd.stays (hg2.block _ Zd.map.lt (by simp;omega)) (fun k hk=>by obtain⟨z,hz,_⟩:=hk;simp at hz)⟩,fun k hk=>by obtain⟨z,hz,_⟩:=hk;simp at hz, ?_,fun g e => .inl (HP.FU g e),fun q hq=>by simp at hq⟩
  have h0:=HP.row;rw[HZ.2]at h0
  refine h0.stays fun g e => ?_
  obtain⟨cs,hc,_⟩:=h0.cells e;have hne:g≠d:=fun e' => by subst e'; rw[show w.heap[g]? = _ from HP.ag]at hc;cases hc
  have fL:=aG.block g (aK hc);rw[hg2.block g (by have:=aG.size;have:=aK hc;omega) (by simpa using hne),fL]
 have H2:Hid (ep S2 w2 d (some b) bv zs qs∧Reads w2 (.slice ao data.length cap) data):=⟨WJ,(HD.below aG.out).dO dh.out (fun j x=>by
  match j with
  | 0=>simp
  | 1 =>
   obtain⟨EX, cap', e⟩:=HP.row.shape;simp[e]
  | j+2=>simp) hg2⟩
 have vR:Hid (w.heap.size<=w2.heap.size):=Nat.le_trans aG.size hg2.size;have c1:w2.cell? ⟨d,1,none⟩=some bv:=WJ.ag.cell 1 _ rfl;clear WJ hl2 hg2 q1 hb c0 Ns;have HB:Hid (∀(u u3:World),ep S2 u d (some b) bv zs qs->Below u.heap.size u u3->aU u3 0 91 3 bv (rowsOf Dk.ay qs)):=fun u u3 hu hb=>aU.keep hu.row hb (Nat.le_refl _)
 have HC:Hid (∀(u u3:World) (o:Obj) (u5:World),ep S2 u d (some b) bv zs qs->Below u.heap.size u u3->(u3.alloc o).grownBy u5 bv.ownBlock->ae u5 d 76 #[.map (some b),bv]):=fun u u3 o u5 hu hb hg =>
  ((hu.ag.below hb hu.ag.lt).alloc o).kept hg (((hu.ag.below hb hu.ag.lt).alloc o).not_row (by decide) ((aU.keep hu.row hb (Nat.le_refl _)).alloc o))
 have HE:Hid (∀(u w6:World) (EW : Value) {v3:Value},ep (fun j=>S2 j∨w2.heap.size<=j) w6 d (some b) EW zs (qs ++ [(⟨k,n,data⟩,v3)])∧Kp (fun j _ => ¬S2 j) w2 w6->cu (fun j=>S j∨w.heap.size<=j) w6 d (Dk.aZ (·.2) zs) (qs.map (·.1) ++ [⟨k,n,data⟩])∧Kp (fun j _ => ¬S j) w w6):=fun u w6 EW v3 hh=>by
  obtain⟨hh1,hh2⟩:=hh;refine⟨⟨_,EW, zs,_,hh1.imp fun j _ hj => ?_,rfl,by simp⟩,HK.then hh2 fun g o e hS => ?_⟩
  ·rw[kM.out]at hj
   have:=vR.out;rcases hj with (hj | hj) | hj
   ·exact .inl hj
   ·exact .inr hj
   ·right;omega
  ·rw[kM.out]
   rintro(h | h)
   ·exact hS h
   ·have:=aK e;omega
 refine wp_region_held_drew (S:=fun _=>True) (by kernel_rfl) (trivial) (fun hHeld => ?_)
 refine bH 0 rfl hHeld ?_;refine bH 1 rfl hHeld ?_;refine bH 2 rfl hHeld ?_;refine bH 3 rfl hHeld ?_;refine bH 5 rfl hHeld ?_;refine bH 6 rfl hHeld ?_;refine bH 7 rfl hHeld ?_;refine wpAnyH_ready (rs := [4,8]) (by kernel_rfl) (by simp) ?_
 refine AllReadyH.cons rfl (fun K hK => ?_) (AllReadyH.cons rfl (fun K hK => ?_) AllReadyH.nil)
 ·rw[if_pos (by rfl)]
  go_simp;refine hK.out _ _ trivial (fun hHeld => ?_)
  clear hK K;refine wpAnyH_ready (rs := [8]) (by kernel_rfl) (by simp) ?_
  refine AllReadyH.cons rfl (fun K hK => ?_) AllReadyH.nil
  rw[if_pos (by rfl)]
  go_simp
  go_at_call 61
  refine(di (.slice ao data.length cap) data w2.drew (Reads.below H2.2 (drawn w2 1)) (by omega)).mono ?_
  rintro e w3 ⟨v3,rfl,fM,hb3⟩;obtain⟨eu,bQ,rfl⟩:=fM.reads.shape;have om:=aa fM;have bh:=aa (on (drawn w2 1) hb3);clear fM hb3;refine hK.out _ _ trivial (fun hHeld => ?_)
  clear hK K;refine bH 9 rfl hHeld ?_;refine wpAnyH_ready (rs := [10]) (by kernel_rfl) (by simp) ?_
  refine AllReadyH.cons rfl (fun K hK => ?_) AllReadyH.nil
  rw[if_pos (by rfl)]
  go_simp;refine hK.out _ _ trivial (fun hHeld => ?_)
  clear hK K;obtain⟨v5,w5,hrun,eW,bU,ra⟩:=bG (P:=Tryz.prog) (w:=w3.alloc (.cells (Dk.ay ⟨k,n,data⟩ (.slice eu data.length bQ)) 91)) 67 67 91 3 40 _ Tryz.underlying67 lu rfl (by decide) 0 (rowsOf Dk.ay qs) [Dk.ay ⟨k,n,data⟩ (.slice eu data.length bQ)] bv _ ((HB.out w2 w3 H2.1 bh.out).alloc _) (aQ.single (ae.new w3 _ _)) (fun r hr=>by obtain rfl:=List.mem_singleton.1 hr;exact⟨rfl,(Dk.gG ⟨k,n,data⟩ (.slice eu data.length bQ)).2 rfl⟩) (by simp[rowsOf];omega) (by simp[rowsOf];omega) (Nat.zero_le _)
  obtain⟨iV,dA,rfl⟩:=aU.shape eW;have mB : aU w5 0 91 3 (.slice iV (rowsOf Dk.ay qs ++ [Dk.ay ⟨k,n,data⟩ (.slice eu data.length bQ)]).length dA) (rowsOf Dk.ay (qs ++ [(⟨k,n,data⟩, .slice eu data.length bQ)])):=by rw[show rowsOf Dk.ay (qs ++ [(⟨k,n,data⟩, .slice eu data.length bQ)])=rowsOf Dk.ay qs ++ [Dk.ay ⟨k,n,data⟩ (.slice eu data.length bQ)] by simp[rowsOf]];exact eW
  have iW:=aa mB; have j3:=aa bU;have Ag:=aa ra;have gV:=aa hrun;have eN:=HC.out w2 w3 _ w5 H2.1 bh.out j3.out;clear eW mB bU ra hrun;refine wpAnyH_ready (rs := [11]) (by kernel_rfl) (by simp) ?_
  refine bt 11 (.tmp 31) (.tmp 37) 67 rfl rfl rfl bv (.slice (some ⟨w3.heap.size,0,none⟩) 1 1) (.slice iV (rowsOf Dk.ay qs ++ [Dk.ay ⟨k,n,data⟩ (.slice eu data.length bQ)]).length dA) w5 ?PU ?Jv gV.out ⟨trivial,fun hHeld => ?_⟩
  case PU=>kernel_rfl
  case Jv=>kernel_rfl
  refine bH 12 rfl hHeld ?_;refine bH 13 rfl hHeld ?_;refine wpAnyH_ready (rs := [14]) (by kernel_rfl) (by simp) ?_
  refine bq 14 67 (.tmp 40) (.tmp 38) rfl rfl rfl d 1 76 #[.map (some b),bv] #[.map (some b), .slice iV (rowsOf Dk.ay qs ++ [Dk.ay ⟨k,n,data⟩ (.slice eu data.length bQ)]).length dA] (.slice iV (rowsOf Dk.ay qs ++ [Dk.ay ⟨k,n,data⟩ (.slice eu data.length bQ)]).length dA) [.slice iV (rowsOf Dk.ay qs ++ [Dk.ay ⟨k,n,data⟩ (.slice eu data.length bQ)]).length dA] ?PV ?PW rfl (by kernel_rfl) rfl eN (Nat.le_of_ble_eq_true rfl) rfl ?WG
  case PV=>kernel_rfl
  case PW=>kernel_rfl
  intro w6 eZ dt
  have dX:=aa eZ;have pG:=aa dt;clear eZ dt eN;refine⟨trivial,fun hHeld => ?_⟩
  refine wpAnyH_done (by kernel_rfl) ?_ _
  clear hHeld;go_wp2
  go_end0
  exact⟨rfl,HE.out w2 w6 _ (H2.1.hold ⟨k,n,data⟩ bh.out om.out _ iW.out j3.out Ag.out dX.out pG.out)⟩
 ·rw[if_pos (by rfl)]
  go_simp
  go_at_call 61
  refine(di (.slice ao data.length cap) data w2.drew (Reads.below H2.2 (drawn w2 1)) (by omega)).mono ?_
  rintro e w3 ⟨v3,rfl,fM,hb3⟩;obtain⟨eu,bQ,rfl⟩:=fM.reads.shape;have om:=aa fM;have bh:=aa (on (drawn w2 1) hb3);clear fM hb3;refine hK.out _ _ trivial (fun hHeld => ?_)
  clear hK K;refine bH 9 rfl hHeld ?_;have q3:w3.cell? ⟨d,1,none⟩=some bv:=(H2.1.ag.below bh.out H2.1.ag.lt).cell 1 _ rfl;refine wpAnyH_ready (rs := [4,10]) (by kernel_rfl) (by simp) ?_
  refine AllReadyH.cons rfl (fun K hK => ?_) (AllReadyH.cons rfl (fun K hK => ?_) AllReadyH.nil)
  ·rw[if_pos (by rfl)]
   go_simp;refine hK.out _ _ trivial (fun hHeld => ?_)
   clear hK K;clear q3;refine wpAnyH_ready (rs := [10]) (by kernel_rfl) (by simp) ?_
   refine AllReadyH.cons rfl (fun K hK => ?_) AllReadyH.nil
   rw[if_pos (by rfl)]
   go_simp;refine hK.out _ _ trivial (fun hHeld => ?_)
   clear hK K;obtain⟨v5,w5,hrun,eW,bU,ra⟩:=bG (P:=Tryz.prog) (w:=w3.alloc (.cells (Dk.ay ⟨k,n,data⟩ (.slice eu data.length bQ)) 91)) 67 67 91 3 40 _ Tryz.underlying67 lu rfl (by decide) 0 (rowsOf Dk.ay qs) [Dk.ay ⟨k,n,data⟩ (.slice eu data.length bQ)] bv _ ((HB.out w2 w3 H2.1 bh.out).alloc _) (aQ.single (ae.new w3 _ _)) (fun r hr=>by obtain rfl:=List.mem_singleton.1 hr;exact⟨rfl,(Dk.gG ⟨k,n,data⟩ (.slice eu data.length bQ)).2 rfl⟩) (by simp[rowsOf];omega) (by simp[rowsOf];omega) (Nat.zero_le _)
   obtain⟨iV,dA,rfl⟩:=aU.shape eW;have mB : aU w5 0 91 3 (.slice iV (rowsOf Dk.ay qs ++ [Dk.ay ⟨k,n,data⟩ (.slice eu data.length bQ)]).length dA) (rowsOf Dk.ay (qs ++ [(⟨k,n,data⟩, .slice eu data.length bQ)])):=by rw[show rowsOf Dk.ay (qs ++ [(⟨k,n,data⟩, .slice eu data.length bQ)])=rowsOf Dk.ay qs ++ [Dk.ay ⟨k,n,data⟩ (.slice eu data.length bQ)] by simp[rowsOf]];exact eW
   have iW:=aa mB; have j3:=aa bU;have Ag:=aa ra;have gV:=aa hrun;have eN:=HC.out w2 w3 _ w5 H2.1 bh.out j3.out;clear eW mB bU ra hrun;refine wpAnyH_ready (rs := [11]) (by kernel_rfl) (by simp) ?_
   refine bt 11 (.tmp 31) (.tmp 37) 67 rfl rfl rfl bv (.slice (some ⟨w3.heap.size,0,none⟩) 1 1) (.slice iV (rowsOf Dk.ay qs ++ [Dk.ay ⟨k,n,data⟩ (.slice eu data.length bQ)]).length dA) w5 ?PX ?Jw gV.out ⟨trivial,fun hHeld => ?_⟩
   case PX=>kernel_rfl
   case Jw=>kernel_rfl
   refine bH 12 rfl hHeld ?_;refine bH 13 rfl hHeld ?_;refine wpAnyH_ready (rs := [14]) (by kernel_rfl) (by simp) ?_
   refine bq 14 67 (.tmp 40) (.tmp 38) rfl rfl rfl d 1 76 #[.map (some b),bv] #[.map (some b), .slice iV (rowsOf Dk.ay qs ++ [Dk.ay ⟨k,n,data⟩ (.slice eu data.length bQ)]).length dA] (.slice iV (rowsOf Dk.ay qs ++ [Dk.ay ⟨k,n,data⟩ (.slice eu data.length bQ)]).length dA) [.slice iV (rowsOf Dk.ay qs ++ [Dk.ay ⟨k,n,data⟩ (.slice eu data.length bQ)]).length dA] ?PY ?PZ rfl (by kernel_rfl) rfl eN (Nat.le_of_ble_eq_true rfl) rfl ?WH
   case PY=>kernel_rfl
   case PZ=>kernel_rfl
   intro w6 eZ dt
   have dX:=aa eZ;have pG:=aa dt;clear eZ dt eN;refine⟨trivial,fun hHeld => ?_⟩
   refine wpAnyH_done (by kernel_rfl) ?_ _
   clear hHeld;go_wp2
   go_end0
   exact⟨rfl,HE.out w2 w6 _ (H2.1.hold ⟨k,n,data⟩ bh.out om.out _ iW.out j3.out Ag.out dX.out pG.out)⟩
  ·rw[if_pos (by rfl)]
   go_simp;refine hK.out _ _ trivial (fun hHeld => ?_)
   clear hK K;clear q3;have q4:(w3.alloc (.cells #[.int .i64 k, .int .i64 n, .slice eu data.length bQ] 91)).cell? ⟨d,1,none⟩=some bv:=((H2.1.ag.below bh.out H2.1.ag.lt).alloc _).cell 1 _ rfl;refine wpAnyH_ready (rs := [4]) (by kernel_rfl) (by simp) ?_
   refine AllReadyH.cons rfl (fun K hK => ?_) AllReadyH.nil
   rw[if_pos (by rfl)]
   go_simp;refine hK.out _ _ trivial (fun hHeld => ?_)
   clear hK K;clear q4;obtain⟨v5,w5,hrun,eW,bU,ra⟩:=bG (P:=Tryz.prog) (w:=w3.alloc (.cells (Dk.ay ⟨k,n,data⟩ (.slice eu data.length bQ)) 91)) 67 67 91 3 40 _ Tryz.underlying67 lu rfl (by decide) 0 (rowsOf Dk.ay qs) [Dk.ay ⟨k,n,data⟩ (.slice eu data.length bQ)] bv _ ((HB.out w2 w3 H2.1 bh.out).alloc _) (aQ.single (ae.new w3 _ _)) (fun r hr=>by obtain rfl:=List.mem_singleton.1 hr;exact⟨rfl,(Dk.gG ⟨k,n,data⟩ (.slice eu data.length bQ)).2 rfl⟩) (by simp[rowsOf];omega) (by simp[rowsOf];omega) (Nat.zero_le _)
   obtain⟨iV,dA,rfl⟩:=aU.shape eW;have mB : aU w5 0 91 3 (.slice iV (rowsOf Dk.ay qs ++ [Dk.ay ⟨k,n,data⟩ (.slice eu data.length bQ)]).length dA) (rowsOf Dk.ay (qs ++ [(⟨k,n,data⟩, .slice eu data.length bQ)])):=by rw[show rowsOf Dk.ay (qs ++ [(⟨k,n,data⟩, .slice eu data.length bQ)])=rowsOf Dk.ay qs ++ [Dk.ay ⟨k,n,data⟩ (.slice eu data.length bQ)] by simp[rowsOf]];exact eW
   have iW:=aa mB; have j3:=aa bU;have Ag:=aa ra;have gV:=aa hrun;have eN:=HC.out w2 w3 _ w5 H2.1 bh.out j3.out;clear eW mB bU ra hrun;refine wpAnyH_ready (rs := [11]) (by kernel_rfl) (by simp) ?_
   refine bt 11 (.tmp 31) (.tmp 37) 67 rfl rfl rfl bv (.slice (some ⟨w3.heap.size,0,none⟩) 1 1) (.slice iV (rowsOf Dk.ay qs ++ [Dk.ay ⟨k,n,data⟩ (.slice eu data.length bQ)]).length dA) w5 ?P0 ?P4 gV.out ⟨trivial,fun hHeld => ?_⟩
   case P0=>kernel_rfl
   case P4=>kernel_rfl
   refine bH 12 rfl hHeld ?_;refine bH 13 rfl hHeld ?_;refine wpAnyH_ready (rs := [14]) (by kernel_rfl) (by simp) ?_
   refine bq 14 67 (.tmp 40) (.tmp 38) rfl rfl rfl d 1 76 #[.map (some b),bv] #[.map (some b), .slice iV (rowsOf Dk.ay qs ++ [Dk.ay ⟨k,n,data⟩ (.slice eu data.length bQ)]).length dA] (.slice iV (rowsOf Dk.ay qs ++ [Dk.ay ⟨k,n,data⟩ (.slice eu data.length bQ)]).length dA) [.slice iV (rowsOf Dk.ay qs ++ [Dk.ay ⟨k,n,data⟩ (.slice eu data.length bQ)]).length dA] ?P6 ?Qa rfl (by kernel_rfl) rfl eN (Nat.le_of_ble_eq_true rfl) rfl ?WI
   case P6=>kernel_rfl
   case Qa=>kernel_rfl
   intro w6 eZ dt
   have dX:=aa eZ;have pG:=aa dt;clear eZ dt eN;refine⟨trivial,fun hHeld => ?_⟩
   refine wpAnyH_done (by kernel_rfl) ?_ _
   clear hHeld;go_wp2
   go_end0
   exact⟨rfl,HE.out w2 w6 _ (H2.1.hold ⟨k,n,data⟩ bh.out om.out _ iW.out j3.out Ag.out dX.out pG.out)⟩
theorem tR{S:Nat->Prop}{w:World}{d:Nat}{F:Dk.av}{B:List Dk.Op}(h:cu S w d F B)(k n:Int)(v:Value)(data:List UInt8)(hd:Reads w v data)(hl:data.length<=17592186044416)(hq:B.length<=1099511627776) :
 Calls Tryz.prog 71 #[.pointer (some ⟨d,0,none⟩), .int .i64 k, .int .i64 n,v] w (mA S w d F (if 1<=n∧n<=4294967296 then B ++ [⟨k,n,data⟩]else B)):=by
 by_cases hn:1<=n∧n<=4294967296
 ·rw[if_pos hn]
  obtain⟨mv,bv,zs,qs,h1,rfl,rfl⟩:=h;rw[List.length_map]at hq
  cases mv with
  | none=>exact FX h1 k n v data hd hl hq hn.1 hn.2
  | some b=>exact FV h1 k n v data hd hl hq hn.1 hn.2
 ·rw[if_neg hn]
  exact Ju h k n v hn
end Go.Proofs.YtdkdjofnnnljjaaGreatDoor

namespace Go.Proofs.YtdkdjofnnnljjaaGreatDoor
open Go.RowKit
set_option maxHeartbeats 3200000
set_option maxRecDepth 8000
theorem pW(w:World)(ao:Option Addr)(n cap f:Nat)(hf:f<=cap) :
 (Instr.slice 67 (.slice ao n cap) none (some (.int .i64 (f:Int))) none).run Tryz.prog w = .ok (.slice ao f cap) w:=by
 have he:Tryz.prog.elem 67=91:=by kernel_rfl
 have hi:(Tryz.prog.info? 91).isSome=true:=by kernel_rfl
 obtain⟨i,hi⟩:=Option.isSome_iff_exists.1 hi;have hrun:=run_slice_h (P:=Tryz.prog) (w:=w) 67 ao n cap (by rw[he];exact Tryz.underlying67) .i64 (f:Int) (by omega) (by omega)
 rw[he]at hrun
 refine hrun.trans ?_;rw[run_sizeOf _ hi,show Tryz.prog.cellsOf 91=3 by kernel_rfl]
 simp only[Result.andThen,Int.toNat_natCast];cases ao<;>simp[sliced,Addr.add]
theorem tS(w:World)(ao:Option Addr)(n cap f:Nat)(hf:f<=cap) :
 (Instr.slice 30 (.slice ao n cap) none (some (.int .i64 (f:Int))) none).run Tryz.prog w = .ok (.slice ao f cap) w:=by
 have he:Tryz.prog.elem 30=5:=by kernel_rfl
 have hi:(Tryz.prog.info? 5).isSome=true:=by kernel_rfl
 obtain⟨i,hi⟩:=Option.isSome_iff_exists.1 hi;have hrun:=run_slice_h (P:=Tryz.prog) (w:=w) 30 ao n cap (by rw[he];exact Tryz.underlying30) .i64 (f:Int) (by omega) (by omega)
 rw[he]at hrun
 refine hrun.trans ?_;rw[run_sizeOf _ hi,show Tryz.prog.cellsOf 5=1 by kernel_rfl]
 simp only[Result.andThen,Int.toNat_natCast];cases ao<;>simp[sliced,Addr.add]
structure dR(w:World)(b:Nat)(zs:List Row)(B:List Dk.Op)(i:Nat)(zs' : List Row)(W:World):Prop where
 files:aT W b zs'
 is:Dk.aZ (·.2) zs' = Dk.all (Dk.aZ (·.2) zs) (B.take i)
 kept:Kp (fun k _=>k≠b ∧ ¬Bl zs k) w W
 blk : ∀k,Bl zs' k->Bl zs k∨w.heap.size<=k
theorem dR.start{w:World}{b:Nat}{zs:List Row}(h:aT w b zs)(B:List Dk.Op):dR w b zs B 0 zs w:=⟨h,by simp[Dk.all],Kp.refl _ _,fun _ h => .inl h⟩
theorem dR.below{w W W' : World}{b:Nat}{zs zs' : List Row}{B:List Dk.Op}{i:Nat}(h:dR w b zs B i zs' W)(hb:Below W.heap.size W W'):dR w b zs B i zs' W' :=
 ⟨h.files.below hb (Nat.le_refl _),h.is,h.kept.trans (Kp.all hb),h.blk⟩
theorem dR.done{w W W' : World}{b:Nat}{zs zs' : List Row}{B:List Dk.Op}{i:Nat}{x:Dk.Op}{e:Ending}(h:dR w b zs B i zs' W)(ha:dW W b zs' x e W') :
 ∃yj, aT W' b yj ∧ Dk.aZ (·.2) yj = Dk.done (Dk.all (Dk.aZ (·.2) zs) (B.take i)) x∧Kp (fun k _=>k≠b ∧ ¬Bl zs k) w W' ∧ ∀k,Bl yj k->Bl zs k∨w.heap.size<=k:=by
 obtain⟨_,yj, h1,h2,h3,h4⟩:=ha;refine⟨yj, h1,by rw[h2,h.is],h.kept.then h3 fun g o e hq=>⟨hq.1,fun hb => ?_⟩,fun k hk => ?_⟩
 ·rcases h.blk g hb with h' | h'
  ·exact hq.2 h'
  ·have:=aK e;omega
 ·rcases h4 k hk with h' | h'
  ·exact h.blk k h'
  ·have:=h.kept.size;right;omega
theorem dR.step{w W W' : World}{b:Nat}{zs zs' : List Row}{B:List Dk.Op}{i:Nat}{x:Dk.Op}{e:Ending}(h:dR w b zs B i zs' W)(hx:B[i]? = some x)(ha:dW W b zs' x e W') : ∃yj, dR w b zs B (i+1) yj W' := by
 obtain⟨yj, h1,h2,h3,h4⟩:=h.done ha;exact⟨yj, h1,by rw[h2,Dk.Jz hx],h3,h4⟩
theorem dW.ag{W W' : World}{b:Nat}{zs:List Row}{x:Dk.Op}{e:Ending}(ha:dW W b zs x e W')(hf:aT W b zs){g:Nat}{t:TypeId}{vs:Array Value}(hl:ae W g t vs)(ht:t≠5):ae W' g t vs:=by
 obtain⟨_,zs', _,_,h3,_⟩:=ha;refine h3.ag hl fun _=>⟨fun e=>by subst e;exact hf.map.fp hl,fun hb => ?_⟩
 obtain⟨cs,hc⟩:=hf.cells hb;rw[show W.heap[g]? = _ from hl]at hc
 cases hc;exact ht rfl
theorem dR.ag{w W:World}{b:Nat}{zs zs' : List Row}{B:List Dk.Op}{i:Nat}(h:dR w b zs B i zs' W)(hf:aT w b zs){g:Nat}{t:TypeId}{vs:Array Value}(hl:ae w g t vs)(ht:t≠5):ae W g t vs:=by
 refine h.kept.ag hl fun _=>⟨fun e=>by subst e;exact hf.map.fp hl,fun hb => ?_⟩
 obtain⟨cs,hc⟩:=hf.cells hb;rw[show w.heap[g]? = _ from hl]at hc
 cases hc;exact ht rfl
theorem dR.keep{w W:World}{b:Nat}{zs zs' : List Row}{B:List Dk.Op}{i:Nat}(h:dR w b zs B i zs' W)(hf:aT w b zs):dS (fun k _=>k<w.heap.size ∧ ¬Bl zs k) w W:=(hf.keep h.kept).imp fun _ _ hp=>hp.2
def tA(w:World)(d b:Nat)(zs:List Row)(F:Dk.av)(e:Ending)(w' : World):Prop :=
 e = .returned (.tuple #[])∧ae w' d 76 #[.map (some b), .slice none 0 0] ∧ ∃zs', aT w' b zs' ∧ Dk.aZ (·.2) zs' = F∧Kp (fun k _=>k≠b∧k≠d ∧ ¬Bl zs k) w w' ∧ ∀k,Bl zs' k->Bl zs k∨w.heap.size<=k
theorem tT{w:World}{d b:Nat}{bv:Value}{zs:List Row}{qs:List (Dk.Op × Value)}(hl:ae w d 76 #[.map (some b),bv])(hf:aT w b zs)(hrow:gH (fun k _=>k<w.heap.size ∧ ¬Bl zs k) w bv 3 (rowsOf Dk.ay qs))
 (Ah : ∀q∈qs,aS (fun k _=>k<w.heap.size ∧ ¬Bl zs k) w q.2 q.1.data) (mC:Dk.sx (qs.map (·.1))) (hs:Dk.wt (Dk.aZ (·.2) zs)+2*Dk.mD (qs.map (·.1))<=17592186044416) (k t:Int) :
 Calls Tryz.prog 18 #[.pointer (some ⟨d,0,none⟩), .int .i64 k, .int .i64 t] w (tA w d b zs (Dk.crash (Dk.aZ (·.2) zs) (qs.map (·.1)) k t)):=by
 obtain⟨ao,cap,rfl,hc1,hc2⟩:=hrow.1.shape;have EY:(rowsOf Dk.ay qs).length=qs.length:=by simp[rowsOf]
 rw[EY]at hl hrow hc1
 obtain⟨n,hn⟩ : ∃n,n=qs.length:=⟨_,rfl⟩;rw[<- hn]at hl hrow hc1
 obtain⟨K,hK⟩ : ∃K,K=Dk.cP k n:=⟨_,rfl⟩;have hKn:K<=n:=by rw[hK];unfold Dk.cP;omega
 have Sc:=gF k n w;rw[<- hK]at Sc
 have hB:Dk.mD (qs.map (·.1))<=8796093022208:=by omega
 have hnB:n<=8796093022208:=by
  have:=Dk.j4 (qs.map (·.1))
  rw[List.length_map]at this
  omega
 -- an element,in whatever world the crash comes to
 have Ze:Hid (∀(i:Nat) (zs' : List Row) (W:World),dR w b zs (qs.map (·.1)) i zs' W -> ∀j,j<n -> ∃(b0 off:Nat) (x:Dk.Op) (ax:Option Addr) (cx:Nat),ao=some ⟨b0,off,none⟩∧(qs.map (·.1))[j]? = some x∧Reads W (.slice ax x.data.length cx) x.data∧x.data.length<=cx∧Dk.isKind x.kind∧(1<=x.no∧x.no<=4294967296) ∧
  W.cell? ⟨b0,off+j*3,none⟩=some (.int .i64 x.kind)∧W.cell? ⟨b0,off+j*3+1,none⟩=some (.int .i64 x.no)∧W.cell? ⟨b0,off+j*3+2,none⟩=some (.slice ax x.data.length cx) ∧
  Dk.wt (Dk.aZ (·.2) zs')+x.data.length<=17592186044416):=by
  intro i zs' W hI j hj
  have hk:=hI.keep hf;have hr:=hrow.keep hk;obtain⟨q,hq⟩ : ∃q,qs[j]? = some q:=⟨_,List.getElem?_eq_getElem (by omega)⟩
  have Zf:=List.mem_of_getElem? hq;obtain⟨b0,off,e,_,hc⟩:=aQ.places hr.1 (r0:=(rowsOf Dk.ay qs)[0]'(by rw[EY];omega)) (u0 := .int .i64 ((qs[0]'(by omega)).1.kind)) (List.getElem?_eq_getElem (by rw[EY];omega)) (by simp[rowsOf,Dk.ay])
  have hcell:=hc W (Below.refl _ _) j (Dk.ay q.1 q.2) (by simp[rowsOf,hq])
  obtain⟨x,u⟩:=q;have hd:Reads W u x.data:=((Ah _ Zf).keep hk).1;obtain⟨ax,cx,rfl⟩:=hd.shape;have Zg:x∈qs.map (·.1):=List.mem_map.2 ⟨_,Zf,rfl⟩
  obtain⟨k1,k2⟩:=mC x Zg;refine⟨b0,off,x,ax,cx,e,by simp[hq],hd,hd.len.2.1,k1,k2,hcell 0 _ rfl,hcell 1 _ rfl,hcell 2 _ rfl, ?_⟩
  have h1:=Dk.tU ((qs.map (·.1)).take i) (Dk.aZ (·.2) zs)
  have h2:=Dk.rf (qs.map (·.1)) i
  have h3:=Dk.tB Zg;rw[hI.is];omega
 have HK:=aa hK;have HN:=aa hn;have HF:=aa hf;have HL:=aa hl;have Qb:=aa hKn
 -- the end:what is Ta is gone
 have lV:Hid (∀(zs' : List Row) (W W' : World),aT W b zs' -> Dk.aZ (·.2) zs' = Dk.crash (Dk.aZ (·.2) zs) (qs.map (·.1)) k t->Kp (fun k _=>k≠b ∧ ¬Bl zs k) w W->(∀k,Bl zs' k->Bl zs k∨w.heap.size<=k)->ae W' d 76 #[.map (some b), .slice none 0 0]->W.grownBy W' (some d)->tA w d b zs (Dk.crash (Dk.aZ (·.2) zs) (qs.map (·.1)) k t) (.returned (.tuple #[])) W'):=by
  intro zs' W W' h1 h2 h3 h4 h5 h6
  have Zh:ae W d 76 #[.map (some b), .slice ao n cap]:=h3.ag hl fun _=>⟨fun e=>by subst e;exact hf.map.fp hl,fun hb=>by
   obtain⟨cs,hc⟩:=hf.cells hb;rw[show w.heap[d]? = _ from hl]at hc
   cases hc⟩
  refine⟨rfl,h5,zs', h1.stays (h6.block b h1.map.lt fun e => ?_) (fun k hk=>h6.block k (h1.lt hk) fun e => ?_),h2,(h3.imp fun j o _ hq=>⟨hq.1,hq.2.2⟩).trans (Kp.aI h6 fun j o e _ hq=>hq.2.1 (by simpa using e.symm)),h4⟩
  ·simp only[Option.some.injEq]at e
   subst e;exact h1.map.fp Zh
  ·simp only[Option.some.injEq]at e
   subst e;obtain⟨cs,hc⟩:=h1.cells hk;rw[show W.heap[k]? = _ from Zh]at hc
   cases hc
 have Tb:Hid (Dk.crash (Dk.aZ (·.2) zs) (qs.map (·.1)) k t=match (qs.map (·.1))[K]? with
  | none=>Dk.all (Dk.aZ (·.2) zs) (qs.map (·.1))
  | some x=>if x.kind=2 then Dk.done (Dk.all (Dk.aZ (·.2) zs) ((qs.map (·.1)).take K)) (Dk.jD x t)else Dk.all (Dk.aZ (·.2) zs) ((qs.map (·.1)).take K)):=by
  show Dk.crash _ _ k t=_;have e:Dk.cP k (qs.map (·.1)).length=K:=by rw[HK.out,HN.out,List.length_map]
  unfold Dk.crash;rw[e];cases (qs.map (·.1))[K]? <;> rfl
 have c0:w.cell? ⟨d,0,none⟩=some (.map (some b)):=hl.cell 0 _ rfl;have c1:w.cell? ⟨d,1,none⟩=some (.slice ao n cap):=hl.cell 1 _ rfl;have hup:=fun u:World=>pW u ao n cap K (by omega)
 have O8:Hid (K=n->(qs.map (·.1)).take K=qs.map (·.1)):=fun e=>List.take_of_length_le (by rw[List.length_map,e, <- HN.out];exact Nat.le_refl _)
 have HST:Hid (dR w b zs (qs.map (·.1)) 0 zs w):=dR.start hf _
 clear hl hf hrow Ah mC hs hB EY hK hn
 go_enter Tryz.func18,Tryz.ntmps18
 go_wp2_with (go_at_call 48;refine Sc.mono ?_;rintro e w' ⟨rfl,rfl⟩)
 go_loopw [25] (fun x wr => ∃(i:Nat) (zs' : List Row),x = .int .i64 (i:Int)∧i<=K∧dR w b zs (qs.map (·.1)) i zs' wr) (fun x _=>K - (intOf x).toNat)
 case atStart=>exact⟨0,zs,rfl,Nat.zero_le _,HST.out⟩
 case round =>
  obtain⟨i,zs', rfl,hiK,hI⟩:=hrel;have HI:=aa hI;have q0:wr.cell? ⟨d,0,none⟩=some (.map (some b)):=(hI.ag HF.out HL.out (by decide)).cell 0 _ rfl
  have q1:wr.cell? ⟨d,1,none⟩=some (.slice ao n cap):=(hI.ag HF.out HL.out (by decide)).cell 1 _ rfl
  have WL:Hid (ae wr d 76 #[.map (some b), .slice ao n cap]):=hI.ag HF.out HL.out (by decide)
  clear hI c0 c1 Sc HST;by_cases hlt:i<K
  ·obtain⟨b0,off,x,ax,cx,rfl,hx,Ai,Tc,Sd,iC,k0,k1,k2,O9⟩:=Ze.out i zs' wr HI.out i (by omega)
   have HX:=aa hx;have JA:=aa Ai;have Aj:=aa O9;clear hx Ai O9;have hint:((i:Nat):Int)<(K:Int):=by omega
   obtain⟨w2,hw2⟩ : ∃w2,wr.alloc (.cells #[.int .i64 x.kind, .int .i64 x.no, .slice ax x.data.length cx] 91)=w2:=⟨_,rfl⟩;have hb2:Below wr.heap.size wr w2:=by rw[<- hw2];exact(Below.refl _ wr).alloc (Nat.le_refl _) _
   have ej:Hid (ae w2 wr.heap.size 91 #[.int .i64 x.kind, .int .i64 x.no, .slice ax x.data.length cx]):=by show ae _ _ _ _;rw[<- hw2];exact ae.new wr _ _
   have Ak:Hid (ae w2 d 76 #[.map (some b), .slice (some ⟨b0,off,none⟩) n cap]):=WL.below hb2 WL.lt;have aR:=aa hb2;clear hb2;have q2:w2.cell? ⟨d,0,none⟩=some (.map (some b)):=Ak.cell 0 _ rfl;have l0:w2.cell? ⟨wr.heap.size,0,none⟩=some (.int .i64 x.kind):=ej.cell 0 _ rfl;have l1:w2.cell? ⟨wr.heap.size,1,none⟩=some (.int .i64 x.no):=ej.cell 1 _ rfl;have l2:w2.cell? ⟨wr.heap.size,2,none⟩=some (.slice ax x.data.length cx):=ej.cell 2 _ rfl;go_wp2;refine wp_region_held_drew (S:=fun W=>W.cell? ⟨d,0,none⟩=some (.map (some b))∧W.cell? ⟨wr.heap.size,0,none⟩=some (.int .i64 x.kind)∧W.cell? ⟨wr.heap.size,1,none⟩=some (.int .i64 x.no)∧W.cell? ⟨wr.heap.size,2,none⟩=some (.slice ax x.data.length cx)) (by kernel_rfl) (⟨q2,l0,l1,l2⟩) (fun hHeld => ?_)
   refine bH 0 rfl hHeld ?_ (by intro W hSw;obtain⟨s1,s2,s3,s4⟩:=hSw;go_simp;(try with_reducible rfl))
   refine bH 1 rfl hHeld ?_ (by intro W hSw;obtain⟨s1,s2,s3,s4⟩:=hSw;go_simp;(try with_reducible rfl))
   refine bH 2 rfl hHeld ?_ (by intro W hSw;obtain⟨s1,s2,s3,s4⟩:=hSw;go_simp;(try with_reducible rfl))
   refine bH 3 rfl hHeld ?_ (by intro W hSw;obtain⟨s1,s2,s3,s4⟩:=hSw;go_simp;(try with_reducible rfl))
   refine bH 4 rfl hHeld ?_ (by intro W hSw;obtain⟨s1,s2,s3,s4⟩:=hSw;go_simp;(try with_reducible rfl))
   refine wpAnyH_ready (rs := [5]) (by kernel_rfl) (by simp) ?_
   refine AllReadyH.cons rfl (fun K hK => ?_) AllReadyH.nil
   rw[if_pos (by rfl)]
   go_simp
   go_at_call 49
   refine(j0 b zs' x (.slice ax x.data.length cx) w2.drew (((HI.below aR.out).below (drawn w2 1)).files) Sd iC ((JA.below aR.out).below (drawn w2 1)) Aj.out).mono ?_;rintro e w3 ha;obtain rfl:=ha.1;have Al:=aa (dW.ag ha (((HI.below aR.out).below (drawn w2 1)).files) (Ak.below (drawn w2 1) Ak.lt) (by decide))
   have Qc:=aa (dW.ag ha (((HI.below aR.out).below (drawn w2 1)).files) (ej.below (drawn w2 1) ej.lt) (by decide))
   obtain⟨Nu,Zi⟩:=dR.step ((HI.below aR.out).below (drawn w2 1)) HX.out ha;have wP:=aa Zi;clear ha Zi;refine hK.out _ _ ⟨Al.cell 0 _ rfl,Qc.cell 0 _ rfl,Qc.cell 1 _ rfl,Qc.cell 2 _ rfl⟩ (fun hHeld => ?_)
   clear hK K q2 l0 l1 l2;refine wpAnyH_done (by kernel_rfl) ?_ _
   clear hHeld q0 q1;go_wp2
   go_roundw
   case rel=>exact⟨i+1,Nu,by simp,by omega,wP.out⟩
   case measure=>simp[intOf];omega
  ·obtain rfl:i=K:=by omega
   have abx : ¬((i:Nat):Int)<(i:Int):=by omega
   have Pa:Hid (ae wr d 76 #[.map (some b), .slice ao n cap]):=WL;by_cases hin:i<n
   ·obtain⟨b0,off,x,ax,cx,rfl,hx,Ai,Tc,Sd,iC,k0,k1,k2,O9⟩:=Ze.out i zs' wr HI.out i hin
    have HX:=aa hx;have JA:=aa Ai;have Aj:=aa O9;clear hx Ai O9;have hint:((i:Nat):Int)<(n:Int):=by omega
    by_cases h2:x.kind=2
    ·obtain⟨xk,xn,xd⟩:=x
     simp only at h2 k0 k1 k2 Tc Sd iC HX JA Aj
     subst h2;obtain⟨T0,WM⟩ : ∃T0,T0=Dk.cP t xd.length:=⟨_,rfl⟩;have Qd:T0<=xd.length:=by rw[WM];unfold Dk.cP;omega
     have Qe:=fun u:World=>tS u ax xd.length cx T0 (by omega)
     obtain⟨w8,Td⟩ : ∃w8,wr.alloc (.cells #[.int .i64 2, .int .i64 xn, .slice ax xd.length cx] 91)=w8:=⟨_,rfl⟩;have eX:Below wr.heap.size wr w8:=by rw[<- Td];exact(Below.refl _ wr).alloc (Nat.le_refl _) _
     have CP:Hid (ae w8 wr.heap.size 91 #[.int .i64 2, .int .i64 xn, .slice ax xd.length cx]):=by show ae _ _ _ _;rw[<- Td];exact ae.new wr _ _
     have cN:=aa eX;have Se:=aa WM;clear eX WM;have l0:w8.cell? ⟨wr.heap.size,0,none⟩=some (.int .i64 2):=CP.cell 0 _ rfl;have l2:w8.cell? ⟨wr.heap.size,2,none⟩=some (.slice ax xd.length cx):=CP.cell 2 _ rfl;have aby:cx<=9223372036854775807:=JA.len.2.2.1;go_wp2;refine wp_region_held_drew (S:=fun _=>True) (by kernel_rfl) (trivial) (fun hHeld => ?_)
     refine bH 0 rfl hHeld ?_;refine bH 2 rfl hHeld ?_;refine bH 3 rfl hHeld ?_;refine wpAnyH_ready (rs := [1,4]) (by kernel_rfl) (by simp) ?_
     refine AllReadyH.cons rfl (fun K hK => ?_) (AllReadyH.cons rfl (fun K hK => ?_) AllReadyH.nil)
     ·rw[if_pos (by rfl)]
      go_simp;refine hK.out _ _ trivial (fun hHeld => ?_)
      clear hK K;refine wpAnyH_ready (rs := [4]) (by kernel_rfl) (by simp) ?_
      refine AllReadyH.cons rfl (fun K hK => ?_) AllReadyH.nil
      rw[if_pos (by rfl)]
      go_simp;refine hK.out _ _ trivial (fun hHeld => ?_)
      clear hK K;refine bH 5 rfl hHeld ?_;refine wpAnyH_ready (rs := [6]) (by kernel_rfl) (by simp) ?_
      refine AllReadyH.cons rfl (fun K hK => ?_) AllReadyH.nil
      rw[if_pos (by rfl)]
      go_simp
      go_at_call 48
      refine(gF t xd.length w8.drew).mono ?_;rw[<- Se.out];rintro e w9 ⟨rfl,rfl⟩;refine hK.out _ _ trivial (fun hHeld => ?_)
      clear hK K;refine bH 7 rfl hHeld ?_;refine bH 8 rfl hHeld ?_;refine wpAnyH_ready (rs := [9]) (by kernel_rfl) (by simp) ?_
      refine bq 9 30 (.tmp 69) (.tmp 68) rfl rfl rfl wr.heap.size 2 91 #[.int .i64 2, .int .i64 xn, .slice ax xd.length cx] #[.int .i64 2, .int .i64 xn, .slice ax T0 cx] (.slice ax T0 cx) [.slice ax T0 cx] ?x9a ?y9a rfl (by kernel_rfl) rfl (CP.below (drawn w8 1) CP.lt) (Nat.le_of_ble_eq_true rfl) rfl ?k9a
      case x9a=>kernel_rfl
      case y9a=>kernel_rfl
      intro w9 gP cM
      have oy:=aa gP;have gI:=aa cM;clear gP cM;refine⟨trivial,fun hHeld => ?_⟩
      refine wpAnyH_done (by kernel_rfl) ?_ _
      clear hHeld;have j5:Below wr.heap.size wr w9:=(cN.trans ((drawn w8 1).mono cN.size)).grown gI.out cN.size (fun j e=>by cases e;exact Nat.le_refl _)
      have eY:=aa j5;have Ak:=aa (Pa.below j5 Pa.lt);have q9:w9.cell? ⟨d,0,none⟩=some (.map (some b)):=Ak.cell 0 _ rfl;have m0:w9.cell? ⟨wr.heap.size,0,none⟩=some (.int .i64 2):=oy.cell 0 _ rfl;have m1:w9.cell? ⟨wr.heap.size,1,none⟩=some (.int .i64 xn):=oy.cell 1 _ rfl;have m2:w9.cell? ⟨wr.heap.size,2,none⟩=some (.slice ax T0 cx):=oy.cell 2 _ rfl;clear j5 l0 l2 Td Qe;go_wp2;refine wp_region_held_drew (S:=fun W=>W.cell? ⟨d,0,none⟩=some (.map (some b))∧W.cell? ⟨wr.heap.size,0,none⟩=some (.int .i64 2)∧W.cell? ⟨wr.heap.size,1,none⟩=some (.int .i64 xn)∧W.cell? ⟨wr.heap.size,2,none⟩=some (.slice ax T0 cx)) (by kernel_rfl) (⟨q9,m0,m1,m2⟩) (fun hHeld => ?_)
      refine bH 0 rfl hHeld ?_ (by intro W hSw;obtain⟨s1,s2,s3,s4⟩:=hSw;go_simp;(try with_reducible rfl))
      refine bH 1 rfl hHeld ?_ (by intro W hSw;obtain⟨s1,s2,s3,s4⟩:=hSw;go_simp;(try with_reducible rfl))
      refine bH 2 rfl hHeld ?_ (by intro W hSw;obtain⟨s1,s2,s3,s4⟩:=hSw;go_simp;(try with_reducible rfl))
      refine bH 3 rfl hHeld ?_ (by intro W hSw;obtain⟨s1,s2,s3,s4⟩:=hSw;go_simp;(try with_reducible rfl))
      refine bH 4 rfl hHeld ?_ (by intro W hSw;obtain⟨s1,s2,s3,s4⟩:=hSw;go_simp;(try with_reducible rfl))
      refine wpAnyH_ready (rs := [5]) (by kernel_rfl) (by simp) ?_
      refine AllReadyH.cons rfl (fun K hK => ?_) AllReadyH.nil
      rw[if_pos (by rfl)]
      go_simp
      go_at_call 49
      have Ai:Reads w9.drew (.slice ax T0 cx) (Dk.jD ⟨2,xn,xd⟩ t).data:=by show Reads _ _ (xd.take (Dk.cP t xd.length));rw[<- Se.out];exact Reads.below (Reads.first (JA.below eY.out) T0 Qd) (drawn w9 1)
      refine(j0 b zs' (Dk.jD ⟨2,xn,xd⟩ t) (.slice ax T0 cx) w9.drew (((HI.below eY.out).below (drawn w9 1)).files) Sd iC Ai (Nat.le_trans (Nat.add_le_add_left (List.length_take_le' _ _) _) Aj.out)).mono ?_;rintro e oL ha;obtain rfl:=ha.1;have Am:=aa (dW.ag ha (((HI.below eY.out).below (drawn w9 1)).files) (Ak.below (drawn w9 1) Ak.lt) (by decide))
      have tV:=aa (dW.ag ha (((HI.below eY.out).below (drawn w9 1)).files) (oy.below (drawn w9 1) oy.lt) (by decide))
      have hdone:=dR.done ((HI.below eY.out).below (drawn w9 1)) ha;obtain⟨Nu,hz1,hz2,hz3,Np⟩:=hdone;have oC:=aa hz1;have jE:=aa hz2;have pH:=aa hz3;have sW:=aa Np;clear hz1 hz2 hz3 Np ha Ai;refine hK.out _ _ ⟨Am.cell 0 _ rfl,tV.cell 0 _ rfl,tV.cell 1 _ rfl,tV.cell 2 _ rfl⟩ (fun hHeld => ?_)
      clear hK K q9 m0 m1 m2;refine wpAnyH_done (by kernel_rfl) ?_ _
      clear hHeld q0 q1
      go_wp2_with (refine aP rfl 67 _ _ rfl d 1 76 _ #[.map (some b), .slice none 0 0] (.slice none 0 0) [.slice none 0 0] rfl rfl rfl (by kernel_rfl) rfl Am.out (Nat.le_of_ble_eq_true rfl) rfl ?_;intro jr sX tW)
      go_end0
      exact lV.out Nu oL jr oC.out (by rw[Tb.out,HX.out];exact jE.trans (if_pos rfl).symm) pH.out sW.out sX tW
     ·rw[if_pos (by rfl)]
      go_simp;refine hK.out _ _ trivial (fun hHeld => ?_)
      clear hK K;refine bH 5 rfl hHeld ?_;refine wpAnyH_ready (rs := [1,6]) (by kernel_rfl) (by simp) ?_
      refine AllReadyH.cons rfl (fun K hK => ?_) (AllReadyH.cons rfl (fun K hK => ?_) AllReadyH.nil)
      ·rw[if_pos (by rfl)]
       go_simp;refine hK.out _ _ trivial (fun hHeld => ?_)
       clear hK K;refine wpAnyH_ready (rs := [6]) (by kernel_rfl) (by simp) ?_
       refine AllReadyH.cons rfl (fun K hK => ?_) AllReadyH.nil
       rw[if_pos (by rfl)]
       go_simp
       go_at_call 48
       refine(gF t xd.length w8.drew).mono ?_;rw[<- Se.out];rintro e w9 ⟨rfl,rfl⟩;refine hK.out _ _ trivial (fun hHeld => ?_)
       clear hK K;refine bH 7 rfl hHeld ?_;refine bH 8 rfl hHeld ?_;refine wpAnyH_ready (rs := [9]) (by kernel_rfl) (by simp) ?_
       refine bq 9 30 (.tmp 69) (.tmp 68) rfl rfl rfl wr.heap.size 2 91 #[.int .i64 2, .int .i64 xn, .slice ax xd.length cx] #[.int .i64 2, .int .i64 xn, .slice ax T0 cx] (.slice ax T0 cx) [.slice ax T0 cx] ?x9b ?y9b rfl (by kernel_rfl) rfl (CP.below (drawn w8 1) CP.lt) (Nat.le_of_ble_eq_true rfl) rfl ?k9b
       case x9b=>kernel_rfl
       case y9b=>kernel_rfl
       intro w9 gP cM
       have oy:=aa gP;have gI:=aa cM;clear gP cM;refine⟨trivial,fun hHeld => ?_⟩
       refine wpAnyH_done (by kernel_rfl) ?_ _
       clear hHeld;have j5:Below wr.heap.size wr w9:=(cN.trans ((drawn w8 1).mono cN.size)).grown gI.out cN.size (fun j e=>by cases e;exact Nat.le_refl _)
       have eY:=aa j5;have Ak:=aa (Pa.below j5 Pa.lt);have q9:w9.cell? ⟨d,0,none⟩=some (.map (some b)):=Ak.cell 0 _ rfl;have m0:w9.cell? ⟨wr.heap.size,0,none⟩=some (.int .i64 2):=oy.cell 0 _ rfl;have m1:w9.cell? ⟨wr.heap.size,1,none⟩=some (.int .i64 xn):=oy.cell 1 _ rfl;have m2:w9.cell? ⟨wr.heap.size,2,none⟩=some (.slice ax T0 cx):=oy.cell 2 _ rfl;clear j5 l0 l2 Td Qe;go_wp2;refine wp_region_held_drew (S:=fun W=>W.cell? ⟨d,0,none⟩=some (.map (some b))∧W.cell? ⟨wr.heap.size,0,none⟩=some (.int .i64 2)∧W.cell? ⟨wr.heap.size,1,none⟩=some (.int .i64 xn)∧W.cell? ⟨wr.heap.size,2,none⟩=some (.slice ax T0 cx)) (by kernel_rfl) (⟨q9,m0,m1,m2⟩) (fun hHeld => ?_)
       refine bH 0 rfl hHeld ?_ (by intro W hSw;obtain⟨s1,s2,s3,s4⟩:=hSw;go_simp;(try with_reducible rfl))
       refine bH 1 rfl hHeld ?_ (by intro W hSw;obtain⟨s1,s2,s3,s4⟩:=hSw;go_simp;(try with_reducible rfl))
       refine bH 2 rfl hHeld ?_ (by intro W hSw;obtain⟨s1,s2,s3,s4⟩:=hSw;go_simp;(try with_reducible rfl))
       refine bH 3 rfl hHeld ?_ (by intro W hSw;obtain⟨s1,s2,s3,s4⟩:=hSw;go_simp;(try with_reducible rfl))
       refine bH 4 rfl hHeld ?_ (by intro W hSw;obtain⟨s1,s2,s3,s4⟩:=hSw;go_simp;(try with_reducible rfl))
       refine wpAnyH_ready (rs := [5]) (by kernel_rfl) (by simp) ?_
       refine AllReadyH.cons rfl (fun K hK => ?_) AllReadyH.nil
       rw[if_pos (by rfl)]
       go_simp
       go_at_call 49
       have Ai:Reads w9.drew (.slice ax T0 cx) (Dk.jD ⟨2,xn,xd⟩ t).data:=by show Reads _ _ (xd.take (Dk.cP t xd.length));rw[<- Se.out];exact Reads.below (Reads.first (JA.below eY.out) T0 Qd) (drawn w9 1)
       refine(j0 b zs' (Dk.jD ⟨2,xn,xd⟩ t) (.slice ax T0 cx) w9.drew (((HI.below eY.out).below (drawn w9 1)).files) Sd iC Ai (Nat.le_trans (Nat.add_le_add_left (List.length_take_le' _ _) _) Aj.out)).mono ?_;rintro e oL ha;obtain rfl:=ha.1;have Am:=aa (dW.ag ha (((HI.below eY.out).below (drawn w9 1)).files) (Ak.below (drawn w9 1) Ak.lt) (by decide))
       have tV:=aa (dW.ag ha (((HI.below eY.out).below (drawn w9 1)).files) (oy.below (drawn w9 1) oy.lt) (by decide))
       have hdone:=dR.done ((HI.below eY.out).below (drawn w9 1)) ha;obtain⟨Nu,hz1,hz2,hz3,Np⟩:=hdone;have oC:=aa hz1;have jE:=aa hz2;have pH:=aa hz3;have sW:=aa Np;clear hz1 hz2 hz3 Np ha Ai;refine hK.out _ _ ⟨Am.cell 0 _ rfl,tV.cell 0 _ rfl,tV.cell 1 _ rfl,tV.cell 2 _ rfl⟩ (fun hHeld => ?_)
       clear hK K q9 m0 m1 m2;refine wpAnyH_done (by kernel_rfl) ?_ _
       clear hHeld q0 q1
       go_wp2_with (refine aP rfl 67 _ _ rfl d 1 76 _ #[.map (some b), .slice none 0 0] (.slice none 0 0) [.slice none 0 0] rfl rfl rfl (by kernel_rfl) rfl Am.out (Nat.le_of_ble_eq_true rfl) rfl ?_;intro jr sX tW)
       go_end0
       exact lV.out Nu oL jr oC.out (by rw[Tb.out,HX.out];exact jE.trans (if_pos rfl).symm) pH.out sW.out sX tW
      ·rw[if_pos (by rfl)]
       go_simp
       go_at_call 48
       refine(gF t xd.length w8.drew).mono ?_;rw[<- Se.out];rintro e w9 ⟨rfl,rfl⟩;refine hK.out _ _ trivial (fun hHeld => ?_)
       clear hK K;refine wpAnyH_ready (rs := [1]) (by kernel_rfl) (by simp) ?_
       refine AllReadyH.cons rfl (fun K hK => ?_) AllReadyH.nil
       rw[if_pos (by rfl)]
       go_simp;refine hK.out _ _ trivial (fun hHeld => ?_)
       clear hK K;refine bH 7 rfl hHeld ?_;refine bH 8 rfl hHeld ?_;refine wpAnyH_ready (rs := [9]) (by kernel_rfl) (by simp) ?_
       refine bq 9 30 (.tmp 69) (.tmp 68) rfl rfl rfl wr.heap.size 2 91 #[.int .i64 2, .int .i64 xn, .slice ax xd.length cx] #[.int .i64 2, .int .i64 xn, .slice ax T0 cx] (.slice ax T0 cx) [.slice ax T0 cx] ?x9c ?y9c rfl (by kernel_rfl) rfl (CP.below (drawn w8 1) CP.lt) (Nat.le_of_ble_eq_true rfl) rfl ?k9c
       case x9c=>kernel_rfl
       case y9c=>kernel_rfl
       intro w9 gP cM
       have oy:=aa gP;have gI:=aa cM;clear gP cM;refine⟨trivial,fun hHeld => ?_⟩
       refine wpAnyH_done (by kernel_rfl) ?_ _
       clear hHeld;have j5:Below wr.heap.size wr w9:=(cN.trans ((drawn w8 1).mono cN.size)).grown gI.out cN.size (fun j e=>by cases e;exact Nat.le_refl _)
       have eY:=aa j5;have Ak:=aa (Pa.below j5 Pa.lt);have q9:w9.cell? ⟨d,0,none⟩=some (.map (some b)):=Ak.cell 0 _ rfl;have m0:w9.cell? ⟨wr.heap.size,0,none⟩=some (.int .i64 2):=oy.cell 0 _ rfl;have m1:w9.cell? ⟨wr.heap.size,1,none⟩=some (.int .i64 xn):=oy.cell 1 _ rfl;have m2:w9.cell? ⟨wr.heap.size,2,none⟩=some (.slice ax T0 cx):=oy.cell 2 _ rfl;clear j5 l0 l2 Td Qe;go_wp2;refine wp_region_held_drew (S:=fun W=>W.cell? ⟨d,0,none⟩=some (.map (some b))∧W.cell? ⟨wr.heap.size,0,none⟩=some (.int .i64 2)∧W.cell? ⟨wr.heap.size,1,none⟩=some (.int .i64 xn)∧W.cell? ⟨wr.heap.size,2,none⟩=some (.slice ax T0 cx)) (by kernel_rfl) (⟨q9,m0,m1,m2⟩) (fun hHeld => ?_)
       refine bH 0 rfl hHeld ?_ (by intro W hSw;obtain⟨s1,s2,s3,s4⟩:=hSw;go_simp;(try with_reducible rfl))
       refine bH 1 rfl hHeld ?_ (by intro W hSw;obtain⟨s1,s2,s3,s4⟩:=hSw;go_simp;(try with_reducible rfl))
       refine bH 2 rfl hHeld ?_ (by intro W hSw;obtain⟨s1,s2,s3,s4⟩:=hSw;go_simp;(try with_reducible rfl))
       refine bH 3 rfl hHeld ?_ (by intro W hSw;obtain⟨s1,s2,s3,s4⟩:=hSw;go_simp;(try with_reducible rfl))
       refine bH 4 rfl hHeld ?_ (by intro W hSw;obtain⟨s1,s2,s3,s4⟩:=hSw;go_simp;(try with_reducible rfl))
       refine wpAnyH_ready (rs := [5]) (by kernel_rfl) (by simp) ?_
       refine AllReadyH.cons rfl (fun K hK => ?_) AllReadyH.nil
       rw[if_pos (by rfl)]
       go_simp
       go_at_call 49
       have Ai:Reads w9.drew (.slice ax T0 cx) (Dk.jD ⟨2,xn,xd⟩ t).data:=by show Reads _ _ (xd.take (Dk.cP t xd.length));rw[<- Se.out];exact Reads.below (Reads.first (JA.below eY.out) T0 Qd) (drawn w9 1)
       refine(j0 b zs' (Dk.jD ⟨2,xn,xd⟩ t) (.slice ax T0 cx) w9.drew (((HI.below eY.out).below (drawn w9 1)).files) Sd iC Ai (Nat.le_trans (Nat.add_le_add_left (List.length_take_le' _ _) _) Aj.out)).mono ?_;rintro e oL ha;obtain rfl:=ha.1;have Am:=aa (dW.ag ha (((HI.below eY.out).below (drawn w9 1)).files) (Ak.below (drawn w9 1) Ak.lt) (by decide))
       have tV:=aa (dW.ag ha (((HI.below eY.out).below (drawn w9 1)).files) (oy.below (drawn w9 1) oy.lt) (by decide))
       have hdone:=dR.done ((HI.below eY.out).below (drawn w9 1)) ha;obtain⟨Nu,hz1,hz2,hz3,Np⟩:=hdone;have oC:=aa hz1;have jE:=aa hz2;have pH:=aa hz3;have sW:=aa Np;clear hz1 hz2 hz3 Np ha Ai;refine hK.out _ _ ⟨Am.cell 0 _ rfl,tV.cell 0 _ rfl,tV.cell 1 _ rfl,tV.cell 2 _ rfl⟩ (fun hHeld => ?_)
       clear hK K q9 m0 m1 m2;refine wpAnyH_done (by kernel_rfl) ?_ _
       clear hHeld q0 q1
       go_wp2_with (refine aP rfl 67 _ _ rfl d 1 76 _ #[.map (some b), .slice none 0 0] (.slice none 0 0) [.slice none 0 0] rfl rfl rfl (by kernel_rfl) rfl Am.out (Nat.le_of_ble_eq_true rfl) rfl ?_;intro jr sX tW)
       go_end0
       exact lV.out Nu oL jr oC.out (by rw[Tb.out,HX.out];exact jE.trans (if_pos rfl).symm) pH.out sW.out sX tW
    ·have hb2:(x.kind == 2)=false:=by simpa using h2
     go_wp2_with (refine aP rfl 67 _ _ rfl d 1 76 _ #[.map (some b), .slice none 0 0] (.slice none 0 0) [.slice none 0 0] rfl rfl rfl (by kernel_rfl) rfl Pa.out (Nat.le_of_ble_eq_true rfl) rfl ?_;intro w9 gP cM)
     go_end0
     exact lV.out zs' wr w9 HI.files (by rw[Tb.out,HX.out];simp only[if_neg h2];exact HI.is) HI.kept HI.blk gP cM
   ·have hni : ¬((i:Nat):Int)<(n:Int):=by omega
    have Zj:decide (((i:Nat):Int)<(n:Int))=false:=decide_eq_false hni
    go_wp2_with (refine aP rfl 67 _ _ rfl d 1 76 _ #[.map (some b), .slice none 0 0] (.slice none 0 0) [.slice none 0 0] rfl rfl rfl (by kernel_rfl) rfl Pa.out (Nat.le_of_ble_eq_true rfl) rfl ?_;intro w9 gP cM)
    go_end0
    have hnone:(qs.map (·.1))[i]? = none:=List.getElem?_eq_none (by have:=HN.out;rw[List.length_map];omega)
    exact lV.out zs' wr w9 HI.files (by rw[Tb.out,hnone,HI.is,O8.out (by omega)]) HI.kept HI.blk gP cM
end Go.Proofs.YtdkdjofnnnljjaaGreatDoor

namespace Go.Proofs.YtdkdjofnnnljjaaGreatDoor
open Go.RowKit
def jF(Q:Exit->Act->World->Prop):Exit->Act->World->Prop
 | .normal,a,w=>Q .normal a w
 | _,_,_=>False
theorem jF.on{Q:Exit->Act->World->Prop}{a:Act}{w:World}(h:Q .normal a w):jF Q .normal a w:=h
theorem jF.imp{Q:Exit->Act->World->Prop} : ∀(e:Exit) (a:Act) (w:World),jF Q e a w->Q e a w:=fun e a w h=>by
 cases e<;>first | exact h | exact h.elim
def tC(o:Oper):Bool:=match o.op with
 | .defer _=>false
 | _=>true
theorem Nv{P:Program}{l n:Nat}{row:String}{args:Array Value}{w:World}{R:Value->World->Prop}(h:Rows P row args w R):RowsIn (Fence.wide.inRound l) n P row args w R:=fun c cs _=>by
 obtain⟨v,w', r,s⟩:=h c cs;exact⟨v,w', r,stepsIn_wide.2 s⟩
theorem Ao{P:Program}{l n:Nat}{o:Oper}{a:Act}{w:World}{K:Act->World->Prop}{Q:Exit->Act->World->Prop}(hd:tC o=true)(h:o.wp P a w K Q):o.wpIn (Fence.wide.inRound l) n P a w K Q:=by
 have hs:o.semAt (some l) a.eval=execOp a.eval o:=Oper.semAt_some l a.eval o (fun c e=>by simp[tC,e]at hd)
 refine⟨fun _ _=>trivial, ?_⟩
 show o.uponIn (Fence.wide.inRound l) n P a K Q ((o.semAt (some l) a.eval).run P w);rw[hs];unfold Oper.wp at h
 revert h
 generalize (execOp a.eval o).run P w=r;intro h
 cases r with
 | ok x w' =>
  cases x with
  | value v=>exact h
  | skip=>exact h
  | defer d=>exact h
  | enter f args=>exact⟨(fun e=>by cases e),(callsIn_wide.2 h).inRound l⟩
  | row row args=>exact⟨(fun e=>by cases e),Nv h⟩
  | round _ _ _ _ _=>exact h.elim
  | _=>exact h.elim
 | halt x w' =>
  cases x with
  | panic v=>exact h
  | _=>exact h.elim
theorem jd{P:Program}{l n:Nat}{ops:Array Oper}{Q:Exit->Act->World->Prop}(hd : ∀(i:Nat) (o:Oper),ops[i]? = some o->tC o=true)(hQ : ∀a w,¬Q .outgrown a w) :
 ∀(is:List Nat) (a:Act) (w:World),wpOps P ops Q is a w->wpOpsIn (Fence.wide.inRound l) n P ops Q is a w
 | [],_,_,h=>h
 | i :: rest,a,w,h=>by
  unfold wpOps at h
  unfold wpOpsIn;cases ho:ops[i]? with
  | none =>
   simp only[ho]at h
   exact jd hd hQ rest a w h
  | some o =>
   simp only[ho]at h
   show if _ then _ else _
   split
   ·rename_i hw
    rw[if_pos hw]at h
    rcases h with h | ⟨_,x,y,hx⟩
    ·exact Oper.wpIn_mono (fun a w h=>jd hd hQ rest a w h) (Ao (hd i o ho) h)
    ·exact(hQ x y hx).elim
   ·rename_i hw
    rw[if_neg hw]at h
    exact⟨fun _ _=>trivial,jd hd hQ rest _ w h⟩
theorem lz{P:Program}{S:World->Prop}{id n l:Nat}{ops:Array Oper}{Q:Exit->Act->World->Prop}{a:Act}{w:World}(hm:P.follows .mixedOrders=true)(hd:ops.all tC=true)(hS:S w.drew)
 (h:S w.drew->wpAnyH P .any ops (jF Q) S ops.size (Array.replicate ops.size false) a w.drew):(Code.region id ops true).wpIn (Fence.wide.inRound l) n P Q a w:=by
 refine wpIn_mono ?_ (fun e a w hq=>jF.imp e a w hq)
 refine wpIn_region_draw fun t => ?_
 refine jd (fun i o ho => ?_) (fun _ _ h=>h) _ _ _ ?_
 ·have:=Array.all_eq_true'.1 hd o (Array.mem_of_getElem? ho)
  exact this
 ·simp only[Region.schedule,hm,Bool.true_or,if_true]
  exact wpAny_sound ops.size t _ a _ (wpAny_of_held _ _ _ _ (h hS))
end Go.Proofs.YtdkdjofnnnljjaaGreatDoor
