/- Several texts of mine in one: Told DkIter DkApply DkHold. -/
import Derived.Test.YtdkdjofnnnljjaaGreatDoorPMem
import Derived.RangeFuncBound
import Derived.RangeFuncCalls
import Derived.Test.YtdkdjofnnnljjaaGreatDoorPGFs
import Derived.RangeFuncNested
import Derived.RangeFuncLeaves
import Derived.Shelf.Abstract
import Derived.OwnWalkIn
import Derived.TacticsInMore
import Derived.LoopNIn
import Derived.LoopIn
import Derived.Test.YtdkdjofnnnljjaaGreatDoorPGRd
import Derived.Deep.RegionHeld
namespace Go.Proofs.YtdkdjofnnnljjaaGreatDoor
open Go.RowKit
def Told{α:Type}(F:Fence)(n:Nat)(P:Program)(f:Nat)(held:Array Value)(encs:α→Array Value)(keeps:World→World→Prop)(gives:List α→α→World→Prop)(over:List α→World→Prop)(w:World):Prop :=
 ∀(l:Nat) (J:List α→World→Prop) (A:World),Below w.heap.size w A →
  (∀pre B C,J pre B→Below B.heap.size B C→J pre C) →
  (∀pre x B,J pre B→gives pre x B→YieldAt F (n - 1) P l (encs x) B fun e C=>e = .returned (.bool true)∧J (pre ++ [x]) C∧keeps B C) →
  J [] A→CallsIn F n P f (#[.func (.yield l) #[] #[]]++held) A fun e B=>(∃v,e = .returned v) ∧ ∃xs,over xs B∧J xs B
def roundTold{α:Type}(keeps:World→World→Prop)(I:List α→World→Prop)(base:Nat)(xs:List α)(A:World):Exit→Act→World→Prop
 | .normal,_,B=>KeepsFrom base A B∧keeps A B∧I xs B
 | .ret,_,_=>False
 | .exit _,_,_=>False
 | .goto _,_,_=>False
 | .panic _,_,_=>False
 | .outgrown,_,_=>False
theorem range_told{α:Type}{F:Fence}{n:Nat}{P:Program}{g:Operand}{ps:Array Tmp}{assign body:Code}{Q:Exit→Act→World→Prop}{a:Act}{w:World}
 (hro:F.round=none) (h1:1≤n) {f:Nat} {held:Array Value} (hg:a.eval g = .func (.func f) #[] held) (hF:F.fn f) (hen : ∀args w,(callFunc f args).run P w = .ok (.enter f args) w)
 {encs:α→Array Value} {keeps:World→World→Prop} {gives:List α→α→World→Prop} {over:List α→World→Prop} {w0:World} (hseq:Told F (n - 1) P f held encs keeps gives over w0) (hb0:Below w0.heap.size w0 w)
 (hkt : ∀ {A B C:World},keeps A B→keeps B C→keeps A C) (hkb : ∀(A:World) (l:Nat) (o o' : Obj),w.heap.size≤l→A.heap[l]? = some o→o.isCells=false→keeps A (A.putObj l o')) (hps : ∀x,(encs x).size=ps.size)
 (I:List α→World→Prop) (hI:OwnFrom w.heap.size I) (hG:OwnFrom w.heap.size (fun(p:List α × α)=>gives p.1 p.2)) (hO:OwnFrom w.heap.size over) (h0:I [] w) (a₁:α→Act)
 (hassign : ∀(l:Nat) (x:α) (A:World) (K:Act→World→Prop),K (a₁ x) A →
   assign.wpIn (F.inRound l) (n - 1 - 1) P (Exit.then K (fun _ _ _=>False)) { tmps:=(ps.zip (encs x)).foldl (fun t (p,v)=>t.setIfInBounds p v) a.tmps,defers := [] } A)
 (hbody : ∀(l:Nat) (pre:List α) (x:α) (A:World),I pre A→gives pre x A→w.heap.size≤A.heap.size→body.wpIn (F.inRound l) (n - 1 - 1) P (roundTold keeps I w.heap.size (pre ++ [x]) A) (a₁ x) A)
 (hdone : ∀(D:Nat) (xs:List α) (A:World),w.heap.size≤D→over xs A→I xs A→A.heap[D]? = some (.deferred (some []))→Q .normal { a with defers:={ target := .collected D,args := #[] } :: a.defers } A) :
 (Code.rangeFunc g ps assign body).wpIn F n P Q a w:=by
 apply wpIn_rangeFunc
 intro fn hfn
 rw[hro]
 let rc (st:LoopState) (pe:Option Code):Obj := .loop { state:=st,pending:=pe,fn:=fn,tmps:=a.tmps,params:=ps,assign:=assign,body:=body,defers:=w.heap.size }
 have hrun:=run_enterLoop_outer (P:=P) (w:=w) fn a.tmps ps assign body
 obtain⟨A0,hA0⟩ : ∃A0,A0=(w.alloc (.deferred (some []))).alloc (rc .ready none):=⟨_,rfl⟩
 have hrun' : (Instr.enterLoop fn a.tmps ps assign body none).run P w = .ok (w.heap.size+1, [{ target := .collected w.heap.size,args := #[] }]) A0:=by rw[hA0];exact hrun
 have hgw:Below w.heap.size w A0:=by rw[hA0];exact((Below.refl _ w).alloc (Nat.le_refl _) _).alloc (by simp) _
 have hL:A0.heap[w.heap.size+1]? = some (rc .ready none):=by
  have:=World.alloc_heap_new (w.alloc (.deferred (some []))) (rc .ready none)
  rw[World.size_alloc]at this
  rw[hA0];exact this
 have hD:A0.heap[w.heap.size]? = some (.deferred (some [])):=by
  rw[hA0];exact(Below.heap_alloc _ _ _ (by simp)).trans (World.alloc_heap_new w _)
 have new : ∀ {β:Type} {R:β→World→Prop} {s:β} {B C:World},OwnFrom w.heap.size R→R s B→Below B.heap.size B C→R s C:=fun h hs hb=>h _ _ _ none hs (grown_of_below hb) (fun r e=>by cases e)
 have put : ∀ {β:Type} {R:β→World→Prop} {s:β} {B:World} {o:Obj} (o' : Obj),OwnFrom w.heap.size R→R s B→B.heap[w.heap.size+1]? = some o→o.isCells=false→R s (B.putObj (w.heap.size+1) o'):=fun o' h hs hl ho=>h.putObj o' hs (by omega) hl ho
 refine⟨w.heap.size+1,_,A0,{ target := .fn (.func f) held,args := #[.func (.yield (w.heap.size+1)) #[] #[]] },A0,f,#[.func (.yield (w.heap.size+1)) #[] #[]]++held,A0,hrun', ?_, ?_, ?_,fun _=>h1, ?_⟩
 ·simp only[resolve,hg];simp[go_sem]
 ·intro f' e;simp[Target.leads]at e;subst e;exact hF
 ·simp[invoke,go_sem,hen]
 refine(hseq (w.heap.size+1) (fun pre B=>I pre B∧B.heap[w.heap.size+1]? = some (rc .ready none)∧B.heap[w.heap.size]? = some (.deferred (some []))) A0 (hb0.trans (hgw.mono hb0.size))
  (fun pre B C hJ hb=>⟨new hI hJ.1 hb,(hb.block _ (Array.getElem?_eq_some_iff.1 hJ.2.1).1).trans hJ.2.1,(hb.block _ (Array.getElem?_eq_some_iff.1 hJ.2.2).1).trans hJ.2.2⟩) ?_
  ⟨new hI h0 hgw,hL,hD⟩).mono ?_
 ·-- a round
  rintro pre x B ⟨hi,hl,hd⟩ hgv
  have hlt:=(Array.getElem?_eq_some_iff.1 hl).1
  refine⟨fn,_,assign,body,run_yield hl (hps x),roundIn_of_wpIn hfn (hassign _ x B _ ⟨_,run_beginRound hl rfl, ?_⟩)⟩
  have hl2:(B.putObj (w.heap.size+1) (rc .busy none)).heap[w.heap.size+1]? = some (rc .busy none):=World.putObj_heap_same hlt
  have hd2:(B.putObj (w.heap.size+1) (rc .busy none)).heap[w.heap.size]? = some (.deferred (some [])):=(World.putObj_heap_other (by omega)).trans hd
  refine wpIn_mono (hbody _ pre x _ (put _ hI hi hl rfl) (put (s:=(pre,x)) _ hG hgv hl rfl) (by simp;omega)) ?_
  intro e a3 C hC
  cases e with
  | normal =>
   obtain⟨hk,hkk,hi3⟩:=hC
   have hl3:=hk.same _ _ (by omega) hl2 rfl
   have hd3:=hk.same _ _ (by omega) hd2 rfl
   refine⟨_,_,run_endRound none hl3,rfl,⟨put _ hI hi3 hl3 rfl,World.putObj_heap_same (Array.getElem?_eq_some_iff.1 hl3).1,(World.putObj_heap_other (by omega)).trans hd3⟩, ?_⟩
   exact hkt (hkt (hkb _ _ _ _ (by omega) hl rfl) hkk) (hkb _ _ _ _ (by omega) hl3 rfl)
  | ret=>exact hC.elim
  | exit _=>exact hC.elim
  | goto _=>exact hC.elim
  | panic _=>exact hC.elim
  | outgrown=>exact hC.elim
 ·-- behind the iterator
  rintro e B ⟨⟨v,rfl⟩,xs,hov,hi,hl,hd⟩
  exact⟨none,_,run_endLoop hl (by simp),hdone _ xs _ (Nat.le_refl _) (put _ hO hov hl rfl) (put _ hI hi hl rfl) ((World.putObj_heap_other (by omega)).trans hd)⟩
end Go.Proofs.YtdkdjofnnnljjaaGreatDoor

namespace Go.Proofs.YtdkdjofnnnljjaaGreatDoor
open Go.RowKit
set_option maxHeartbeats 2000000
set_option maxRecDepth 100000
section
open Go.RowKit Go.Shelf
attribute [local go_sem] Oper.semAt_some
def fileArgs(x:Int × Value):Array Value := #[.int .i64 x.1,x.2]
def fileGiven(us:List (Int × Value))(pre:List (Int × Value))(x:Int × Value)(_:World):Prop := ∃post,us=pre++x :: post
def fileOver(us:List (Int × Value))(xs:List (Int × Value))(_:World):Prop:=xs=us
theorem sorted_made(mv:Option Nat)(w:World) :
 Calls Tryz.prog 83 #[.map mv] w fun e w' => e = .returned (.func (.func 117) #[] #[.pointer (some ⟨w.heap.size,0,none⟩)])∧w' = w.alloc (.cells #[.map mv] 74):=by
 go_enter Tryz.func83,Tryz.ntmps83
 go_wp2
 go_ret
 exact⟨rfl,rfl⟩
theorem MapOr.kp{q:Nat→Obj→Prop}{w w' : World}{mv:Option Nat}{us:List (Int × Value)}(h:MapOr w (.map mv) us)(hk:Kp q w w')(hq : ∀b,mv=some b → ∀o,q b o):MapOr w' (.map mv) us:=by
 rcases h with h | ⟨b,e,h⟩
 ·exact .inl h
 ·simp only[Value.map.injEq]at e
  subst e
  exact .inr ⟨b,rfl,h.of_block (hk.block h.lt (hq b rfl))⟩
theorem MapOr.below{w w' : World}{mv:Option Nat}{us:List (Int × Value)}(h:MapOr w (.map mv) us)(hb:Below w.heap.size w w'):MapOr w' (.map mv) us:=by
 rcases h with h | ⟨b,e,h⟩
 ·exact .inl h
 ·exact .inr ⟨b,e,h.below hb h.lt⟩
theorem MapOr.asc{w:World}{mv:Value}{us:List (Int × Value)}(h:MapOr w mv us):Dk.Asc us:=by
 rcases h with ⟨_,rfl⟩ | ⟨b,_,h⟩
 ·exact Dk.Asc.nil
 ·exact h.asc
theorem MapOr.see{w:World}{mv:Option Nat}{us:List (Int × Value)}(h:MapOr w (.map mv) us)(hr : ∀u∈us,1≤u.1∧u.1≤4294967296){i:Nat}{u:Int × Value}(hi:us[i]? = some u) :
 (Instr.lookup 74 (.map mv) (.int .i64 u.1) false).run Tryz.prog w = .ok u.2 w:=by
 have hm:=List.mem_of_getElem? hi
 rcases h with ⟨_,rfl⟩ | ⟨b,e,h⟩
 ·simp at hm
 ·simp only[Value.map.injEq]at e
  subst e
  have hb:=hr u hm
  have:=h.see (n:=u.1) (by omega) (by omega)
  rw[Dk.get_of_mem h.asc (show(u.1,u.2)∈us from hm)]at this
  exact this
theorem take_drop_at{α:Type} : ∀ {l:List α} {i:Nat} {u:α},l[i]? = some u→l=l.take i++u :: l.drop (i+1)
 | [],i,u,h=>by simp at h
 | a :: r,0,u,h=>by simp at h;simp[h]
 | a :: r,i+1,u,h=>by
  have:=take_drop_at (l:=r) (i:=i) (by simpa using h)
  simp only[List.take_succ_cons,List.drop_succ_cons,List.cons_append]
  exact congrArg _ this
theorem ints_places{w:World}{base n:Nat}{v:Value}{xs:List Value}{E:TypeId}(h:w.ownsRow base E 1 v n xs) :
 ∃ao cap,v = .slice ao n cap∧n≤cap∧cap≤9223372036854775807∧(0<n → ∃g cur,ao=some ⟨g,0,none⟩∧w.heap[g]? = some (.cells cur E (0,0)) ∧ ∀w' : World,w'.heap[g]? = w.heap[g]? → ∀j u,xs[j]? = some u→w'.cell? ⟨g,j,none⟩=some u):=by
 have h' := h
 rcases h.2 with ⟨rfl,h0⟩ | ⟨g,cap,cur,rfl,_,hg,hc,hm,_,_⟩
 ·exact⟨none,0,by rw[h0],by omega,by omega,fun h=>by omega⟩
 ·refine⟨_,cap,rfl,hc,by unfold maxLen at hm;exact hm,fun _=>⟨g,cur,rfl,hg,fun w' e j u hu => ?_⟩⟩
  have:=World.ownsRow.cells h' (g:=g) rfl j u hu
  rw[Addr.add_lit,Nat.zero_add]at this
  rw[← this]
  exact World.cell?_of_block e
theorem sorted_told(q:Nat→Obj→Prop)(mv:Option Nat)(Bn:Nat)(us:List (Int × Value))(w0:World)(hqb : ∀b,mv=some b → ∀o,q b o)(hqn : ∀o,q Bn o)(hqi : ∀k cs fr,q k (.cells cs 3 fr))
 (hBn:Boxed w0 Bn 74 (.map mv)) (hm:MapOr w0 (.map mv) us) (hr : ∀u∈us,1≤u.1∧u.1≤4294967296) (hl:us.length≤17592186044416) :
 Told Fence.wide 8 Tryz.prog 117 #[.pointer (some ⟨Bn,0,none⟩)] fileArgs (Kp q) (fileGiven us) (fileOver us) w0:=by
 intro lp J A hA hJ hY h0
 have hBA:Boxed A Bn 74 (.map mv):=(hA.block _ hBn.lt).trans hBn
 have hMA:=hm.below hA
 have hcA:=hBA.cell
 refine callsIn_of_wp Tryz.func117 rfl trivial ?_ rfl
 simp only[Tryz.ntmps117,List.size_toArray,List.length_cons,List.length_nil,Nat.reduceAdd,Nat.reduceSub,Array.replicate_succ,Array.replicate_zero,List.push_toArray,List.append_toArray,List.nil_append,List.cons_append]
 have cS:=sorted_any mv us A hMA hl
 gi_wp2_with (first
  | (refine⟨trivial, ?_⟩;gi_at_call 119;refine(callsIn_wide.2 (callsIn_wide.1 (keys_any mv A))).mono ?_;rintro e w1 ⟨rfl,rfl⟩)
  | (refine⟨trivial, ?_⟩;gi_at_call 118;refine(callsIn_wide.2 (callsIn_wide.1 cS)).mono ?_;rintro e w1 ⟨v1,rfl,ho1,hb1⟩;obtain⟨ao1,cap1,rfl,hc1,hc2,hp1⟩:=ints_places ho1))
 have hbA:Below A.heap.size A w1:=((Below.refl _ A).alloc (Nat.le_refl _) _).trans (hb1.mono (by simp))
 have HBA:=Lib.hid hbA;have HP1:=Lib.hid hp1;have HMA:=Lib.hid hMA;have HBX:=Lib.hid hBA;have HL:=Lib.hid hl;have HR:=Lib.hid hr;have HQI:=Lib.hid hqi;have HQN:=Lib.hid hqn;have HQB:=Lib.hid hqb
 have HJ0:Hid (J [] w1):=hJ _ _ _ h0 hbA
 have HYY:=Lib.hid hY
 obtain⟨n,hn⟩ : ∃n,n=us.length:=⟨_,rfl⟩
 rw[← hn]at hc1
 have hn9:n≤17592186044416:=by omega
 have HN:=Lib.hid hn
 rw[← hn]
 clear cS ho1 hb1 hp1 hbA hMA hBA hcA hl hr hqi hqn hqb hBn hm hY h0 hn hA
 gi_loopw [9] (fun x wr => ∃i:Nat,x = .int .i64 (i:Int)∧i≤n∧J (us.take i) wr∧Kp q w1 wr) (fun x _=>n - (intOf x).toNat)
 case atStart=>exact⟨0,rfl,Nat.zero_le _,by simpa using HJ0.out,Kp.refl _ _⟩
 case round =>
  obtain⟨i,rfl,hin,hJi,hk⟩:=hrel
  have HJI:=Lib.hid hJi;have HK:=Lib.hid hk
  clear hJi hk
  by_cases hlt:i<n
  ·have hint:((i:Nat):Int)<(n:Int):=by omega
   obtain⟨u,hu⟩ : ∃u,us[i]? = some u:=⟨_,List.getElem?_eq_getElem (by have:=HN.out;omega)⟩
   obtain⟨g,cur,rfl,hgc,hcell⟩:=HP1.out (by have:=HN.out;omega)
   have hki:wr.cell? ⟨g,i,none⟩=some (.int .i64 u.1):=hcell wr ((HK.out.same g _ hgc (HQI.out g cur _)).trans hgc.symm) i _ (by simp[hu])
   have hBw:Boxed wr Bn 74 (.map mv):=HK.out.same Bn _ ((HBA.out.block _ HBX.out.lt).trans HBX.out) (HQN.out _)
   have hcB:=hBw.cell
   have hsee:=((HMA.out.below HBA.out).kp HK.out HQB.out).see HR.out hu
   have hgiven:fileGiven us (us.take i) u wr:=⟨us.drop (i+1),take_drop_at hu⟩
   obtain⟨fn,tmps,assign,body,hy,hR⟩:=HYY.out (us.take i) u wr HJI.out hgiven
   dsimp only [fileArgs]at hy
   clear hgc hcell hgiven hBw
   gi_wp2
   refine hR.mono ?_
   rintro e W3 ⟨rfl,hJ3,hk3⟩
   gi_wp2
   go_roundw
   case rel=>exact⟨i+1,by simp,by omega,by rw[List.take_add_one,hu];exact hJ3,HK.out.trans hk3⟩
   case measure=>simp[intOf];omega
  ·have hint : ¬((i:Nat):Int)<(n:Int):=by omega
   gi_wp2
   go_end0
   refine⟨⟨_,rfl⟩,us,rfl, ?_⟩
   have:=HJI.out
   rwa[List.take_of_length_le (by have:=HN.out;omega)]at this
end
end Go.Proofs.YtdkdjofnnnljjaaGreatDoor

namespace Go.Proofs.YtdkdjofnnnljjaaGreatDoor
open Go.RowKit
set_option maxHeartbeats 400000
set_option maxRecDepth 4000
theorem dkWithin_any(n:Int)(m:Nat)(w:World) :
 Calls Tryz.prog 48 #[.int .i64 n, .int .i64 (m:Int)] w (Says w (.int .i64 (Dk.clamp n m:Nat))):=by
 have e:min (max n 0) (m:Int)=((Dk.clamp n m:Nat):Int):=by unfold Dk.clamp;omega
 go_enter Tryz.func48,Tryz.ntmps48
 go_wp2
 go_ret
 first | exact⟨rfl,rfl⟩ | exact⟨ret_int e,rfl⟩
def Applied(w:World)(b:Nat)(zs:List Row)(x:Dk.Op)(e:Ending)(w' : World):Prop :=
 e = .returned (.tuple #[]) ∧ ∃zs', FilesIn w' b zs' ∧ Dk.onto (·.2) zs' = Dk.done (Dk.onto (·.2) zs) x∧Kp (fun k _=>k≠b ∧ ¬Bl zs k) w w' ∧ ∀k,Bl zs' k→Bl zs k∨w.heap.size≤k
theorem apply_add(b:Nat)(zs:List Row)(x:Dk.Op)(dv:Value)(z:Value × List UInt8)(w:World)(h:FilesIn w b zs)(hk:x.kind=2)(hg:Dk.get zs x.no=some z)(hn:1≤x.no∧x.no≤4294967296)(hd:Reads w dv x.data)(hs:Dk.wt (Dk.onto (·.2) zs)+x.data.length≤17592186044416) :
 Calls Tryz.prog 49 #[.map (some b), .agg #[.int .i64 x.kind, .int .i64 x.no,dv]] w (Applied w b zs x):=by
 obtain⟨k,n,data⟩:=x
 simp only at hk hg hn hd hs
 subst hk
 obtain⟨ao,cap,rfl⟩:=hd.shape
 obtain⟨w1,hw1⟩ : ∃w1,w.alloc (.cells #[.int .i64 2, .int .i64 n, .slice ao data.length cap] 91)=w1:=⟨_,rfl⟩
 have hb1:Below w.heap.size w w1:=by rw[← hw1];exact(Below.refl _ w).alloc (Nat.le_refl _) _
 have hL1:Lies w1 w.heap.size 91 #[.int .i64 2, .int .i64 n, .slice ao data.length cap]:=by rw[← hw1];exact Lies.new w _ _
 have hs1:w1.heap.size=w.heap.size+1:=by rw[← hw1];simp
 have h' := h.below hb1 (Nat.le_refl _)
 have hd' := hd.below hb1
 have c0:w1.cell? ⟨w.heap.size,0,none⟩=some (.int .i64 2):=hL1.cell 0 _ rfl
 have c1:w1.cell? ⟨w.heap.size,1,none⟩=some (.int .i64 n):=hL1.cell 1 _ rfl
 have c2:w1.cell? ⟨w.heap.size,2,none⟩=some (.slice ao data.length cap):=hL1.cell 2 _ rfl
 have HLI:=Lib.hid hL1;have HBL:Hid (b<w.heap.size):=h.map.lt
 have hlook:=h'.map.look (n:=n) (by omega) (by omega)
 rw[Dk.onto_get]at hlook
 have hlen:zs.length≤17592186044416:=by
  have:=Dk.len_wt (Dk.onto (·.2) zs)
  simp only[Dk.onto,List.length_map]at this
  have h2:=hs
  simp only[Dk.onto]at h2
  omega
 have hlen' : (Dk.onto (·.1) zs).length<4611686018427387904:=by rw[h.len];omega
 have hget2:Dk.get (Dk.onto (·.2) zs) n=(Dk.get zs n).map (·.2):=Dk.onto_get _ _ _
 have HG2:=Lib.hid hget2;have HS:=Lib.hid hs;have HH:=Lib.hid h'; have HD:=Lib.hid hd'; have HB1:=Lib.hid hb1;have HS1:=Lib.hid hs1;have HL:=Lib.hid hlen'
 clear hget2 hs h' hd' hb1 hs1 h hd hL1 hlen' hlen
 have over : ∀(w2:World) (zs' : List Row),FilesIn w2 b zs' → Dk.onto (·.2) zs' = Dk.done (Dk.onto (·.2) zs) ⟨2,n,data⟩→Kp (fun k _=>k≠b ∧ ¬Bl zs k) w1 w2→(∀k,Bl zs' k→Bl zs k∨w1.heap.size≤k)→Applied w b zs ⟨2,n,data⟩ (.returned (.tuple #[])) w2:=fun _ _ h1 h2 h3 h4 =>
  ⟨rfl,_,h1,h2,(Kp.all HB1.out).trans h3,fun k hk=>(h4 k hk).imp id (fun h=>by have:=HS1.out;omega)⟩
 have HO:=Lib.hid over
 clear over
 rw[hg]at hlook
 rw[hg]at HG2
 simp only[Option.map_some,Option.getD_some,Option.isSome_some]at hlook
 obtain⟨vz,dz⟩:=z
 simp only at hlook
 have hmem:=Dk.get_mem hg
 have hoz:Owns w1 0 5 vz dz:=HH.out.own _ hmem
 obtain⟨zo,zc,rfl⟩ : ∃zo zc,vz = .slice zo dz.length zc:=hoz.reads.shape
 have hle:dz.length+data.length≤140737488355328:=by
  have h1:=HS.out
  have h2:(n,dz)∈Dk.onto (·.2) zs:=List.mem_map.2 ⟨_,hmem,rfl⟩
  have h3:=Dk.wt_mem h2
  simp only at h3
  omega
 have HM:=Lib.hid hmem;have HOZ:=Lib.hid hoz;have HLE:=Lib.hid hle
 clear hle
 clear hmem hoz
 go_enter Tryz.func49,Tryz.ntmps49
 go_wp2
 refine wp_region_held_drew (S:=fun W=>W.cell? ⟨w.heap.size,1,none⟩=some (.int .i64 n)∧W.cell? ⟨w.heap.size,2,none⟩=some (.slice ao data.length cap)) (by kernel_rfl) (⟨c1,c2⟩) (fun hHeld => ?_)
 refine wpAnyH_take (i:=0) (v := ?v0) rfl (by kernel_rfl) (by kernel_rfl) (by kernel_rfl) (fun _ _ _ h=>h) (Or.inl ⟨by rfl, ?hy0⟩) hHeld ?rest0
 case hy0=>(intro W hSw;obtain⟨s1,s2⟩:=hSw;go_simp;(try with_reducible rfl))
 refine wpAnyH_take (i:=1) (v := ?v1) rfl (by kernel_rfl) (by kernel_rfl) (by kernel_rfl) (fun _ _ _ h=>h) (Or.inl ⟨by rfl, ?hy1⟩) hHeld ?rest1
 case hy1=>(intro W hSw;obtain⟨s1,s2⟩:=hSw;go_simp;(try with_reducible rfl))
 refine wpAnyH_take (i:=2) (v := ?v2) rfl (by kernel_rfl) (by kernel_rfl) (by kernel_rfl) (fun _ _ _ h=>h) (Or.inl ⟨by rfl, ?hy2⟩) hHeld ?rest2
 case hy2=>(intro W hSw;obtain⟨s1,s2⟩:=hSw;go_simp;(try with_reducible rfl))
 refine wpAnyH_take (i:=3) (v := ?v3) rfl (by kernel_rfl) (by kernel_rfl) (by kernel_rfl) (fun _ _ _ h=>h) (Or.inl ⟨by rfl, ?hy3⟩) hHeld ?rest3
 case hy3=>(intro W hSw;obtain⟨s1,s2⟩:=hSw;go_simp;(try with_reducible rfl))
 refine wpAnyH_take (i:=4) (v := ?v4) rfl (by kernel_rfl) (by kernel_rfl) (by kernel_rfl) (fun _ _ _ h=>h) (Or.inl ⟨by rfl, ?hy4⟩) hHeld ?rest4
 case hy4=>(intro W hSw;obtain⟨s1,s2⟩:=hSw;go_simp;(try with_reducible rfl))
 refine wpAnyH_take (i:=5) (v := ?v5) rfl (by kernel_rfl) (by kernel_rfl) (by kernel_rfl) (fun _ _ _ h=>h) (Or.inl ⟨by rfl, ?hy5⟩) hHeld ?rest5
 case hy5=>(intro W hSw;obtain⟨s1,s2⟩:=hSw;go_simp;(try with_reducible rfl))
 obtain⟨v2,w2,hrun,ho2,hg2,hat2⟩:=run_append_bytes_at (P:=Tryz.prog) (w:=w1.drew) 30 30 5 Tryz.underlying30 info_u8 0 dz data _ _ (Owns.drew HOZ.out) (Reads.below HD.out (drawn w1 1)) HLE.out (Nat.zero_le _)
 have hL2:Lies w2 w.heap.size 91 #[.int .i64 2, .int .i64 n, .slice ao data.length cap]:=Lies.kept (w:=w1.drew) HLI.out hg2 (HLI.out.not_row (by decide) HOZ.out)
 have HL2:=Lib.hid hL2;have HO2:=Lib.hid ho2;have HG:=Lib.hid hg2;have HA2:=Lib.hid hat2
 clear hL2 ho2 hg2 hat2
 refine wpAnyH_ready (rs := [6]) (by kernel_rfl) (by simp) ?_
 refine ready_append 6 (.tmp 34) (.tmp 36) 30 rfl rfl rfl (.slice zo dz.length zc) (.slice ao data.length cap) v2 w2 ?s6 ?x6 hrun ⟨⟨HL2.out.cell 1 _ rfl,HL2.out.cell 2 _ rfl⟩,fun hHeld => ?_⟩
 case s6=>kernel_rfl
 case x6=>kernel_rfl
 clear hrun
 have hrb:some b≠(Value.slice zo dz.length zc).ownBlock:=fun e=>HH.out.not_map ⟨_,HM.out,e.symm⟩
 have hmm:=MapAt.kept (MapAt.drew HH.out.map) HG.out hrb
 refine wpAnyH_ready (rs := [7]) (by kernel_rfl) (by simp) ?_
 refine ready_mapUpdate 7 (.tmp 31) (.tmp 33) (.tmp 37) rfl rfl rfl b (Dk.onto (·.1) zs) n v2 ?m7 ?x7 ?u7 hmm (by omega) (by omega) HL.out ?k7
 case m7=>kernel_rfl
 case x7=>kernel_rfl
 case u7=>kernel_rfl
 intro w3 hm3 hg3
 have hL3:=HL2.out.kept hg3 (by have:=HBL.out;simp;omega)
 have HL3:=Lib.hid hL3;have HM3:=Lib.hid hm3;have HG3:=Lib.hid hg3
 clear hL3 hm3 hg3 hrb hmm
 refine⟨⟨HL3.out.cell 1 _ rfl,HL3.out.cell 2 _ rfl⟩,fun hHeld => ?_⟩
 refine wpAnyH_done (by kernel_rfl) ?_ _
 clear hHeld
 go_wp2
 go_end0
 have hp:=(HH.out.below (drawn w1 1) (Nat.le_refl _)).put n hn v2 (dz++data) _ HG.out (fun g e=>⟨_,hg,e⟩) HO2.out (fun g e=>by
  rcases HA2.out with h2 | h2
  ·exact .inl (h2 ▸ e)
  ·rw[h2]at e
   simp only[Option.some.injEq]at e
   exact .inr (Nat.le_of_eq e)) HM3.out HG3.out
 exact HO.out _ _ hp.1 (by rw[Dk.onto_put];unfold Dk.done;rw[HG2.out];rfl) ((Kp.all (drawn w1 1)).trans hp.2.1) hp.2.2
theorem dkApply_any(b:Nat)(zs:List Row)(x:Dk.Op)(dv:Value)(w:World)(h:FilesIn w b zs)(hk:Dk.isKind x.kind)(hn:1≤x.no∧x.no≤4294967296)(hd:Reads w dv x.data)(hs:Dk.wt (Dk.onto (·.2) zs)+x.data.length≤17592186044416) :
 Calls Tryz.prog 49 #[.map (some b), .agg #[.int .i64 x.kind, .int .i64 x.no,dv]] w (Applied w b zs x):=by
 obtain⟨k,n,data⟩:=x
 simp only at hk hn hd hs
 obtain⟨ao,cap,rfl⟩:=hd.shape
 obtain⟨w1,hw1⟩ : ∃w1,w.alloc (.cells #[.int .i64 k, .int .i64 n, .slice ao data.length cap] 91)=w1:=⟨_,rfl⟩
 have hb1:Below w.heap.size w w1:=by rw[← hw1];exact(Below.refl _ w).alloc (Nat.le_refl _) _
 have hL1:Lies w1 w.heap.size 91 #[.int .i64 k, .int .i64 n, .slice ao data.length cap]:=by rw[← hw1];exact Lies.new w _ _
 have hs1:w1.heap.size=w.heap.size+1:=by rw[← hw1];simp
 have h' := h.below hb1 (Nat.le_refl _)
 have hd' := hd.below hb1
 have c0:w1.cell? ⟨w.heap.size,0,none⟩=some (.int .i64 k):=hL1.cell 0 _ rfl
 have c1:w1.cell? ⟨w.heap.size,1,none⟩=some (.int .i64 n):=hL1.cell 1 _ rfl
 have c2:w1.cell? ⟨w.heap.size,2,none⟩=some (.slice ao data.length cap):=hL1.cell 2 _ rfl
 have HLI:=Lib.hid hL1;have HBL:Hid (b<w.heap.size):=h.map.lt
 have hlook:=h'.map.look (n:=n) (by omega) (by omega)
 rw[Dk.onto_get]at hlook
 have hlen:zs.length≤17592186044416:=by
  have:=Dk.len_wt (Dk.onto (·.2) zs)
  simp only[Dk.onto,List.length_map]at this
  have h2:=hs
  simp only[Dk.onto]at h2
  omega
 have hlen' : (Dk.onto (·.1) zs).length<4611686018427387904:=by rw[h.len];omega
 have hget2:Dk.get (Dk.onto (·.2) zs) n=(Dk.get zs n).map (·.2):=Dk.onto_get _ _ _
 have HG2:=Lib.hid hget2;have HS:=Lib.hid hs;have HH:=Lib.hid h'; have HD:=Lib.hid hd'; have HB1:=Lib.hid hb1;have HS1:=Lib.hid hs1;have HL:=Lib.hid hlen'
 have HX:=Lib.hid h;have HDX:=Lib.hid hd
 clear hget2 hs h' hd' hb1 hs1 h hd hL1 hlen' hlen
 have nothing:Dk.done (Dk.onto (·.2) zs) ⟨k,n,data⟩=Dk.onto (·.2) zs→Applied w b zs ⟨k,n,data⟩ (.returned (.tuple #[])) w1:=fun e =>
  ⟨rfl,zs,HH.out,e.symm,(Kp.all HB1.out),fun k hk => .inl hk⟩
 have HN:=Lib.hid nothing
 clear nothing
 have over : ∀(w2:World) (zs' : List Row),FilesIn w2 b zs' → Dk.onto (·.2) zs' = Dk.done (Dk.onto (·.2) zs) ⟨k,n,data⟩→Kp (fun k _=>k≠b ∧ ¬Bl zs k) w1 w2→(∀k,Bl zs' k→Bl zs k∨w1.heap.size≤k)→Applied w b zs ⟨k,n,data⟩ (.returned (.tuple #[])) w2:=fun _ _ h1 h2 h3 h4 =>
  ⟨rfl,_,h1,h2,(Kp.all HB1.out).trans h3,fun k hk=>(h4 k hk).imp id (fun h=>by have:=HS1.out;omega)⟩
 have HO:=Lib.hid over
 clear over
 cases hg:Dk.get zs n with
 | none =>
  rw[hg]at hlook
  rw[hg]at HG2
  simp only[Option.map_none,Option.getD_none,Option.isSome_none]at hlook
  rcases hk with rfl | rfl | rfl
  ·go_enter Tryz.func49,Tryz.ntmps49
   go_wp2_with (at_mapUpdate;refine step_mapUpdate rfl _ _ _ rfl b _ n _ rfl rfl rfl HH.out.map (by omega) (by omega) HL.out ?_;intro w2 hm2 hg2)
   go_end0
   have hp:=HH.out.put n hn (.slice none 0 0) [] none (World.grownBy.refl _ _) (fun g e=>by cases e) (Owns.empty _ _ _) (fun g e=>by simp[Value.ownBlock]at e) hm2 hg2
   exact HO.out _ _ hp.1 (by rw[Dk.onto_put];unfold Dk.done;rw[HG2.out];rfl) hp.2.1 hp.2.2
  ·go_enter Tryz.func49,Tryz.ntmps49
   go_wp2
   go_end0
   exact HN.out (by unfold Dk.done;rw[HG2.out];rfl)
  ·go_enter Tryz.func49,Tryz.ntmps49
   go_wp2_with (refine step_delete rfl _ _ rfl b _ n rfl rfl HH.out.map (by omega) (by omega) ?_;intro w2 hm2 hg2)
   go_end0
   have hp:=HH.out.del n hm2 hg2
   refine HO.out _ _ hp.1 ?_ hp.2.1 hp.2.2
   rw[Dk.onto_del,Dk.del_none (by rw[HG2.out];rfl)]
   unfold Dk.done
   rw[HG2.out]
   rfl
 | some z =>
  rw[hg]at hlook
  rw[hg]at HG2
  simp only[Option.map_some,Option.getD_some,Option.isSome_some]at hlook
  obtain⟨vz,dz⟩:=z
  simp only at hlook
  have hmem:=Dk.get_mem hg
  have hoz:Owns w1 0 5 vz dz:=HH.out.own _ hmem
  obtain⟨zo,zc,rfl⟩ : ∃zo zc,vz = .slice zo dz.length zc:=hoz.reads.shape
  have hle:dz.length+data.length≤140737488355328:=by
   have h1:=HS.out
   have h2:(n,dz)∈Dk.onto (·.2) zs:=List.mem_map.2 ⟨_,hmem,rfl⟩
   have h3:=Dk.wt_mem h2
   simp only at h3
   omega
  have HM:=Lib.hid hmem;have HOZ:=Lib.hid hoz;have HLE:=Lib.hid hle
  clear hle
  clear hmem hoz
  rcases hk with rfl | rfl | rfl
  ·go_enter Tryz.func49,Tryz.ntmps49
   go_wp2
   go_end0
   exact HN.out (by unfold Dk.done;rw[HG2.out];rfl)
  ·exact apply_add b zs ⟨2,n,data⟩ _ _ w HX.out rfl hg hn HDX.out HS.out
  ·go_enter Tryz.func49,Tryz.ntmps49
   go_wp2_with (refine step_delete rfl _ _ rfl b _ n rfl rfl HH.out.map (by omega) (by omega) ?_;intro w2 hm2 hg2)
   go_end0
   have hp:=HH.out.del n hm2 hg2
   refine HO.out _ _ hp.1 ?_ hp.2.1 hp.2.2
   rw[Dk.onto_del]
   unfold Dk.done
   rw[HG2.out]
   rfl
end Go.Proofs.YtdkdjofnnnljjaaGreatDoor

namespace Go.Proofs.YtdkdjofnnnljjaaGreatDoor
open Go.RowKit
set_option maxHeartbeats 400000
set_option maxRecDepth 4000
theorem new_any(w:World):Calls Tryz.prog 8 #[] w fun e w' => e = .returned (.pointer (some ⟨w.heap.size,0,none⟩))∧DiskAt (fun k=>k=w.heap.size) w' w.heap.size [] []∧Below w.heap.size w w' ∧ w'.heap.size=w.heap.size+1:=by
 have hL:=Lies.new w 76 #[.map none, .slice none 0 0]
 have HB:=Lib.hid ((Below.refl w.heap.size w).alloc (Nat.le_refl _) (.cells #[.map none, .slice none 0 0] 76))
 have HL:=Lib.hid hL
 clear hL
 go_enter Tryz.func8,Tryz.ntmps8
 go_wp2
 go_ret
 exact⟨rfl,⟨none, .slice none 0 0, [], [],⟨HL.out,rfl, .inl ⟨rfl,rfl,rfl⟩,fun k hk=>by obtain⟨z,hz,_⟩:=hk;simp at hz,OwnsR.empty _ _ _ _,fun g e=>by simp[Value.ownBlock]at e,fun q hq=>by simp at hq⟩,rfl,rfl⟩,HB.out,by simp⟩
theorem DiskP.hold{S:Nat→Prop}{w w3 w5 w6:World}{d b:Nat}{bv bv' v3:Value}{zs:List Row}{qs:List (Dk.Op × Value)}(h:DiskP S w d (some b) bv zs qs)(x:Dk.Op)(hb3:Below w.heap.size w w3)(ho3:Owns w3 w.heap.size 5 v3 x.data)(o:Obj)
 (ho5:OwnsR w5 0 91 3 bv' (rowsOf Dk.cellO (qs ++ [(x,v3)]))) (hg5:(w3.alloc o).grownBy w5 bv.ownBlock) (ha5:bv'.ownBlock=bv.ownBlock∨bv'.ownBlock=some (w3.alloc o).heap.size)
 (hl6:Lies w6 d 76 #[.map (some b),bv']) (hg6:w5.grownBy w6 (some d)) :
 DiskP (fun j=>S j∨w.heap.size≤j) w6 d (some b) bv' zs (qs ++ [(x,v3)])∧Kp (fun j _ => ¬S j) w w6:=by
 have hs3:=hb3.size
 have ha:(w3.alloc o).heap.size=w3.heap.size+1:=by simp
 have hk:Kp (fun j _=>j≠d∧bv.ownBlock≠some j) w w6:=by
  refine Kp.trans (Kp.all (w' := w3.alloc o) (hb3.alloc hs3 o)) ((Kp.of_grown hg5 fun j _ e _ hq=>hq.2 e).trans (Kp.of_grown hg6 fun j _ e _ hq=>hq.1 (by simpa using e.symm)))
 have hmap : ∃b', some b=some b' ∧ S b' ∧ FilesIn w b' zs:=by
  rcases h.map with ⟨e,_⟩ | h'
  ·cases e
  ·exact h'
 obtain⟨b', e,hSb,hf⟩:=hmap
 simp only[Option.some.injEq]at e
 subst e
 have bvNe : ∀j,bv.ownBlock=some j → ∃cs,w.heap[j]? = some (.cells cs 91 (0,0)):=fun j e=>by
  obtain⟨cs,hc,_⟩:=h.row.cells e;exact⟨cs,hc⟩
 have hl:w.heap[d]? = some (.cells #[.map (some b),bv] 76 (0,0)):=h.lies
 have keepZ : ∀j,Bl zs j→j≠d∧bv.ownBlock≠some j:=fun j hj=>by
  obtain⟨cs,hc⟩:=hf.cells hj
  refine⟨fun e => ?_,fun e => ?_⟩
  ·subst e;rw[hl]at hc;cases hc
  ·obtain⟨cs', hc'⟩:=bvNe j e;rw[hc]at hc'; cases hc'
 have keepB:b≠d∧bv.ownBlock≠some b:=by
  refine⟨fun e => ?_,fun e => ?_⟩
  ·subst e;exact hf.map.no_cells hl
  ·obtain⟨cs', hc'⟩:=bvNe b e;exact hf.map.no_cells hc'
 have hf6:FilesIn w6 b zs:=hf.stays (hk.block hf.map.lt fun _=>keepB) fun j hj=>hk.block (hf.lt hj) fun _=>keepZ j hj
 have hd5 : ∀g,bv'.ownBlock=some g→g≠d:=fun g e e' => by
  subst e'
  obtain⟨cs,hc,_⟩:=ho5.cells e
  have hdlt:g<(w3.alloc o).heap.size:=by have:=h.lies.lt;omega
  have h1:w3.heap[g]? = _:=(hb3.block g h.lies.lt).trans hl
  have h2:=(Below.heap_alloc w3 o g (by have:=h.lies.lt;omega)).trans h1
  have hne:some g≠bv.ownBlock:=fun e'' => by obtain⟨cs', hc'⟩:=bvNe g e''.symm;rw[hl]at hc'; cases hc'
  have h3:=(hg5.block g hdlt hne).trans h2
  rw[h3]at hc
  cases hc
 refine⟨⟨hl6, .inl h.here, .inr ⟨b,rfl, .inl hSb,hf6⟩,fun k hk' => .inl (h.blk k hk'),ho5.stays fun g e => ?_,fun g e => ?_,fun q hq => ?_⟩,hk.imp fun j o' _ hS => ?_⟩
 ·obtain⟨cs,hc,_⟩:=ho5.cells e
  exact hg6.block g (lt_of_obj hc) (fun e' => hd5 g e (by simpa using e'))
 ·rcases ha5 with e' | e'
  ·exact .inl (h.rowS g (e' ▸ e))
  ·rw[e']at e
   simp only[Option.some.injEq]at e
   right;omega
 ·rcases List.mem_append.1 hq with hq | hq
  ·refine((h.data q hq).keep (hk.keep fun j cs t fr e hp => ?_)).imp fun j cs t fr _ hp=>⟨hp.1, .inl hp.2.1,hp.2.2⟩
   obtain⟨rfl,_,hz⟩:=hp
   refine⟨fun e' => ?_,fun e' => ?_⟩
   ·subst e'; rw[hl]at e;cases e
   ·obtain⟨cs', hc'⟩:=bvNe j e'; rw[e]at hc'; cases hc'
  ·obtain rfl:q=(x,v3):=by simpa using hq
   have ho6:Owns w6 w.heap.size 5 v3 x.data:=by
    refine ho3.stays fun g e => ?_
    obtain⟨cs,hc,hg⟩:=ho3.cells e
    have h1:(w3.alloc o).heap[g]? = w3.heap[g]? := Below.heap_alloc w3 o g (lt_of_obj hc)
    have hne:some g≠bv.ownBlock:=fun e' => by
     obtain⟨cs', hc'⟩:=bvNe g e'.symm
     have:=lt_of_obj hc'
     omega
    have hgd:g≠d:=by have:=h.lies.lt;omega
    rw[hg6.block g (by have:=lt_of_obj hc;have:=hg5.size;omega) (by simpa using hgd),hg5.block g (by have:=lt_of_obj hc;omega) hne,h1]
   refine ReadsP.own ho6 fun g e => ?_
   obtain⟨cs,hc,hg⟩:=ho3.cells e
   exact⟨rfl, .inr hg,fun hz=>by have:=hf.lt hz;omega⟩
 ·refine⟨fun e=>hS (e ▸ h.here),fun e=>hS (h.rowS j e)⟩
end Go.Proofs.YtdkdjofnnnljjaaGreatDoor
