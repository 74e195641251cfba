/- Several texts of mine in one: Stop WlBack. -/
import Derived.Test.YtdkdjofnnnljjaaGreatDoorPDkHold
import Derived.Test.YtdkdjofnnnljjaaGreatDoorPGFs
import Derived.RangeFuncNested
import Derived.RangeFuncLeaves
import Derived.Shelf.Abstract
import Derived.OwnWalkIn
import Derived.TacticsInMore
import Derived.LoopNIn
import Derived.LoopIn
namespace Go.Proofs.YtdkdjofnnnljjaaGreatDoor
open Go.RowKit
def Stops{α:Type}(F:Fence)(n:Nat)(P:Program)(f:Nat)(held:Array Value)(encs:α→Array Value)(keeps:World→World→Prop)(gives:List α→α→World→Prop)(over:List α→Prop)(w:World):Prop :=
 ∀(l:Nat) (J Jx:List α→World→Prop) (A:World),Below w.heap.size w A →
  (∀pre B C,J pre B→Below B.heap.size B C→J pre C) →
  (∀pre x B,J pre B→gives pre x B→YieldAt F (n - 1) P l (encs x) B fun e C=>(e = .returned (.bool true)∧J (pre ++ [x]) C∧keeps B C)∨(e = .returned (.bool false)∧Jx (pre ++ [x]) C)) →
  J [] A→CallsIn F n P f (#[.func (.yield l) #[] #[]]++held) A fun e B=>(∃v,e = .returned v)∧((∃xs,over xs∧J xs B) ∨ ∃xs,Jx xs B)
def roundStops{α:Type}(keeps:World→World→Prop)(I Ix:List α→World→Prop)(base:Nat)(xs:List α)(A:World):Exit→Act→World→Prop
 | .normal,_,B=>KeepsFrom base A B∧keeps A B∧I xs B
 | .ret,_,B=>KeepsFrom base A B∧Ix xs B
 | .exit _,_,_=>False
 | .goto _,_,_=>False
 | .panic _,_,_=>False
 | .outgrown,_,_=>False
theorem range_stops{α:Type}{F:Fence}{n:Nat}{P:Program}{g:Operand}{ps:Array Tmp}{assign body:Code}{Q:Exit→Act→World→Prop}{a:Act}{w:World}
 (hro:F.round=none) (h1:1≤n) {f:Nat} {held:Array Value} (hg:a.eval g = .func (.func f) #[] held) (hF:F.fn f) (hen : ∀args w,(callFunc f args).run P w = .ok (.enter f args) w)
 {encs:α→Array Value} {keeps:World→World→Prop} {gives:List α→α→World→Prop} {over:List α→Prop} {w0:World} (hseq:Stops F (n - 1) P f held encs keeps gives over w0) (hb0:Below w0.heap.size w0 w)
 (hkt : ∀ {A B C:World},keeps A B→keeps B C→keeps A C) (hkb : ∀(A:World) (l:Nat) (o o' : Obj),w.heap.size≤l→A.heap[l]? = some o→o.isCells=false→keeps A (A.putObj l o')) (hps : ∀x,(encs x).size=ps.size)
 (I Ix:List α→World→Prop) (hI:OwnFrom w.heap.size I) (hIx:OwnFrom w.heap.size Ix) (hG:OwnFrom w.heap.size (fun(p:List α × α)=>gives p.1 p.2)) (h0:I [] w) (Ax:α→Act→World→Prop) (hAx : ∀x a', OwnFrom w.heap.size (fun(_:Unit) A=>Ax x a' A))
 (hassign : ∀(l:Nat) (pre:List α) (x:α) (A:World) (K:Act→World→Prop),w.heap.size≤A.heap.size→I pre A→gives pre x A→(∀a' A', KeepsFrom w.heap.size A A' → keeps A A' → I pre A' → gives pre x A' → Ax x a' A' → K a' A') →
   assign.wpIn (F.inRound l) (n - 1 - 1) P (Exit.then K (fun _ _ _=>False)) { tmps:=(ps.zip (encs x)).foldl (fun t (p,v)=>t.setIfInBounds p v) a.tmps,defers := [] } A)
 (hbody : ∀(l:Nat) (pre:List α) (x:α) (a' : Act) (A:World),I pre A→gives pre x A→Ax x a' A→w.heap.size≤A.heap.size→body.wpIn (F.inRound l) (n - 1 - 1) P (roundStops keeps I Ix w.heap.size (pre ++ [x]) A) a' A)
 (hdone : ∀(D:Nat) (xs:List α) (A:World),w.heap.size≤D→over xs→I xs A→A.heap[D]? = some (.deferred (some []))→Q .normal { a with defers:={ target := .collected D,args := #[] } :: a.defers } A)
 (hstop : ∀(D:Nat) (xs:List α) (A:World),w.heap.size≤D→Ix xs A→A.heap[D]? = some (.deferred (some []))→Code.ret.wpIn F n P Q { a with defers:={ target := .collected D,args := #[] } :: a.defers } A) :
 (Code.rangeFunc g ps assign body).wpIn F n P Q a w:=by
 apply wpIn_rangeFunc
 intro fn hfn
 rw[hro]
 let rc (st:LoopState) (pe:Option Code):Obj := .loop { state:=st,pending:=pe,fn:=fn,tmps:=a.tmps,params:=ps,assign:=assign,body:=body,defers:=w.heap.size }
 have hrun:=run_enterLoop_outer (P:=P) (w:=w) fn a.tmps ps assign body
 obtain⟨A0,hA0⟩ : ∃A0,A0=(w.alloc (.deferred (some []))).alloc (rc .ready none):=⟨_,rfl⟩
 have hrun' : (Instr.enterLoop fn a.tmps ps assign body none).run P w = .ok (w.heap.size+1, [{ target := .collected w.heap.size,args := #[] }]) A0:=by rw[hA0];exact hrun
 have hgw:Below w.heap.size w A0:=by rw[hA0];exact((Below.refl _ w).alloc (Nat.le_refl _) _).alloc (by simp) _
 have hL:A0.heap[w.heap.size+1]? = some (rc .ready none):=by
  have:=World.alloc_heap_new (w.alloc (.deferred (some []))) (rc .ready none)
  rw[World.size_alloc]at this
  rw[hA0];exact this
 have hD:A0.heap[w.heap.size]? = some (.deferred (some [])):=by
  rw[hA0];exact(Below.heap_alloc _ _ _ (by simp)).trans (World.alloc_heap_new w _)
 have new : ∀ {β:Type} {R:β→World→Prop} {s:β} {B C:World},OwnFrom w.heap.size R→R s B→Below B.heap.size B C→R s C:=fun h hs hb=>h _ _ _ none hs (grown_of_below hb) (fun r e=>by cases e)
 have put : ∀ {β:Type} {R:β→World→Prop} {s:β} {B:World} {o:Obj} (o' : Obj),OwnFrom w.heap.size R→R s B→B.heap[w.heap.size+1]? = some o→o.isCells=false→R s (B.putObj (w.heap.size+1) o'):=fun o' h hs hl ho=>h.putObj o' hs (by omega) hl ho
 refine⟨w.heap.size+1,_,A0,{ target := .fn (.func f) held,args := #[.func (.yield (w.heap.size+1)) #[] #[]] },A0,f,#[.func (.yield (w.heap.size+1)) #[] #[]]++held,A0,hrun', ?_, ?_, ?_,fun _=>h1, ?_⟩
 ·simp only[resolve,hg];simp[go_sem]
 ·intro f' e;simp[Target.leads]at e;subst e;exact hF
 ·simp[invoke,go_sem,hen]
 refine(hseq (w.heap.size+1) (fun pre B=>I pre B∧B.heap[w.heap.size+1]? = some (rc .ready none)∧B.heap[w.heap.size]? = some (.deferred (some []))) (fun pre B=>Ix pre B∧B.heap[w.heap.size+1]? = some (rc .done (some .ret))∧B.heap[w.heap.size]? = some (.deferred (some []))) A0 (hb0.trans (hgw.mono hb0.size))
  (fun pre B C hJ hb=>⟨new hI hJ.1 hb,(hb.block _ (Array.getElem?_eq_some_iff.1 hJ.2.1).1).trans hJ.2.1,(hb.block _ (Array.getElem?_eq_some_iff.1 hJ.2.2).1).trans hJ.2.2⟩) ?_
  ⟨new hI h0 hgw,hL,hD⟩).mono ?_
 ·-- a round
  rintro pre x B ⟨hi,hl,hd⟩ hgv
  have hlt:=(Array.getElem?_eq_some_iff.1 hl).1
  refine⟨fn,_,assign,body,run_yield hl (hps x),roundIn_of_wpIn hfn (hassign _ pre x B _ (by omega) hi hgv ?_)⟩
  intro a' Ba hkf hka hia hga hax
  replace hl:=hkf.same _ _ (by omega) hl rfl
  replace hd:=hkf.same _ _ (Nat.le_refl _) hd rfl
  replace hlt:=(Array.getElem?_eq_some_iff.1 hl).1
  refine⟨_,run_beginRound hl rfl, ?_⟩
  have hl2:(Ba.putObj (w.heap.size+1) (rc .busy none)).heap[w.heap.size+1]? = some (rc .busy none):=World.putObj_heap_same hlt
  have hd2:(Ba.putObj (w.heap.size+1) (rc .busy none)).heap[w.heap.size]? = some (.deferred (some [])):=(World.putObj_heap_other (by omega)).trans hd
  refine wpIn_mono (hbody _ pre x a' _ (put _ hI hia hl rfl) (put (s:=(pre,x)) _ hG hga hl rfl) (put (s:=()) _ (hAx x a') hax hl rfl) (by simp;omega)) ?_
  intro e a3 C hC
  cases e with
  | normal =>
   obtain⟨hk,hkk,hi3⟩:=hC
   have hl3:=hk.same _ _ (by omega) hl2 rfl
   have hd3:=hk.same _ _ (by omega) hd2 rfl
   refine⟨_,_,run_endRound none hl3, .inl ⟨rfl,⟨put _ hI hi3 hl3 rfl,World.putObj_heap_same (Array.getElem?_eq_some_iff.1 hl3).1,(World.putObj_heap_other (by omega)).trans hd3⟩, ?_⟩⟩
   exact hkt hka (hkt (hkt (hkb _ _ _ _ (by omega) hl rfl) hkk) (hkb _ _ _ _ (by omega) hl3 rfl))
  | ret =>
   obtain⟨hk,hi3⟩:=hC
   have hl3:=hk.same _ _ (by omega) hl2 rfl
   have hd3:=hk.same _ _ (by omega) hd2 rfl
   exact⟨_,_,run_endRound (some .ret) hl3, .inr ⟨rfl,put _ hIx hi3 hl3 rfl,World.putObj_heap_same (Array.getElem?_eq_some_iff.1 hl3).1,(World.putObj_heap_other (by omega)).trans hd3⟩⟩
  | exit _=>exact hC.elim
  | goto _=>exact hC.elim
  | panic _=>exact hC.elim
  | outgrown=>exact hC.elim
 ·-- behind the iterator
  rintro e B ⟨⟨v,rfl⟩,⟨xs,hov,hi,hl,hd⟩ | ⟨xs,hi,hl,hd⟩⟩
  ·exact⟨none,_,run_endLoop hl (by simp),hdone _ xs _ (Nat.le_refl _) hov (put _ hI hi hl rfl) ((World.putObj_heap_other (by omega)).trans hd)⟩
  ·exact⟨some .ret,_,run_endLoop hl (by simp),hstop _ xs _ (Nat.le_refl _) (put _ hIx hi hl rfl) ((World.putObj_heap_other (by omega)).trans hd)⟩
end Go.Proofs.YtdkdjofnnnljjaaGreatDoor

namespace Go.Proofs.YtdkdjofnnnljjaaGreatDoor
open Go.RowKit
set_option maxHeartbeats 2000000
set_option maxRecDepth 100000
section
open Go.RowKit Go.Shelf
attribute [local go_sem] Oper.semAt_some
structure Back where
 idx:Nat
 no:Int
 val:Value
 data:List UInt8
def backArgs(x:Back):Array Value := #[.int .i64 (x.idx:Int), .agg #[.int .i64 x.no,x.val]]
def backGiven(F:Dk.Files)(pre:List Back)(x:Back)(w:World):Prop:=F.length=pre.length+x.idx+1∧F[x.idx]? = some (x.no,x.data)∧Reads w x.val x.data
theorem backward_any(ao:Option Addr)(n c:Nat)(w:World) :
 Calls Tryz.prog 50 #[.slice ao n c] w fun e w' => e = .returned (.func (.func 77) #[] #[.pointer (some ⟨w.heap.size,0,none⟩)])∧w' = w.alloc (.cells #[.slice ao n c] 63):=by
 have hmf : ∀(fn:Fn) (first cap:Array Value) (w:World),(Instr.makeFunc fn first cap).run Tryz.prog w = .ok (.func fn first cap) w:=fun _ _ _ _=>rfl
 go_enter Tryz.func50,Tryz.ntmps50
 go_wp2
 go_ret
 exact⟨rfl,rfl⟩
theorem backward_stops{p:Nat→TypeId→Prop}(Bn:Nat)(vb:Value)(F:Dk.Files)(w0:World)(hBn:Boxed w0 Bn 63 vb)(hv:FilesP p w0 vb F)(hlen:F.length≤17592186044416) :
 Stops Fence.wide 8 Tryz.prog 77 #[.pointer (some ⟨Bn,0,none⟩)] backArgs (Below w0.heap.size) (backGiven F) (fun xs=>xs.length=F.length) w0:=by
 intro lp J Jx A hA hJ hY h0
 obtain⟨ao,cap,rfl,hc1,hc2⟩:=ListP.shape hv
 have HP:=Lib.hid (fun h=>ListP.places hv (fun a u=>⟨_,rfl⟩) h)
 have HBX:Hid (∀W,Below w0.heap.size w0 W→W.cell? ⟨Bn,0,none⟩=some (.slice ao F.length cap)):=fun W h=>Boxed.cell ((h.block _ hBn.lt).trans hBn)
 have hcA:=HBX.out A hA
 refine callsIn_of_wp Tryz.func77 rfl trivial ?_ rfl
 simp only[Tryz.ntmps77,List.size_toArray,List.length_cons,List.length_nil,Nat.reduceAdd,Nat.reduceSub,Array.replicate_succ,Array.replicate_zero,List.push_toArray,List.append_toArray,List.nil_append,List.cons_append]
 obtain⟨n,hn⟩ : ∃n,n=F.length:=⟨_,rfl⟩
 rw[← hn]at hlen hc1 HP HBX hcA
 have HN:=Lib.hid hn;have HYY:=Lib.hid hY;have HJ0:=Lib.hid h0;have HBA:=Lib.hid hA
 have hn9:(n:Int)≤17592186044416:=by omega
 clear hv hn hY h0 hA hJ hBn hc2
 gi_wp2
 gi_loopw [3] (fun x wr => ∃(k:Nat) (z:Int) (pre:List Back),x = .int .i64 z∧Hid (z=(k:Int) - 1)∧Hid (k+pre.length=n)∧J pre wr∧Hid (Below w0.heap.size w0 wr)) (fun x _=>(intOf x+1).toNat)
 case atStart=>exact⟨n,(n:Int) - 1, [],rfl,rfl,rfl,HJ0.out,HBA.out⟩
 case round =>
  clear HJ0 HBA hcA
  obtain⟨k,z,pre,rfl,HZ,HK,hJp,HB⟩:=hrel
  have HJP:=Lib.hid hJp
  clear hJp
  obtain _ | j:=k
  ·obtain rfl:z = -1:=by have:=HZ.out;omega
   gi_wp2
   go_end0
   exact⟨⟨_,rfl⟩, .inl ⟨pre,by have:=HK.out;have:=HN.out;omega,HJP.out⟩⟩
  ·obtain rfl:z=(j:Int):=by have:=HZ.out;omega
   have hjn:(j:Int)<(n:Int):=by have:=HK.out;omega
   have hj0:(0:Int)≤(j:Int):=by omega
   obtain⟨x,hx⟩ : ∃x,F[j]? = some x:=⟨_,List.getElem?_eq_getElem (by have:=HN.out;omega)⟩
   obtain⟨g,off,rfl,_,hc⟩:=HP.out (by have:=HN.out;omega)
   obtain⟨u,hu,hcell⟩:=hc j x hx
   obtain⟨uo,uc,rfl⟩:=hu.1.shape
   have hcw:=hcell wr HB.out
   have m0:wr.cell? ⟨g,off+j*2,none⟩=some (.int .i64 x.1):=hcw 0 _ rfl
   have m1:wr.cell? ⟨g,off+j*2+1,none⟩=some (.slice uo x.2.length uc):=hcw 1 _ rfl
   have hcB:=HBX.out wr HB.out
   obtain⟨fn,tmps,assign,body,hy,hR⟩:=HYY.out pre ⟨j,x.1, .slice uo x.2.length uc,x.2⟩ wr HJP.out ⟨by have:=HK.out;have:=HN.out;show _=_+j+1;omega,hx,hu.1.below HB.out⟩
   dsimp only [backArgs]at hy
   clear hc hu hcell hcw hx
   gi_wp2
   refine hR.mono ?_
   rintro e W3 (⟨rfl,hJ3,hk3⟩ | ⟨rfl,hJ3⟩)
   ·have HJ3:=Lib.hid hJ3;have HK3:=Lib.hid hk3
    clear hJ3 hk3
    gi_wp2
    go_roundw
    case rel=>exact⟨j,(j:Int) - 1,_,rfl,rfl,by show _=_;rw[List.length_append];have:=HK.out;simp;omega,HJ3.out,HB.out.trans HK3.out⟩
    case measure=>simp[intOf]
   ·have HJ3:=Lib.hid hJ3
    clear hJ3
    gi_wp2
    exact bodyPost_ret (results_none rfl _ _ _) rfl ⟨⟨_,rfl⟩, .inr ⟨_,HJ3.out⟩⟩
end
end Go.Proofs.YtdkdjofnnnljjaaGreatDoor
