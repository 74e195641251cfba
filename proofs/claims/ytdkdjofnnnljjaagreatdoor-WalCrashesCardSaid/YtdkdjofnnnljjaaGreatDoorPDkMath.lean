/- Several texts of mine in one: MtMath RtMath HdMath GFr GSa SgPlain DkMath. -/
import Derived.Test.YtdkdjofnnnljjaaGreatDoorPGPl
import Derived.Test.YtdkdjofnnnljjaaGreatDoorPGRe
import Derived.WalkKit
import Derived.Laws.Bits64
import Derived.Test.YtdkdjofnnnljjaaGreatDoorPPkMath
import Derived.Test.YtdkdjofnnnljjaaGreatDoorPGCw
namespace Go.Proofs.YtdkdjofnnnljjaaGreatDoor
open Go.RowKit
namespace Mt
def part(t:Bool)(l:List UInt8):List UInt8:=if t=true then l else []
def num(t:Bool)(b:List UInt8)(s:Nat × Int):Int × Nat × Int:=if t=true then ((Cm.dD b s.1 s.2).1,(Cm.dD b s.1 s.2).2.1.toNat,(Cm.dD b s.1 s.2).2.2)else (0,s)
def aw(t:Bool)(b:List UInt8)(s:Nat × Int):List UInt8 × Nat × Int:=if t=true then ((Ms.raw b s.1 s.2).1,(Ms.raw b s.1 s.2).2.1.toNat,(Ms.raw b s.1 s.2).2.2)else ([],s)
theorem eO(l:List UInt8):part true l=l:=rfl
theorem fE(l:List UInt8):part false l = []:=rfl
theorem yL(t:Bool)(pre post:List UInt8){n:Int}(h0:0<=n)(h1:n<=9223372036854775807)(hz:t=false->n=0) :
 num t (pre++(part t (enc n.toNat)++post)) (pre.length,0)=(n,(pre++part t (enc n.toNat)).length,0):=by
 cases t with
 | true =>
  rw[eO];unfold num;rw[if_pos rfl,Cm.qh pre post (by omega),Int.toNat_of_nonneg h0]
  simp;omega
 | false =>
  rw[fE,hz rfl];simp[num]
theorem yM(t:Bool)(b:List UInt8)(s:Nat × Int)(hs:s.1<=b.length)(h:(num t b s).2.2=0) :
 s.2=0∧(num t b s).2.1<=b.length∧b.take (num t b s).2.1=b.take s.1++part t (enc (num t b s).1.toNat):=by
 cases t with
 | true =>
  unfold num at h ⊢
  rw[if_pos rfl]at h ⊢
  obtain⟨h1,_,_,h4,h5⟩:=Cm.yJ b s.1 s.2 h;exact⟨h1,h4,h5⟩
 | false =>
  unfold num at h ⊢
  rw[if_neg (by simp)]at h ⊢
  exact⟨h,hs,by rw[fE,List.append_nil]⟩
theorem o8(t:Bool)(b:List UInt8)(s:Nat × Int)(hs:s.1<=b.length):(num t b s).2.1<=b.length:=by
 unfold num;split
 ·exact Cm.E8 b s.1 s.2 hs
 ·exact hs
theorem Qr(t:Bool)(pre post:List UInt8){l:List UInt8}(h:l.length<=32768)(hz:t=false->l = []) :
 aw t (pre++(part t (Pk.text l)++post)) (pre.length,0)=(l,(pre++part t (Pk.text l)).length,0):=by
 cases t with
 | true =>
  rw[eO];unfold aw;rw[if_pos rfl,Ms.Jj pre post h];simp;omega
 | false =>
  rw[fE,hz rfl];simp[aw]
theorem Qs(t:Bool)(b:List UInt8)(s:Nat × Int)(hs:s.1<=b.length)(h:(aw t b s).2.2=0) :
 s.2=0∧(aw t b s).2.1<=b.length∧b.take (aw t b s).2.1=b.take s.1++part t (Pk.text (aw t b s).1):=by
 cases t with
 | true =>
  unfold aw at h ⊢
  rw[if_pos rfl]at h ⊢
  rcases Ms.jn b s.1 s.2 hs with ⟨e,q,he,_,hr⟩ | ⟨x,q,h0,hq,_,hr,ht⟩
  ·rw[hr]at h;exact absurd h he
  ·rw[hr]at h ⊢
   simp only[Int.toNat_natCast];exact⟨h0,hq,ht⟩
 | false =>
  unfold aw at h ⊢
  rw[if_neg (by simp)]at h ⊢
  exact⟨h,hs,by rw[fE,List.append_nil]⟩
theorem Fe{k:Int}(h:Cm.known k=true):Vs.has 2 k=true:=by
 unfold Cm.known at h
 simp only[Bool.and_eq_true,decide_eq_true_eq]at h
 rcases Vs.kinds k with rfl | rfl | rfl | rfl | rfl | rfl | rfl | rfl | h'
 rotate_right
 ·omega
 all_goals decide
theorem NP{c:Cm.bW}(h:Cm.check c=0):Cm.restrict 2 c=c:=by
 refine Cm.sg 2 c ?_;unfold Cm.nA;rw[if_neg (by decide),if_neg (by simpa using h),if_neg (by rw[Fe (Cm.mj h).1];simp)]
theorem cX(t:Bool)(l:List UInt8):(part t l).length<=l.length:=by cases t<;>simp[part]
end Mt
end Go.Proofs.YtdkdjofnnnljjaaGreatDoor

namespace Go.Proofs.YtdkdjofnnnljjaaGreatDoor
open Go.RowKit
namespace Rt
def bytes(x:Re.Rec):List UInt8 :=
 enc (x.kind+16).toNat++(Mt.part (Re.hb x.kind) (enc x.aF.round.toNat)++(Mt.part (Re.hb x.kind) (enc x.aF.node.toNat)++(Mt.part (Re.hi x.kind) (enc x.index.toNat)++(Mt.part (Re.hc x.kind) (Cm.bytes 2 x.cmd)++Mt.part (Re.hm x.kind) (Pk.text x.aw)))))
def cmd(t:Bool)(b:List UInt8)(s:Nat × Int):Cm.bW × Nat × Int:=if t=true then Cm.get 2 b s.1 s.2 else (Cm.zero,s)
def r0(b:List UInt8):=Mt.num true b (0,0)
def kindOf(b:List UInt8):Int:=(r0 b).1 - 16
def r1(b:List UInt8):=Mt.num (Re.hb (kindOf b)) b (r0 b).2
def r2(b:List UInt8):=Mt.num (Re.hb (kindOf b)) b (r1 b).2
def r3(b:List UInt8):=Mt.num (Re.hi (kindOf b)) b (r2 b).2
def r4(b:List UInt8):=cmd (Re.hc (kindOf b)) b (r3 b).2
def r5(b:List UInt8):=Mt.aw (Re.hm (kindOf b)) b (r4 b).2
def jW(b:List UInt8):Re.Rec:=⟨kindOf b,⟨(r1 b).1,(r2 b).1⟩,(r3 b).1,(r4 b).1,(r5 b).1⟩
def decode(b:List UInt8):Re.Rec × Int :=
 if(r0 b).2.2≠0 then (Re.zero,(r0 b).2.2)
 else if Re.known (kindOf b)=false then (Re.zero,3)
 else if Cm.done b (r5 b).2.1 (r5 b).2.2≠0 then (Re.zero,Cm.done b (r5 b).2.1 (r5 b).2.2)
 else if Re.check (jW b)≠0 then (Re.zero,Re.check (jW b))else (jW b,0)
theorem nD(x:Re.Rec):Re.aO 2 x=Re.check x:=by
 unfold Re.aO;by_cases h:Re.check x=0
 ·rw[if_neg (by simpa using h),h]
  refine if_neg ?_;cases hk:Re.hc x.kind with
  | false=>simp
  | true=>rw[Mt.Fe (Cm.mj ((Re.eG h).cmd hk)).1];simp
 ·rw[if_pos h]
def aN(v:Int)(x:Re.Rec):List UInt8:=if v=2 then bytes x else Re.bytes x
def put(v:Int)(x:Re.Rec):List UInt8 × Int :=
 if v=1∨v=2 then (if Re.aO v x≠0 then ([],Re.aO v x)else (aN v x,0))else ([],8)
def get(v:Int)(b:List UInt8):Re.Rec × Int:=if v=1 then Re.decode b else if v=2 then decode b else (Re.zero,8)
theorem Qu(t:Bool)(pre post:List UInt8){c:Cm.bW}(h:t=true->Cm.check c=0)(hf:c.Fits){s:Nat}(hs:c.aD s)(hs2:s<=9223372036854775807)(hz:t=false->c=Cm.zero) :
 cmd t (pre++(Mt.part t (Cm.bytes 2 c)++post)) (pre.length,0)=(c,(pre++Mt.part t (Cm.bytes 2 c)).length,0):=by
 cases t with
 | true =>
  rw[Mt.eO];unfold cmd;rw[if_pos rfl];have:=Cm.get_at 2 c (Cm.wK (h rfl)) hf hs hs2 pre post;rw[Mt.NP (h rfl)]at this
  exact this
 | false =>
  rw[Mt.fE,hz rfl];simp[cmd]
theorem Qv(t:Bool)(b:List UInt8)(s:Nat × Int)(hs:s.1<=b.length)(h:(cmd t b s).2.2=0) :
 s.2=0∧(cmd t b s).2.1<=b.length∧b.take (cmd t b s).2.1=b.take s.1++Mt.part t (Cm.bytes 2 (cmd t b s).1):=by
 cases t with
 | true =>
  unfold cmd at h ⊢
  rw[if_pos rfl]at h ⊢
  exact Cm.yg 2 b s.1 s.2 h hs
 | false =>
  unfold cmd at h ⊢
  rw[if_neg (by simp)]at h ⊢
  exact⟨h,hs,by rw[Mt.fE,List.append_nil]⟩
theorem J8(t:Bool)(b:List UInt8)(s:Nat × Int)(hs:s.1<=b.length):(cmd t b s).2.1<=b.length:=by
 unfold cmd;split
 ·exact Cm.Qo 2 b s.1 s.2 hs
 ·exact hs
theorem mm{x:Re.Rec}(h:Re.check x=0)(hf:x.Fits){s:Nat}(hs:x.cmd.aD s)(hs2:s<=9223372036854775807):decode (bytes x)=(x,0):=by
 have hg:=Re.eG h;have hpos:=Re.zW hg;have hl2:=Re.ml hg;have hown:=hg.own;have zb:Re.hb x.kind=false->x.aF=Bl.zero:=fun q=>by have:=congrArg Re.Rec.aF hown;rw[<- this];exact if_neg (by rw[q];simp)
 have zi:Re.hi x.kind=false->x.index=0:=fun q=>by have:=congrArg Re.Rec.index hown;rw[<- this];exact if_neg (by rw[q];simp)
 have hkn:1<=x.kind∧x.kind<=4:=by have:=hg.kind;unfold Re.known at this;simpa using this
 have q3:=hpos x.aF.round (by simp[Re.bX]);have q4:=hpos x.aF.node (by simp[Re.bX]);have q5:=hpos x.index (by simp[Re.bX])
 obtain⟨B,hB⟩ : ∃B,B=bytes x:=⟨_,rfl⟩;obtain⟨A0,hA0⟩ : ∃A,A=enc (x.kind+16).toNat:=⟨_,rfl⟩;obtain⟨A1,Zx⟩ : ∃A,A=Mt.part (Re.hb x.kind) (enc x.aF.round.toNat):=⟨_,rfl⟩;obtain⟨A2,Zy⟩ : ∃A,A=Mt.part (Re.hb x.kind) (enc x.aF.node.toNat):=⟨_,rfl⟩;obtain⟨A3,Zz⟩ : ∃A,A=Mt.part (Re.hi x.kind) (enc x.index.toNat):=⟨_,rfl⟩;obtain⟨A4,ZA⟩ : ∃A,A=Mt.part (Re.hc x.kind) (Cm.bytes 2 x.cmd):=⟨_,rfl⟩;obtain⟨A5,ZB⟩ : ∃A,A=Mt.part (Re.hm x.kind) (Pk.text x.aw):=⟨_,rfl⟩;have Sr:B=A0++(A1++(A2++(A3++(A4++A5)))):=by rw[hB,hA0,Zx,Zy,Zz,ZA,ZB];rfl
 have g0:r0 B=(x.kind+16,A0.length,0):=by
  have:=Mt.yL true [] (A1++(A2++(A3++(A4++A5)))) (n:=x.kind+16) (by omega) (by omega) (fun q=>by cases q)
  rw[Mt.eO, <- hA0,List.nil_append, <- Sr,List.nil_append]at this
  exact this
 have hk:kindOf B=x.kind:=by unfold kindOf;rw[g0];show x.kind+16 - 16=_;omega
 have g1:r1 B=(x.aF.round,(A0++A1).length,0):=by
  have:=Mt.yL (Re.hb x.kind) A0 (A2++(A3++(A4++A5))) q3.1 q3.2 (fun q=>by rw[zb q];rfl)
  rw[<- Zx, <- Sr]at this
  unfold r1;rw[hk,g0];exact this
 have g2:r2 B=(x.aF.node,(A0++A1++A2).length,0):=by
  have:=Mt.yL (Re.hb x.kind) (A0++A1) (A3++(A4++A5)) q4.1 q4.2 (fun q=>by rw[zb q];rfl)
  rw[<- Zy,show A0++A1++(A2++(A3++(A4++A5)))=B by rw[Sr];simp]at this
  unfold r2;rw[hk,g1];exact this
 have g3:r3 B=(x.index,(A0++A1++A2++A3).length,0):=by
  have:=Mt.yL (Re.hi x.kind) (A0++A1++A2) (A4++A5) q5.1 q5.2 zi;rw[<- Zz,show A0++A1++A2++(A3++(A4++A5))=B by rw[Sr];simp]at this
  unfold r3;rw[hk,g2];exact this
 have g4:r4 B=(x.cmd,(A0++A1++A2++A3++A4).length,0):=by
  have:=Qu (Re.hc x.kind) (A0++A1++A2++A3) A5 hg.cmd hf.c hs hs2 (Re.jA hg);rw[<- ZA,show A0++A1++A2++A3++(A4++A5)=B by rw[Sr];simp]at this
  unfold r4;rw[hk,g3];exact this
 have g5:r5 B=(x.aw,B.length,0):=by
  have:=Mt.Qr (Re.hm x.kind) (A0++A1++A2++A3++A4) [] hl2 (Re.tM hg);rw[<- ZB,List.append_nil,show A0++A1++A2++A3++A4++A5=B by rw[Sr];simp]at this
  unfold r5;rw[hk,g4];exact this
 have gm:jW B=x:=by
  unfold jW;rw[hk,g1,g2,g3,g4,g5]
 rw[<- hB];unfold decode;rw[hk,gm,g5,if_neg (by rw[g0];simp),if_neg (by rw[hg.kind];simp)]
 dsimp only;rw[Cm.tN,if_neg (by simp),if_neg (by simpa using h)]
theorem Pf(b:List UInt8):(r0 b).2.1<=b.length:=Mt.o8 true b (0,0) (Nat.zero_le _)
theorem nB(b:List UInt8)(h:(decode b).2=0):(decode b).1=jW b∧Re.check (jW b)=0∧bytes (jW b)=b:=by
 unfold decode at h ⊢
 by_cases h1:(r0 b).2.2=0
 ·rw[if_neg (by simpa using h1)]at h ⊢
  by_cases h2:Re.known (kindOf b)=false
  ·rw[if_pos h2]at h;simp at h
  ·rw[if_neg h2]at h ⊢
   by_cases h3:Cm.done b (r5 b).2.1 (r5 b).2.2=0
   ·rw[if_neg (by simpa using h3)]at h ⊢
    by_cases h4:Re.check (jW b)=0
    ·rw[if_neg (by simpa using h4)]
     refine⟨rfl,h4, ?_⟩;have jY:(r5 b).2.2=0:=by
      unfold Cm.done at h3
      split at h3
      ·rename_i hne;exact absurd h3 hne
      ·rename_i hne;simpa using hne
     have hpl : ¬(r5 b).2.1<b.length:=by
      unfold Cm.done at h3
      rw[if_neg (by simpa using jY)]at h3
      intro hlt
      rw[if_pos hlt]at h3
      omega
     have l0:=Pf b;have l1:=Mt.o8 (Re.hb (kindOf b)) b (r0 b).2 l0;have l2:=Mt.o8 (Re.hb (kindOf b)) b (r1 b).2 l1;have l3:=Mt.o8 (Re.hi (kindOf b)) b (r2 b).2 l2;have l4:=J8 (Re.hc (kindOf b)) b (r3 b).2 l3;obtain⟨z4,_,t5⟩:=Mt.Qs (Re.hm (kindOf b)) b (r4 b).2 l4 jY;obtain⟨z3,_,t4⟩:=Qv (Re.hc (kindOf b)) b (r3 b).2 l3 z4;obtain⟨z2,_,t3⟩:=Mt.yM (Re.hi (kindOf b)) b (r2 b).2 l2 z3;obtain⟨z1,_,t2⟩:=Mt.yM (Re.hb (kindOf b)) b (r1 b).2 l1 z2;obtain⟨z0,_,t1⟩:=Mt.yM (Re.hb (kindOf b)) b (r0 b).2 l0 z1;obtain⟨_,_,t0⟩:=Mt.yM true b (0,0) (Nat.zero_le _) h1;rw[Mt.eO,List.take_zero,List.nil_append]at t0
     have zG:(kindOf b+16)=(r0 b).1:=by unfold kindOf;omega
     have hb:b=b.take (r5 b).2.1:=(List.take_of_length_le (by omega)).symm
     conv=>rhs;rw[hb]
     rw[show b.take (r5 b).2.1=b.take (r4 b).2.1++Mt.part (Re.hm (kindOf b)) (Pk.text (r5 b).1)from t5]
     rw[show b.take (r4 b).2.1=b.take (r3 b).2.1++Mt.part (Re.hc (kindOf b)) (Cm.bytes 2 (r4 b).1)from t4]
     rw[show b.take (r3 b).2.1=b.take (r2 b).2.1++Mt.part (Re.hi (kindOf b)) (enc (r3 b).1.toNat)from t3]
     rw[show b.take (r2 b).2.1=b.take (r1 b).2.1++Mt.part (Re.hb (kindOf b)) (enc (r2 b).1.toNat)from t2]
     rw[show b.take (r1 b).2.1=b.take (r0 b).2.1++Mt.part (Re.hb (kindOf b)) (enc (r1 b).1.toNat)from t1]
     rw[show b.take (r0 b).2.1=enc (r0 b).1.toNat from t0]
     unfold bytes;rw[show(jW b).kind=kindOf b from rfl,zG]
     simp only[List.append_assoc]
     rfl
    ·rw[if_pos h4]at h;exact absurd h h4
   ·rw[if_pos h3]at h;exact absurd h h3
 ·rw[if_pos h1]at h;exact absurd h h1
theorem nC(b:List UInt8):(jW b).Fits∧(jW b).cmd.aD b.length∧(jW b).aw.length<=b.length:=by
 have hz:Cm.zero.Fits∧Cm.zero.aD b.length:=⟨by constructor<;>simp[Cm.zero,Cm.aL],by simp[Cm.zero,Cm.aL],by simp[Cm.zero,Cm.aL],by simp[Cm.zero,Cm.aL]⟩
 have qm : ∀(t:Bool) (s:Nat × Int), -9223372036854775808<=(Mt.num t b s).1∧(Mt.num t b s).1<=9223372036854775807:=fun t s=>by
  unfold Mt.num;split
  ·have:=Ms.mJ b s.1 s.2
   dsimp only;omega
  ·dsimp only;omega
 have l0:=Pf b;have l1:=Mt.o8 (Re.hb (kindOf b)) b (r0 b).2 l0;have l2:=Mt.o8 (Re.hb (kindOf b)) b (r1 b).2 l1;have l3:=Mt.o8 (Re.hi (kindOf b)) b (r2 b).2 l2;have l4:=J8 (Re.hc (kindOf b)) b (r3 b).2 l3;have TD:(r4 b).1.Fits∧(r4 b).1.aD b.length:=by
  unfold r4 cmd;split
  ·obtain⟨_,h2,h3⟩:=Cm.tL 2 b _ (r3 b).2.2 l3
   exact⟨h3,h2⟩
  ·exact hz
 have hk : -9223372036854775808<=kindOf b∧kindOf b<=9223372036854775807:=by
  have:=Ms.mJ b 0 0;rw[show kindOf b=(Cm.dD b 0 0).1 - 16 from rfl]
  omega
 refine⟨⟨fun z hz => ?_,TD.1⟩,TD.2, ?_⟩
 ·simp only[Re.bX,List.mem_cons,List.not_mem_nil,or_false]at hz
  rcases hz with rfl | rfl | rfl | rfl
  ·exact hk
  ·exact qm _ _
  ·exact qm _ _
  ·exact qm _ _
 ·show(r5 b).1.length<=_
  unfold r5 Mt.aw;split
  ·rcases Ms.jn b (r4 b).2.1 (r4 b).2.2 l4 with ⟨e,q,_,_,hr⟩ | ⟨s,q,_,_,hs,hr,_⟩
   ·rw[hr];simp
   ·rw[hr];exact hs
  ·simp
end Rt
end Go.Proofs.YtdkdjofnnnljjaaGreatDoor

namespace Go.Proofs.YtdkdjofnnnljjaaGreatDoor
open Go.RowKit
namespace En
theorem Ff(e:bz):put [] e = [e]:=rfl
theorem put_eq{a e:bz}{r:List bz}(hp:eD (a :: r))(h:a.index=e.index):put (a :: r) e=e :: r:=by
 unfold put;rw[ru hp h,dJ hp (by omega)];rfl
theorem uF{a e:bz}{r:List bz}(hp:eD (a :: r))(h:e.index<a.index):put (a :: r) e=e :: a :: r:=by
 unfold put;rw[ry hp h,dJ hp (by omega)];rfl
theorem eI{e a:bz} : ∀ {l:List bz},eD l->(a∈put l e↔a=e∨(a∈l∧a.index≠e.index))
 | [],_=>by rw[Ff];simp
 | b :: r,hp=>by
  obtain⟨h1,h2⟩:=List.pairwise_cons.1 hp;rcases Int.lt_trichotomy b.index e.index with h | h | h
  ·rw[kQ r h,List.mem_cons,eI h2,List.mem_cons]
   constructor
   ·rintro(rfl | rfl | ⟨h3,h4⟩)
    ·exact .inr ⟨.inl rfl,by omega⟩
    ·exact .inl rfl
    ·exact .inr ⟨.inr h3,h4⟩
   ·rintro(rfl | ⟨rfl | h3,h4⟩)
    ·exact .inr (.inl rfl)
    ·exact .inl rfl
    ·exact .inr (.inr ⟨h3,h4⟩)
  ·rw[put_eq hp h,List.mem_cons,List.mem_cons]
   constructor
   ·rintro(rfl | h3)
    ·exact .inl rfl
    ·exact .inr ⟨.inr h3,by have:=h1 a h3;omega⟩
   ·rintro(rfl | ⟨rfl | h3,h4⟩)
    ·exact .inl rfl
    ·exact absurd h h4
    ·exact .inr h3
  ·rw[uF hp h,List.mem_cons,List.mem_cons]
   constructor
   ·rintro(rfl | rfl | h3)
    ·exact .inl rfl
    ·exact .inr ⟨.inl rfl,by omega⟩
    ·exact .inr ⟨.inr h3,by have:=h1 a h3;omega⟩
   ·rintro(rfl | ⟨h3,_⟩)
    ·exact .inl rfl
    ·exact .inr h3
theorem iH{e:bz} : ∀ {l:List bz},(∀a∈l,a.index<e.index)->put l e=l ++ [e]
 | [],_=>rfl
 | a :: r,h=>by
  rw[kQ r (h a (by simp)),iH fun b hb=>h b (List.mem_cons_of_mem _ hb)]
  rfl
theorem rF{l:List bz}(hp:eD l){x:Int}:found l x=true ↔ ∃e∈l,e.index=x:=by
 constructor
 ·intro h
  obtain⟨e,he,hx⟩:=AG h;exact⟨e,List.mem_of_getElem? he,hx⟩
 ·rintro⟨e,he,rfl⟩
  obtain⟨k,hk⟩:=List.getElem?_of_mem he;exact(zP hp hk).1
theorem dG : ∀(l:List bz) (b:Int),check b l=0↔eD l ∧ ∀e∈l,bO e=true∧Cm.check e.cmd=0∧b<e.index
 | [],b=>by simp[check,eD]
 | a :: r,b=>by
  have ih:=dG r a.index;have ho:one b a=0↔bO a=true∧Cm.check a.cmd=0∧b<a.index:=by
   unfold one;cases hr:bO a
   ·simp
   ·by_cases hc:Cm.check a.cmd=0
    ·by_cases hb:a.index<=b
     ·simp[hc,hb]<;>omega
     ·simp[hc,hb]<;>omega
    ·simp[hc]
  unfold check
  constructor
  ·intro h
   split at h
   ·rename_i h0;exact absurd h h0
   ·rename_i h0
    have h0:one b a=0:=by omega
    obtain⟨h1,h2⟩:=ih.1 h;obtain⟨o1,o2,o3⟩:=ho.1 h0;refine⟨List.pairwise_cons.2 ⟨fun c hc=>(h2 c hc).2.2,h1⟩,fun e he => ?_⟩
    rcases List.mem_cons.1 he with rfl | he
    ·exact⟨o1,o2,o3⟩
    ·obtain⟨p1,p2,p3⟩:=h2 e he
     exact⟨p1,p2,by omega⟩
  ·rintro⟨h1,h2⟩
   obtain⟨h3,h4⟩:=List.pairwise_cons.1 h1;rw[if_neg (by rw[ho.2 (h2 a (by simp))];simp)]
   exact ih.2 ⟨h4,fun e he=>⟨(h2 e (List.mem_cons_of_mem _ he)).1,(h2 e (List.mem_cons_of_mem _ he)).2.1,h3 e he⟩⟩
def cut(b:Int)(l:List bz):List bz:=l.filter fun e=>decide (b<e.index)
theorem iv{b:Int}{l:List bz}{e:bz}:e∈cut b l↔e∈l∧b<e.index:=by unfold cut;rw[List.mem_filter];simp
theorem yN{b:Int}{l:List bz}(h:eD l):eD (cut b l):=List.Pairwise.filter _ h
theorem NQ{b:Int}{l:List bz}(h : ∀e∈l,b<e.index):cut b l=l:=List.filter_eq_self.2 fun e he=>by simpa using h e he
theorem iI(b:Int)(a:bz)(r:List bz):cut b (a :: r)=if b<a.index then a :: cut b r else cut b r:=by
 unfold cut;rw[List.filter_cons];by_cases h:b<a.index<;>simp[h]
theorem qp(b:Int)(e:bz) : ∀ {l:List bz},eD l->cut b (put l e)=if b<e.index then put (cut b l) e else cut b l
 | [],_=>by rw[Ff,iI];rfl
 | a :: r,hp=>by
  obtain⟨h1,h2⟩:=List.pairwise_cons.1 hp;have ih:=qp b e h2;have hp2:eD (a :: cut b r):=List.pairwise_cons.2 ⟨fun c hc=>h1 c (iv.1 hc).1,yN h2⟩
  rcases Int.lt_trichotomy a.index e.index with h | h | h
  ·rw[kQ r h,iI,iI,ih]
   by_cases ha:b<a.index
   ·rw[if_pos ha,if_pos ha,if_pos (by omega),if_pos (by omega),kQ _ h]
   ·rw[if_neg ha,if_neg ha]
  ·rw[put_eq hp h,iI,iI]
   by_cases ha:b<e.index
   ·rw[if_pos ha,if_pos ha,if_pos (by omega),put_eq hp2 h]
   ·rw[if_neg ha,if_neg ha,if_neg (by omega)]
  ·rw[uF hp h,iI]
   by_cases ha:b<e.index
   ·rw[if_pos ha,if_pos ha,iI,if_pos (by omega),uF hp2 h]
   ·rw[if_neg ha,if_neg ha]
theorem GR{b x:Int}{l:List bz}(hp:eD l)(h:b<x):found (cut b l) x=found l x:=by
 rw[Bool.eq_iff_iff,rF (yN hp),rF hp]
 constructor
 ·rintro⟨e,he,hx⟩;exact⟨e,(iv.1 he).1,hx⟩
 ·rintro⟨e,he,hx⟩;exact⟨e,iv.2 ⟨he,by omega⟩,hx⟩
end En
namespace Hd
structure az where
 aC:Bl.dM
 base:Int
 aw:List UInt8
 acc:List En.bz
 bl:List En.bz
 deriving DecidableEq
def zero : az:=⟨Bl.zero,0, [], [], []⟩
def jO(x:Re.Rec):En.bz:=⟨x.index,x.aF,x.cmd⟩
def cQ(p:Bl.dM)(x:Re.Rec):Bl.dM:=if Re.hb x.kind=true∧Bl.less p x.aF=true then x.aF else p
def two(b:Int)(s:List En.bz × List En.bz)(x:Re.Rec):List En.bz × List En.bz :=
 if Re.check x≠0∨x.index<=b∨Re.hc x.kind=false then s
 else if x.kind=2 then (En.put s.1 (jO x),s.2)else if En.found s.2 x.index=true then s else (s.1,En.put s.2 (jO x))
def apply(h:az)(x:Re.Rec):az :=
 if Re.check x≠0 then h
 else if x.kind=4∧h.base<x.index then ⟨h.aC,x.index,x.aw,En.cut x.index h.acc,En.cut x.index h.bl⟩
 else ⟨cQ h.aC x,h.base,h.aw,(two h.base (h.acc,h.bl) x).1,(two h.base (h.acc,h.bl) x).2⟩
def of(l:List Re.Rec):az:=l.foldl apply zero
def one(s:Bl.dM × Int × List UInt8)(x:Re.Rec):Bl.dM × Int × List UInt8 :=
 if Re.check x≠0 then s else (cQ s.1 x,if x.kind=4∧s.2.1<x.index then (x.index,x.aw)else s.2)
def fK(l:List Re.Rec):Bl.dM × Int × List UInt8:=l.foldl one (Bl.zero,0, [])
def rows(b:Int)(l:List Re.Rec):List En.bz × List En.bz:=l.foldl (two b) ([], [])
def AY(l:List Re.Rec):az:=⟨(fK l).1,(fK l).2.1,(fK l).2.2,(rows (fK l).2.1 l).1,(rows (fK l).2.1 l).2⟩
theorem dB{α:Type}{P:List α->Prop}(h0:P [])(h1 : ∀l x,P l->P (l ++ [x]))(l:List α):P l:=by
 have : ∀m:List α,P m.reverse:=fun m=>by
  induction m with
  | nil=>exact h0
  | cons a r ih=>rw[List.reverse_cons];exact h1 _ _ ih
 have h:=this l.reverse
 rwa[List.reverse_reverse]at h
theorem nN(l:List Re.Rec)(x:Re.Rec):of (l ++ [x])=apply (of l) x:=by simp[of,List.foldl_append]
theorem rG(l:List Re.Rec)(x:Re.Rec):fK (l ++ [x])=one (fK l) x:=by simp[fK,List.foldl_append]
theorem jt(b:Int)(l:List Re.Rec)(x:Re.Rec):rows b (l ++ [x])=two b (rows b l) x:=by simp[rows,List.foldl_append]
def NR(s:List En.bz × List En.bz):Prop:=En.eD s.1∧En.eD s.2
def NS(b:Int)(s:List En.bz × List En.bz):List En.bz × List En.bz:=(En.cut b s.1,En.cut b s.2)
theorem NT{b:Int}{s:List En.bz × List En.bz}(h:NR s)(x:Re.Rec):NR (two b s x):=by
 unfold two;split
 ·exact h
 ·split
  ·exact⟨En.qg _ _ h.1,h.2⟩
  ·split
   ·exact h
   ·exact⟨h.1,En.qg _ _ h.2⟩
theorem AZ(b:Int)(l:List Re.Rec):NR (rows b l):=by
 induction l using dB with
 | h0=>exact⟨List.Pairwise.nil,List.Pairwise.nil⟩
 | h1 l x ih=>rw[jt];exact NT ih x
theorem ez{b:Int}(s:List En.bz × List En.bz){x:Re.Rec}(h:Re.check x≠0∨x.index<=b∨Re.hc x.kind=false):two b s x=s:=by unfold two;rw[if_pos h]
theorem mN{b:Int}(s:List En.bz × List En.bz){x:Re.Rec}(hk:Re.check x=0)(hb:b<x.index)(hh:Re.hc x.kind=true) :
 two b s x=if x.kind=2 then (En.put s.1 (jO x),s.2)else if En.found s.2 x.index=true then s else (s.1,En.put s.2 (jO x)):=by
 unfold two;rw[if_neg];rintro(h | h | h)
 ·exact h hk
 ·omega
 ·rw[hh]at h;cases h
theorem NU{b c:Int}(Bb:b<=c){s:List En.bz × List En.bz}(h:NR s)(x:Re.Rec):NS c (two b s x)=two c (NS c s) x:=by
 by_cases hk:Re.check x=0
 ·cases hh:Re.hc x.kind
  ·rw[ez _ (.inr (.inr hh)),ez _ (.inr (.inr hh))]
  ·by_cases hb:x.index<=b
   ·rw[ez _ (.inr (.inl hb)),ez _ (.inr (.inl (by omega)))]
   ·rw[mN s hk (by omega) hh]
    by_cases hc:x.index<=c
    ·rw[ez _ (.inr (.inl hc))]
     split
     ·show(En.cut c (En.put s.1 (jO x)),En.cut c s.2)=_
      rw[En.qp c (jO x) h.1,if_neg (by show ¬c<x.index;omega)]
      rfl
     ·split
      ·rfl
      ·show(En.cut c s.1,En.cut c (En.put s.2 (jO x)))=_
       rw[En.qp c (jO x) h.2,if_neg (by show ¬c<x.index;omega)]
       rfl
    ·rw[mN _ hk (by omega) hh]
     have hf:En.found (NS c s).2 x.index=En.found s.2 x.index:=En.GR h.2 (by omega)
     rw[hf];split
     ·show(En.cut c (En.put s.1 (jO x)),En.cut c s.2)=(En.put (En.cut c s.1) (jO x),En.cut c s.2)
      rw[En.qp c (jO x) h.1,if_pos (by show c<x.index;omega)]
     ·split
      ·rfl
      ·show(En.cut c s.1,En.cut c (En.put s.2 (jO x)))=(En.cut c s.1,En.put (En.cut c s.2) (jO x))
       rw[En.qp c (jO x) h.2,if_pos (by show c<x.index;omega)]
 ·rw[ez _ (.inl hk),ez _ (.inl hk)]
theorem J9{b c:Int}(Bb:b<=c)(l:List Re.Rec):NS c (rows b l)=rows c l:=by
 induction l using dB with
 | h0=>rfl
 | h1 l x ih=>rw[jt,jt,NU Bb (AZ b l),ih]
theorem Qw(l:List Re.Rec):of l=AY l:=by
 induction l using dB with
 | h0=>rfl
 | h1 l x ih =>
  rw[nN,ih];show apply (AY l) x=⟨(fK (l ++ [x])).1,(fK (l ++ [x])).2.1,(fK (l ++ [x])).2.2,(rows (fK (l ++ [x])).2.1 (l ++ [x])).1,(rows (fK (l ++ [x])).2.1 (l ++ [x])).2⟩;rw[rG,jt];by_cases hc:Re.check x≠0
  ·have e1:one (fK l) x=fK l:=by unfold one;rw[if_pos hc]
   rw[e1,ez _ (.inl hc)];unfold apply;rw[if_pos hc]
   rfl
  ·by_cases h4:x.kind=4∧(fK l).2.1<x.index
   ·have hp:cQ (fK l).1 x=(fK l).1:=by unfold cQ;rw[if_neg (by rw[h4.1];simp[Re.hb])]
    have e1:one (fK l) x=((fK l).1,x.index,x.aw):=by unfold one;rw[if_neg hc,if_pos h4,hp]
    rw[e1];simp only;rw[ez _ (.inr (.inl (Int.le_refl _))), <- J9 (b:=(fK l).2.1) (by omega) l]
    unfold apply;rw[if_neg hc,if_pos (show x.kind=4∧(AY l).base<x.index from h4)]
    rfl
   ·have e1:one (fK l) x=(cQ (fK l).1 x,(fK l).2):=by unfold one;rw[if_neg hc,if_neg h4]
    rw[e1];unfold apply;rw[if_neg hc,if_neg (show ¬(x.kind=4∧(AY l).base<x.index)from h4)]
    rfl
theorem sA{x:Re.Rec}(h:Re.check x=0):1<=x.kind∧x.kind<=4:=by
 unfold Re.check at h
 cases hk:Re.known x.kind
 ·rw[if_pos hk]at h;cases h
 ·simpa[Re.known] using hk
structure jM(x:Re.Rec):Prop where
 kind:1<=x.kind∧x.kind<=4
 aF:Re.hb x.kind=true->Bl.may x.aF=true∧x.aF≠Bl.zero
 index:Re.hi x.kind=true->1<=x.index∧x.index<=4294967296
 aw:Re.hm x.kind=true->x.aw ≠ []∧x.aw.length<=32768
 cmd:Re.hc x.kind=true->Cm.check x.cmd=0
 own:Re.own x=x
theorem cU{x:Re.Rec}:Re.check x=0↔jM x:=by
 constructor
 ·intro h
  have hkn:=sA h;unfold Re.check at h
  rw[if_neg (by simp[Re.known];omega)]at h
  split at h
  ·cases h
  ·rename_i hr
   split at h
   ·cases h
   ·rename_i hi
    split at h
    ·rename_i hc;exact absurd h hc.2
    ·rename_i hc
     split at h
     ·cases h
     ·rename_i ho
      replace hr:Re.bO x=true:=by simpa using hr
      replace ho:(decide (Re.own x=x) && Re.whole x)=true:=by simpa using ho
      simp only[Re.bO,Ms.owned,Ms.within,Bool.and_eq_true,Bool.not_eq_true', Bool.and_eq_false_iff,Bool.not_eq_false', decide_eq_true_eq]at hr
      simp only[Re.whole,Bool.and_eq_true,decide_eq_true_eq,Bool.not_eq_true', Bool.and_eq_false_iff,decide_eq_false_iff_not]at ho
      simp only[Bool.and_eq_true,decide_eq_true_eq,not_and]at hi
      refine⟨hkn,fun h => ?_,fun h => ?_,fun h=>⟨?_, ?_⟩,fun h => ?_,ho.1⟩
      ·rcases hr.1 with h2 | h2
       ·rw[h]at h2;cases h2
       ·exact h2
      ·rcases hr.2 with h2 | h2
       ·rw[h]at h2;cases h2
       ·exact h2
      ·rcases ho.2 with h2 | h2
       ·rw[h]at h2;cases h2
       ·exact h2
      ·have:=hi h;omega
      ·exact Decidable.byContradiction fun h2=>hc ⟨h,h2⟩
 ·rintro⟨h1,h2,h3,h4,h5,h6⟩
  unfold Re.check;have e1:Re.known x.kind=true:=by simp[Re.known];omega
  have e2:Re.bO x=true:=by
   simp only[Re.bO,Ms.owned,Ms.within,Bool.and_eq_true,Bool.not_eq_true', Bool.and_eq_false_iff,Bool.not_eq_false', decide_eq_true_eq]
   constructor
   ·cases hb:Re.hb x.kind
    ·exact .inl rfl
    ·exact .inr (h2 hb)
   ·cases hb:Re.hi x.kind
    ·exact .inl rfl
    ·exact .inr (h3 hb)
  have e3:(Re.hm x.kind && decide (32768<x.aw.length))=false:=by
   cases hb:Re.hm x.kind
   ·rfl
   ·have:=(h4 hb).2;simpa using this
  have e5:Re.whole x=true:=by
   unfold Re.whole;cases hb:Re.hm x.kind
   ·rfl
   ·have:=(h4 hb).1;simpa using this
  rw[if_neg (by rw[e1];simp),if_neg (by rw[e2];simp),if_neg (by rw[e3];simp),if_neg (fun h=>h.2 (h5 h.1)),if_neg (by rw[h6,e5];simp)]
structure Valid(h:az):Prop where
 aC:Bl.may h.aC=true
 base:0<=h.base∧h.base<=4294967296
 aw:h.aw.length<=32768
 both:0<h.base↔h.aw ≠ []
 acc:En.check 0 h.acc=0
 bl:En.check 0 h.bl=0
 th : ∀e∈h.acc,h.base<e.index∧e.aF.round≠0∧Bl.less h.aC e.aF=false
 uG : ∀e∈h.bl,h.base<e.index∧e.aF.round=0
theorem Valid.GS{h:az}(v:Valid h):En.eD h.acc:=((En.dG _ _).1 v.acc).1
theorem Valid.Di{h:az}(v:Valid h):En.eD h.bl:=((En.dG _ _).1 v.bl).1
theorem o9 : Valid zero:=⟨rfl,⟨by decide,by decide⟩,by decide,by simp[zero],rfl,rfl,fun e he=>by simp[zero]at he,fun e he=>by simp[zero]at he⟩
theorem xm{l:List En.bz}(h:En.check 0 l=0){e:En.bz}(h1:En.bO e=true)(h2:Cm.check e.cmd=0):En.check 0 (En.put l e)=0:=by
 obtain⟨ha,hl⟩:=(En.dG _ _).1 h;refine(En.dG _ _).2 ⟨En.qg _ _ ha,fun a hm => ?_⟩
 rcases(En.eI ha).1 hm with rfl | ⟨hm,_⟩
 ·refine⟨h1,h2, ?_⟩
  simp only[En.bO,Bool.and_eq_true,decide_eq_true_eq]at h1
  omega
 ·exact hl a hm
theorem xq{l:List En.bz}(h:En.check 0 l=0)(b:Int):En.check 0 (En.cut b l)=0:=by
 obtain⟨ha,hl⟩:=(En.dG _ _).1 h;exact(En.dG _ _).2 ⟨En.yN ha,fun a hm=>hl a (En.iv.1 hm).1⟩
theorem gy{b:Bl.dM}(h:Bl.may b=true):b≠Bl.zero↔b.round≠0:=by
 rcases Bl.kP b h with rfl | h2
 ·simp[Bl.zero]
 ·constructor
  ·intro _;omega
  ·rintro _ rfl;simp[Bl.zero]at h2
theorem nO{p:Bl.dM}{x:Re.Rec}(h:Bl.may p=true)(f:jM x):Bl.may (cQ p x)=true:=by
 unfold cQ;split
 ·rename_i h2;exact(f.aF h2.1).1
 ·exact h
theorem Dj{p b:Bl.dM}{x:Re.Rec}(h:Bl.less p b=false):Bl.less (cQ p x) b=false:=by
 unfold cQ;split
 ·rename_i h2
  have h3:Bl.less x.aF p=false:=by
   rcases Bl.NH p x.aF with h4 | h4 | h4
   ·exact h4.2.1
   ·rw[h4.1]at h2;cases h2.2
   ·exact h4.2.1
  exact Bl.C8 _ _ _ h h3
 ·exact h
theorem Dl(p:Bl.dM){x:Re.Rec}(h:Re.hb x.kind=true):Bl.less (cQ p x) x.aF=false:=by
 unfold cQ;split
 ·exact Bl.JU _
 ·rename_i h2
  cases h3:Bl.less p x.aF
  ·rfl
  ·exact absurd ⟨h,h3⟩ h2
theorem Fg{x:Re.Rec}(f:jM x)(h:Re.hb x.kind=false):x.aF=Bl.zero:=by
 have:=congrArg Re.Rec.aF f.own;simp only[Re.own,h]at this
 simpa using this.symm
theorem mO{h:az}(v:Valid h)(x:Re.Rec):Valid (apply h x):=by
 unfold apply;split
 ·exact v
 ·rename_i Nr
  have f:=cU.1 (Decidable.not_not.1 Nr);split
  ·rename_i h4
   have hi:=f.index (by simp[Re.hi,h4.1])
   have hm:=f.aw (by simp[Re.hm,h4.1])
   exact⟨v.aC,⟨by show 0<=x.index;omega,hi.2⟩,hm.2,⟨fun _=>hm.1,fun _=>by show 0<x.index;omega⟩,xq v.acc _,xq v.bl _,fun e he=>⟨(En.iv.1 he).2,(v.th e (En.iv.1 he).1).2⟩,fun e he=>⟨(En.iv.1 he).2,(v.uG e (En.iv.1 he).1).2⟩⟩
  ·have hold : ∀e∈h.acc,h.base<e.index∧e.aF.round≠0∧Bl.less (cQ h.aC x) e.aF=false:=fun e he=>⟨(v.th e he).1,(v.th e he).2.1,Dj (v.th e he).2.2⟩
   by_cases ht:x.index<=h.base∨Re.hc x.kind=false
   ·rw[ez _ (.inr ht)]
    exact⟨nO v.aC f,v.base,v.aw,v.both,v.acc,v.bl,hold,v.uG⟩
   ·have hb:h.base<x.index:=Int.not_le.1 fun h2=>ht (.inl h2)
    have hh:Re.hc x.kind=true:=by cases h2:Re.hc x.kind;exact absurd (.inr h2) ht;rfl
    rw[mN _ (Decidable.not_not.1 Nr) hb hh];have hi:Re.hi x.kind=true:=by
     simp only[Re.hc,Bool.or_eq_true,decide_eq_true_eq]at hh
     simp only[Re.hi,Bool.or_eq_true,decide_eq_true_eq];omega
    have hi:=f.index hi;have hcm:=f.cmd hh;split
    ·rename_i h2
     have hb2:Re.hb x.kind=true:=by simp[Re.hb,h2]
     have Qx:=f.aF hb2;have hr:En.bO (jO x)=true:=by simp[En.bO,jO,Qx.1,hi]
     refine⟨nO v.aC f,v.base,v.aw,v.both,xm v.acc hr hcm,v.bl,fun e he => ?_,v.uG⟩
     rcases(En.eI v.GS).1 he with rfl | ⟨he,_⟩
     ·exact⟨hb,(gy Qx.1).1 Qx.2,Dl _ hb2⟩
     ·exact hold e he
    ·split
     ·exact⟨nO v.aC f,v.base,v.aw,v.both,v.acc,v.bl,hold,v.uG⟩
     ·rename_i h2 h3
      have hb2:Re.hb x.kind=false:=by
       simp only[Re.hc,Bool.or_eq_true,decide_eq_true_eq]at hh
       simp only[Re.hb,Bool.or_eq_false_iff,decide_eq_false_iff_not];omega
      have hz:=Fg f hb2;have hr:En.bO (jO x)=true:=by
       have:Bl.may x.aF=true:=by rw[hz];rfl
       simp[En.bO,jO,this,hi]
      refine⟨nO v.aC f,v.base,v.aw,v.both,v.acc,xm v.bl hr hcm,hold,fun e he => ?_⟩
      rcases(En.eI v.Di).1 he with rfl | ⟨he,_⟩
      ·exact⟨hb,by show x.aF.round=0;rw[hz];rfl⟩
      ·exact v.uG e he
theorem Bc(l:List Re.Rec):Valid (of l):=by
 induction l using dB with
 | h0=>exact o9
 | h1 l x ih=>rw[nN];exact mO ih x
def aX(e:En.bz):Re.Rec:=⟨2,e.aF,e.index,e.cmd, []⟩
def recC(e:En.bz):Re.Rec:=⟨3,Bl.zero,e.index,e.cmd, []⟩
def bV(h:az):Re.Rec:=⟨4,Bl.zero,h.base,Cm.zero,h.aw⟩
def cw(h:az):Re.Rec:=⟨1,h.aC,0,Cm.zero, []⟩
def recs(h:az):List Re.Rec:=(if 0<h.base then [bV h]else [])++(if h.aC≠Bl.zero then [cw h]else [])++h.acc.map aX++h.bl.map recC
theorem Bd{e:En.bz}(h1:En.bO e=true)(h2:Cm.check e.cmd=0)(h3:e.aF.round≠0):jM (aX e):=by
 simp only[En.bO,Bool.and_eq_true,decide_eq_true_eq]at h1
 refine⟨⟨by show(1:Int)<=2;omega,by show(2:Int)<=4;omega⟩,fun _=>⟨h1.2,(gy h1.2).2 h3⟩,fun _=>h1.1,fun h => ?_,fun _=>h2,rfl⟩
 simp[aX,Re.hm]at h
theorem Be{e:En.bz}(h1:En.bO e=true)(h2:Cm.check e.cmd=0):jM (recC e):=by
 simp only[En.bO,Bool.and_eq_true,decide_eq_true_eq]at h1
 refine⟨⟨by show(1:Int)<=3;omega,by show(3:Int)<=4;omega⟩,fun h => ?_,fun _=>h1.1,fun h => ?_,fun _=>h2,rfl⟩
 ·simp[recC,Re.hb]at h
 ·simp[recC,Re.hm]at h
theorem Bf{h:az}(v:Valid h)(hb:0<h.base):jM (bV h):=by
 refine⟨⟨by show(1:Int)<=4;omega,by show(4:Int)<=4;omega⟩,fun h => ?_,fun _=>⟨by show 1<=h.base;omega,v.base.2⟩,fun _=>⟨v.both.1 hb,v.aw⟩,fun h => ?_,rfl⟩
 ·simp[bV,Re.hb]at h
 ·simp[bV,Re.hc]at h
theorem xu{h:az}(v:Valid h)(hp:h.aC≠Bl.zero):jM (cw h):=by
 refine⟨⟨by show(1:Int)<=1;omega,by show(1:Int)<=4;omega⟩,fun _=>⟨v.aC,hp⟩,fun h => ?_,fun h => ?_,fun h => ?_,rfl⟩
 ·simp[cw,Re.hi]at h
 ·simp[cw,Re.hm]at h
 ·simp[cw,Re.hc]at h
theorem uH{h:az}{x:Re.Rec}(f:jM x)(h4:x.kind≠4):apply h x=⟨cQ h.aC x,h.base,h.aw,(two h.base (h.acc,h.bl) x).1,(two h.base (h.acc,h.bl) x).2⟩:=by
 unfold apply;rw[if_neg (by rw[cU.2 f];simp),if_neg (fun h=>h4 h.1)]
theorem GU{h:az}{e:En.bz}(h1:En.bO e=true)(h2:Cm.check e.cmd=0)(h3:h.base<e.index∧e.aF.round≠0∧Bl.less h.aC e.aF=false)(h4 : ∀a∈h.acc,a.index<e.index) :
 apply h (aX e)={h with acc:=h.acc ++ [e]}:=by
 have f:=Bd h1 h2 h3.2.1;have hp:cQ h.aC (aX e)=h.aC:=by unfold cQ;rw[if_neg (fun h5=>by rw[show(aX e).aF=e.aF from rfl,h3.2.2]at h5;cases h5.2)]
 rw[uH f (by show(2:Int)≠4;omega),hp,mN _ (cU.2 f) h3.1 rfl,if_pos (show(aX e).kind=2 from rfl)]
 show az.mk h.aC h.base h.aw (En.put h.acc e) h.bl=_;rw[En.iH h4]
theorem GV{h:az}{e:En.bz}(hc:En.eD h.bl)(h1:En.bO e=true)(h2:Cm.check e.cmd=0)(h3:h.base<e.index∧e.aF.round=0)(h4 : ∀a∈h.bl,a.index<e.index) :
 apply h (recC e)={h with bl:=h.bl ++ [e]}:=by
 have f:=Be h1 h2;have hp:cQ h.aC (recC e)=h.aC:=by unfold cQ;rw[if_neg (fun h5=>by have:=h5.1;simp[recC,Re.hb]at this)]
 have hm:Bl.may e.aF=true:=by simp only[En.bO,Bool.and_eq_true]at h1;exact h1.2
 have hz:e.aF=Bl.zero:=Decidable.byContradiction fun h5=>(gy hm).1 h5 h3.2
 have he:jO (recC e)=e:=by
  obtain⟨i,b,c⟩:=e;simp only at hz
  subst hz
  rfl
 have hf:En.found h.bl e.index=false:=by
  cases h5:En.found h.bl e.index
  ·rfl
  ·obtain⟨a,ha,hx⟩:=(En.rF hc).1 h5
   have:=h4 a ha;omega
 rw[uH f (by show(3:Int)≠4;omega),hp,mN _ (cU.2 f) h3.1 rfl,if_neg (show ¬(recC e).kind=2 by show ¬(3:Int)=2;omega)]
 rw[if_neg (by show ¬En.found h.bl e.index=true;rw[hf];simp),he]
 show az.mk h.aC h.base h.aw h.acc (En.put h.bl e)=_;rw[En.iH h4]
theorem Bg : ∀(l:List En.bz) (h:az),En.eD l->(∀e∈l,En.bO e=true∧Cm.check e.cmd=0∧h.base<e.index∧e.aF.round≠0∧Bl.less h.aC e.aF=false)->(∀a∈h.acc,∀e∈l,a.index<e.index) ->
 (l.map aX).foldl apply h={h with acc:=h.acc++l}
 | [],h,_,_,_=>by simp
 | e :: r,h,ha,hl,hb=>by
  obtain⟨h1,h2⟩:=List.pairwise_cons.1 ha;obtain⟨e1,e2,e3⟩:=hl e (by simp)
  rw[List.map_cons,List.foldl_cons,GU e1 e2 e3 (fun a h3=>hb a h3 e (by simp))]
  refine(Bg r {h with acc:=h.acc ++ [e]} h2 (fun a h3=>hl a (List.mem_cons_of_mem _ h3)) (fun a h3 c h4 => ?_)).trans ?_
  rotate_left
  ·simp
  ·rcases List.mem_append.1 h3 with h3 | h3
   ·exact hb a h3 c (List.mem_cons_of_mem _ h4)
   ·simp at h3;subst h3;exact h1 c h4
theorem Bh : ∀(l:List En.bz) (h:az),En.eD l->En.eD h.bl->(∀e∈l,En.bO e=true∧Cm.check e.cmd=0∧h.base<e.index∧e.aF.round=0)->(∀a∈h.bl,∀e∈l,a.index<e.index) ->
 (l.map recC).foldl apply h={h with bl:=h.bl++l}
 | [],h,_,_,_,_=>by simp
 | e :: r,h,ha,hc,hl,hb=>by
  obtain⟨h1,h2⟩:=List.pairwise_cons.1 ha;obtain⟨e1,e2,e3⟩:=hl e (by simp)
  have hc2:En.eD (h.bl ++ [e]):=by
   rw[<- En.iH fun a h3=>hb a h3 e (by simp)]
   exact En.qg _ _ hc
  rw[List.map_cons,List.foldl_cons,GV hc e1 e2 e3 (fun a h3=>hb a h3 e (by simp))]
  refine(Bh r {h with bl:=h.bl ++ [e]} h2 hc2 (fun a h3=>hl a (List.mem_cons_of_mem _ h3)) (fun a h3 c h4 => ?_)).trans ?_
  rotate_left
  ·simp
  ·rcases List.mem_append.1 h3 with h3 | h3
   ·exact hb a h3 c (List.mem_cons_of_mem _ h4)
   ·simp at h3;subst h3;exact h1 c h4
theorem nK{h:az}(v:Valid h):of (recs h)=h:=by
 obtain⟨ha,CG⟩:=(En.dG _ _).1 v.acc;obtain⟨hc,hlc⟩:=(En.dG _ _).1 v.bl;unfold of recs;rw[List.foldl_append,List.foldl_append,List.foldl_append];have e1:(if 0<h.base then [bV h]else []).foldl apply zero=⟨Bl.zero,h.base,h.aw, [], []⟩:=by
  by_cases hb:0<h.base
  ·rw[if_pos hb]
   show apply zero (bV h)=_;unfold apply;rw[if_neg (by rw[cU.2 (Bf v hb)];simp),if_pos ⟨rfl,hb⟩]
   rfl
  ·rw[if_neg hb]
   have h0:h.base=0:=by have:=v.base.1;omega
   have hi:h.aw = []:=Decidable.byContradiction fun h5=>hb (v.both.2 h5)
   show zero=_;rw[h0,hi]
   rfl
 have e2:(if h.aC≠Bl.zero then [cw h]else []).foldl apply ⟨Bl.zero,h.base,h.aw, [], []⟩=⟨h.aC,h.base,h.aw, [], []⟩:=by
  by_cases hp:h.aC≠Bl.zero
  ·rw[if_pos hp]
   show apply _ (cw h)=_;have hr:=(gy v.aC).1 hp;have hl:Bl.less Bl.zero h.aC=true:=by
    rcases Bl.kP _ v.aC with h5 | h5
    ·exact absurd h5 hp
    ·unfold Bl.less
     rw[if_neg (by show ¬(0:Int)=h.aC.round;omega)]
     show decide ((0:Int)<h.aC.round)=true;simp;omega
   rw[uH (xu v hp) (by show(1:Int)≠4;omega),ez _ (.inr (.inr rfl))]
   unfold cQ;rw[if_pos ⟨rfl,hl⟩]
   rfl
  ·rw[if_neg hp]
   have h0:h.aC=Bl.zero:=Decidable.not_not.1 hp;show az.mk Bl.zero h.base h.aw [] []=_;rw[h0]
 rw[e1,e2,Bg h.acc ⟨h.aC,h.base,h.aw, [], []⟩ ha (fun e he=>⟨(CG e he).1,(CG e he).2.1,v.th e he⟩) (fun a h3=>by simp at h3)]
 show List.foldl apply ⟨h.aC,h.base,h.aw,h.acc, []⟩ (h.bl.map recC)=h;rw[Bh h.bl ⟨h.aC,h.base,h.aw,h.acc, []⟩ hc List.Pairwise.nil (fun e he=>⟨(hlc e he).1,(hlc e he).2.1,v.uG e he⟩) (fun a h3=>by simp at h3)]
 rfl
theorem GW{h:az}{x:Re.Rec}(hx:Re.check x≠0):apply h x=h:=by unfold apply;rw[if_pos hx]
end Hd
end Go.Proofs.YtdkdjofnnnljjaaGreatDoor

namespace Go.Proofs.YtdkdjofnnnljjaaGreatDoor
open Go.RowKit
namespace sB
abbrev R := BitVec 32
def poly : R:=0xedb88320
def step(r:R):R:=(r >>> 1) ^^^ (if r.getLsbD 0 then poly else 0#32)
def steps : Nat->R->R
 | 0,r=>r
 | n+1,r=>steps n (step r)
def wide(c:UInt8):R:=BitVec.ofNat 32 c.toNat
def upd(r:R)(c:UInt8):R:=steps 8 (r ^^^ wide c)
def run(r:R)(l:List UInt8):R:=l.foldl upd r
def sum(l:List UInt8):R := ~~~ (run (~~~ 0#32) l)
theorem NV(r:R)(l m:List UInt8):run r (l++m)=run (run r l) m:=by simp[run]
theorem Ka(a b:R):step (a ^^^ b)=step a ^^^ step b:=by
 unfold step;rw[BitVec.ushiftRight_xor_distrib,BitVec.getLsbD_xor];cases a.getLsbD 0<;>cases b.getLsbD 0<;>simp
 ·rw[BitVec.xor_assoc]
 ·rw[BitVec.xor_assoc,BitVec.xor_comm (b >>> 1),BitVec.xor_assoc]
 ·rw[BitVec.xor_assoc,BitVec.xor_comm poly,BitVec.xor_assoc,BitVec.xor_self,BitVec.xor_zero]
theorem GX(n:Nat) : ∀a b:R,steps n (a ^^^ b)=steps n a ^^^ steps n b:=by
 induction n with
 | zero=>intro a b;rfl
 | succ n ih=>intro a b;show steps n (step (a ^^^ b))=_;rw[Ka,ih];rfl
theorem GY(v:R)(h:v.toNat<2 ^ 31):step (v <<< 1)=v:=by
 unfold step;have h0:(v <<< 1).getLsbD 0=false:=by simp
 rw[h0];simp only[Bool.false_eq_true,if_false,BitVec.xor_zero]
 apply BitVec.eq_of_toNat_eq
 rw[BitVec.toNat_ushiftRight,BitVec.toNat_shiftLeft,Nat.shiftLeft_eq,Nat.shiftRight_eq_div_pow];omega
theorem Dm(n:Nat) : ∀v:R,v.toNat<2 ^ (32 - n)->n<=32->steps n (v <<< n)=v:=by
 induction n with
 | zero=>intro v _ _;simp[steps]
 | succ n ih =>
  intro v h hn
  show steps n (step (v <<< (n+1)))=v;have e:v <<< (n+1)=(v <<< n) <<< 1:=by rw[BitVec.shiftLeft_add]
  have hv:(v <<< n).toNat<2 ^ 31:=by
   rw[BitVec.toNat_shiftLeft,Nat.shiftLeft_eq];have h1:v.toNat*2 ^ n<2 ^ (32 - (n+1))*2 ^ n:=Nat.mul_lt_mul_of_pos_right h (Nat.two_pow_pos n);rw[<- Nat.pow_add,show 32 - (n+1)+n=31 by omega]at h1
   rw[Nat.mod_eq_of_lt (by omega)]
   exact h1
  rw[e,GY _ hv];refine ih v (Nat.lt_of_lt_of_le h (Nat.pow_le_pow_right (by omega) (by omega))) (by omega)
theorem Qy(r:R):r=((r >>> 4) <<< 4) ^^^ (r &&& 15#32):=by
 apply BitVec.eq_of_getLsbD_eq
 intro i hi
 by_cases h:i<4
 ·match i,h with
  | 0,_=>simp
  | 1,_=>simp
  | 2,_=>simp
  | 3,_=>simp
 ·have h15:(15#32).getLsbD i=false:=by
   rw[BitVec.getLsbD_ofNat];simp only[hi,decide_true,Bool.true_and];exact Nat.testBit_lt_two_pow (Nat.lt_of_lt_of_le (show 15<2 ^ 4 by omega) (Nat.pow_le_pow_right (by omega) (by omega)))
  simp only[BitVec.getLsbD_xor,BitVec.getLsbD_and,h15,Bool.and_false,Bool.xor_false,BitVec.getLsbD_shiftLeft,BitVec.getLsbD_ushiftRight,hi,h];simp[show 4+(i - 4)=i by omega]
theorem Qz(r:R):steps 4 r=(r >>> 4) ^^^ steps 4 (r &&& 15#32):=by
 conv=>lhs;rw[Qy r]
 rw[GX,Dm 4 (r >>> 4) _ (by omega)]
 rw[BitVec.toNat_ushiftRight,Nat.shiftRight_eq_div_pow];have:=r.isLt;omega
theorem GZ(n m:Nat) : ∀r:R,steps (n+m) r=steps m (steps n r):=by
 induction n with
 | zero=>intro r;rw[Nat.zero_add];rfl
 | succ n ih=>intro r;rw[Nat.succ_add];exact ih (step r)
end sB
namespace sB
theorem lH(a b:R):bits .xor .u32 (a.toNat:Int) (b.toNat:Int)=((a ^^^ b).toNat:Int):=by
 have h1 : ∀c:R,BitVec.ofInt 32 (c.toNat:Int)=c:=by
  intro c;rw[BitVec.ofInt_natCast];simp
 show IntKind.u32.wrap ((BitVec.ofInt 32 (a.toNat:Int) ^^^ BitVec.ofInt 32 (b.toNat:Int)).toNat:Int)=_;rw[h1,h1,IntKind.wrap_u32];have:=(a ^^^ b).isLt;omega
theorem yO(a b:R):bits .and .u32 (a.toNat:Int) (b.toNat:Int)=((a &&& b).toNat:Int):=by
 have h1 : ∀c:R,BitVec.ofInt 32 (c.toNat:Int)=c:=by
  intro c;rw[BitVec.ofInt_natCast];simp
 show IntKind.u32.wrap ((BitVec.ofInt 32 (a.toNat:Int) &&& BitVec.ofInt 32 (b.toNat:Int)).toNat:Int)=_;rw[h1,h1,IntKind.wrap_u32];have:=(a &&& b).isLt;omega
def tab : List Int := [0,498536548,997073096,651767980,1994146192,1802195444,1303535960,1342533948,3988292384,4027552580,3604390888,3412177804,2607071920,2262029012,2685067896,3183342108]
theorem QA(i:Nat)(h:i<16):tab.getD i 0=((steps 4 (BitVec.ofNat 32 i)).toNat:Int):=by
 have : ∀i:Fin 16,tab.getD i.1 0=((steps 4 (BitVec.ofNat 32 i.1)).toNat:Int):=by decide
 exact this ⟨i,h⟩
theorem xw(r:R) : ∃j:Nat,j<16∧bits .and .u32 (r.toNat:Int) 15=(j:Int) ∧ ∃t:Nat,t<4294967296∧tab.getD j 0=(t:Int)∧bits .xor .u32 ((r.toNat:Int) / 16) (t:Int)=((steps 4 r).toNat:Int):=by
 have hlt:(r &&& 15#32).toNat<16:=by
  rw[BitVec.toNat_and];exact Nat.lt_of_le_of_lt Nat.and_le_right (by decide)
 refine⟨(r &&& 15#32).toNat,hlt,yO r 15#32,(steps 4 (r &&& 15#32)).toNat,(steps 4 (r &&& 15#32)).isLt, ?_, ?_⟩
 ·rw[QA _ hlt];simp
 ·have e:(r.toNat:Int) / (16:Int)=((r >>> 4).toNat:Int):=by
   rw[BitVec.toNat_ushiftRight,Nat.shiftRight_eq_div_pow];omega
  rw[e,lH, <- Qz]
theorem NW(r:R)(c:UInt8):bits .xor .u32 (r.toNat:Int) (c.toNat:Int)=((r ^^^ wide c).toNat:Int):=by
 rw[<- lH];have:=c.toNat_lt;rw[show((wide c).toNat:Int)=(c.toNat:Int) by simp[wide]]
theorem G0(r:R)(c:UInt8):upd r c=steps 4 (steps 4 (r ^^^ wide c)):=by
 unfold upd;exact GZ 4 4 _
theorem Kb(r:R):bits .xor .u32 IntKind.u32.max (r.toNat:Int)=((~~~ r).toNat:Int):=by
 have:=lH (~~~ 0#32) r;have e:(~~~ 0#32) ^^^ r = ~~~ r:=by
  rw[<- BitVec.not_xor_left,BitVec.zero_xor]
 rw[e]at this
 exact this
theorem Kc(r:R)(l:List UInt8)(k:Nat)(h:k<l.length):run r (l.take (k+1))=upd (run r (l.take k)) l[k]:=by
 rw[List.take_succ_eq_append_getElem h,NV];rfl
def add(s:R)(l:List UInt8):R := ~~~ (run (~~~ s) l)
end sB
theorem Ke : ∀(n k acc j:Nat),k+(enc n).length<=9->(0<k->0<n)->j<(enc n).length->fG k acc ((enc n).take j)=(0,0,1):=by
 intro n
 induction n using Nat.strongRecOn with
 | ind n ih =>
  intro k acc j h9 h0 hj
  by_cases h:n<128
  ·rw[lI h]at hj ⊢
   simp at hj
   subst hj
   rfl
  ·rw[mP (by omega)]at h9 hj ⊢
   simp at h9 hj
   cases j with
   | zero=>rfl
   | succ j =>
    simp only[List.take_succ_cons];have e:=high n;unfold fG;rw[if_neg (by omega),if_neg (by omega)]
    exact ih (n / 128) (by omega) _ _ _ (by omega) (by omega) (by omega)
namespace cK
def le(s:Nat):List UInt8 := [UInt8.ofNat s,UInt8.ofNat (s / 256),UInt8.ofNat (s / 65536),UInt8.ofNat (s / 16777216)]
def tail(l:List UInt8):List UInt8:=le (sB.sum l).toNat
theorem Kf(l:List UInt8):(tail l).length=4:=rfl
def frame(l:List UInt8):List UInt8:=enc l.length++l++tail l
theorem eR(l:List UInt8):(frame l).length=(enc l.length).length+l.length+4:=by simp[frame,Kf];omega
def next(l:List UInt8)(pl:Int):List UInt8 × Int × Int :=
 if(ee l pl).2.2≠0 then ([],0,(ee l pl).2.2)
 else if(ee l pl).1<1 then ([],0,3)
 else if 65536<(ee l pl).1 then ([],0,2)
 else if(l.length:Int) - (ee l pl).2.1<(ee l pl).1+4 then ([],0,1)
 else if(l.drop ((ee l pl).2.1.toNat+(ee l pl).1.toNat)).take 4=tail ((l.drop (ee l pl).2.1.toNat).take (ee l pl).1.toNat)
  then ((l.drop (ee l pl).2.1.toNat).take (ee l pl).1.toNat,(ee l pl).2.1+(ee l pl).1+4,0)
  else ([],0,4)
theorem uI(l:List UInt8)(pl:Int) :
 (∃e:Int,e≠0∧ee l pl=(0,0,e)∧next l pl=([],0,e)) ∨
 (∃p n c:Nat,pl=(p:Int)∧p+c<=l.length∧0<c∧n<=9223372036854775807∧ee l pl=((n:Int),((p+c:Nat):Int),0)∧(l.drop p).take c=enc n ∧
   ((n=0∧next l pl=([],0,3))∨(65536<n∧next l pl=([],0,2)) ∨
    (0<n∧n<=65536∧((l.length<p+c+n+4∧next l pl=([],0,1)) ∨
     (p+c+n+4<=l.length ∧
       (((l.drop (p+c+n)).take 4=tail ((l.drop (p+c)).take n)∧next l pl=((l.drop (p+c)).take n,((p+c+n+4:Nat):Int),0)) ∨
        ((l.drop (p+c+n)).take 4≠tail ((l.drop (p+c)).take n)∧next l pl=([],0,4)))))))):=by
 rcases oW l pl with ⟨e,he,hg⟩ | ⟨p,n,c,h1,h2,h3,h4,hg,h5⟩
 ·exact .inl ⟨e,he,hg,by unfold next;rw[hg,if_pos (by simpa using he)]⟩
 ·refine .inr ⟨p,n,c,h1,h2,h3,h4,hg,h5, ?_⟩
  unfold next;rw[hg];simp only[ne_eq,not_true_eq_false,if_false,Int.toNat_natCast];by_cases a:n=0
  ·rw[if_pos (by omega)];exact .inl ⟨a,rfl⟩
  rw[if_neg (by omega)]
  by_cases b:65536<n
  ·rw[if_pos (by omega)];exact .inr (.inl ⟨b,rfl⟩)
  rw[if_neg (by omega)]
  refine .inr (.inr ⟨by omega,by omega, ?_⟩)
  by_cases d:l.length<p+c+n+4
  ·rw[if_pos (by omega)];exact .inl ⟨d,rfl⟩
  rw[if_neg (by omega)]
  refine .inr ⟨by omega, ?_⟩
  by_cases f:(l.drop (p+c+n)).take 4=tail ((l.drop (p+c)).take n)
  ·rw[if_pos f];exact .inl ⟨f,by simp⟩
  ·rw[if_neg f];exact .inr ⟨f,rfl⟩
theorem j8{l:List UInt8}{a:Nat}{x:List UInt8}{e:Int}(h:next l a=(x,e,0)) : ∃c:Nat,e=(c:Int)∧a+6<=c∧c<=l.length∧0<x.length∧x.length<=65536:=by
 rcases uI l a with ⟨e', he,_,hn⟩ | ⟨p,n,c,h1,h2,h3,h4,hg,h5,⟨_,hn⟩ | ⟨_,hn⟩ | ⟨zG,R9,⟨_,hn⟩ | ⟨hl,⟨_,hn⟩ | ⟨_,hn⟩⟩⟩⟩
 all_goals rw[h]at hn;simp only[Prod.mk.injEq]at hn
 ·exact absurd hn.2.2.symm he
 ·omega
 ·omega
 ·omega
 ·obtain⟨rfl,rfl,_⟩:=hn
  exact⟨_,rfl,by omega,hl,by simp;omega,by simp;omega⟩
 ·omega
inductive Path(l:List UInt8):Nat->List (List UInt8)->Nat->Prop
 | nil (a:Nat):Path l a [] a
 | cons {a c b:Nat} {x:List UInt8} {t:List (List UInt8)}:next l a=(x,(c:Int),0)->Path l c t b->Path l a (x :: t) b
theorem Dn{l post y:List UInt8}{a:Nat}(h:l.drop a=frame y++post)(ha:a<=l.length)(h0:0<y.length)(h1:y.length<=65536):next l a=(y,((a+(frame y).length:Nat):Int),0):=by
 have hg:fG 0 0 (l.drop a)=(y.length,(enc y.length).length,0):=by
  have:=uJ (y++tail y++post) y.length 0 0 (by omega) (by have:=aA (n:=y.length) (by omega);omega)
  rw[h];unfold frame;rw[List.append_assoc,List.append_assoc]
  simpa[List.append_assoc] using this
 have NK:=tG ha hg;have hd:=congrArg List.length h;rw[List.length_append,eR,List.length_drop]at hd
 obtain⟨c,hc⟩ : ∃c,c=(enc y.length).length:=⟨_,rfl⟩;have e1:l.drop (a+c)=y++tail y++post:=by
  rw[<- List.drop_drop,h];unfold frame;rw[List.append_assoc,List.append_assoc,List.drop_append,hc];simp[List.append_assoc]
 have e2:(l.drop (a+c)).take y.length=y:=by rw[e1,List.append_assoc];simp
 have e3:(l.drop (a+c+y.length)).take 4=tail y:=by
  rw[<- List.drop_drop,e1,List.append_assoc,List.drop_append];simp[<- Kf y]
 unfold next;rw[NK];simp only[ne_eq,not_true_eq_false,if_false, <- hc];rw[if_neg (by omega),if_neg (by omega),if_neg (by omega),show((a:Int)+(c:Int)).toNat=a+c by omega,Int.toNat_natCast,e2,e3,if_pos rfl]
 simp only[Prod.mk.injEq,and_true,true_and];rw[eR];omega
theorem Kg{l y:List UInt8}{a k:Nat}(h:l.drop a=(frame y).take k)(ha:a<=l.length)(hk:k<(frame y).length)(h0:0<y.length)(h1:y.length<=65536):(next l a).2.2≠0:=by
 have h9:=aA (n:=y.length) (by omega)
 have hd:=congrArg List.length h;rw[List.length_drop,List.length_take]at hd
 by_cases hc:k<(enc y.length).length
 ·have hg:fG 0 0 (l.drop a)=(0,0,1):=by
   rw[h];unfold frame;rw[List.append_assoc,List.take_append_of_le_length (by omega)]
   exact Ke _ _ _ _ (by omega) (by omega) hc
  have NK:=kU (e:=1) ha (by omega) hg
  unfold next;rw[NK];simp
 ·have hg:fG 0 0 (l.drop a)=(y.length,(enc y.length).length,0):=by
   have:=uJ ((y++tail y).take (k - (enc y.length).length)) y.length 0 0 (by omega) (by omega)
   rw[h];unfold frame;rw[List.append_assoc,List.take_append,List.take_of_length_le (by omega)]
   simpa using this
  have NK:=tG ha hg;rw[eR]at hk hd
  unfold next;rw[NK];simp only[ne_eq,not_true_eq_false,if_false];rw[if_neg (by omega),if_neg (by omega),if_pos (by omega)]
  simp
def flat(fs:List (List UInt8)):List UInt8:=(fs.map frame).flatten
theorem nP(fs:List (List UInt8))(x:List UInt8):flat (fs ++ [x])=flat fs++frame x:=by simp[flat]
theorem qq(fs gs:List (List UInt8)):flat (fs++gs)=flat fs++flat gs:=by simp[flat]
theorem G1(l post:List UInt8) : ∀(fs:List (List UInt8)) (a:Nat),(∀y∈fs,0<y.length∧y.length<=65536)->a<=l.length->l.drop a=flat fs++post->Path l a fs (a+(flat fs).length):=by
 intro fs
 induction fs with
 | nil=>intro a _ _ _;exact .nil a
 | cons y t ih =>
  intro a hy ha h
  obtain⟨h0,h1⟩:=hy y (by simp)
  have h' : l.drop a=frame y++(flat t++post):=by rw[h];simp[flat]
  have hd:=congrArg List.length h';rw[List.length_append,List.length_drop]at hd
  refine .cons (Dn h' ha h0 h1) ?_;have:=ih (a+(frame y).length) (fun z hz=>hy z (by simp[hz])) (by omega) (by rw[<- List.drop_drop,h'];simp)
  have e:a+(flat (y :: t)).length=a+(frame y).length+(flat t).length:=by simp[flat];omega
  rw[e];exact this
structure Cut(n:Nat)(fs want:List (List UInt8))(a:Nat):Prop where
 at_:a=(flat want).length
 le:a<=n
 rest : ∃t,fs=want++t ∧ ∀y s,t=y :: s->n<a+(frame y).length
theorem Cut.zero(n:Nat):Cut n [] [] 0:=⟨rfl,by omega, [],rfl,fun y s h=>by cases h⟩
theorem Cut.in{n:Nat}{fs want:List (List UInt8)}{a:Nat}(h:Cut n fs want a)(x:List UInt8)(hx:(flat (fs ++ [x])).length<=n):Cut n (fs ++ [x]) (want ++ [x]) (flat (fs ++ [x])).length:=by
 obtain⟨t,ht,hr⟩:=h.rest;cases t with
 | nil =>
  rw[List.append_nil]at ht
  subst ht;exact⟨rfl,hx, [],by simp,fun y s h=>by cases h⟩
 | cons y s =>
  have:=hr y s rfl;have hf:(flat fs).length=(flat want).length+((frame y).length+(flat s).length):=by rw[ht,qq];simp[flat]
  rw[nP,List.length_append]at hx
  have:=h.at_;omega
theorem Cut.out{n:Nat}{fs want:List (List UInt8)}{a:Nat}(h:Cut n fs want a)(x:List UInt8)(hx:n<(flat (fs ++ [x])).length):Cut n (fs ++ [x]) want a:=by
 obtain⟨t,ht,hr⟩:=h.rest;refine⟨h.at_,h.le,t ++ [x],by rw[ht];simp,fun y s e => ?_⟩
 cases t with
 | nil =>
  simp at e
  obtain⟨rfl,_⟩:=e;rw[List.append_nil]at ht
  subst ht;rw[nP,List.length_append]at hx
  have:=h.at_;omega
 | cons z r =>
  simp at e
  obtain⟨rfl,_⟩:=e;exact hr _ _ rfl
theorem Cut.path{n:Nat}{fs want:List (List UInt8)}{a:Nat}(h:Cut n fs want a)(hn:n<=(flat fs).length)(hy : ∀y∈fs,0<y.length∧y.length<=65536):Path ((flat fs).take n) 0 want a∧(next ((flat fs).take n) a).2.2≠0:=by
 obtain⟨t,ht,hr⟩:=h.rest;have ha:=h.at_;have hle:=h.le;have hf:flat fs=flat want++flat t:=by rw[ht,qq]
 have hlen:((flat fs).take n).length=n:=by simp;omega
 have e1:(flat fs).take n=flat want++(flat t).take (n - a):=by rw[hf,List.take_append, <- ha,List.take_of_length_le (by omega)]
 have e2:((flat fs).take n).drop a=(flat t).take (n - a):=by rw[e1,List.drop_append, <- ha,Nat.sub_self,List.drop_of_length_le (by omega)];simp
 constructor
 ·have:=G1 ((flat fs).take n) ((flat t).take (n - a)) want 0 (fun y hm=>hy y (by rw[ht];simp[hm])) (by omega) (by rw[List.drop_zero,e1])
  rwa[Nat.zero_add, <- ha]at this
 ·cases t with
  | nil =>
   have zL:n=a:=by rw[hf]at hn;simp[flat]at hn;simp[flat]at ha;omega
   have NK:ee ((flat fs).take n) (a:Int)=(0,0,1):=kU (e:=1) (by omega) (by omega) (by rw[e2];simp[flat];rfl)
   unfold next;rw[NK];simp
  | cons y s =>
   have hlt:=hr y s rfl;obtain⟨h0,h1⟩:=hy y (by rw[ht];simp)
   refine Kg (y:=y) (k:=n - a) ?_ (by omega) (by omega) h0 h1
   rw[e2,show flat (y :: s)=frame y++flat s by simp[flat],List.take_append_of_le_length (by omega)]
end cK
end Go.Proofs.YtdkdjofnnnljjaaGreatDoor

namespace Go.Proofs.YtdkdjofnnnljjaaGreatDoor
open Go.RowKit
theorem Re.wm{s:List UInt8}(h:(Re.decode s).2=0):(Re.decode s).1.Fits∧(Re.decode s).1.cmd.aD 1000∧(Re.decode s).1.aw.length<=32768∧Re.check (Re.decode s).1=0:=by
 obtain⟨h1,h2,_⟩:=Re.nB s h;have hc:=(Re.oI h2).1;have hg:=Re.eG hc;rw[h1];refine⟨(Re.nC s).1, ?_,Re.ml hg,hc⟩;by_cases hk:Re.hc (Re.got s).1.kind=true
 ·exact aD.up (Cm.gu (hg.cmd hk)) (by omega)
 ·rw[Re.jA hg (by simpa using hk)]
  exact⟨by simp[Cm.zero,Cm.aL],by simp[Cm.zero,Cm.aL],by simp[Cm.zero,Cm.aL]⟩
theorem Rt.Kh{v:Int}(hv:v=1∨v=2){x:Re.Rec}(h:Re.aO v x=0)(hf:x.Fits){s:Nat}(hs:x.cmd.aD s)(hs2:s<=9223372036854775807):Rt.get v (Rt.aN v x)=(x,0):=by
 rcases hv with rfl | rfl
 ·rw[show Re.aO 1 x=Re.older x from Re.mn x]at h
  exact Re.mm h hf hs hs2
 ·rw[Rt.nD]at h
  exact Rt.mm h hf hs hs2
theorem Re.fR{v:Int}{x:Re.Rec}(h:Re.aO v x=0):Re.check x=0:=by
 unfold Re.aO at h
 by_cases hc:Re.check x=0
 ·exact hc
 ·rw[if_pos hc]at h;exact absurd h hc
theorem Rt.yg{v:Int}(hv:v=1∨v=2){s:List UInt8}(h:(Rt.get v s).2=0) :
 Re.aO v (Rt.get v s).1=0∧Rt.aN v (Rt.get v s).1=s∧(Rt.get v s).1.Fits∧(Rt.get v s).1.cmd.aD 1000∧(Rt.get v s).1.aw.length<=32768:=by
 rcases hv with rfl | rfl
 ·have h' : (Re.decode s).2=0:=h
  obtain⟨h1,h2,h3⟩:=Re.nB s h';obtain⟨s1,s2,s3,_⟩:=Re.wm h';refine⟨?_, ?_,s1,s2,s3⟩
  ·rw[show Re.aO 1 _=Re.older _ from Re.mn _]
   show Re.older (Re.decode s).1=0;rw[h1];exact h2
  ·show Re.bytes (Re.decode s).1=s
   rw[h1];exact h3
 ·have h' : (Rt.decode s).2=0:=h
  obtain⟨h1,h2,h3⟩:=Rt.nB s h';have hg:=Re.eG h2;obtain⟨s1,_,_⟩:=Rt.nC s;have hM:(Rt.get 2 s).1=Rt.jW s:=h1;rw[hM];refine⟨by rw[Rt.nD];exact h2,h3,s1, ?_,Re.ml hg⟩
  by_cases hk:Re.hc (Rt.jW s).kind=true
  ·exact aD.up (Cm.gu (hg.cmd hk)) (by omega)
  ·rw[Re.jA hg (by simpa using hk)]
   exact⟨by simp[Cm.zero,Cm.aL],by simp[Cm.zero,Cm.aL],by simp[Cm.zero,Cm.aL]⟩
namespace cK
theorem Ki(y:List UInt8)(fs:List (List UInt8)):flat (y :: fs)=frame y++flat fs:=by simp[flat]
theorem QB(n:Nat)(fs:List (List UInt8)) : ∃want a,Cut n fs want a:=by
 induction fs using Hd.dB with
 | h0=>exact⟨[],0,Cut.zero n⟩
 | h1 l x ih =>
  obtain⟨want,a,hc⟩:=ih;by_cases hx:(flat (l ++ [x])).length<=n
  ·by_cases hl:l=want
   ·subst hl;exact⟨_,_,hc.in x hx⟩
   ·refine absurd hx ?_
    obtain⟨t,ht,hr⟩:=hc.rest;cases t with
    | nil=>exact absurd (by simpa using ht) hl
    | cons y s =>
     have:=hr y s rfl;have ha:=hc.at_;rw[nP,ht,qq,Ki];simp only[List.length_append];omega
  ·exact⟨_,_,hc.out x (by omega)⟩
def ends(fs:List (List UInt8))(i:Nat):Nat:=(flat (fs.take (i+1))).length
theorem qu(fs:List (List UInt8)){i j:Nat}(h:i<=j):(flat (fs.take i)).length<=(flat (fs.take j)).length:=by
 have e:fs.take j=fs.take i++(fs.drop i).take (j - i):=by
  rw[<- List.take_add];congr 1;omega
 rw[e,qq,List.length_append];omega
theorem Cut.xx{n:Nat}{fs want:List (List UInt8)}{a:Nat}(h:Cut n fs want a):want=fs.take want.length∧want.length<=fs.length:=by
 obtain⟨t,ht,_⟩:=h.rest;rw[ht];simp
theorem Cut.iff{n:Nat}{fs want:List (List UInt8)}{a:Nat}(h:Cut n fs want a){i:Nat}(hi:i<fs.length):ends fs i<=n↔i<want.length:=by
 obtain⟨hw,hl⟩:=h.xx;have ha:=h.at_;have hle:=h.le
 constructor
 ·intro he
  refine Decidable.byContradiction fun hx => ?_
  obtain⟨t,ht,hr⟩:=h.rest;cases t with
  | nil =>
   rw[List.append_nil]at ht
   subst ht;omega
  | cons y s =>
   have h1:=hr y s rfl;have h2:(flat (fs.take (want.length+1))).length<=ends fs i:=qu fs (by omega)
   have h3:fs.take (want.length+1)=want ++ [y]:=by rw[ht,List.take_append,List.take_of_length_le (by omega)];simp
   rw[h3,nP,List.length_append]at h2
   omega
 ·intro hx
  have h2:ends fs i<=(flat (fs.take want.length)).length:=qu fs (by omega)
  rw[<- hw]at h2
  omega
end cK
namespace Sg
inductive zM(f:Int)(b:List UInt8):Nat->List Re.Rec->Nat->Prop
 | nil (a:Nat):zM f b a [] a
 | cons {a c e:Nat} {x:List UInt8} {r:Re.Rec} {t:List Re.Rec}:cK.next b a=(x,(c:Int),0)->Rt.get f x=(r,0)->zM f b c t e->zM f b a (r :: t) e
def sD(f:Int)(b:List UInt8)(a:Nat):Prop:=(cK.next b a).2.2≠0∨(Rt.get f (cK.next b a).1).2≠0
theorem zM.snoc{f:Int}{b:List UInt8}{a e:Nat}{t:List Re.Rec}(h:zM f b a t e) : ∀ {x:List UInt8} {r:Re.Rec} {c:Nat},cK.next b e=(x,(c:Int),0)->Rt.get f x=(r,0)->zM f b a (t ++ [r]) c:=by
 induction h with
 | nil a=>intro x r c h1 h2;exact .cons h1 h2 (.nil c)
 | cons h1 h2 _ ih=>intro x r c h3 h4;exact .cons h1 h2 (ih h3 h4)
theorem zM.bound{f:Int}{b:List UInt8}{a e:Nat}{t:List Re.Rec}(h:zM f b a t e)(ha:a<=b.length):a+6*t.length<=e∧e<=b.length:=by
 induction h with
 | nil a=>simp;exact ha
 | cons h1 _ _ ih =>
  obtain⟨c', hc,h3,h4,_⟩:=cK.j8 h1;have:c' = _:=Int.ofNat.inj hc.symm;subst this;have:=ih h4;simp;omega
theorem zM.one{f:Int}{b:List UInt8}{a e e' : Nat}{t t' : List Re.Rec}(h:zM f b a t e)(hs:sD f b e)(h' : zM f b a t' e')(kB : sD f b e'):t=t' ∧ e=e' := by
 induction h generalizing t' with
 | nil a =>
  cases h' with
  | nil=>exact⟨rfl,rfl⟩
  | cons h1 h2 _ =>
   rcases hs with hs | hs
   ·rw[h1]at hs;exact absurd rfl hs
   ·rw[h1]at hs;exact absurd (by rw[h2]) hs
 | cons h1 h2 _ ih =>
  cases h' with
  | nil =>
   rcases kB with hs | hs
   ·rw[h1]at hs;exact absurd rfl hs
   ·rw[h1]at hs;exact absurd (by rw[h2]) hs
  | cons h3 h4 h5 =>
   rw[h1]at h3
   simp only[Prod.mk.injEq,Int.natCast_inj,and_true]at h3
   obtain⟨rfl,rfl⟩:=h3;rw[h2]at h4
   simp only[Prod.mk.injEq,and_true]at h4
   subst h4;obtain⟨rfl,rfl⟩:=ih hs h5;exact⟨rfl,rfl⟩
theorem zM.good{f:Int}(hf:f=1∨f=2){b:List UInt8}{a e:Nat}{t:List Re.Rec}(h:zM f b a t e) : ∀r∈t,Re.aO f r=0∧r.Fits∧r.cmd.aD 1000∧r.aw.length<=32768:=by
 induction h with
 | nil a=>intro r hr;simp at hr
 | @cons a c e x r t h1 h2 _ ih =>
  intro q hq
  rcases List.mem_cons.1 hq with rfl | hq
  ·have h3:=Rt.yg hf (s:=x) (by rw[h2])
   rw[h2]at h3
   exact⟨h3.1,h3.2.2.1,h3.2.2.2.1,h3.2.2.2.2⟩
  ·exact ih q hq
theorem Bi{f:Int}(hf:f=1∨f=2){b:List UInt8} : ∀(l:List Re.Rec) (a e:Nat),(∀x∈l,Re.aO f x=0∧x.Fits∧x.cmd.aD 1000)->cK.Path b a (l.map (Rt.aN f)) e->zM f b a l e
 | [],a,e,_,h=>by cases h;exact .nil a
 | x :: r,a,e,hl,h=>by
  cases h with
  | cons h1 h2 =>
   obtain⟨g1,g2,g3⟩:=hl x (by simp)
   exact .cons h1 (Rt.Kh hf g1 g2 g3 (by omega)) (Bi hf r _ _ (fun q hq=>hl q (by simp[hq])) h2)
end Sg
def Sg.first(f:Int)(n:Nat):List UInt8:=enc f.toNat++enc n
def Sg.bodies(f:Int)(h:Hd.az)(more:List Re.Rec):List (List UInt8):=Sg.first f (Hd.recs h).length :: (Hd.recs h++more).map (Rt.aN f)
def Sg.file(f:Int)(h:Hd.az)(more:List Re.Rec):List UInt8:=cK.flat (Sg.bodies f h more)
def Sg.Ok(f:Int)(x:Re.Rec):Prop:=Re.aO f x=0∧x.Fits∧x.cmd.aD 1000∧x.aw.length<=100000∧(Rt.aN f x).length<=110000
theorem Sg.iy{f:Int}(y:List UInt8) : ∀l:List Re.Rec,(∀x∈l,Sg.Ok f x)->(cK.flat (y :: l.map (Rt.aN f))).length<=(cK.frame y).length+120000*l.length:=by
 intro l
 induction l using Hd.dB with
 | h0=>intro _;simp[cK.flat]
 | h1 l x ih =>
  intro h
  have h1:=ih fun c hc=>h c (by simp[hc])
  have h2:=(h x (by simp)).2.2.2.2
  have h3:=cK.eR (Rt.aN f x);have h4:=aA (n:=(Rt.aN f x).length) (by omega)
  have e:cK.flat (y :: (l ++ [x]).map (Rt.aN f))=cK.flat (y :: l.map (Rt.aN f))++cK.frame (Rt.aN f x):=by simp[cK.flat]
  rw[e,List.length_append,List.length_append];simp;omega
theorem Sg.cut{f:Int}(hf:f=1∨f=2)(h:Hd.az)(more:List Re.Rec)(hok : ∀x∈Hd.recs h++more,Sg.Ok f x)(hb : ∀y∈Sg.bodies f h more,0<y.length∧y.length<=65536){n:Nat}(hn:n<=(Sg.file f h more).length) :
 ∃k,k<=(Sg.bodies f h more).length∧(∀i,i<(Sg.bodies f h more).length->(cK.ends (Sg.bodies f h more) i<=n↔i<k)) ∧
  (k=0->(cK.next ((Sg.file f h more).take n) (0:Nat)).2.2≠0) ∧
  ∀j,k=j+1 -> ∃c e:Nat,cK.next ((Sg.file f h more).take n) (0:Nat)=(Sg.first f (Hd.recs h).length,(c:Int),0)∧Sg.zM f ((Sg.file f h more).take n) c ((Hd.recs h++more).take j) e∧e=cK.ends (Sg.bodies f h more) j∧(cK.next ((Sg.file f h more).take n) (e:Nat)).2.2≠0:=by
 obtain⟨want,a,hc⟩:=cK.QB n (Sg.bodies f h more);obtain⟨hp,hs⟩:=hc.path hn hb;obtain⟨hw,hl⟩:=hc.xx;refine⟨want.length,hl,fun i hi=>hc.iff hi,fun h0 => ?_,fun j hj => ?_⟩
 ·have:want = []:=List.eq_nil_of_length_eq_zero h0
  subst this;have ha:=hc.at_;have:a=0:=by rw[ha];rfl
  subst this;exact hs
 ·have ha:=hc.at_
  rw[hj]at hw
  have e1:want=Sg.first f (Hd.recs h).length :: ((Hd.recs h++more).take j).map (Rt.aN f):=by
   rw[hw];show(Sg.first f (Hd.recs h).length :: (Hd.recs h++more).map (Rt.aN f)).take (j+1)=_
   rw[List.take_succ_cons,List.map_take]
  rw[e1]at hp
  have hp' : cK.Path ((Sg.file f h more).take n) 0 (Sg.first f (Hd.recs h).length :: ((Hd.recs h++more).take j).map (Rt.aN f)) a:=hp
  cases hp' with
  | @cons _ c _ _ _ h1 h2 =>
   refine⟨c,a,h1,Sg.Bi hf _ _ _ (fun x hx => ?_) h2, ?_,hs⟩
   ·have:=hok x (List.mem_of_mem_take hx)
    exact⟨this.1,this.2.1,this.2.2.1⟩
   ·rw[ha,hw]
    rfl
end Go.Proofs.YtdkdjofnnnljjaaGreatDoor

namespace Go.Proofs.YtdkdjofnnnljjaaGreatDoor
open Go.RowKit
theorem Vs.kV(f:Int):Vs.opens 2 f=if f=1∨f=2 then 0 else 8:=by
 unfold Vs.opens;rcases Vs.rq f with ⟨h,h1⟩ | ⟨h,h1,h2⟩
 ·rw[if_pos ⟨by decide,h⟩,if_neg (by omega),if_pos h1]
 ·rw[if_neg (by rw[h];simp),if_neg (by omega)]
namespace Sg
theorem iG{f:Int}{x:Re.Rec}(h:Re.aO f x=0)(hx:x.Fits):Ok f x∧(0<(Rt.aN f x).length∧(Rt.aN f x).length<=65536)∧(Rt.aN f x).length<=300+x.aw.length:=by
 have hg:=Re.eG (Re.fR h);have hi:=Re.ml hg;have hs:x.cmd.aD 48:=by
  by_cases hk:Re.hc x.kind=true
  ·exact Cm.gu (hg.cmd hk)
  ·rw[Re.jA hg (by simpa using hk)]
   exact⟨by simp[Cm.zero,Cm.aL],by simp[Cm.zero,Cm.aL],by simp[Cm.zero,Cm.aL]⟩
 have h9:=aA (n:=x.aw.length) (by omega)
 have hp:(Pk.text x.aw).length<=9+x.aw.length:=by unfold Pk.text;rw[List.length_append];omega
 have hb:0<(Rt.aN f x).length∧(Rt.aN f x).length<=300+x.aw.length:=by
  unfold Rt.aN;split
  ·have f1:=hx.n x.aF.round (by simp[Re.bX]);have f2:=hx.n x.aF.node (by simp[Re.bX]);have f3:=hx.n x.index (by simp[Re.bX])
   have q1:=aA (n:=x.aF.round.toNat) (by omega);have q2:=aA (n:=x.aF.node.toNat) (by omega);have q3:=aA (n:=x.index.toNat) (by omega)
   have vT:1<=x.kind∧x.kind<=4:=by have:=hg.kind;unfold Re.known at this;simpa using this
   have q0:=aA (n:=(x.kind+16).toNat) (by omega)
   have p0:=lJ (x.kind+16).toNat;have q4:=Cm.wJ 2 x.cmd hx.c hs;have L1:=Mt.cX (Re.hb x.kind) (enc x.aF.round.toNat);have L2:=Mt.cX (Re.hb x.kind) (enc x.aF.node.toNat);have L3:=Mt.cX (Re.hi x.kind) (enc x.index.toNat);have L4:=Mt.cX (Re.hc x.kind) (Cm.bytes 2 x.cmd);have L5:=Mt.cX (Re.hm x.kind) (Pk.text x.aw);unfold Rt.bytes;simp only[List.length_append];omega
  ·have n1:=Ms.oJ (Re.bX x) fun z hz=>(hx.n z hz).2
   have n2:0<(Ms.bZ (Re.bX x)).length:=by
    have p0:=lJ x.kind.toNat;unfold Ms.bZ Re.bX;simp only[List.flatMap_cons,List.length_append];omega
   have n3:(Re.bX x).length=4:=rfl;have q4:=Cm.wJ 1 x.cmd hx.c hs;have ht:(Re.tail x).length<=207+x.aw.length:=by
    unfold Re.tail;split
    ·omega
    ·split
     ·omega
     ·simp
   unfold Re.bytes;rw[List.length_append];omega
 exact⟨⟨h,hx,aD.up hs (by omega),by omega,by omega⟩,⟨hb.1,by omega⟩,hb.2⟩
def n1(y:List UInt8):Int × Int × Int:=Cm.dD y 0 0
def n2(y:List UInt8):Int × Int × Int:=Cm.dD y (n1 y).2.1.toNat (n1 y).2.2
def nd(y:List UInt8):Int:=Cm.done y (n2 y).2.1.toNat (n2 y).2.2
def numbers(y:List UInt8):Int × Int × Int:=if nd y≠0 then (0,0,nd y)else if Vs.opens 2 (n1 y).1≠0 then (0,0,Vs.opens 2 (n1 y).1)else ((n1 y).1,(n2 y).1,0)
theorem pd(y:List UInt8):(∃e,e≠0∧numbers y=(0,0,e)) ∨ ∃f s:Int,(f=1∨f=2)∧0<=s∧s<=9223372036854775807∧numbers y=(f,s,0):=by
 unfold numbers;by_cases h1:nd y=0
 ·rw[if_neg (by simpa using h1)]
  by_cases h2:Vs.opens 2 (n1 y).1=0
  ·rw[if_neg (by simpa using h2)]
   refine .inr ⟨_,_, ?_,(Ms.mJ y _ _).1,(Ms.mJ y _ _).2,rfl⟩;rw[Vs.kV]at h2
   by_cases h3:(n1 y).1=1∨(n1 y).1=2
   ·exact h3
   ·rw[if_neg h3]at h2;omega
  ·rw[if_pos h2]
   exact .inl ⟨_,h2,rfl⟩
 ·rw[if_pos h1]
  exact .inl ⟨_,h1,rfl⟩
theorem Bj : ∃e,e≠0∧numbers []=(0,0,e):=by
 rcases pd []with h | ⟨f,s,hf,_,_,h⟩
 ·exact h
 ·exfalso
  rcases Cm.dr [] 0 0 with ⟨e,he,hn⟩ | ⟨n,q,_,h1,h2,_⟩
  ·have h1:n1 []=(0,((0:Nat):Int),e):=hn
   have h2:n2 []=(0,((0:Nat):Int),e):=by
    unfold n2;rw[h1];exact if_neg he
   have h3:nd []=e:=by
    unfold nd Cm.done;rw[h2];exact if_pos he
   unfold numbers at h
   rw[h3,if_pos he]at h
   simp only[Prod.mk.injEq]at h
   exact he h.2.2
  ·simp at h2;omega
theorem oz{f:Int}(hf:f=1∨f=2){n:Nat}(hn:n<=9223372036854775807):numbers (first f n)=(f,(n:Int),0):=by
 have e1:n1 (first f n)=(f,(((enc f.toNat).length:Nat):Int),0):=by
  have:=Cm.qh [] (enc n) (n:=f.toNat) (by omega)
  rw[List.nil_append,List.nil_append,show((f.toNat:Nat):Int)=f by omega]at this
  exact this
 have e2:n2 (first f n)=((n:Int),(((first f n).length:Nat):Int),0):=by
  have:=Cm.qh (enc f.toNat) [] (n:=n) hn;rw[List.append_nil]at this
  unfold n2;rw[e1];exact this
 unfold numbers nd;rw[e2,e1];dsimp only;rw[Int.toNat_natCast,Cm.tN,if_neg (by simp),if_neg (by rw[Vs.kV,if_pos hf];simp)]
structure Whole(b:List UInt8)(f s:Int)(l:List Re.Rec)(e:Nat):Prop where
 first : ∃(y:List UInt8) (c:Nat),cK.next b ((0:Nat):Int)=(y,(c:Int),0)∧numbers y=(f,s,0)∧zM f b c l e
 stops:sD f b e
 Kj:s<=(l.length:Int)
def kR(b:List UInt8):Prop := ∀f s l e,¬Whole b f s l e
theorem Whole.one{b:List UInt8}{f s f' s' : Int}{l l' : List Re.Rec}{e e' : Nat}(h:Whole b f s l e)(h' : Whole b f' s' l' e'):f=f' ∧ s=s' ∧ l=l' ∧ e=e' := by
 obtain⟨⟨y,c,h1,h2,h3⟩,hs,_⟩:=h;obtain⟨⟨y', c', Xb, Xc, h3'⟩,kB, _⟩:=h';rw[h1]at Xb
 simp only[Prod.mk.injEq,Int.natCast_inj,and_true]at Xb
 obtain⟨rfl,rfl⟩:=Xb;rw[h2]at Xc
 simp only[Prod.mk.injEq,and_true]at Xc
 obtain⟨rfl,rfl⟩:=Xc;obtain⟨rfl,rfl⟩:=h3.one hs h3' kB;exact⟨rfl,rfl,rfl,rfl⟩
theorem Whole.format{b:List UInt8}{f s:Int}{l:List Re.Rec}{e:Nat}(h:Whole b f s l e):f=1∨f=2:=by
 obtain⟨⟨y,c,_,h2,_⟩,_,_⟩:=h;rcases pd y with ⟨e,he,hn⟩ | ⟨f', s', hf,_,_,hn⟩
 ·rw[h2]at hn
  simp only[Prod.mk.injEq]at hn
  exact absurd hn.2.2.symm he
 ·rw[h2]at hn
  simp only[Prod.mk.injEq,and_true]at hn
  rw[hn.1];exact hf
theorem uA{f:Int}(hf:f=1∨f=2){h:Hd.az}{more:List Re.Rec}(hok : ∀x∈Hd.recs h++more,Re.aO f x=0∧x.Fits)(hl:(Hd.recs h).length<=9223372036854775807) : ∀y∈bodies f h more,0<y.length∧y.length<=65536:=by
 intro y hy
 unfold bodies at hy
 rcases List.mem_cons.1 hy with rfl | hy
 ·have p0:=lJ f.toNat
  have q0:=aA (n:=f.toNat) (by omega)
  have q1:=aA hl;unfold first
  rw[List.length_append];omega
 ·obtain⟨x,hx,rfl⟩:=List.mem_map.1 hy
  have:=hok x hx;exact(iG this.1 this.2).2.1
theorem jg(f:Int)(h:Hd.az)(more:List Re.Rec):(bodies f h more).length=(Hd.recs h).length+more.length+1:=by simp[bodies]
theorem uB{f:Int}(hf:f=1∨f=2){h:Hd.az}{more:List Re.Rec}(hok : ∀x∈Hd.recs h++more,Re.aO f x=0∧x.Fits)(hl:(Hd.recs h).length<=9223372036854775807){n:Nat}(hn:n<=(file f h more).length) :
 (n<cK.ends (bodies f h more) (Hd.recs h).length->kR ((file f h more).take n)) ∧
 (∀k,(Hd.recs h).length<=k->k<=(Hd.recs h).length+more.length->cK.ends (bodies f h more) k<=n->(k<(Hd.recs h).length+more.length->n<cK.ends (bodies f h more) (k+1)) ->
   Whole ((file f h more).take n) f ((Hd.recs h).length:Int) ((Hd.recs h++more).take k) (cK.ends (bodies f h more) k)):=by
 have hc:=jg f h more;obtain⟨k0,WV,qi,hz,hs⟩:=cut hf h more (fun x hx=>(iG (hok x hx).1 (hok x hx).2).1) (uA hf hok hl) hn
 constructor
 ·intro hlt f' s' l' e' hw
  have h1 : ¬(Hd.recs h).length<k0:=fun q=>by
   have:=(qi (Hd.recs h).length (by omega)).2 q
   omega
  obtain⟨⟨y,c,g1,g2,g3⟩,g4,g5⟩:=hw
  match k0,hz,hs,h1 with
  | 0,hz,_,_ =>
   have:=hz rfl;rw[g1]at this
   exact this rfl
  | j+1,_,hs,h1 =>
   obtain⟨c', WE, k1,k2,_,k4⟩:=hs j rfl;rw[k1]at g1
   simp only[Prod.mk.injEq,Int.natCast_inj,and_true]at g1
   obtain⟨rfl,rfl⟩:=g1;rw[oz hf hl]at g2
   simp only[Prod.mk.injEq,and_true]at g2
   obtain⟨rfl,rfl⟩:=g2;obtain⟨rfl,_⟩:=k2.one (.inl k4) g3 g4;rw[List.length_take,List.length_append]at g5
   omega
 ·intro k h1 h2 h3 h4
  have h5:k<k0:=(qi k (by omega)).1 h3
  have h6:k+1=k0:=by
   rcases Nat.lt_or_ge (k+1) k0 with q | q
   ·have:=(qi (k+1) (by omega)).2 q
    have:=h4 (by omega)
    omega
   ·omega
  obtain⟨c', WE, k1,k2,k3,k4⟩:=hs k h6.symm;rw[k3]at k2 k4
  refine⟨⟨_,c', k1,oz hf hl,k2⟩, .inl k4, ?_⟩;rw[List.length_take,List.length_append];omega
end Sg
end Go.Proofs.YtdkdjofnnnljjaaGreatDoor

namespace Go.Proofs.YtdkdjofnnnljjaaGreatDoor
open Go.RowKit
section
namespace Dk
structure Op where
 kind:Int
 no:Int
 data:List UInt8
abbrev av := List (Int × List UInt8)
section
variable {α β : Type}
def eD(l:List (Int × α)):Prop:=l.Pairwise fun a b=>a.1<b.1
def get : List (Int × α)->Int->Option α
 | [],_=>none
 | p :: r,n=>if p.1=n then some p.2 else get r n
def ins(n:Int)(x:α):List (Int × α)->List (Int × α)
 | [] => [(n,x)]
 | p :: r=>if n<p.1 then (n,x) :: p :: r else p :: ins n x r
def del(l:List (Int × α))(n:Int):List (Int × α):=l.filter fun p=>p.1 != n
def put(l:List (Int × α))(n:Int)(x:α):List (Int × α):=ins n x (del l n)
def aZ(f:α->β)(l:List (Int × α)):List (Int × β):=l.map fun p=>(p.1,f p.2)
theorem eD.tail{p:Int × α}{r:List (Int × α)}(h:eD (p :: r)):eD r:=(List.pairwise_cons.1 h).2
theorem eD.head{p:Int × α}{r:List (Int × α)}(h:eD (p :: r)) : ∀q∈r,p.1<q.1:=(List.pairwise_cons.1 h).1
theorem eD.nil : eD ([]:List (Int × α)):=List.Pairwise.nil
theorem yP{n:Int}{x:α}{q:Int × α} : ∀ {l:List (Int × α)},q∈ins n x l↔q=(n,x)∨q∈l
 | []=>by simp[ins]
 | p :: r=>by
  unfold ins;split
  ·simp
  ·rw[List.mem_cons,yP (l:=r),List.mem_cons]
   constructor
   ·rintro(h | h | h)<;>simp[h]
   ·rintro(h | h | h)<;>simp[h]
theorem gJ{n:Int}{q:Int × α}{l:List (Int × α)}:q∈del l n↔q∈l∧q.1≠n:=by
 unfold del;rw[List.mem_filter];simp
theorem eI{n:Int}{x:α}{q:Int × α}{l:List (Int × α)}:q∈put l n x↔q=(n,x)∨(q∈l∧q.1≠n):=by
 unfold put;rw[yP,gJ]
theorem Fh{n:Int}{x:α} : ∀ {l:List (Int × α)},eD l->(∀q∈l,q.1≠n)->eD (ins n x l)
 | [],_,_=>by simp[ins,eD]
 | p :: r,h,hn=>by
  unfold ins;split
  ·rename_i hlt
   refine List.pairwise_cons.2 ⟨fun q hq => ?_,h⟩
   rcases List.mem_cons.1 hq with rfl | hq
   ·exact hlt
   ·have:=h.head q hq
    show n<q.1;omega
  ·rename_i hge
   have hp:=hn p (by simp)
   refine List.pairwise_cons.2 ⟨fun q hq => ?_,Fh h.tail (fun _ hq=>hn _ (List.mem_cons_of_mem _ hq))⟩
   rcases yP.1 hq with rfl | hq
   ·show p.1<n
    omega
   ·exact h.head q hq
theorem yQ{n:Int}{l:List (Int × α)}(h:eD l):eD (del l n):=List.Pairwise.filter _ h
theorem yR{n:Int}{x:α}{l:List (Int × α)}(h:eD l):eD (put l n x):=Fh (yQ h) fun _ hq=>(gJ.1 hq).2
theorem get_none{n:Int} : ∀ {l:List (Int × α)},get l n=none ↔ ∀q∈l,q.1≠n
 | []=>by simp[get]
 | p :: r=>by
  unfold get;split
  ·rename_i h
   constructor
   ·intro e;cases e
   ·intro e;exact absurd h (e p (by simp))
  ·rename_i h
   rw[get_none (l:=r)]
   constructor
   ·intro e q hq
    rcases List.mem_cons.1 hq with rfl | hq
    ·exact h
    ·exact e q hq
   ·intro e q hq
    exact e q (List.mem_cons_of_mem _ hq)
theorem get_mem{n:Int}{x:α} : ∀ {l:List (Int × α)},get l n=some x->(n,x)∈l
 | [],h=>by simp[get]at h
 | p :: r,h=>by
  unfold get at h
  split at h
  ·rename_i hp
   simp only[Option.some.injEq]at h
   subst hp h;exact List.mem_cons_self
  ·exact List.mem_cons_of_mem _ (get_mem h)
theorem get_of_mem{n:Int}{x:α} : ∀ {l:List (Int × α)},eD l->(n,x)∈l->get l n=some x
 | [],_,h=>by simp at h
 | p :: r,ha,h=>by
  unfold get;rcases List.mem_cons.1 h with rfl | h
  ·simp
  ·have:=ha.head _ h
   rw[if_neg (by simp only at this;omega)]
   exact get_of_mem ha.tail h
theorem Af{n:Int}{l:List (Int × α)}(h:get l n=none):del l n=l:=by
 unfold del;refine List.filter_eq_self.2 fun q hq => ?_
 have:=get_none.1 h q hq
 simpa using this
theorem Bk(f:α->β)(n:Int)(x:α) : ∀l:List (Int × α),aZ f (ins n x l)=ins n (f x) (aZ f l)
 | []=>rfl
 | p :: r=>by
  show aZ f (if n<p.1 then _ else _)=if n<p.1 then _ else _
  split
  ·rfl
  ·show(p.1,f p.2) :: aZ f (ins n x r)=_
   rw[Bk f n x r]
   rfl
theorem pV(f:α->β)(l:List (Int × α))(n:Int):aZ f (del l n)=del (aZ f l) n:=by
 unfold aZ del;rw[List.filter_map]
 rfl
theorem pU(f:α->β)(l:List (Int × α))(n:Int)(x:α):aZ f (put l n x)=put (aZ f l) n (f x):=by
 unfold put;rw[Bk,pV]
theorem my(f:α->β)(n:Int) : ∀l:List (Int × α),get (aZ f l) n=(get l n).map f
 | []=>rfl
 | p :: r=>by
  show(if p.1=n then _ else get (aZ f r) n)=((if p.1=n then _ else get r n):Option α).map f
  split
  ·rfl
  ·exact my f n r
theorem Bo(f:α->β){l:List (Int × α)}:eD (aZ f l)↔eD l:=by
 unfold eD aZ;rw[List.pairwise_map]
end
def done(F:av)(x:Op):av :=
 match get F x.no with
 | none=>if x.kind=1 then put F x.no []else F
 | some d=>if x.kind=2 then put F x.no (d++x.data)else if x.kind=3 then del F x.no else F
def all(F:av)(B:List Op):av:=B.foldl done F
def cP(n:Int)(most:Nat):Nat:=min n.toNat most
def jD(x:Op)(n:Int):Op:=⟨x.kind,x.no,x.data.take (cP n x.data.length)⟩
def crash(F:av)(B:List Op)(keep cut:Int):av :=
 match B[cP keep B.length]? with
 | none=>all F B
 | some x=>if x.kind=2 then done (all F (B.take (cP keep B.length))) (jD x cut)else all F (B.take (cP keep B.length))
def isKind(k:Int):Prop:=k=1∨k=2∨k=3
def sx(B:List Op):Prop := ∀x∈B,isKind x.kind∧1<=x.no∧x.no<=4294967296
theorem Bp{F:av}(h:eD F)(x:Op):eD (done F x):=by
 unfold done;split
 ·split
  ·exact yR h
  ·exact h
 ·split
  ·exact yR h
  ·split
   ·exact yQ h
   ·exact h
theorem tF{F:av}(h:eD F)(B:List Op):eD (all F B):=by
 unfold all
 induction B generalizing F with
 | nil=>exact h
 | cons x r ih=>exact ih (Bp h x)
theorem jN(F:av)(B:List Op)(x:Op):all F (B ++ [x])=done (all F B) x:=by simp[all,List.foldl_append]
theorem Jz{F:av}{B:List Op}{i:Nat}{x:Op}(h:B[i]? = some x):all F (B.take (i+1))=done (all F (B.take i)) x:=by
 rw[List.take_add_one,h];exact jN _ _ _
theorem GK{F:av}(h:eD F)(B:List Op)(k n:Int):eD (crash F B k n):=by
 unfold crash;split
 ·exact tF h _
 ·split
  ·exact Bp (tF h _) _
  ·exact tF h _
def wt(F:av):Nat:=(F.map fun f=>1+f.2.length).sum
def mD(B:List Op):Nat:=(B.map fun x=>1+x.data.length).sum
theorem ji(f:Int × List UInt8)(F:av):wt (f :: F)=1+f.2.length+wt F:=by simp[wt]
theorem uK(x:Op)(B:List Op):mD (x :: B)=1+x.data.length+mD B:=by simp[mD]
theorem Fb(A B:List Op):mD (A++B)=mD A+mD B:=by simp[mD]
theorem oK{f:Int × List UInt8} : ∀ {F:av},f∈F->1+f.2.length<=wt F
 | [],h=>by simp at h
 | g :: r,h=>by
  rw[ji];rcases List.mem_cons.1 h with rfl | h
  ·omega
  ·have:=oK h;omega
theorem tB{x:Op} : ∀ {B:List Op},x∈B->1+x.data.length<=mD B
 | [],h=>by simp at h
 | g :: r,h=>by
  rw[uK];rcases List.mem_cons.1 h with rfl | h
  ·omega
  ·have:=tB h;omega
theorem mz : ∀F:av,F.length<=wt F
 | []=>by simp
 | f :: r=>by have:=mz r;rw[ji,List.length_cons];omega
theorem j4 : ∀B:List Op,B.length<=mD B
 | []=>by simp
 | f :: r=>by have:=j4 r;rw[uK,List.length_cons];omega
theorem Dp(n:Int)(d:List UInt8) : ∀F:av,wt (ins n d F)=wt F+1+d.length
 | []=>by simp[ins,wt]
 | f :: r=>by
  unfold ins;split
  ·rw[ji];simp only;omega
  ·rw[ji,Dp n d r,ji];omega
theorem nQ(n:Int) : ∀F:av,wt (del F n)<=wt F
 | []=>by simp[del]
 | f :: r=>by
  have:=nQ n r;unfold del at this ⊢
  rw[List.filter_cons];split<;>simp only[ji]<;>omega
theorem Kk{n:Int}{d:List UInt8} : ∀ {F:av},(n,d)∈F->wt (del F n)+(1+d.length)<=wt F
 | [],h=>by simp at h
 | f :: r,h=>by
  rw[ji];have h2:=nQ n r;unfold del at h2 ⊢
  rw[List.filter_cons];rcases List.mem_cons.1 h with rfl | h
  ·rw[if_neg (by simp)]
   simp only;omega
  ·have:=Kk h
   unfold del at this
   split
   ·rw[ji];omega
   ·omega
theorem Fi(F:av)(x:Op):wt (done F x)<=wt F+(1+x.data.length):=by
 unfold done;split
 ·split
  ·unfold put
   rw[Dp];have:=nQ x.no F;simp;omega
  ·omega
 ·rename_i d hd
  split
  ·unfold put
   rw[Dp];have:=Kk (get_mem hd);simp;omega
  ·split
   ·have:=nQ x.no F;omega
   ·omega
theorem tU(B:List Op) : ∀F:av,wt (all F B)<=wt F+mD B:=by
 induction B with
 | nil=>intro F;simp[all,mD]
 | cons x r ih =>
  intro F
  have h1:=ih (done F x);have h2:=Fi F x;rw[uK];show wt (all (done F x) r)<=_;omega
theorem rf(B:List Op)(i:Nat):mD (B.take i)+mD (B.drop i)=mD B:=by rw[<- Fb,List.take_append_drop]
theorem J3(F:av)(B:List Op)(k n:Int):wt (crash F B k n)<=wt F+mD B:=by
 have h1:=rf B (cP k B.length);unfold crash;split
 ·exact tU B F
 ·rename_i x hx
  have h2:=tU (B.take (cP k B.length)) F;split
  ·have h3:=Fi (all F (B.take (cP k B.length))) (jD x n)
   have h4:x∈B.drop (cP k B.length):=by
    obtain⟨hlt,e⟩:=List.getElem?_eq_some_iff.1 hx;rw[List.mem_iff_getElem?];exact⟨0,by simpa using hx⟩
   have h5:=tB h4;have h6:(jD x n).data.length<=x.data.length:=by simp[jD];omega
   omega
  ·omega
theorem rB(F:av)(B:List Op)(k n:Int)(h:(B.length:Int)<=k):crash F B k n=all F B:=by
 unfold crash;have e:cP k B.length=B.length:=by unfold cP;omega
 rw[e,List.getElem?_eq_none (Nat.le_refl _)]
end Dk
end
end Go.Proofs.YtdkdjofnnnljjaaGreatDoor
