/- Several texts of mine in one: WlMath WlNext GBm GHa MsCame. -/
import Derived.Test.YtdkdjofnnnljjaaGreatDoorPDkMath
import Derived.Test.YtdkdjofnnnljjaaGreatDoorPGCr
import Derived.Test.YtdkdjofnnnljjaaGreatDoorPPkMath
import Derived.Test.YtdkdjofnnnljjaaGreatDoorPGRe
import Derived.Test.YtdkdjofnnnljjaaGreatDoorPGPl
import Derived.Lib.LaidU8
namespace Go.Proofs.YtdkdjofnnnljjaaGreatDoor
open Go.RowKit
namespace Sg
theorem GD {f:Int}(hf:f=1∨f=2){h:Hd.az}{more:List Re.Rec}(hok : ∀x∈Hd.recs h++more,Re.aO f x=0∧x.Fits)(hl:(Hd.recs h).length<=9223372036854775807){n:Nat}(hn:n<=(file f h more).length) :
 kR ((file f h more).take n) ∨ ∃j,(Hd.recs h).length<=j∧j<=(Hd.recs h).length+more.length∧cK.ends (bodies f h more) j<=n∧Whole ((file f h more).take n) f ((Hd.recs h).length:Int) ((Hd.recs h++more).take j) (cK.ends (bodies f h more) j):=by
 have hc:=jg f h more;obtain⟨K,hK,qi,_⟩:=cut hf h more (fun x hx=>(iG (hok x hx).1 (hok x hx).2).1) (uA hf hok hl) hn
 obtain⟨h1,h2⟩:=uB hf hok hl hn;rw[hc]at hK qi
 by_cases hk:K<=(Hd.recs h).length
 ·left
  have:=qi (Hd.recs h).length (by omega)
  exact h1 (by omega)
 ·right
  refine⟨K - 1,by omega,by omega,(qi (K - 1) (by omega)).2 (by omega),h2 (K - 1) (by omega) (by omega) ((qi (K - 1) (by omega)).2 (by omega)) fun hlt => ?_⟩
  have:=qi (K - 1+1) (by omega)
  omega
end Sg
namespace Wl
def kS(b:List UInt8)(f:Int)(h:Hd.az):Prop := ∃s l e,Sg.Whole b f s l e∧Hd.of l=h
theorem kS.one{b:List UInt8}{f f' : Int}{h h' : Hd.az}(t:kS b f h)(t' : kS b f' h'):f=f' ∧ h=h' := by
 obtain⟨s,l,e,hw,rfl⟩:=t;obtain⟨s', l', e', hw', rfl⟩:=t';obtain⟨rfl,_,rfl,_⟩:=hw.one hw';exact⟨rfl,rfl⟩
theorem kS.not{b:List UInt8}{f:Int}{h:Hd.az}(t:kS b f h) : ¬Sg.kR b:=fun ht=>by
 obtain⟨s,l,e,hw,_⟩:=t;exact ht _ _ _ _ hw
theorem JX(b:List UInt8):Sg.kR b ∨ ∃f h,kS b f h:=by
 by_cases h : ∃f s l e,Sg.Whole b f s l e
 ·obtain⟨f,s,l,e,hw⟩:=h
  exact .inr ⟨f,_,s,l,e,hw,rfl⟩
 ·exact .inl fun f s l e hw=>h ⟨f,s,l,e,hw⟩
theorem JY : Sg.kR []:=fun f s l e hw=>by
 obtain⟨⟨y,c,h1,_⟩,_⟩:=hw;obtain⟨c', _,h2,h3,_⟩:=cK.j8 h1;simp at h3
 omega
def ey(F:Dk.av)(f:Int)(h:Hd.az):Prop :=
 (∃A n b C,F=A++(n,b) :: C∧kS b f h ∧ ∀q∈C,Sg.kR q.2)∨((∀q∈F,Sg.kR q.2)∧f=1∧h=Hd.zero)
theorem ey.nil : ey [] 1 Hd.zero := .inr ⟨fun q hq=>by simp at hq,rfl,rfl⟩
theorem ey.jD{F:Dk.av}{f:Int}{h:Hd.az}(p:ey F f h)(n:Int){b:List UInt8}(hb:Sg.kR b):ey (F ++ [(n,b)]) f h:=by
 rcases p with ⟨A,m,c,C,rfl,ht,hC⟩ | ⟨hF,rfl,rfl⟩
 ·refine .inl ⟨A,m,c,C ++ [(n,b)],by simp,ht,fun q hq => ?_⟩
  rcases List.mem_append.1 hq with hq | hq
  ·exact hC q hq
  ·obtain rfl:q=(n,b):=by simpa using hq
   exact hb
 ·refine .inr ⟨fun q hq => ?_,rfl,rfl⟩
  rcases List.mem_append.1 hq with hq | hq
  ·exact hF q hq
  ·obtain rfl:q=(n,b):=by simpa using hq
   exact hb
theorem ey.last{F:Dk.av}{f:Int}{h:Hd.az}(n:Int){b:List UInt8}(hb:kS b f h):ey (F ++ [(n,b)]) f h := .inl ⟨F,n,b, [],rfl,hb,fun q hq=>by simp at hq⟩
theorem xg{F:Dk.av}{f f' : Int}{h h' : Hd.az}{n:Int}{b:List UInt8}(hb:kS b f h)(p:ey (F ++ [(n,b)]) f' h'):f' = f∧h' = h:=by
 rcases p with ⟨A,m,c,C,e,ht,hC⟩ | ⟨hF,_⟩
 ·rcases List.eq_nil_or_concat C with rfl | ⟨C', q,rfl⟩
  ·have h2:=List.append_inj_right' e rfl
   simp only[List.cons.injEq,Prod.mk.injEq,and_true]at h2
   obtain⟨rfl,rfl⟩:=h2;obtain⟨rfl,rfl⟩:=ht.one hb;exact⟨rfl,rfl⟩
  ·have h2:F ++ [(n,b)]=(A++(m,c) :: C') ++ [q]:=by rw[e];simp
   have h3:=List.append_inj_right' h2 rfl;obtain rfl:(n,b)=q:=by simpa using h3
   exact absurd (hC (n,b) (by simp)) hb.not
 ·exact absurd (hF (n,b) (by simp)) hb.not
theorem xh{F:Dk.av}{f:Int}{h:Hd.az}{n:Int}{b:List UInt8}(hb:Sg.kR b)(p:ey (F ++ [(n,b)]) f h):ey F f h:=by
 rcases p with ⟨A,m,c,C,e,ht,hC⟩ | ⟨hF,rfl,rfl⟩
 ·rcases List.eq_nil_or_concat C with rfl | ⟨C', q,rfl⟩
  ·have h2:=List.append_inj_right' e rfl
   simp only[List.cons.injEq,Prod.mk.injEq,and_true]at h2
   obtain⟨rfl,rfl⟩:=h2;exact absurd hb ht.not
  ·have h2:F ++ [(n,b)]=(A++(m,c) :: C') ++ [q]:=by rw[e];simp
   have h3:=List.append_inj_left' h2 rfl;exact .inl ⟨A,m,c,C', h3,ht,fun x hx=>hC x (by simp[hx])⟩
 ·exact .inr ⟨fun q hq=>hF q (by simp[hq]),rfl,rfl⟩
theorem ey.one{F:Dk.av}{f f' : Int}{h h' : Hd.az}(p:ey F f h)(p' : ey F f' h'):f=f' ∧ h=h' := by
 induction F using Hd.dB with
 | h0 =>
  rcases p with ⟨A,m,c,C,e,_⟩ | ⟨_,rfl,rfl⟩
  ·simp at e
  ·rcases p' with ⟨A,m,c,C,e,_⟩ | ⟨_,rfl,rfl⟩
   ·simp at e
   ·exact⟨rfl,rfl⟩
 | h1 l x ih =>
  obtain⟨n,b⟩:=x;rcases JX b with ht | ⟨f0,h0,ht⟩
  ·exact ih (xh ht p) (xh ht p')
  ·obtain⟨rfl,rfl⟩:=xg ht p
   obtain⟨rfl,rfl⟩:=xg ht p';exact⟨rfl,rfl⟩
theorem uC{α:Type}{n:Int}{x:α} : ∀ {l:List (Int × α)},(∀q∈l,q.1<n)->Dk.ins n x l=l ++ [(n,x)]
 | [],_=>rfl
 | p :: r,h=>by
  unfold Dk.ins;rw[if_neg (by have:=h p (by simp);omega),uC fun q hq=>h q (by simp[hq])]
  rfl
theorem JZ{α:Type}{n:Int}{x:α}{l:List (Int × α)}(h : ∀q∈l,q.1<n):Dk.del (l ++ [(n,x)]) n=l:=by
 unfold Dk.del;rw[List.filter_append,List.filter_eq_self.2 fun q hq=>by have:=h q hq;simp;omega]
 simp
theorem iH{α:Type}{n:Int}{x y:α}{l:List (Int × α)}(h : ∀q∈l,q.1<n):Dk.put (l ++ [(n,x)]) n y=l ++ [(n,y)]:=by
 unfold Dk.put;rw[JZ h,uC h]
theorem NL{α:Type}{n:Int}{y:α}{l:List (Int × α)}(h : ∀q∈l,q.1<n):Dk.put l n y=l ++ [(n,y)]:=by
 unfold Dk.put;rw[show Dk.del l n=l from List.filter_eq_self.2 fun q hq=>by have:=h q hq;simp;omega,uC h]
theorem AK{α:Type}{n:Int}{x:α} : ∀ {l:List (Int × α)},(∀q∈l,q.1<n)->Dk.get (l ++ [(n,x)]) n=some x
 | [],_=>by simp[Dk.get]
 | p :: r,h=>by
  show Dk.get (p :: (r ++ [(n,x)])) n=_;unfold Dk.get;rw[if_neg (by have:=h p (by simp);omega)]
  exact AK fun q hq=>h q (by simp[hq])
theorem NM{α:Type}{n:Int}{l:List (Int × α)}(h : ∀q∈l,q.1<n):Dk.get l n=none:=Dk.get_none.2 fun q hq=>by have:=h q hq;omega
theorem GF{α:Type}{n m:Int}{x:α}{l:List (Int × α)}(h:m≠n):Dk.del (l ++ [(n,x)]) m=Dk.del l m ++ [(n,x)]:=by
 unfold Dk.del;rw[List.filter_append]
 congr 1
 simp;omega
theorem rA{V:Dk.av}{n:Int}(h : ∀q∈V,q.1<n)(d:List UInt8):Dk.done V ⟨1,n,d⟩=V ++ [(n, [])]:=by
 unfold Dk.done;dsimp only;rw[NM h];dsimp only;rw[if_pos rfl,NL h]
theorem mK{V:Dk.av}{n:Int}{b:List UInt8}(h : ∀q∈V,q.1<n)(d:List UInt8):Dk.done (V ++ [(n,b)]) ⟨2,n,d⟩=V ++ [(n,b++d)]:=by
 unfold Dk.done;dsimp only;rw[AK h];dsimp only;rw[if_pos rfl,iH h]
theorem GG{V:Dk.av}{n m:Int}{b:List UInt8}(hm:m≠n)(d:List UInt8):Dk.done (V ++ [(n,b)]) ⟨3,m,d⟩=Dk.del V m ++ [(n,b)]:=by
 unfold Dk.done;dsimp only;cases hg:Dk.get (V ++ [(n,b)]) m with
 | none =>
  dsimp only;rw[if_neg (by decide)]
  have hn:Dk.get V m=none:=Dk.get_none.2 fun q hq=>Dk.get_none.1 hg q (by simp[hq])
  rw[Dk.Af hn]
 | some y =>
  dsimp only;rw[if_neg (by decide),if_pos rfl,GF hm]
theorem AL(n:Int)(d:List UInt8)(cut:Int):Dk.jD ⟨2,n,d⟩ cut=⟨2,n,d.take (Dk.cP cut d.length)⟩:=rfl
def jM(F:Dk.av)(B:List Dk.Op)(P:Int->Hd.az->Prop):Prop := ∀keep cut,∃f h,P f h∧ey (Dk.crash F B keep cut) f h
theorem jM.synced{F:Dk.av}{P:Int->Hd.az->Prop}{f:Int}{h:Hd.az}(p:ey F f h)(hP:P f h):jM F [] P:=fun keep cut=>⟨f,h,hP,by
 unfold Dk.crash Dk.cP;simp;exact p⟩
theorem jM.snoc{F:Dk.av}{B:List Dk.Op}{P P' : Int->Hd.az->Prop}(h:jM F B P)(hP : ∀f k,P f k->P' f k)(x:Dk.Op)(h1 : ∃f k,P' f k∧ey (Dk.done (Dk.all F B) x) f k)
 (h2:x.kind=2 -> ∀cut,∃f k,P' f k∧ey (Dk.done (Dk.all F B) (Dk.jD x cut)) f k):jM F (B ++ [x]) P' := by
 intro keep cut
 obtain⟨f0,k0,q0,p0⟩:=h keep cut;have old : ∃f k,P' f k∧ey (Dk.crash F B keep cut) f k:=⟨f0,k0,hP _ _ q0,p0⟩;by_cases hc:keep.toNat<B.length
 ·have e1:Dk.cP keep B.length=keep.toNat:=by unfold Dk.cP;omega
  have e2:Dk.cP keep (B ++ [x]).length=keep.toNat:=by unfold Dk.cP;rw[List.length_append];omega
  have e3:Dk.crash F (B ++ [x]) keep cut=Dk.crash F B keep cut:=by
   unfold Dk.crash;rw[e1,e2,List.getElem?_append_left hc,List.take_append_of_le_length (by omega),List.getElem?_eq_getElem hc]
  rw[e3];exact old
 ·have e1:Dk.cP keep B.length=B.length:=by unfold Dk.cP;omega
  have e0:Dk.crash F B keep cut=Dk.all F B:=by
   unfold Dk.crash;rw[e1,List.getElem?_eq_none (Nat.le_refl _)]
  by_cases hl:keep.toNat=B.length
  ·have e2:Dk.cP keep (B ++ [x]).length=B.length:=by unfold Dk.cP;rw[List.length_append];simp;omega
   have e3:Dk.crash F (B ++ [x]) keep cut=if x.kind=2 then Dk.done (Dk.all F B) (Dk.jD x cut)else Dk.all F B:=by
    unfold Dk.crash;rw[e2,List.getElem?_append_right (Nat.le_refl _),Nat.sub_self,List.take_append_of_le_length (Nat.le_refl _),List.take_length]
    rfl
   rw[e3];by_cases hk:x.kind=2
   ·rw[if_pos hk]
    exact h2 hk cut
   ·rw[if_neg hk, <- e0]
    exact old
  ·have e2:Dk.crash F (B ++ [x]) keep cut=Dk.all F (B ++ [x]):=Dk.rB F _ _ _ (by rw[List.length_append];simp;omega)
   rw[e2,Dk.jN];exact h1
structure At(V:Dk.av)(n f:Int)(h:Hd.az)(more:List Re.Rec):Prop where
 view : ∃A,V=A ++ [(n,Sg.file f h more)] ∧ ∀q∈A,q.1<n
 fmt:f=1∨f=2
 ok : ∀x∈Hd.recs h++more,Re.aO f x=0∧x.Fits
 len:(Hd.recs h).length<=9223372036854775807
theorem Dg{f:Int}(hf:f=1∨f=2){h:Hd.az}{more:List Re.Rec}(hok : ∀x∈Hd.recs h++more,Re.aO f x=0∧x.Fits)(hl:(Hd.recs h).length<=9223372036854775807):kS (Sg.file f h more) f (Hd.of (Hd.recs h++more)):=by
 have h1:=(Sg.uB hf hok hl (Nat.le_refl (Sg.file f h more).length)).2 ((Hd.recs h).length+more.length) (by omega) (by omega)
 have e:cK.ends (Sg.bodies f h more) ((Hd.recs h).length+more.length)=(Sg.file f h more).length:=by
  unfold cK.ends Sg.file;rw[List.take_of_length_le (by rw[Sg.jg];omega)]
 rw[e,List.take_length,List.take_of_length_le (by simp)]at h1
 exact⟨_,_,_,h1 (Nat.le_refl _) (by omega),rfl⟩
theorem At.J0{V:Dk.av}{n f:Int}{h:Hd.az}{more:List Re.Rec}(a:At V n f h more):ey V f (Hd.of (Hd.recs h++more)):=by
 obtain⟨A,rfl,_⟩:=a.view;exact ey.last n (Dg a.fmt a.ok a.len)
theorem rC(f:Int)(h:Hd.az)(more:List Re.Rec)(x:Re.Rec):Sg.file f h (more ++ [x])=Sg.file f h more++cK.frame (Rt.aN f x):=by
 unfold Sg.file Sg.bodies;simp[cK.flat]
theorem GH(f:Int)(h:Hd.az)(more:List Re.Rec):cK.ends (Sg.bodies f h more) ((Hd.recs h).length+more.length)=(Sg.file f h more).length:=by
 unfold cK.ends Sg.file;rw[List.take_of_length_le (by rw[Sg.jg];omega)]
theorem GI(f:Int)(h:Hd.az)(more:List Re.Rec)(x:Re.Rec):cK.ends (Sg.bodies f h (more ++ [x])) ((Hd.recs h).length+more.length)=(Sg.file f h more).length:=by
 unfold cK.ends Sg.file Sg.bodies
 congr 2
 rw[<- List.append_assoc,List.map_append, <- List.cons_append,List.take_append_of_le_length (by simp)]
 rw[List.take_of_length_le (by simp)]
theorem At.jD{V:Dk.av}{n f:Int}{h:Hd.az}{more:List Re.Rec}(a:At V n f h more){x:Re.Rec}(hx:Re.aO f x=0∧x.Fits)(cut:Int) :
 ey (Dk.done V (Dk.jD ⟨2,n,cK.frame (Rt.aN f x)⟩ cut)) f (Hd.of (Hd.recs h++more))∨ey (Dk.done V (Dk.jD ⟨2,n,cK.frame (Rt.aN f x)⟩ cut)) f (Hd.of (Hd.recs h++(more ++ [x]))):=by
 obtain⟨A,rfl,hA⟩:=a.view;obtain⟨c,hc⟩ : ∃c,c=Dk.cP cut (cK.frame (Rt.aN f x)).length:=⟨_,rfl⟩;have lW:c<=(cK.frame (Rt.aN f x)).length:=by rw[hc];unfold Dk.cP;omega
 rw[AL, <- hc,mK hA];have hok : ∀y∈Hd.recs h++(more ++ [x]),Re.aO f y=0∧y.Fits:=fun y hy=>by
  rw[<- List.append_assoc]at hy
  rcases List.mem_append.1 hy with hy | hy
  ·exact a.ok y hy
  ·obtain rfl:y=x:=by simpa using hy
   exact hx
 have e:Sg.file f h more++(cK.frame (Rt.aN f x)).take c=(Sg.file f h (more ++ [x])).take ((Sg.file f h more).length+c):=by
  rw[rC,List.take_length_add_append]
 have hlen:(Sg.file f h (more ++ [x])).length=(Sg.file f h more).length+(cK.frame (Rt.aN f x)).length:=by rw[rC,List.length_append]
 obtain⟨_,h2⟩:=Sg.uB a.fmt hok a.len (n:=(Sg.file f h more).length+c) (by omega)
 rw[<- e]at h2
 have e1:=GI f h more x;have e2:=GH f h (more ++ [x]);rw[show(Hd.recs h).length+(more ++ [x]).length=(Hd.recs h).length+more.length+1 by simp;omega]at e2 h2
 by_cases hall:c=(cK.frame (Rt.aN f x)).length
 ·right
  have h3:=h2 ((Hd.recs h).length+more.length+1) (by omega) (by omega) (by rw[e2];omega) (by omega)
  have hfull:(Hd.recs h++(more ++ [x])).take ((Hd.recs h).length+more.length+1)=Hd.recs h++(more ++ [x]):=List.take_of_length_le (by simp;omega)
  rw[hfull]at h3
  exact ey.last n ⟨_,_,_,h3,rfl⟩
 ·left
  have h3:=h2 ((Hd.recs h).length+more.length) (by omega) (by omega) (by rw[e1];omega) (fun _=>by rw[e2];omega)
  have hpre:(Hd.recs h++(more ++ [x])).take ((Hd.recs h).length+more.length)=Hd.recs h++more:=by rw[<- List.append_assoc,List.take_append_of_le_length (by simp),List.take_of_length_le (by simp)]
  rw[hpre]at h3
  exact ey.last n ⟨_,_,_,h3,rfl⟩
theorem At.add{V:Dk.av}{n f:Int}{h:Hd.az}{more:List Re.Rec}(a:At V n f h more){x:Re.Rec}(hx:Re.aO f x=0∧x.Fits):At (Dk.done V ⟨2,n,cK.frame (Rt.aN f x)⟩) n f h (more ++ [x]):=by
 obtain⟨A,rfl,hA⟩:=a.view;rw[mK hA, <- rC];refine⟨⟨A,rfl,hA⟩,a.fmt,fun y hy => ?_,a.len⟩
 rw[<- List.append_assoc]at hy
 rcases List.mem_append.1 hy with hy | hy
 ·exact a.ok y hy
 ·obtain rfl:y=x:=by simpa using hy
  exact hx
theorem GJ{A:Dk.av}{n:Int}{f0:Int}{h0:Hd.az}(p:ey A f0 h0)(hA : ∀q∈A,q.1<n){f:Int}(hf:f=1∨f=2){h:Hd.az}(hv:Hd.Valid h)(hok : ∀x∈Hd.recs h,Re.aO f x=0∧x.Fits)(hl:(Hd.recs h).length<=9223372036854775807)(cut:Int) :
 ey (Dk.done (A ++ [(n, [])]) (Dk.jD ⟨2,n,Sg.file f h []⟩ cut)) f0 h0∨ey (Dk.done (A ++ [(n, [])]) (Dk.jD ⟨2,n,Sg.file f h []⟩ cut)) f h:=by
 obtain⟨c,hc⟩ : ∃c,c=Dk.cP cut (Sg.file f h []).length:=⟨_,rfl⟩;have lW:c<=(Sg.file f h []).length:=by rw[hc];unfold Dk.cP;omega
 rw[AL, <- hc,mK hA,List.nil_append];rcases Sg.GD hf (h:=h) (more := []) (by simpa using hok) hl lW with ht | ⟨j,Nf,hj2,_,hw⟩
 ·exact .inl (p.jD n ht)
 ·right
  rw[List.append_nil,List.take_of_length_le Nf]at hw
  exact ey.last n ⟨_,_,_,hw,Hd.nK hv⟩
theorem At.begun{A:Dk.av}{n:Int}(hA : ∀q∈A,q.1<n){f:Int}(hf:f=1∨f=2){h:Hd.az}(hok : ∀x∈Hd.recs h,Re.aO f x=0∧x.Fits)(hl:(Hd.recs h).length<=9223372036854775807):At (Dk.done (A ++ [(n, [])]) ⟨2,n,Sg.file f h []⟩) n f h []:=by
 rw[mK hA,List.nil_append];exact⟨⟨A,rfl,hA⟩,hf,by simpa using hok,hl⟩
theorem At.drop{V:Dk.av}{n f:Int}{h:Hd.az}{more:List Re.Rec}(a:At V n f h more){m:Int}(hm:m≠n)(d:List UInt8):At (Dk.done V ⟨3,m,d⟩) n f h more:=by
 obtain⟨A,rfl,hA⟩:=a.view;rw[GG hm];exact⟨⟨_,rfl,fun q hq=>hA q (Dk.gJ.1 hq).1⟩,a.fmt,a.ok,a.len⟩
structure Log(F:Dk.av)(B:List Dk.Op)(n f:Int)(h:Hd.az)(more:List Re.Rec)(P:Int->Hd.az->Prop):Prop where
 fine:jM F B P
 now:At (Dk.all F B) n f h more
 last:P f (Hd.of (Hd.recs h++more))
theorem Log.add{F:Dk.av}{B:List Dk.Op}{n f:Int}{h:Hd.az}{more:List Re.Rec}{P P' : Int->Hd.az->Prop}(g:Log F B n f h more P){x:Re.Rec}(hx:Re.aO f x=0∧x.Fits)(hP : ∀f k,P f k->P' f k)(hl:P' f (Hd.of (Hd.recs h++(more ++ [x])))) :
 Log F (B ++ [⟨2,n,cK.frame (Rt.aN f x)⟩]) n f h (more ++ [x]) P' := by
 have ha:=g.now.add hx;refine⟨g.fine.snoc hP _ ⟨f,_,hl,ha.J0⟩ fun _ cut => ?_,by rw[Dk.jN];exact ha,hl⟩
 rcases g.now.jD hx cut with h1 | h1
 ·exact⟨f,_,hP _ _ g.last,h1⟩
 ·exact⟨f,_,hl,h1⟩
theorem Log.sync{F:Dk.av}{B:List Dk.Op}{n f:Int}{h:Hd.az}{more:List Re.Rec}{P P' : Int->Hd.az->Prop}(g:Log F B n f h more P)(hl:P' f (Hd.of (Hd.recs h++more))):Log (Dk.all F B) [] n f h more P' :=
 ⟨jM.synced g.now.J0 hl,g.now,hl⟩
theorem Log.E9{F:Dk.av}{n f:Int}{h:Hd.az}{more:List Re.Rec}{P:Int->Hd.az->Prop} : ∀(ms:List Int) {B:List Dk.Op},(∀m∈ms,m≠n)->Log F B n f h more P->Log F (B++ms.map fun m=>⟨3,m, []⟩) n f h more P
 | [],B,_,g=>by simpa using g
 | m :: r,B,hm,g=>by
  have ha:=g.now.drop (hm m (by simp)) []
  have g1:Log F (B ++ [⟨3,m, []⟩]) n f h more P:=⟨g.fine.snoc (fun _ _ q=>q) _ ⟨f,_,g.last,ha.J0⟩ fun hk=>absurd (show(3:Int)=2 from hk) (by decide),by rw[Dk.jN];exact ha,g.last⟩
  have:=Log.E9 r (fun q hq=>hm q (by simp[hq])) g1
  rw[List.append_assoc]at this
  exact this
theorem Log.begun{F:Dk.av}{B:List Dk.Op}{P P' : Int->Hd.az->Prop}(g:jM F B P){f0:Int}{h0:Hd.az}(p:ey (Dk.all F B) f0 h0)(hp:P f0 h0){n:Int}(hn : ∀q∈Dk.all F B,q.1<n){f:Int}(hf:f=1∨f=2){h:Hd.az}(hv:Hd.Valid h)
 (hok : ∀x∈Hd.recs h,Re.aO f x=0∧x.Fits) (hl:(Hd.recs h).length<=9223372036854775807) (hP : ∀f k,P f k->P' f k) (AM:P' f h) (ms:List Int) (hm : ∀m∈ms,m≠n) :
 Log F (B ++ [⟨1,n, []⟩] ++ [⟨2,n,Sg.file f h []⟩]++ms.map fun m=>⟨3,m, []⟩) n f h [] P' := by
 have e1:Dk.all F (B ++ [⟨1,n, []⟩])=Dk.all F B ++ [(n, [])]:=by rw[Dk.jN,rA hn]
 have g1:jM F (B ++ [⟨1,n, []⟩]) P:=g.snoc (fun _ _ q=>q) _ ⟨f0,h0,hp,by rw[rA hn];exact p.jD n JY⟩ fun hk=>absurd (show(1:Int)=2 from hk) (by decide)
 have ha:=At.begun hn hf hok hl;have hs:Hd.of (Hd.recs h ++ [])=h:=by rw[List.append_nil,Hd.nK hv]
 refine Log.E9 ms hm ⟨g1.snoc hP _ ⟨f,h,AM, ?_⟩ fun _ cut => ?_, ?_,by rw[hs];exact AM⟩
 ·rw[e1, <- hs]
  have:=ha.J0;rw[hs]at this ⊢
  exact this
 ·rw[e1]
  rcases GJ p hn hf hv hok hl cut with h1 | h1
  ·exact⟨f0,h0,hP _ _ hp,h1⟩
  ·exact⟨f,h,AM,h1⟩
 ·rw[Dk.jN,e1]
  exact ha
theorem Log.crashed{F:Dk.av}{B:List Dk.Op}{n f:Int}{h:Hd.az}{more:List Re.Rec}{P:Int->Hd.az->Prop}(g:Log F B n f h more P)(keep cut:Int) : ∃f' h', P f' h' ∧ ey (Dk.crash F B keep cut) f' h' ∧ jM (Dk.crash F B keep cut) [] (fun a b=>a=f' ∧ b=h'):=by
 obtain⟨f', h', hp,pk⟩:=g.fine keep cut;exact⟨f', h', hp,pk,jM.synced pk ⟨rfl,rfl⟩⟩
end Wl
end Go.Proofs.YtdkdjofnnnljjaaGreatDoor

namespace Go.Proofs.YtdkdjofnnnljjaaGreatDoor
open Go.RowKit
section
namespace Wl
def j9(F:Dk.av):Int:=F.foldl (fun a q=>max a q.1) 0
def ke(a:Int)(B:List Dk.Op):Int:=B.foldl (fun a x=>if x.kind=1 then max a x.no else a) a
def next(F:Dk.av)(B:List Dk.Op):Int:=ke (j9 F) B+1
theorem oZ(F:Dk.av)(q:Int × List UInt8):j9 (F ++ [q])=max (j9 F) q.1:=by simp[j9,List.foldl_append]
theorem o6(a:Int)(B:List Dk.Op)(x:Dk.Op):ke a (B ++ [x])=if x.kind=1 then max (ke a B) x.no else ke a B:=by simp[ke,List.foldl_append]
theorem AO(F:Dk.av):0<=j9 F ∧ ∀q∈F,q.1<=j9 F:=by
 induction F using Hd.dB with
 | h0=>exact⟨Int.le_refl _,fun q hq=>by simp at hq⟩
 | h1 l x ih =>
  rw[oZ];refine⟨by omega,fun q hq => ?_⟩
  rcases List.mem_append.1 hq with hq | hq
  ·have:=ih.2 q hq;omega
  ·obtain rfl:q=x:=by simpa using hq
   omega
theorem J1{F:Dk.av}{N:Int}(h0:0<=N)(h : ∀q∈F,q.1<=N):j9 F<=N:=by
 induction F using Hd.dB with
 | h0=>exact h0
 | h1 l x ih =>
  rw[oZ];have h1:=ih fun q hq=>h q (by simp[hq])
  have h2:=h x (by simp)
  omega
theorem AP(a:Int)(B:List Dk.Op):a<=ke a B ∧ ∀x∈B,x.kind=1->x.no<=ke a B:=by
 induction B using Hd.dB with
 | h0=>exact⟨Int.le_refl _,fun q hq=>by simp at hq⟩
 | h1 l x ih =>
  rw[o6];by_cases hx:x.kind=1
  ·rw[if_pos hx]
   refine⟨by omega,fun q hq hk => ?_⟩
   rcases List.mem_append.1 hq with hq | hq
   ·have:=ih.2 q hq hk;omega
   ·obtain rfl:q=x:=by simpa using hq
    omega
  ·rw[if_neg hx]
   refine⟨ih.1,fun q hq hk => ?_⟩
   rcases List.mem_append.1 hq with hq | hq
   ·exact ih.2 q hq hk
   ·obtain rfl:q=x:=by simpa using hq
    exact absurd hk hx
theorem J2{a N:Int}{B:List Dk.Op}(h0:a<=N)(h : ∀x∈B,x.no<=N):ke a B<=N:=by
 induction B using Hd.dB with
 | h0=>exact h0
 | h1 l x ih =>
  rw[o6];have h1:=ih fun q hq=>h q (by simp[hq])
  have h2:=h x (by simp)
  split<;>omega
theorem AQ{V:Dk.av}{x:Dk.Op}{q:Int × List UInt8}(h:q∈Dk.done V x):(∃p∈V,p.1=q.1)∨(x.kind=1∧q.1=x.no):=by
 unfold Dk.done at h
 split at h
 ·split at h
  ·rename_i hk
   rcases Dk.eI.1 h with rfl | ⟨h,_⟩
   ·exact .inr ⟨hk,rfl⟩
   ·exact .inl ⟨q,h,rfl⟩
  ·exact .inl ⟨q,h,rfl⟩
 ·rename_i d hg
  split at h
  ·rcases Dk.eI.1 h with rfl | ⟨h,_⟩
   ·exact .inl ⟨_,Dk.get_mem hg,rfl⟩
   ·exact .inl ⟨q,h,rfl⟩
  ·split at h
   ·exact .inl ⟨q,(Dk.gJ.1 h).1,rfl⟩
   ·exact .inl ⟨q,h,rfl⟩
theorem Fa{F:Dk.av}{B:List Dk.Op}{q:Int × List UInt8}(h:q∈Dk.all F B):(∃p∈F,p.1=q.1) ∨ ∃x∈B,x.kind=1∧q.1=x.no:=by
 induction B using Hd.dB generalizing q with
 | h0=>exact .inl ⟨q,h,rfl⟩
 | h1 l x ih =>
  rw[Dk.jN]at h
  rcases AQ h with ⟨p,hp,e⟩ | ⟨hk,e⟩
  ·rcases ih hp with ⟨r,hr,e2⟩ | ⟨y,hy,hk,e2⟩
   ·exact .inl ⟨r,hr,e2.trans e⟩
   ·exact .inr ⟨y,by simp[hy],hk,e.symm.trans e2⟩
  ·exact .inr ⟨x,by simp,hk,e⟩
theorem lt_next{F:Dk.av}{B:List Dk.Op}{q:Int × List UInt8}(h:q∈Dk.all F B):q.1<next F B:=by
 have h1:=AP (j9 F) B;have h2:=AO F;unfold next;rcases Fa h with ⟨p,hp,e⟩ | ⟨x,hx,hk,e⟩
 ·have:=h2.2 p hp;omega
 ·have:=h1.2 x hx hk;omega
theorem mL(F:Dk.av)(B:List Dk.Op):1<=next F B:=by
 have h1:=AP (j9 F) B;have h2:=AO F;unfold next;omega
def cv(n:Int)(head:List UInt8)(V:Dk.av):List Dk.Op := [⟨1,n, []⟩] ++ [⟨2,n,head⟩]++(V.map (·.1)).map fun m=>⟨3,m, []⟩
structure eJ(F:Dk.av)(B:List Dk.Op)(N:Nat)(M:Nat):Prop where
 files : ∀q∈F,1<=q.1∧q.1<=(N:Int)
 ops : ∀x∈B,Dk.isKind x.kind∧1<=x.no∧x.no<=(N:Int)
 Aa:Dk.eD F
 wt:Dk.wt F+Dk.mD B<=M
section
variable {F : Dk.av} {B : List Dk.Op} {N M : Nat}
theorem eJ.nil : eJ [] [] 0 0:=⟨fun q hq=>by simp at hq,fun q hq=>by simp at hq,Dk.eD.nil,by simp[Dk.wt,Dk.mD]⟩
theorem eJ.kinds(s:eJ F B N M)(h:N<=1000):Dk.sx B:=fun x hx=>by
 obtain⟨h1,h2,h3⟩:=s.ops x hx;exact⟨h1,h2,by omega⟩
theorem eJ.next(s:eJ F B N M):Wl.next F B<=(N:Int)+1:=by
 have h1:=J1 (N:=(N:Int)) (by omega) fun q hq=>(s.files q hq).2
 have h2:=J2 h1 fun x hx=>(s.ops x hx).2.2
 unfold Wl.next;omega
theorem eJ.all(s:eJ F B N M):eJ (Dk.all F B) [] N M:=by
 refine⟨fun q hq => ?_,fun q hq=>by simp at hq,Dk.tF s.Aa B, ?_⟩
 ·rcases Fa hq with ⟨p,hp,e⟩ | ⟨x,hx,hk,e⟩
  ·rw[<- e];exact s.files p hp
  ·rw[e];exact(s.ops x hx).2
 ·have h1:=Dk.tU B F
  have h2:=s.wt;have h3:Dk.mD []=0:=rfl;omega
theorem eJ.more(s:eJ F B N M){N' M' : Nat}(hN:N<=N')(hM:M<=M'):eJ F B N' M' :=
 ⟨fun q hq=>by have:=s.files q hq;omega,fun x hx=>by obtain⟨h1,h2,h3⟩:=s.ops x hx;exact⟨h1,h2,by omega⟩,s.Aa,Nat.le_trans s.wt hM⟩
theorem eJ.snoc(s:eJ F B N M){x:Dk.Op}(hx:Dk.isKind x.kind∧1<=x.no∧x.no<=(N:Int)){l:Nat}(hl:x.data.length<=l):eJ F (B ++ [x]) N (M+1+l):=by
 refine⟨s.files,fun y hy => ?_,s.Aa, ?_⟩
 ·rcases List.mem_append.1 hy with hy | hy
  ·exact s.ops y hy
  ·obtain rfl:y=x:=by simpa using hy
   exact hx
 ·rw[Dk.Fb]
  have:=s.wt;simp[Dk.mD]at this ⊢
  omega
theorem Fc : ∀ {V:Dk.av} {a b:Int},Dk.eD V->(∀q∈V,a<=q.1∧q.1<=b)->(V.length:Int)<=max 0 (b - a+1)
 | [],_,_,_,_=>by simp;omega
 | p :: r,a,b,h,hq=>by
  have h1:=hq p (by simp)
  have:=Fc (a:=p.1+1) (b:=b) h.tail fun q hr=>⟨by have:=h.head q hr;omega,(hq q (by simp[hr])).2⟩
  simp only[List.length_cons];omega
theorem eJ.count(s:eJ F B N M):(Dk.all F B).length<=N:=by
 have:=Fc (a:=1) (b:=(N:Int)) s.all.Aa fun q hq=>s.all.files q hq
 omega
theorem eJ.E9(s:eJ F B N M) : ∀(ms:List Int),(∀m∈ms,1<=m∧m<=(N:Int))->eJ F (B++ms.map fun m=>⟨3,m, []⟩) N (M+ms.length):=by
 intro ms
 induction ms using Hd.dB with
 | h0=>intro _;simpa using s
 | h1 l m ih =>
  intro h
  have h1:=(ih fun q hq=>h q (by simp[hq])).snoc (x:=⟨3,m, []⟩) ⟨.inr (.inr rfl),h m (by simp)⟩ (l:=0) (Nat.le_refl _)
  rw[List.map_append, <- List.append_assoc,List.length_append];exact h1
theorem eJ.cv(s:eJ F B N M){head:List UInt8}{H:Nat}(hh:head.length<=H):eJ F (B++Wl.cv (Wl.next F B) head (Dk.all F B)) (N+1) (M+2+H+N):=by
 have R9:=mL F B;have VI:=s.next;have s1:=((s.more (N' := N+1) (M' := M) (by omega) (Nat.le_refl _)).snoc (x:=⟨1,Wl.next F B, []⟩) ⟨.inl rfl,R9,by exact_mod_cast VI⟩ (l:=0) (Nat.le_refl _)).snoc (x:=⟨2,Wl.next F B,head⟩) ⟨.inr (.inl rfl),R9,by exact_mod_cast VI⟩ hh
 have s2:=s1.E9 ((Dk.all F B).map (·.1)) fun m hm=>by
  obtain⟨q,hq,rfl⟩:=List.mem_map.1 hm;have:=s.all.files q hq;omega
 have hc:=s.count;unfold Wl.cv;rw[<- List.append_assoc, <- List.append_assoc];rw[List.length_map]at s2
 exact s2.more (Nat.le_refl _) (by omega)
theorem eJ.crash(s:eJ F B N M)(k t:Int):eJ (Dk.crash F B k t) [] N M:=by
 have h0 : ∀i,eJ F (B.take i) N M:=fun i=>⟨s.files,fun x hx=>s.ops x (List.mem_of_mem_take hx),s.Aa,by
  have h1:=Dk.rf B i;have h2:=s.wt;omega⟩
 have hw:=Dk.J3 F B k t;refine⟨?_,fun q hq=>by simp at hq,Dk.GK s.Aa B k t, ?_⟩
 ·intro q hq
  unfold Dk.crash at hq
  split at hq
  ·exact s.all.files q hq
  ·rename_i x hx
   split at hq
   ·rcases AQ hq with ⟨p,hp,e⟩ | ⟨hk,e⟩
    ·rw[<- e];exact(h0 _).all.files p hp
    ·rename_i hk2
     have:x.kind=1:=hk;omega
   ·exact(h0 _).all.files q hq
 ·have:=s.wt
  have h3:Dk.mD []=0:=rfl;omega
end
end Wl
end
end Go.Proofs.YtdkdjofnnnljjaaGreatDoor

namespace Go.Proofs.YtdkdjofnnnljjaaGreatDoor
open Go.RowKit
set_option maxHeartbeats 1600000
set_option maxRecDepth 4000
theorem Bl.GL{x c:Bl.dM}{r:List Bl.dM}{k:Nat}(h:r[k]? = some c):Bl.most (x :: r.take (k+1))=Bl.top (Bl.most (x :: r.take k)) c:=by
 rw[List.take_add_one,h];exact Bl.Gy x _ c
theorem AR(v:Value)(l:List Bl.dM)(w:World)(hv:lF w v l):Calls Tryz.prog 98 #[v] w (Looks w (.agg (Bl.cells (Bl.most l)))):=by
 obtain⟨ao,cap,rfl,hc1,hc2⟩:=hv.shape;rw[List.length_map]at hc1 ⊢
 cases l with
 | nil =>
  obtain⟨w1,e1,aH,aq,hz1⟩:=pP w Bl.zero;have dh:=aa aH;have aG:=aa aq;dsimp only [Bl.cells,Bl.zero]at e1
  clear aH aq hz1
  go_enter Tryz.func98,Tryz.ntmps98
  go_wp2_with (refine rD (by rfl) _ _ (by rfl) w.heap.size Bl.zero Bl.zero (by rfl) (by rfl) dh.out ?_;intro w2 hl2 hg2)
  refine AU rfl rfl hl2 rfl ?_;exact⟨rfl,aG.grown hg2 aG.size (by rintro j hj;cases hj;omega)⟩
 | cons x r =>
  obtain⟨b,off,rfl,hlt,hc⟩:=lF.places hv (by simp)
  obtain⟨n,hn⟩ : ∃n,n=r.length:=⟨_,rfl⟩;rw[show(x :: r).length=n+1 by rw[hn];rfl]at hc1 ⊢
  have hv' : lF w (.slice (some ⟨b,off,none⟩) (n+1) cap) (x :: r):=by rw[hn];simpa using hv
  obtain⟨zD,GM,hr⟩:=aQ.rest hv' 1 (by omega)
  rw[show n+1 - 1=n by omega]at GM hr
  have hr' : lF w (.slice zD n (cap - 1)) r:=hr;have Qp : ∀W:World,(Instr.slice 182 (.slice (some ⟨b,off,none⟩) (n+1) cap) (some (.int .i64 1)) none none).run Tryz.prog W = .ok (.slice zD n (cap - 1)) W:=fun W=>(yK W _ _ _ 1 (by omega)).trans (by rw[GM])
  obtain⟨w1,e1,aH,jb,aq,hz1⟩:=uD w Bl.zero x;obtain⟨w0,e0⟩ : ∃w0,w.alloc (.cells #[.int .i64 0, .int .i64 0] 29)=w0:=⟨_,rfl⟩;have hb0:Below w.heap.size w w0:=by rw[<- e0];exact(Below.refl _ w).alloc (Nat.le_refl _) _
  have hs0:w0.heap.size=w.heap.size+1:=by rw[<- e0];simp
  have hx0:=hc w0 hb0 0 x rfl;rw[Nat.zero_mul,Nat.add_zero]at hx0
  obtain⟨hx0,hx1⟩:=hx0;dsimp only [Bl.cells,Bl.zero]at e1
  rw[e0]at e1
  rw[<- hs0]at jb
  have hnb:n<9223372036854775807:=by omega
  have W8:w.heap.size<w0.heap.size:=by omega
  have aG:=aa aq;have dh:=aa aH;have lr:=aa jb;have HN:=aa hn;obtain⟨m,hm⟩ : ∃m,m=n+1:=⟨_,rfl⟩;have hm0:((m:Int) == 0)=false:=by simp;omega
  have CD:0<m:=by omega
  rw[<- hm]at Qp ⊢
  have HR:=aa hr';clear hv hv' GM hr hr' hc hn aq aH jb hz1 hb0 hc2 hm hlt hc1 hs0
  go_enter Tryz.func98,Tryz.ntmps98
  go_wp2
  go_loopw [16] (fun y wr => ∃k:Nat,y = .int .i64 (k:Int)∧k<=n∧iP wr w0.heap.size (Bl.most (x :: r.take k))∧iP wr w.heap.size Bl.zero∧Below w.heap.size w wr) (fun y _=>n - (intOf y).toNat)
  case atStart=>exact⟨0,rfl,by omega,lr.out,dh.out,aG.out⟩
  case round =>
   obtain⟨k,rfl,hk,hG,hO,hB⟩:=hrel;have HG:=aa hG;have HO:=aa hO;have HB:=aa hB;clear hG hO hB;by_cases hlt:k<n
   ·obtain⟨c,TA⟩ : ∃c,r[k]? = some c:=⟨_,List.getElem?_eq_getElem (by have:=HN.out;omega)⟩
    obtain⟨b2,abM,rfl,W9,hc⟩:=lF.places HR.out (by have:=HN.out;omega)
    obtain⟨c0,c1⟩:=hc wr HB.out k c TA;obtain⟨g,hg⟩ : ∃g,g=Bl.most (x :: r.take k):=⟨_,rfl⟩;rw[<- hg]at HG
    have uE:Hid (Bl.most (x :: r.take (k+1))=Bl.top g c):=by show _=_;rw[hg];exact Bl.GL TA
    obtain⟨w3,e3,fk,jx,hz3⟩:=pP wr c;have TB:=HG.below jx HG.lt;obtain⟨g0,g1⟩:=iP.both TB;obtain⟨d0,d1⟩:=iP.both fk;have pT:=aa TB;have pY:=aa fk;have om:=aa (HO.below jx HO.lt);have bh:=aa (HB.trans (jx.mono HB.size));dsimp only [Bl.cells]at e3
    clear TA hc hg TB fk jx hz3 W9
    go_wp2_with fail
    refine(xj g c _).mono ?_;rintro e w4 ⟨rfl,og⟩;have Zv:=pT.below og pT.lt;have VM:=aa (pY.below og pY.lt);have Gg:=aa Zv;have qQ:=aa (om.below og om.lt);have bJ:=aa (bh.trans (og.mono bh.size));obtain⟨m0,m1⟩:=iP.both VM.out;obtain⟨t,ht⟩ : ∃t,t=Bl.less g c:=⟨_,rfl⟩;rw[<- ht];have HT:=aa ht;clear ht Zv og g0 g1 d0 d1 c0 c1;cases t with
    | false =>
     have Xa:Hid (Bl.top g c=g):=by show _=_;rw[Bl.top, <- HT.out];rfl
     go_wp2
     go_roundw
     case rel=>exact⟨k+1,by go_num,by omega,by rw[uE.out,Xa.out];exact Gg.out,qQ.out,bJ.out⟩
     case measure=>simp[intOf];omega
    | true =>
     have Xa:Hid (Bl.top g c=c):=by show _=_;rw[Bl.top, <- HT.out];rfl
     go_wp2_with (refine rD (by rfl) _ _ (by rfl) w0.heap.size g c (by rfl) (by rfl) Gg.out ?_;intro w5 eN bU)
     have iW:=aa (qQ.kept bU (by simp;omega))
     have bK:=aa (bJ.grown bU bJ.size (by rintro j hj;cases hj;omega))
     go_roundw
     case rel=>exact⟨k+1,by go_num,by omega,by rw[uE.out,Xa.out];exact eN,iW.out,bK.out⟩
     case measure=>simp[intOf];omega
   ·obtain rfl:k=n:=by omega
    obtain⟨g,hg⟩ : ∃g,g=Bl.most (x :: r):=⟨_,rfl⟩;have Zw:Bl.most (x :: r.take k)=g:=by rw[hg,HN.out,List.take_length]
    rw[Zw]at HG
    obtain⟨g0,g1⟩:=iP.both HG.out;have TC:=aa hg;clear Zw hg
    go_wp2_with (refine rD (by rfl) _ _ (by rfl) w.heap.size Bl.zero g (by rfl) (by rfl) HO.out ?_;intro w5 eN bU)
    refine AU rfl rfl eN rfl ?_;exact⟨by rw[TC.out],HB.grown bU HB.size (by rintro j hj;cases hj;omega)⟩
end Go.Proofs.YtdkdjofnnnljjaaGreatDoor

namespace Go.Proofs.YtdkdjofnnnljjaaGreatDoor
open Go.RowKit
set_option maxHeartbeats 3200000
set_option maxRecDepth 4000
section
def Hd.cells(h:Hd.az)(vi va vc:Value):Array Value := #[.int .i64 h.aC.round, .int .i64 h.aC.node, .int .i64 h.base,vi,va,vc]
abbrev AV(w:World)(g:Nat)(h:Hd.az)(vi va vc:Value):Prop:=ae w g 33 (Hd.cells h vi va vc)
structure cH(w:World)(h:Hd.az)(vi va vc:Value):Prop where
 aw:Reads w vi h.aw
 acc:aW w va h.acc
 bl:aW w vc h.bl
theorem cH.below{w w' : World}{h:Hd.az}{vi va vc:Value}(r:cH w h vi va vc)(hb:Below w.heap.size w w'):cH w' h vi va vc:=⟨r.aw.below hb,r.acc.below hb,r.bl.below hb⟩
def jh(q:Nat->Prop)(v:Value):Prop := ∀(x:Addr) (n c:Nat),v = .slice (some x) n c->0<n->q x.block
theorem jh.imp{q q' : Nat->Prop}{v:Value}(h:jh q v)(hq : ∀b,q b->q' b):jh q' v:=fun x n c e h0=>hq _ (h x n c e h0)
theorem jh.bare(q:Nat->Prop)(n c:Nat):jh q (.slice none n c):=fun x n c e=>by cases e
theorem jh.o7{w:World}{base:Nat}{E:TypeId}{k n:Nat}{v:Value}{us:List Value}(h:w.ownsRow base E k v n us):jh (fun b=>base<=b) v:=by
 rcases h.2 with ⟨rfl,_⟩ | ⟨g,cap,cur,rfl,hb,_⟩
 ·exact jh.bare _ _ _
 ·intro x n c e _
  cases e;exact hb
theorem aS.AW{q:Nat->Prop}{w:World}{v:Value}{l:List UInt8}(h:aS (fun b _=>q b) w v l):jh q v:=by
 intro x n c e h0
 subst e;obtain⟨ao,cap,e2,_⟩:=h.1;cases e2;obtain⟨y,m,d,_,_,_,e3,_,hq⟩:=h.2 h0;cases e3;exact hq
theorem Reads.AW{q:Nat->Prop}{w:World}{v:Value}{l:List UInt8}(h:Reads w v l)(hq:jh q v):aS (fun b _=>q b) w v l:=by
 refine⟨h,fun h0 => ?_⟩
 obtain⟨ao,cap,rfl⟩:=h.shape;obtain⟨b,off,rfl,hc⟩:=h.place h0;obtain⟨cs,t,fr,hb⟩:=kz (hc 0 _ (List.getElem?_eq_getElem h0));exact⟨_,_,_,cs,t,fr,rfl,hb,hq _ _ _ rfl h0⟩
structure kA(q:Nat->Prop)(w:World)(v:Value)(l:List UInt8):Prop where
 rd:Reads w v l
 pi:jh q v
theorem kA.below{q:Nat->Prop}{w w' : World}{v:Value}{l:List UInt8}(h:kA q w v l)(hb:Below w.heap.size w w'):kA q w' v l:=⟨h.rd.below hb,h.pi⟩
structure bL(q:Nat->Prop)(w:World)(h:Hd.az)(vi va vc:Value):Prop where
 rows:cH w h vi va vc
 pi:jh q vi
 pa:jh q va
 pc:jh q vc
section
variable {q q' : Nat -> Prop} {w w' : World} {h : Hd.az} {vi va vc : Value}
theorem bL.aw(r:bL q w h vi va vc):Reads w vi h.aw:=r.rows.aw
theorem bL.acc(r:bL q w h vi va vc):aW w va h.acc:=r.rows.acc
theorem bL.bl(r:bL q w h vi va vc):aW w vc h.bl:=r.rows.bl
theorem bL.below(r:bL q w h vi va vc)(hb:Below w.heap.size w w'):bL q w' h vi va vc:=⟨r.rows.below hb,r.pi,r.pa,r.pc⟩
theorem bL.imp(r:bL q w h vi va vc)(hq : ∀b,q b->q' b):bL q' w h vi va vc:=⟨r.rows,r.pi.imp hq,r.pa.imp hq,r.pc.imp hq⟩
end
theorem kT(w:World)(h:Hd.az)(vi va vc:Value) : ∃w1,w.alloc (.cells (Hd.cells h vi va vc) 33)=w1∧AV w1 w.heap.size h vi va vc∧Below w.heap.size w w1∧w1.heap.size=w.heap.size+1 :=
 ⟨_,rfl,ae.new w _ _,(Below.refl _ w).alloc (Nat.le_refl _) _,by simp⟩
theorem GN(w:World)(h:Hd.az)(vi va vc:Value)(k:Hd.az)(ui ua uc:Value) : ∃w1,(w.alloc (.cells (Hd.cells h vi va vc) 33)).alloc (.cells (Hd.cells k ui ua uc) 33)=w1∧AV w1 w.heap.size h vi va vc∧AV w1 (w.heap.size+1) k ui ua uc∧Below w.heap.size w w1:=by
 obtain⟨w1,e1,h1,b1,s1⟩:=kT w h vi va vc;obtain⟨w2,e2,h2,b2,s2⟩:=kT w1 k ui ua uc;rw[s1]at h2
 exact⟨w2,by rw[e1,e2],h1.below b2 (by omega),h2,b1.trans (b2.mono b1.size)⟩
theorem rE(h k:Hd.az)(vi va vc ui ua uc:Value)(w:World)(hr:cH w h vi va vc)(kr:cH w k ui ua uc) :
 Calls Tryz.prog 21 #[.agg (Hd.cells h vi va vc), .agg (Hd.cells k ui ua uc)] w (Looks w (.bool (decide (h=k)))):=by
 obtain⟨w1,e1,aH,hl2,aq⟩:=GN w h vi va vc k ui ua uc;have c0:w1.cell? ⟨w.heap.size,0,none⟩=some (.int .i64 h.aC.round):=aH.cell 0 _ rfl;have c1:w1.cell? ⟨w.heap.size,1,none⟩=some (.int .i64 h.aC.node):=aH.cell 1 _ rfl;have c2:w1.cell? ⟨w.heap.size,2,none⟩=some (.int .i64 h.base):=aH.cell 2 _ rfl;have c3:w1.cell? ⟨w.heap.size,3,none⟩=some (vi):=aH.cell 3 _ rfl;have c4:w1.cell? ⟨w.heap.size,4,none⟩=some (va):=aH.cell 4 _ rfl;have c5:w1.cell? ⟨w.heap.size,5,none⟩=some (vc):=aH.cell 5 _ rfl;have d0:w1.cell? ⟨w.heap.size+1,0,none⟩=some (.int .i64 k.aC.round):=hl2.cell 0 _ rfl;have d1:w1.cell? ⟨w.heap.size+1,1,none⟩=some (.int .i64 k.aC.node):=hl2.cell 1 _ rfl;have d2:w1.cell? ⟨w.heap.size+1,2,none⟩=some (.int .i64 k.base):=hl2.cell 2 _ rfl;have d3:w1.cell? ⟨w.heap.size+1,3,none⟩=some (ui):=hl2.cell 3 _ rfl;have d4:w1.cell? ⟨w.heap.size+1,4,none⟩=some (ua):=hl2.cell 4 _ rfl;have d5:w1.cell? ⟨w.heap.size+1,5,none⟩=some (uc):=hl2.cell 5 _ rfl;have hgd:=jq;have heq:=fun W=>iB W h.aC k.aC
 obtain⟨t,ht⟩ : ∃t,t=decide (h.aC=k.aC):=⟨_,rfl⟩;rw[<- ht]at heq
 obtain⟨r,hb⟩ : ∃r,(h.base == k.base)=r:=⟨_,rfl⟩;obtain⟨q,hq⟩ : ∃q,(h.aw == k.aw)=q:=⟨_,rfl⟩;obtain⟨s,hs⟩ : ∃s,decide (h.acc=k.acc)=s:=⟨_,rfl⟩;obtain⟨u,hu⟩ : ∃u,decide (h.bl=k.bl)=u:=⟨_,rfl⟩;have HM:Hid (decide (h=k)=(t && (r && (q && (s && u))))):=by
  show _=_;rw[ht, <- hb, <- hq, <- hs, <- hu];obtain⟨p1,b1,i1,a1,x1⟩:=h;obtain⟨p2,b2,i2,a2,x2⟩:=k;rw[Bool.eq_iff_iff];simp
 have dh:=aa aH;have ej:=aa hl2;have HR:=aa (hr.below aq);have KR:=aa (kr.below aq);have HB:=aa aq;have HQ:=aa hq;have HS:=aa hs;have HU:=aa hu;clear ht hq hs hu aH hl2 aq hr kr;dsimp only [Bl.cells]at heq
 go_enter Tryz.func21,Tryz.ntmps21
 cases t with
 | false =>
  go_wp2;go_ret;exact⟨by rw[HM.out];rfl,HB.out⟩
 | true =>
  cases r with
  | false =>
   go_wp2;go_ret;exact⟨by rw[HM.out];rfl,HB.out⟩
  | true =>
   go_wp2_with fail
   refine(J4 _ _ h.aw k.aw _ HR.aw KR.out.aw).mono ?_;rintro e w2 ⟨rfl,n2,rfl⟩;rw[HQ.out];have aR:Hid (Below w1.heap.size w1 (w1.drewN n2)):=drawn w1 n2;obtain⟨w2,hw2⟩ : ∃w2,w2=w1.drewN n2:=⟨_,rfl⟩;rw[<- hw2]at aR ⊢
   clear hw2;cases q with
   | false =>
    go_wp2;go_ret;exact⟨by rw[HM.out];rfl,HB.trans (aR.mono HB.size)⟩
   | true =>
    have m4:w2.cell? ⟨w.heap.size,4,none⟩=some va:=(dh.below aR.out dh.lt).cell 4 _ rfl;have n4:w2.cell? ⟨w.heap.size+1,4,none⟩=some ua:=(ej.below aR.out ej.lt).cell 4 _ rfl
    go_wp2_with fail
    refine(wG _ _ h.acc k.acc _ (HR.acc.below aR.out) (KR.out.acc.below aR.out)).mono ?_;rintro e w3 ⟨rfl,hb3⟩;rw[HS.out];have bh:=aa (aR.trans (hb3.mono aR.size));clear hb3;cases s with
    | false =>
     go_wp2;go_ret;exact⟨by rw[HM.out];rfl,HB.trans (bh.mono HB.size)⟩
    | true =>
     have m5:w3.cell? ⟨w.heap.size,5,none⟩=some vc:=(dh.below bh.out dh.lt).cell 5 _ rfl;have n5:w3.cell? ⟨w.heap.size+1,5,none⟩=some uc:=(ej.below bh.out ej.lt).cell 5 _ rfl
     go_wp2_with fail
     refine(wG _ _ h.bl k.bl _ (HR.bl.below bh.out) (KR.out.bl.below bh.out)).mono ?_;rintro e w4 ⟨rfl,hb4⟩;rw[HU.out];have bJ:=aa (bh.trans (hb4.mono bh.size));clear hb4;go_wp2;go_ret;exact⟨by rw[HM.out];rfl,HB.trans (bJ.mono HB.size)⟩
end
section
def Hd.fQ(p:Bl.dM)(b:Int)(vi va vc:Value):Array Value := #[.int .i64 p.round, .int .i64 p.node, .int .i64 b,vi,va,vc]
theorem Hd.J5(p:Bl.dM)(b:Int){vi va vc:Value}(h1:vi.oneCell' = true)(h2:va.oneCell' = true)(h3:vc.oneCell' = true):(Hd.fQ p b vi va vc).toList.all (·.oneCell')=true:=by
 simp[Hd.fQ,h1,h2,h3];exact⟨rfl,rfl,rfl⟩
theorem Hd.NN(p:Bl.dM)(b:Int)(io:Option Addr)(ik ic:Nat)(ao:Option Addr)(ak ac:Nat)(co:Option Addr)(ck cc:Nat)(x:Int) : ∀j:Nat,(Hd.fQ p b (.slice io ik ic) (.slice ao ak ac) (.slice co ck cc))[j]? ≠ some (.int .u8 x)
 | 0=>by simp[Hd.fQ]
 | 1=>by simp[Hd.fQ]
 | 2=>by simp[Hd.fQ]
 | 3=>by simp[Hd.fQ]
 | 4=>by simp[Hd.fQ]
 | 5=>by simp[Hd.fQ]
 | j+6=>by simp[Hd.fQ]
theorem Hd.GO(p:Bl.dM)(b:Int)(io:Option Addr)(ik ic:Nat)(ao:Option Addr)(ak ac:Nat)(co:Option Addr)(ck cc:Nat)(x:ByteArray) : ∀j:Nat,(Hd.fQ p b (.slice io ik ic) (.slice ao ak ac) (.slice co ck cc))[j]? ≠ some (.string x)
 | 0=>by simp[Hd.fQ]
 | 1=>by simp[Hd.fQ]
 | 2=>by simp[Hd.fQ]
 | 3=>by simp[Hd.fQ]
 | 4=>by simp[Hd.fQ]
 | 5=>by simp[Hd.fQ]
 | j+6=>by simp[Hd.fQ]
structure aB(w:World)(g:Nat)(T:TypeId)(p:Bl.dM)(b:Int)(vi va vc:Value):Prop where
 ag:ae w g T (Hd.fQ p b vi va vc)
 vi : ∃o k c,vi = .slice o k c
 va : ∃o k c,va = .slice o k c
 vc : ∃o k c,vc = .slice o k c
theorem cH.sl{w:World}{h:Hd.az}{vi va vc:Value}(r:cH w h vi va vc):(∃o k c,vi = .slice o k c)∧(∃o k c,va = .slice o k c)∧(∃o k c,vc = .slice o k c):=by
 obtain⟨io,ic,e1⟩:=r.aw.shape;obtain⟨ao,ac,e2,_⟩:=aW.shape r.acc;obtain⟨co,cc,e3,_⟩:=aW.shape r.bl;exact⟨⟨_,_,_,e1⟩,⟨_,_,_,e2⟩,⟨_,_,_,e3⟩⟩
theorem aB.of{w W:World}{g:Nat}{T:TypeId}{h:Hd.az}{vi va vc:Value}(hl:ae W g T (Hd.cells h vi va vc))(r:cH w h vi va vc):aB W g T h.aC h.base vi va vc:=⟨hl,r.sl.1,r.sl.2.1,r.sl.2.2⟩
theorem aB.Qq{w:World}{g:Nat}{T:TypeId}{p:Bl.dM}{b:Int}{vi va vc:Value}(h:aB w g T p b vi va vc)(j:Nat)(x:Int):(Hd.fQ p b vi va vc)[j]? ≠ some (.int .u8 x):=by
 obtain⟨_,_,_,rfl⟩:=h.vi;obtain⟨_,_,_,rfl⟩:=h.va;obtain⟨_,_,_,rfl⟩:=h.vc;exact Hd.NN _ _ _ _ _ _ _ _ _ _ _ _ _
theorem aB.AX{w:World}{g:Nat}{T:TypeId}{p:Bl.dM}{b:Int}{vi va vc:Value}(h:aB w g T p b vi va vc)(j:Nat)(x:ByteArray):(Hd.fQ p b vi va vc)[j]? ≠ some (.string x):=by
 obtain⟨_,_,_,rfl⟩:=h.vi;obtain⟨_,_,_,rfl⟩:=h.va;obtain⟨_,_,_,rfl⟩:=h.vc;exact Hd.GO _ _ _ _ _ _ _ _ _ _ _ _ _
theorem aB.ok{w:World}{g:Nat}{T:TypeId}{p:Bl.dM}{b:Int}{vi va vc:Value}(h:aB w g T p b vi va vc):vi.oneCell' = true∧va.oneCell' = true∧vc.oneCell' = true:=by
 obtain⟨_,_,_,rfl⟩:=h.vi;obtain⟨_,_,_,rfl⟩:=h.va;obtain⟨_,_,_,rfl⟩:=h.vc;exact⟨rfl,rfl,rfl⟩
theorem aB.below{w w' : World}{B g:Nat}{T:TypeId}{p:Bl.dM}{b:Int}{vi va vc:Value}(h:aB w g T p b vi va vc)(hb:Below B w w')(hB:g<B):aB w' g T p b vi va vc:=⟨h.ag.below hb hB,h.vi,h.va,h.vc⟩
theorem aB.kept{w w' : World}{o:Nat}{g:Nat}{T:TypeId}{p:Bl.dM}{b:Int}{vi va vc:Value}(h:aB w g T p b vi va vc)(hg:w.grownBy w' (some o))(hne:g≠o):aB w' g T p b vi va vc:=⟨h.ag.kept hg (by simpa using hne),h.vi,h.va,h.vc⟩
theorem aB.all{w:World}{g:Nat}{T:TypeId}{p:Bl.dM}{b:Int}{vi va vc:Value}(h:aB w g T p b vi va vc):w.cell? ⟨g,0,none⟩=some (.int .i64 p.round)∧w.cell? ⟨g,1,none⟩=some (.int .i64 p.node)∧w.cell? ⟨g,2,none⟩=some (.int .i64 b)∧w.cell? ⟨g,3,none⟩=some vi∧w.cell? ⟨g,4,none⟩=some va∧w.cell? ⟨g,5,none⟩=some vc :=
 ⟨h.ag.cell 0 _ rfl,h.ag.cell 1 _ rfl,h.ag.cell 2 _ rfl,h.ag.cell 3 _ rfl,h.ag.cell 4 _ rfl,h.ag.cell 5 _ rfl⟩
theorem cH.over{w w' : World}{h:Hd.az}{ui ua uc:Value}{g:Nat}{T:TypeId}{p:Bl.dM}{b:Int}{vi va vc:Value}(r:cH w h ui ua uc)(s:aB w g T p b vi va vc)(hg:w.grownBy w' (some g)):cH w' h ui ua uc :=
 ⟨r.aw.dO s.ag s.Qq hg,r.acc.dO s.ag s.AX hg,r.bl.dO s.ag s.AX hg⟩
theorem bL.over{q:Nat->Prop}{w w' : World}{h:Hd.az}{ui ua uc:Value}{g:Nat}{T:TypeId}{p:Bl.dM}{b:Int}{vi va vc:Value}(r:bL q w h ui ua uc)(s:aB w g T p b vi va vc)(hg:w.grownBy w' (some g)):bL q w' h ui ua uc:=⟨r.rows.over s hg,r.pi,r.pa,r.pc⟩
theorem kA.dO{q:Nat->Prop}{w w' : World}{v:Value}{l:List UInt8}{g:Nat}{T:TypeId}{vs:Array Value}(h:kA q w v l)(hl:ae w g T vs)(hno : ∀(j:Nat) (x:Int),vs[j]? ≠ some (.int .u8 x))(hg:w.grownBy w' (some g)):kA q w' v l:=⟨h.rd.dO hl hno hg,h.pi⟩
section
variable {T : TypeId} {ops : Array Oper} {rest : List Oper} {op : Oper} {a : Act} {w : World} {Q : Exit -> Act -> World -> Prop} {g : Nat} {p : Bl.dM} {b : Int} {vi va vc : Value}
theorem lG(hgd:op.guard=none)(x y:Operand)(ho:op.op = .store 29 x y)(q:Bl.dM)(hx:a.eval x = .pointer (some ⟨g,0,none⟩))(hy:a.eval y = .agg (Bl.cells q))(hl:aB w g T p b vi va vc)
 (h : ∀w', aB w' g T q b vi va vc->w.grownBy w' (some g)->wpList Tryz.prog ops Q rest (a.put op.dst undef) w'):wpList Tryz.prog ops Q (op :: rest) a w :=
 aP hgd _ x y ho g 0 T _ (Hd.fQ q b vi va vc) (.agg (Bl.cells q)) (Bl.cells q).toList hx hy rfl (by kernel_rfl) rfl hl.ag (Nat.le_of_ble_eq_true rfl) rfl fun w' h1 h2=>h w' ⟨h1,hl.vi,hl.va,hl.vc⟩ h2
theorem Dh(hgd:op.guard=none)(x y:Operand)(ho:op.op = .store 3 x y)(c:Int)(hx:a.eval x = .pointer (some ⟨g,2,none⟩))(hy:a.eval y = .int .i64 c)(hl:aB w g T p b vi va vc)
 (h : ∀w', aB w' g T p c vi va vc->w.grownBy w' (some g)->wpList Tryz.prog ops Q rest (a.put op.dst undef) w'):wpList Tryz.prog ops Q (op :: rest) a w :=
 aP hgd _ x y ho g 2 T _ (Hd.fQ p c vi va vc) (.int .i64 c) [.int .i64 c] hx hy rfl (by kernel_rfl) rfl hl.ag (Nat.le_of_ble_eq_true rfl) rfl fun w' h1 h2=>h w' ⟨h1,hl.vi,hl.va,hl.vc⟩ h2
theorem xl(hgd:op.guard=none)(x y:Operand)(ho:op.op = .store 30 x y)(uo:Option Addr)(uk uc:Nat)(hx:a.eval x = .pointer (some ⟨g,3,none⟩))(hy:a.eval y = .slice uo uk uc)(hl:aB w g T p b vi va vc)
 (h : ∀w', aB w' g T p b (.slice uo uk uc) va vc->w.grownBy w' (some g)->wpList Tryz.prog ops Q rest (a.put op.dst undef) w'):wpList Tryz.prog ops Q (op :: rest) a w :=
 aP hgd _ x y ho g 3 T _ (Hd.fQ p b (.slice uo uk uc) va vc) (.slice uo uk uc) [.slice uo uk uc] hx hy rfl (by kernel_rfl) rfl hl.ag (Nat.le_of_ble_eq_true rfl) rfl fun w' h1 h2=>h w' ⟨h1,⟨_,_,_,rfl⟩,hl.va,hl.vc⟩ h2
theorem nL(hgd:op.guard=none)(x y:Operand)(ho:op.op = .store 31 x y)(uo:Option Addr)(uk uc:Nat)(hx:a.eval x = .pointer (some ⟨g,4,none⟩))(hy:a.eval y = .slice uo uk uc)(hl:aB w g T p b vi va vc)
 (h : ∀w', aB w' g T p b vi (.slice uo uk uc) vc->w.grownBy w' (some g)->wpList Tryz.prog ops Q rest (a.put op.dst undef) w'):wpList Tryz.prog ops Q (op :: rest) a w :=
 aP hgd _ x y ho g 4 T _ (Hd.fQ p b vi (.slice uo uk uc) vc) (.slice uo uk uc) [.slice uo uk uc] hx hy rfl (by kernel_rfl) rfl hl.ag (Nat.le_of_ble_eq_true rfl) rfl fun w' h1 h2=>h w' ⟨h1,hl.vi,⟨_,_,_,rfl⟩,hl.vc⟩ h2
theorem nM(hgd:op.guard=none)(x y:Operand)(ho:op.op = .store 31 x y)(uo:Option Addr)(uk uc:Nat)(hx:a.eval x = .pointer (some ⟨g,5,none⟩))(hy:a.eval y = .slice uo uk uc)(hl:aB w g T p b vi va vc)
 (h : ∀w', aB w' g T p b vi va (.slice uo uk uc)->w.grownBy w' (some g)->wpList Tryz.prog ops Q rest (a.put op.dst undef) w'):wpList Tryz.prog ops Q (op :: rest) a w :=
 aP hgd _ x y ho g 5 T _ (Hd.fQ p b vi va (.slice uo uk uc)) (.slice uo uk uc) [.slice uo uk uc] hx hy rfl (by kernel_rfl) rfl hl.ag (Nat.le_of_ble_eq_true rfl) rfl fun w' h1 h2=>h w' ⟨h1,hl.vi,hl.va,⟨_,_,_,rfl⟩⟩ h2
variable {q : Bl.dM} {c : Int} {ui ua uc : Value}
theorem cT(hgd:op.guard=none)(x y:Operand)(ho:op.op = .store 33 x y)(hx:a.eval x = .pointer (some ⟨g,0,none⟩))(hl:aB w g T p b vi va vc){w0:World}{g0:Nat}{T0:TypeId}(hu:aB w0 g0 T0 q c ui ua uc)(hy:a.eval y = .agg (Hd.fQ q c ui ua uc))
 (h : ∀w', aB w' g T q c ui ua uc->w.grownBy w' (some g)->wpList Tryz.prog ops Q rest (a.put op.dst undef) w'):wpList Tryz.prog ops Q (op :: rest) a w :=
 aP hgd _ x y ho g 0 T _ (Hd.fQ q c ui ua uc) (.agg (Hd.fQ q c ui ua uc)) (Hd.fQ q c ui ua uc).toList hx hy rfl (by kernel_rfl) (Hd.J5 q c hu.ok.1 hu.ok.2.1 hu.ok.2.2) hl.ag (Nat.le_of_ble_eq_true rfl) rfl fun w' h1 h2=>h w' ⟨h1,hu.vi,hu.va,hu.vc⟩ h2
theorem dF(hgd:op.guard=none)(x y:Operand)(ho:op.op = .store 113 x y)(hx:a.eval x = .pointer (some ⟨g,0,none⟩))(hl:aB w g T p b vi va vc){w0:World}{g0:Nat}{T0:TypeId}(hu:aB w0 g0 T0 q c ui ua uc)(hy:a.eval y = .agg (Hd.fQ q c ui ua uc))
 (h : ∀w', aB w' g T q c ui ua uc->w.grownBy w' (some g)->wpList Tryz.prog ops Q rest (a.put op.dst undef) w'):wpList Tryz.prog ops Q (op :: rest) a w :=
 aP hgd _ x y ho g 0 T _ (Hd.fQ q c ui ua uc) (.agg (Hd.fQ q c ui ua uc)) (Hd.fQ q c ui ua uc).toList hx hy rfl (by kernel_rfl) (Hd.J5 q c hu.ok.1 hu.ok.2.1 hu.ok.2.2) hl.ag (Nat.le_of_ble_eq_true rfl) rfl fun w' h1 h2=>h w' ⟨h1,hu.vi,hu.va,hu.vc⟩ h2
theorem gw(hgd:op.guard=none)(x:Operand)(ho:op.op = .load 33 x)(hx:a.eval x = .pointer (some ⟨g,0,none⟩))(hl:aB w g T p b vi va vc)
 (h:wpList Tryz.prog ops Q rest (a.put op.dst (.agg (Hd.fQ p b vi va vc))) w):wpList Tryz.prog ops Q (op :: rest) a w :=
 wpList_load_mid hgd _ x ho g 0 hx (Hd.fQ p b vi va vc).toList _ (fun j v hv=>by rw[Nat.zero_add];exact hl.ag.cell j v (by simpa using hv)) Tryz.underlying33 rfl (by kernel_rfl) h
theorem dK(hgd:op.guard=none)(x:Operand)(ho:op.op = .load 113 x)(hx:a.eval x = .pointer (some ⟨g,0,none⟩))(hl:aB w g T p b vi va vc)
 (h:wpList Tryz.prog ops Q rest (a.put op.dst (.agg (Hd.fQ p b vi va vc))) w):wpList Tryz.prog ops Q (op :: rest) a w :=
 wpList_load_mid hgd _ x ho g 0 hx (Hd.fQ p b vi va vc).toList _ (fun j v hv=>by rw[Nat.zero_add];exact hl.ag.cell j v (by simpa using hv)) Tryz.underlying113 rfl (by kernel_rfl) h
end
theorem qj(w:World)(g:Nat)(p:Bl.dM)(b:Int)(vi va vc:Value)(h:aB w g 33 p b vi va vc):(loadVar 33 ⟨g,0,none⟩).run Tryz.prog w = .ok (.agg (Hd.fQ p b vi va vc)) w :=
 run_loadVar_row w g _ _ (Hd.fQ p b vi va vc) (0,0) _ h.ag Tryz.underlying33 rfl (by kernel_rfl)
theorem GP(w:World)(g:Nat)(p:Bl.dM)(b:Int)(vi va vc:Value)(h:aB w g 113 p b vi va vc):(loadVar 113 ⟨g,0,none⟩).run Tryz.prog w = .ok (.agg (Hd.fQ p b vi va vc)) w :=
 run_loadVar_row w g _ _ (Hd.fQ p b vi va vc) (0,0) _ h.ag Tryz.underlying113 rfl (by kernel_rfl)
theorem gX{fn:Func}{R:Ending->World->Prop}{a:Act}{w:World}{t:Tmp}{g:Nat}{p:Bl.dM}{b:Int}{vi va vc:Value}(h:fn.results = #[.cell t 33])(hp:a.tmps.getD t undef = .pointer (some ⟨g,0,none⟩))
 (hl:aB w g 33 p b vi va vc) (hd:a.defers = []) (hR:R (.returned (.agg (Hd.fQ p b vi va vc))) w):bodyPost Tryz.prog fn R .ret a w:=by
 refine bodyPost_ret ?_ hd hR;rw[iA h,hp];simp[asAddr,Result.andThen,qj w g p b vi va vc hl]
theorem eK{fn:Func}{R:Ending->World->Prop}{a:Act}{w:World}{t:Tmp}{g:Nat}{p:Bl.dM}{b:Int}{vi va vc:Value}(h:fn.results = #[.cell t 113])(hp:a.tmps.getD t undef = .pointer (some ⟨g,0,none⟩))
 (hl:aB w g 113 p b vi va vc) (hd:a.defers = []) (hR:R (.returned (.agg (Hd.fQ p b vi va vc))) w):bodyPost Tryz.prog fn R .ret a w:=by
 refine bodyPost_ret ?_ hd hR;rw[iA h,hp];simp[asAddr,Result.andThen,GP w g p b vi va vc hl]
def mM(w:World)(h:Hd.az)(e:Ending)(w' : World):Prop := ∃vi va vc,e = .returned (.agg (Hd.cells h vi va vc))∧cH w' h vi va vc∧Below w.heap.size w w'
def sy(q:Nat->Prop)(w:World)(h:Hd.az)(e:Ending)(w' : World):Prop := ∃vi va vc,e = .returned (.agg (Hd.cells h vi va vc))∧bL q w' h vi va vc∧Below w.heap.size w w'
theorem aQ.lit{w:World}{g k:Nat}{E:TypeId}{rs:List (Array Value)}(h:ae w g E (cV rs).toArray)(hs:dC k rs)(hn:rs.length<=1000):aQ w (.slice (some ⟨g,0,none⟩) rs.length rs.length) k rs:=by
 refine⟨_,_,rfl,Nat.le_refl _,by unfold maxLen;omega,by simp,fun x hx i r hr j u hu => ?_⟩
 cases hx;have hj:(cV rs).toArray[i*k+j]? = some u:=by simpa using ql hs hr hu
 have:=h.cell (i*k+j) u hj;unfold Addr.add;by_cases h0:i*k+j=0
 ·rw[if_pos h0]
  rw[h0]at this
  exact this
 ·rw[if_neg h0,Nat.zero_add]
  exact this
end
end Go.Proofs.YtdkdjofnnnljjaaGreatDoor

namespace Go.Proofs.YtdkdjofnnnljjaaGreatDoor
open Go.RowKit
set_option maxRecDepth 20000
section
section
variable {H : Type} {enc : TypeId × Value -> H} {w : World} {b0 base : Nat} {held : Bool}
theorem J6(m:Nat)(cs:List Value)(y:DataW H × List MemPlace)(h:DataW.trod enc Tryz.prog w base (fun _=>true) held m 30 cs=some y) : ∃u l,cs = [u]∧Reads w u l:=by
 rcases ChangeShapes.open_ints Tryz.underlying30 Tryz.underlying5 (by kernel_rfl) h with ⟨rfl,_⟩ | ⟨x,l,c,zs,rfl,_,hl,hm,hz,_,hcell,hwz⟩
 ·exact⟨_, [],rfl,Reads.empty w⟩
 ·exact⟨_,_,rfl,GQ (zs:=zs) (.inr ⟨_,rfl,hl,hm,by simpa using hz,hcell,hwz⟩)⟩
end
end
end Go.Proofs.YtdkdjofnnnljjaaGreatDoor
