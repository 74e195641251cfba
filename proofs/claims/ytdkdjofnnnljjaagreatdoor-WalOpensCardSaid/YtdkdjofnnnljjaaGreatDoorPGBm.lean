/- Several texts of mine in one: WlMath WlNext GBm. -/
import Derived.Test.YtdkdjofnnnljjaaGreatDoorPDkMath
import Derived.Test.YtdkdjofnnnljjaaGreatDoorPEnMem
import Derived.Test.YtdkdjofnnnljjaaGreatDoorGMb
namespace Go.Proofs.YtdkdjofnnnljjaaGreatDoor
open Go.RowKit
namespace Sg
theorem cut_told' {f:Int}(hf:f=1∨f=2){h:Hd.Hard}{more:List Re.Rec}(hok : ∀x∈Hd.recs h++more,Re.olderIn f x=0∧x.Fits)(hl:(Hd.recs h).length≤9223372036854775807){n:Nat}(hn:n≤(file f h more).length) :
 Torn ((file f h more).take n) ∨ ∃j,(Hd.recs h).length≤j∧j≤(Hd.recs h).length+more.length∧Frm.ends (bodies f h more) j≤n∧Whole ((file f h more).take n) f ((Hd.recs h).length:Int) ((Hd.recs h++more).take j) (Frm.ends (bodies f h more) j):=by
 have hc:=bodies_count f h more
 obtain⟨K,hK,hiff,_⟩:=cut hf h more (fun x hx=>(body_len (hok x hx).1 (hok x hx).2).1) (bodies_len hf hok hl) hn
 obtain⟨h1,h2⟩:=cut_read hf hok hl hn
 rw[hc]at hK hiff
 by_cases hk:K≤(Hd.recs h).length
 ·left
  have:=hiff (Hd.recs h).length (by omega)
  exact h1 (by omega)
 ·right
  refine⟨K - 1,by omega,by omega,(hiff (K - 1) (by omega)).2 (by omega),h2 (K - 1) (by omega) (by omega) ((hiff (K - 1) (by omega)).2 (by omega)) fun hlt => ?_⟩
  have:=hiff (K - 1+1) (by omega)
  omega
end Sg
namespace Wl
def Tells(b:List UInt8)(f:Int)(h:Hd.Hard):Prop := ∃s l e,Sg.Whole b f s l e∧Hd.of l=h
theorem Tells.one{b:List UInt8}{f f' : Int}{h h' : Hd.Hard}(t:Tells b f h)(t' : Tells b f' h'):f=f' ∧ h=h' := by
 obtain⟨s,l,e,hw,rfl⟩:=t
 obtain⟨s', l', e', hw', rfl⟩:=t'
 obtain⟨rfl,_,rfl,_⟩:=hw.one hw'
 exact⟨rfl,rfl⟩
theorem Tells.not{b:List UInt8}{f:Int}{h:Hd.Hard}(t:Tells b f h) : ¬Sg.Torn b:=fun ht=>by
 obtain⟨s,l,e,hw,_⟩:=t
 exact ht _ _ _ _ hw
theorem tells_or(b:List UInt8):Sg.Torn b ∨ ∃f h,Tells b f h:=by
 by_cases h : ∃f s l e,Sg.Whole b f s l e
 ·obtain⟨f,s,l,e,hw⟩:=h
  exact .inr ⟨f,_,s,l,e,hw,rfl⟩
 ·exact .inl fun f s l e hw=>h ⟨f,s,l,e,hw⟩
theorem torn_nil : Sg.Torn []:=fun f s l e hw=>by
 obtain⟨⟨y,c,h1,_⟩,_⟩:=hw
 obtain⟨c', _,h2,h3,_⟩:=Frm.next_ok h1
 simp at h3
 omega
def Peek(F:Dk.Files)(f:Int)(h:Hd.Hard):Prop :=
 (∃A n b C,F=A++(n,b) :: C∧Tells b f h ∧ ∀q∈C,Sg.Torn q.2)∨((∀q∈F,Sg.Torn q.2)∧f=1∧h=Hd.zero)
theorem Peek.nil : Peek [] 1 Hd.zero := .inr ⟨fun q hq=>by simp at hq,rfl,rfl⟩
theorem Peek.torn{F:Dk.Files}{f:Int}{h:Hd.Hard}(p:Peek F f h)(n:Int){b:List UInt8}(hb:Sg.Torn b):Peek (F ++ [(n,b)]) f h:=by
 rcases p with ⟨A,m,c,C,rfl,ht,hC⟩ | ⟨hF,rfl,rfl⟩
 ·refine .inl ⟨A,m,c,C ++ [(n,b)],by simp,ht,fun q hq => ?_⟩
  rcases List.mem_append.1 hq with hq | hq
  ·exact hC q hq
  ·obtain rfl:q=(n,b):=by simpa using hq
   exact hb
 ·refine .inr ⟨fun q hq => ?_,rfl,rfl⟩
  rcases List.mem_append.1 hq with hq | hq
  ·exact hF q hq
  ·obtain rfl:q=(n,b):=by simpa using hq
   exact hb
theorem Peek.last{F:Dk.Files}{f:Int}{h:Hd.Hard}(n:Int){b:List UInt8}(hb:Tells b f h):Peek (F ++ [(n,b)]) f h := .inl ⟨F,n,b, [],rfl,hb,fun q hq=>by simp at hq⟩
theorem peek_last{F:Dk.Files}{f f' : Int}{h h' : Hd.Hard}{n:Int}{b:List UInt8}(hb:Tells b f h)(p:Peek (F ++ [(n,b)]) f' h'):f' = f∧h' = h:=by
 rcases p with ⟨A,m,c,C,e,ht,hC⟩ | ⟨hF,_⟩
 ·rcases List.eq_nil_or_concat C with rfl | ⟨C', q,rfl⟩
  ·have h2:=List.append_inj_right' e rfl
   simp only[List.cons.injEq,Prod.mk.injEq,and_true]at h2
   obtain⟨rfl,rfl⟩:=h2
   obtain⟨rfl,rfl⟩:=ht.one hb
   exact⟨rfl,rfl⟩
  ·have h2:F ++ [(n,b)]=(A++(m,c) :: C') ++ [q]:=by rw[e];simp
   have h3:=List.append_inj_right' h2 rfl
   obtain rfl:(n,b)=q:=by simpa using h3
   exact absurd (hC (n,b) (by simp)) hb.not
 ·exact absurd (hF (n,b) (by simp)) hb.not
theorem peek_torn{F:Dk.Files}{f:Int}{h:Hd.Hard}{n:Int}{b:List UInt8}(hb:Sg.Torn b)(p:Peek (F ++ [(n,b)]) f h):Peek F f h:=by
 rcases p with ⟨A,m,c,C,e,ht,hC⟩ | ⟨hF,rfl,rfl⟩
 ·rcases List.eq_nil_or_concat C with rfl | ⟨C', q,rfl⟩
  ·have h2:=List.append_inj_right' e rfl
   simp only[List.cons.injEq,Prod.mk.injEq,and_true]at h2
   obtain⟨rfl,rfl⟩:=h2
   exact absurd hb ht.not
  ·have h2:F ++ [(n,b)]=(A++(m,c) :: C') ++ [q]:=by rw[e];simp
   have h3:=List.append_inj_left' h2 rfl
   exact .inl ⟨A,m,c,C', h3,ht,fun x hx=>hC x (by simp[hx])⟩
 ·exact .inr ⟨fun q hq=>hF q (by simp[hq]),rfl,rfl⟩
theorem Peek.is(F:Dk.Files) : ∃f h,Peek F f h:=by
 induction F using Hd.snoc_ind with
 | h0=>exact⟨_,_,Peek.nil⟩
 | h1 l x ih =>
  obtain⟨f,h,p⟩:=ih
  obtain⟨n,b⟩:=x
  rcases tells_or b with ht | ⟨f', h', ht⟩
  ·exact⟨f,h,p.torn n ht⟩
  ·exact⟨f', h', Peek.last n ht⟩
theorem Peek.one{F:Dk.Files}{f f' : Int}{h h' : Hd.Hard}(p:Peek F f h)(p' : Peek F f' h'):f=f' ∧ h=h' := by
 induction F using Hd.snoc_ind with
 | h0 =>
  rcases p with ⟨A,m,c,C,e,_⟩ | ⟨_,rfl,rfl⟩
  ·simp at e
  ·rcases p' with ⟨A,m,c,C,e,_⟩ | ⟨_,rfl,rfl⟩
   ·simp at e
   ·exact⟨rfl,rfl⟩
 | h1 l x ih =>
  obtain⟨n,b⟩:=x
  rcases tells_or b with ht | ⟨f0,h0,ht⟩
  ·exact ih (peek_torn ht p) (peek_torn ht p')
  ·obtain⟨rfl,rfl⟩:=peek_last ht p
   obtain⟨rfl,rfl⟩:=peek_last ht p'
   exact⟨rfl,rfl⟩
theorem ins_last{α:Type}{n:Int}{x:α} : ∀ {l:List (Int × α)},(∀q∈l,q.1<n)→Dk.ins n x l=l ++ [(n,x)]
 | [],_=>rfl
 | p :: r,h=>by
  unfold Dk.ins
  rw[if_neg (by have:=h p (by simp);omega),ins_last fun q hq=>h q (by simp[hq])]
  rfl
theorem del_last{α:Type}{n:Int}{x:α}{l:List (Int × α)}(h : ∀q∈l,q.1<n):Dk.del (l ++ [(n,x)]) n=l:=by
 unfold Dk.del
 rw[List.filter_append,List.filter_eq_self.2 fun q hq=>by have:=h q hq;simp;omega]
 simp
theorem put_last{α:Type}{n:Int}{x y:α}{l:List (Int × α)}(h : ∀q∈l,q.1<n):Dk.put (l ++ [(n,x)]) n y=l ++ [(n,y)]:=by
 unfold Dk.put
 rw[del_last h,ins_last h]
theorem put_new{α:Type}{n:Int}{y:α}{l:List (Int × α)}(h : ∀q∈l,q.1<n):Dk.put l n y=l ++ [(n,y)]:=by
 unfold Dk.put
 rw[show Dk.del l n=l from List.filter_eq_self.2 fun q hq=>by have:=h q hq;simp;omega,ins_last h]
theorem get_last{α:Type}{n:Int}{x:α} : ∀ {l:List (Int × α)},(∀q∈l,q.1<n)→Dk.get (l ++ [(n,x)]) n=some x
 | [],_=>by simp[Dk.get]
 | p :: r,h=>by
  show Dk.get (p :: (r ++ [(n,x)])) n=_
  unfold Dk.get
  rw[if_neg (by have:=h p (by simp);omega)]
  exact get_last fun q hq=>h q (by simp[hq])
theorem get_new{α:Type}{n:Int}{l:List (Int × α)}(h : ∀q∈l,q.1<n):Dk.get l n=none:=Dk.get_none.2 fun q hq=>by have:=h q hq;omega
theorem del_other{α:Type}{n m:Int}{x:α}{l:List (Int × α)}(h:m≠n):Dk.del (l ++ [(n,x)]) m=Dk.del l m ++ [(n,x)]:=by
 unfold Dk.del
 rw[List.filter_append]
 congr 1
 simp
 omega
theorem done_make{V:Dk.Files}{n:Int}(h : ∀q∈V,q.1<n)(d:List UInt8):Dk.done V ⟨1,n,d⟩=V ++ [(n, [])]:=by
 unfold Dk.done
 dsimp only
 rw[get_new h]
 dsimp only
 rw[if_pos rfl,put_new h]
theorem done_add{V:Dk.Files}{n:Int}{b:List UInt8}(h : ∀q∈V,q.1<n)(d:List UInt8):Dk.done (V ++ [(n,b)]) ⟨2,n,d⟩=V ++ [(n,b++d)]:=by
 unfold Dk.done
 dsimp only
 rw[get_last h]
 dsimp only
 rw[if_pos rfl,put_last h]
theorem done_drop{V:Dk.Files}{n m:Int}{b:List UInt8}(hm:m≠n)(d:List UInt8):Dk.done (V ++ [(n,b)]) ⟨3,m,d⟩=Dk.del V m ++ [(n,b)]:=by
 unfold Dk.done
 dsimp only
 cases hg:Dk.get (V ++ [(n,b)]) m with
 | none =>
  dsimp only
  rw[if_neg (by decide)]
  have hn:Dk.get V m=none:=Dk.get_none.2 fun q hq=>Dk.get_none.1 hg q (by simp[hq])
  rw[Dk.del_none hn]
 | some y =>
  dsimp only
  rw[if_neg (by decide),if_pos rfl,del_other hm]
theorem torn_add(n:Int)(d:List UInt8)(cut:Int):Dk.torn ⟨2,n,d⟩ cut=⟨2,n,d.take (Dk.clamp cut d.length)⟩:=rfl
def Fine(F:Dk.Files)(B:List Dk.Op)(P:Int→Hd.Hard→Prop):Prop := ∀keep cut,∃f h,P f h∧Peek (Dk.crash F B keep cut) f h
theorem Fine.synced{F:Dk.Files}{P:Int→Hd.Hard→Prop}{f:Int}{h:Hd.Hard}(p:Peek F f h)(hP:P f h):Fine F [] P:=fun keep cut=>⟨f,h,hP,by
 unfold Dk.crash Dk.clamp
 simp
 exact p⟩
theorem Fine.now{F:Dk.Files}{B:List Dk.Op}{P:Int→Hd.Hard→Prop}(h:Fine F B P) : ∃f k,P f k∧Peek (Dk.all F B) f k:=by
 have:=h (B.length:Int) 0
 rw[Dk.crash_all F B _ _ (by omega)]at this
 exact this
theorem Fine.snoc{F:Dk.Files}{B:List Dk.Op}{P P' : Int→Hd.Hard→Prop}(h:Fine F B P)(hP : ∀f k,P f k→P' f k)(x:Dk.Op)(h1 : ∃f k,P' f k∧Peek (Dk.done (Dk.all F B) x) f k)
 (h2:x.kind=2 → ∀cut,∃f k,P' f k∧Peek (Dk.done (Dk.all F B) (Dk.torn x cut)) f k):Fine F (B ++ [x]) P' := by
 intro keep cut
 obtain⟨f0,k0,q0,p0⟩:=h keep cut
 have old : ∃f k,P' f k∧Peek (Dk.crash F B keep cut) f k:=⟨f0,k0,hP _ _ q0,p0⟩
 by_cases hc:keep.toNat<B.length
 ·have e1:Dk.clamp keep B.length=keep.toNat:=by unfold Dk.clamp;omega
  have e2:Dk.clamp keep (B ++ [x]).length=keep.toNat:=by unfold Dk.clamp;rw[List.length_append];omega
  have e3:Dk.crash F (B ++ [x]) keep cut=Dk.crash F B keep cut:=by
   unfold Dk.crash
   rw[e1,e2,List.getElem?_append_left hc,List.take_append_of_le_length (by omega),List.getElem?_eq_getElem hc]
  rw[e3]
  exact old
 ·have e1:Dk.clamp keep B.length=B.length:=by unfold Dk.clamp;omega
  have e0:Dk.crash F B keep cut=Dk.all F B:=by
   unfold Dk.crash
   rw[e1,List.getElem?_eq_none (Nat.le_refl _)]
  by_cases hl:keep.toNat=B.length
  ·have e2:Dk.clamp keep (B ++ [x]).length=B.length:=by unfold Dk.clamp;rw[List.length_append];simp;omega
   have e3:Dk.crash F (B ++ [x]) keep cut=if x.kind=2 then Dk.done (Dk.all F B) (Dk.torn x cut)else Dk.all F B:=by
    unfold Dk.crash
    rw[e2,List.getElem?_append_right (Nat.le_refl _),Nat.sub_self,List.take_append_of_le_length (Nat.le_refl _),List.take_length]
    rfl
   rw[e3]
   by_cases hk:x.kind=2
   ·rw[if_pos hk]
    exact h2 hk cut
   ·rw[if_neg hk, ← e0]
    exact old
  ·have e2:Dk.crash F (B ++ [x]) keep cut=Dk.all F (B ++ [x]):=Dk.crash_all F _ _ _ (by rw[List.length_append];simp;omega)
   rw[e2,Dk.all_snoc]
   exact h1
structure At(V:Dk.Files)(n f:Int)(h:Hd.Hard)(more:List Re.Rec):Prop where
 view : ∃A,V=A ++ [(n,Sg.file f h more)] ∧ ∀q∈A,q.1<n
 fmt:f=1∨f=2
 ok : ∀x∈Hd.recs h++more,Re.olderIn f x=0∧x.Fits
 len:(Hd.recs h).length≤9223372036854775807
theorem tells_file{f:Int}(hf:f=1∨f=2){h:Hd.Hard}{more:List Re.Rec}(hok : ∀x∈Hd.recs h++more,Re.olderIn f x=0∧x.Fits)(hl:(Hd.recs h).length≤9223372036854775807):Tells (Sg.file f h more) f (Hd.of (Hd.recs h++more)):=by
 have h1:=(Sg.cut_read hf hok hl (Nat.le_refl (Sg.file f h more).length)).2 ((Hd.recs h).length+more.length) (by omega) (by omega)
 have e:Frm.ends (Sg.bodies f h more) ((Hd.recs h).length+more.length)=(Sg.file f h more).length:=by
  unfold Frm.ends Sg.file
  rw[List.take_of_length_le (by rw[Sg.bodies_count];omega)]
 rw[e,List.take_length,List.take_of_length_le (by simp)]at h1
 exact⟨_,_,_,h1 (Nat.le_refl _) (by omega),rfl⟩
theorem At.peek{V:Dk.Files}{n f:Int}{h:Hd.Hard}{more:List Re.Rec}(a:At V n f h more):Peek V f (Hd.of (Hd.recs h++more)):=by
 obtain⟨A,rfl,_⟩:=a.view
 exact Peek.last n (tells_file a.fmt a.ok a.len)
theorem file_snoc(f:Int)(h:Hd.Hard)(more:List Re.Rec)(x:Re.Rec):Sg.file f h (more ++ [x])=Sg.file f h more++Frm.frame (Rt.bytesIn f x):=by
 unfold Sg.file Sg.bodies
 simp[Frm.flat]
theorem file_ends(f:Int)(h:Hd.Hard)(more:List Re.Rec):Frm.ends (Sg.bodies f h more) ((Hd.recs h).length+more.length)=(Sg.file f h more).length:=by
 unfold Frm.ends Sg.file
 rw[List.take_of_length_le (by rw[Sg.bodies_count];omega)]
theorem ends_less(f:Int)(h:Hd.Hard)(more:List Re.Rec)(x:Re.Rec):Frm.ends (Sg.bodies f h (more ++ [x])) ((Hd.recs h).length+more.length)=(Sg.file f h more).length:=by
 unfold Frm.ends Sg.file Sg.bodies
 congr 2
 rw[← List.append_assoc,List.map_append, ← List.cons_append,List.take_append_of_le_length (by simp)]
 rw[List.take_of_length_le (by simp)]
theorem At.torn{V:Dk.Files}{n f:Int}{h:Hd.Hard}{more:List Re.Rec}(a:At V n f h more){x:Re.Rec}(hx:Re.olderIn f x=0∧x.Fits)(cut:Int) :
 Peek (Dk.done V (Dk.torn ⟨2,n,Frm.frame (Rt.bytesIn f x)⟩ cut)) f (Hd.of (Hd.recs h++more))∨Peek (Dk.done V (Dk.torn ⟨2,n,Frm.frame (Rt.bytesIn f x)⟩ cut)) f (Hd.of (Hd.recs h++(more ++ [x]))):=by
 obtain⟨A,rfl,hA⟩:=a.view
 obtain⟨c,hc⟩ : ∃c,c=Dk.clamp cut (Frm.frame (Rt.bytesIn f x)).length:=⟨_,rfl⟩
 have hcl:c≤(Frm.frame (Rt.bytesIn f x)).length:=by rw[hc];unfold Dk.clamp;omega
 rw[torn_add, ← hc,done_add hA]
 have hok : ∀y∈Hd.recs h++(more ++ [x]),Re.olderIn f y=0∧y.Fits:=fun y hy=>by
  rw[← List.append_assoc]at hy
  rcases List.mem_append.1 hy with hy | hy
  ·exact a.ok y hy
  ·obtain rfl:y=x:=by simpa using hy
   exact hx
 have e:Sg.file f h more++(Frm.frame (Rt.bytesIn f x)).take c=(Sg.file f h (more ++ [x])).take ((Sg.file f h more).length+c):=by
  rw[file_snoc,List.take_length_add_append]
 have hlen:(Sg.file f h (more ++ [x])).length=(Sg.file f h more).length+(Frm.frame (Rt.bytesIn f x)).length:=by rw[file_snoc,List.length_append]
 obtain⟨_,h2⟩:=Sg.cut_read a.fmt hok a.len (n:=(Sg.file f h more).length+c) (by omega)
 rw[← e]at h2
 have e1:=ends_less f h more x
 have e2:=file_ends f h (more ++ [x])
 rw[show(Hd.recs h).length+(more ++ [x]).length=(Hd.recs h).length+more.length+1 by simp;omega]at e2 h2
 by_cases hall:c=(Frm.frame (Rt.bytesIn f x)).length
 ·right
  have h3:=h2 ((Hd.recs h).length+more.length+1) (by omega) (by omega) (by rw[e2];omega) (by omega)
  have hfull:(Hd.recs h++(more ++ [x])).take ((Hd.recs h).length+more.length+1)=Hd.recs h++(more ++ [x]):=List.take_of_length_le (by simp;omega)
  rw[hfull]at h3
  exact Peek.last n ⟨_,_,_,h3,rfl⟩
 ·left
  have h3:=h2 ((Hd.recs h).length+more.length) (by omega) (by omega) (by rw[e1];omega) (fun _=>by rw[e2];omega)
  have hpre:(Hd.recs h++(more ++ [x])).take ((Hd.recs h).length+more.length)=Hd.recs h++more:=by rw[← List.append_assoc,List.take_append_of_le_length (by simp),List.take_of_length_le (by simp)]
  rw[hpre]at h3
  exact Peek.last n ⟨_,_,_,h3,rfl⟩
theorem At.add{V:Dk.Files}{n f:Int}{h:Hd.Hard}{more:List Re.Rec}(a:At V n f h more){x:Re.Rec}(hx:Re.olderIn f x=0∧x.Fits):At (Dk.done V ⟨2,n,Frm.frame (Rt.bytesIn f x)⟩) n f h (more ++ [x]):=by
 obtain⟨A,rfl,hA⟩:=a.view
 rw[done_add hA, ← file_snoc]
 refine⟨⟨A,rfl,hA⟩,a.fmt,fun y hy => ?_,a.len⟩
 rw[← List.append_assoc]at hy
 rcases List.mem_append.1 hy with hy | hy
 ·exact a.ok y hy
 ·obtain rfl:y=x:=by simpa using hy
  exact hx
theorem peek_head{A:Dk.Files}{n:Int}{f0:Int}{h0:Hd.Hard}(p:Peek A f0 h0)(hA : ∀q∈A,q.1<n){f:Int}(hf:f=1∨f=2){h:Hd.Hard}(hv:Hd.Valid h)(hok : ∀x∈Hd.recs h,Re.olderIn f x=0∧x.Fits)(hl:(Hd.recs h).length≤9223372036854775807)(cut:Int) :
 Peek (Dk.done (A ++ [(n, [])]) (Dk.torn ⟨2,n,Sg.file f h []⟩ cut)) f0 h0∨Peek (Dk.done (A ++ [(n, [])]) (Dk.torn ⟨2,n,Sg.file f h []⟩ cut)) f h:=by
 obtain⟨c,hc⟩ : ∃c,c=Dk.clamp cut (Sg.file f h []).length:=⟨_,rfl⟩
 have hcl:c≤(Sg.file f h []).length:=by rw[hc];unfold Dk.clamp;omega
 rw[torn_add, ← hc,done_add hA,List.nil_append]
 rcases Sg.cut_told' hf (h:=h) (more := []) (by simpa using hok) hl hcl with ht | ⟨j,hj1,hj2,_,hw⟩
 ·exact .inl (p.torn n ht)
 ·right
  rw[List.append_nil,List.take_of_length_le hj1]at hw
  exact Peek.last n ⟨_,_,_,hw,Hd.of_recs hv⟩
theorem At.begun{A:Dk.Files}{n:Int}(hA : ∀q∈A,q.1<n){f:Int}(hf:f=1∨f=2){h:Hd.Hard}(hok : ∀x∈Hd.recs h,Re.olderIn f x=0∧x.Fits)(hl:(Hd.recs h).length≤9223372036854775807):At (Dk.done (A ++ [(n, [])]) ⟨2,n,Sg.file f h []⟩) n f h []:=by
 rw[done_add hA,List.nil_append]
 exact⟨⟨A,rfl,hA⟩,hf,by simpa using hok,hl⟩
theorem At.drop{V:Dk.Files}{n f:Int}{h:Hd.Hard}{more:List Re.Rec}(a:At V n f h more){m:Int}(hm:m≠n)(d:List UInt8):At (Dk.done V ⟨3,m,d⟩) n f h more:=by
 obtain⟨A,rfl,hA⟩:=a.view
 rw[done_drop hm]
 exact⟨⟨_,rfl,fun q hq=>hA q (Dk.mem_del.1 hq).1⟩,a.fmt,a.ok,a.len⟩
structure Log(F:Dk.Files)(B:List Dk.Op)(n f:Int)(h:Hd.Hard)(more:List Re.Rec)(P:Int→Hd.Hard→Prop):Prop where
 fine:Fine F B P
 now:At (Dk.all F B) n f h more
 last:P f (Hd.of (Hd.recs h++more))
theorem Log.add{F:Dk.Files}{B:List Dk.Op}{n f:Int}{h:Hd.Hard}{more:List Re.Rec}{P P' : Int→Hd.Hard→Prop}(g:Log F B n f h more P){x:Re.Rec}(hx:Re.olderIn f x=0∧x.Fits)(hP : ∀f k,P f k→P' f k)(hl:P' f (Hd.of (Hd.recs h++(more ++ [x])))) :
 Log F (B ++ [⟨2,n,Frm.frame (Rt.bytesIn f x)⟩]) n f h (more ++ [x]) P' := by
 have ha:=g.now.add hx
 refine⟨g.fine.snoc hP _ ⟨f,_,hl,ha.peek⟩ fun _ cut => ?_,by rw[Dk.all_snoc];exact ha,hl⟩
 rcases g.now.torn hx cut with h1 | h1
 ·exact⟨f,_,hP _ _ g.last,h1⟩
 ·exact⟨f,_,hl,h1⟩
theorem Log.sync{F:Dk.Files}{B:List Dk.Op}{n f:Int}{h:Hd.Hard}{more:List Re.Rec}{P P' : Int→Hd.Hard→Prop}(g:Log F B n f h more P)(hl:P' f (Hd.of (Hd.recs h++more))):Log (Dk.all F B) [] n f h more P' :=
 ⟨Fine.synced g.now.peek hl,g.now,hl⟩
theorem Log.drops{F:Dk.Files}{n f:Int}{h:Hd.Hard}{more:List Re.Rec}{P:Int→Hd.Hard→Prop} : ∀(ms:List Int) {B:List Dk.Op},(∀m∈ms,m≠n)→Log F B n f h more P→Log F (B++ms.map fun m=>⟨3,m, []⟩) n f h more P
 | [],B,_,g=>by simpa using g
 | m :: r,B,hm,g=>by
  have ha:=g.now.drop (hm m (by simp)) []
  have g1:Log F (B ++ [⟨3,m, []⟩]) n f h more P:=⟨g.fine.snoc (fun _ _ q=>q) _ ⟨f,_,g.last,ha.peek⟩ fun hk=>absurd (show(3:Int)=2 from hk) (by decide),by rw[Dk.all_snoc];exact ha,g.last⟩
  have:=Log.drops r (fun q hq=>hm q (by simp[hq])) g1
  rw[List.append_assoc]at this
  exact this
theorem Log.begun{F:Dk.Files}{B:List Dk.Op}{P P' : Int→Hd.Hard→Prop}(g:Fine F B P){f0:Int}{h0:Hd.Hard}(p:Peek (Dk.all F B) f0 h0)(hp:P f0 h0){n:Int}(hn : ∀q∈Dk.all F B,q.1<n){f:Int}(hf:f=1∨f=2){h:Hd.Hard}(hv:Hd.Valid h)
 (hok : ∀x∈Hd.recs h,Re.olderIn f x=0∧x.Fits) (hl:(Hd.recs h).length≤9223372036854775807) (hP : ∀f k,P f k→P' f k) (hlast:P' f h) (ms:List Int) (hm : ∀m∈ms,m≠n) :
 Log F (B ++ [⟨1,n, []⟩] ++ [⟨2,n,Sg.file f h []⟩]++ms.map fun m=>⟨3,m, []⟩) n f h [] P' := by
 have e1:Dk.all F (B ++ [⟨1,n, []⟩])=Dk.all F B ++ [(n, [])]:=by rw[Dk.all_snoc,done_make hn]
 have g1:Fine F (B ++ [⟨1,n, []⟩]) P:=g.snoc (fun _ _ q=>q) _ ⟨f0,h0,hp,by rw[done_make hn];exact p.torn n torn_nil⟩ fun hk=>absurd (show(1:Int)=2 from hk) (by decide)
 have ha:=At.begun hn hf hok hl
 have hs:Hd.of (Hd.recs h ++ [])=h:=by rw[List.append_nil,Hd.of_recs hv]
 refine Log.drops ms hm ⟨g1.snoc hP _ ⟨f,h,hlast, ?_⟩ fun _ cut => ?_, ?_,by rw[hs];exact hlast⟩
 ·rw[e1, ← hs]
  have:=ha.peek
  rw[hs]at this ⊢
  exact this
 ·rw[e1]
  rcases peek_head p hn hf hv hok hl cut with h1 | h1
  ·exact⟨f0,h0,hP _ _ hp,h1⟩
  ·exact⟨f,h,hlast,h1⟩
 ·rw[Dk.all_snoc,e1]
  exact ha
theorem Log.crashed{F:Dk.Files}{B:List Dk.Op}{n f:Int}{h:Hd.Hard}{more:List Re.Rec}{P:Int→Hd.Hard→Prop}(g:Log F B n f h more P)(keep cut:Int) : ∃f' h', P f' h' ∧ Peek (Dk.crash F B keep cut) f' h' ∧ Fine (Dk.crash F B keep cut) [] (fun a b=>a=f' ∧ b=h'):=by
 obtain⟨f', h', hp,pk⟩:=g.fine keep cut
 exact⟨f', h', hp,pk,Fine.synced pk ⟨rfl,rfl⟩⟩
end Wl
end Go.Proofs.YtdkdjofnnnljjaaGreatDoor

namespace Go.Proofs.YtdkdjofnnnljjaaGreatDoor
open Go.RowKit
section
namespace Wl
def lastF(F:Dk.Files):Int:=F.foldl (fun a q=>max a q.1) 0
def lastB(a:Int)(B:List Dk.Op):Int:=B.foldl (fun a x=>if x.kind=1 then max a x.no else a) a
def next(F:Dk.Files)(B:List Dk.Op):Int:=lastB (lastF F) B+1
theorem lastF_snoc(F:Dk.Files)(q:Int × List UInt8):lastF (F ++ [q])=max (lastF F) q.1:=by simp[lastF,List.foldl_append]
theorem lastB_snoc(a:Int)(B:List Dk.Op)(x:Dk.Op):lastB a (B ++ [x])=if x.kind=1 then max (lastB a B) x.no else lastB a B:=by simp[lastB,List.foldl_append]
theorem lastF_ge(F:Dk.Files):0≤lastF F ∧ ∀q∈F,q.1≤lastF F:=by
 induction F using Hd.snoc_ind with
 | h0=>exact⟨Int.le_refl _,fun q hq=>by simp at hq⟩
 | h1 l x ih =>
  rw[lastF_snoc]
  refine⟨by omega,fun q hq => ?_⟩
  rcases List.mem_append.1 hq with hq | hq
  ·have:=ih.2 q hq;omega
  ·obtain rfl:q=x:=by simpa using hq
   omega
theorem lastF_le{F:Dk.Files}{N:Int}(h0:0≤N)(h : ∀q∈F,q.1≤N):lastF F≤N:=by
 induction F using Hd.snoc_ind with
 | h0=>exact h0
 | h1 l x ih =>
  rw[lastF_snoc]
  have h1:=ih fun q hq=>h q (by simp[hq])
  have h2:=h x (by simp)
  omega
theorem lastB_ge(a:Int)(B:List Dk.Op):a≤lastB a B ∧ ∀x∈B,x.kind=1→x.no≤lastB a B:=by
 induction B using Hd.snoc_ind with
 | h0=>exact⟨Int.le_refl _,fun q hq=>by simp at hq⟩
 | h1 l x ih =>
  rw[lastB_snoc]
  by_cases hx:x.kind=1
  ·rw[if_pos hx]
   refine⟨by omega,fun q hq hk => ?_⟩
   rcases List.mem_append.1 hq with hq | hq
   ·have:=ih.2 q hq hk;omega
   ·obtain rfl:q=x:=by simpa using hq
    omega
  ·rw[if_neg hx]
   refine⟨ih.1,fun q hq hk => ?_⟩
   rcases List.mem_append.1 hq with hq | hq
   ·exact ih.2 q hq hk
   ·obtain rfl:q=x:=by simpa using hq
    exact absurd hk hx
theorem lastB_le{a N:Int}{B:List Dk.Op}(h0:a≤N)(h : ∀x∈B,x.no≤N):lastB a B≤N:=by
 induction B using Hd.snoc_ind with
 | h0=>exact h0
 | h1 l x ih =>
  rw[lastB_snoc]
  have h1:=ih fun q hq=>h q (by simp[hq])
  have h2:=h x (by simp)
  split<;>omega
theorem mem_done{V:Dk.Files}{x:Dk.Op}{q:Int × List UInt8}(h:q∈Dk.done V x):(∃p∈V,p.1=q.1)∨(x.kind=1∧q.1=x.no):=by
 unfold Dk.done at h
 split at h
 ·split at h
  ·rename_i hk
   rcases Dk.mem_put.1 h with rfl | ⟨h,_⟩
   ·exact .inr ⟨hk,rfl⟩
   ·exact .inl ⟨q,h,rfl⟩
  ·exact .inl ⟨q,h,rfl⟩
 ·rename_i d hg
  split at h
  ·rcases Dk.mem_put.1 h with rfl | ⟨h,_⟩
   ·exact .inl ⟨_,Dk.get_mem hg,rfl⟩
   ·exact .inl ⟨q,h,rfl⟩
  ·split at h
   ·exact .inl ⟨q,(Dk.mem_del.1 h).1,rfl⟩
   ·exact .inl ⟨q,h,rfl⟩
theorem mem_all{F:Dk.Files}{B:List Dk.Op}{q:Int × List UInt8}(h:q∈Dk.all F B):(∃p∈F,p.1=q.1) ∨ ∃x∈B,x.kind=1∧q.1=x.no:=by
 induction B using Hd.snoc_ind generalizing q with
 | h0=>exact .inl ⟨q,h,rfl⟩
 | h1 l x ih =>
  rw[Dk.all_snoc]at h
  rcases mem_done h with ⟨p,hp,e⟩ | ⟨hk,e⟩
  ·rcases ih hp with ⟨r,hr,e2⟩ | ⟨y,hy,hk,e2⟩
   ·exact .inl ⟨r,hr,e2.trans e⟩
   ·exact .inr ⟨y,by simp[hy],hk,e.symm.trans e2⟩
  ·exact .inr ⟨x,by simp,hk,e⟩
theorem lt_next{F:Dk.Files}{B:List Dk.Op}{q:Int × List UInt8}(h:q∈Dk.all F B):q.1<next F B:=by
 have h1:=lastB_ge (lastF F) B
 have h2:=lastF_ge F
 unfold next
 rcases mem_all h with ⟨p,hp,e⟩ | ⟨x,hx,hk,e⟩
 ·have:=h2.2 p hp;omega
 ·have:=h1.2 x hx hk;omega
theorem next_pos(F:Dk.Files)(B:List Dk.Op):1≤next F B:=by
 have h1:=lastB_ge (lastF F) B
 have h2:=lastF_ge F
 unfold next
 omega
def begins(n:Int)(head:List UInt8)(V:Dk.Files):List Dk.Op := [⟨1,n, []⟩] ++ [⟨2,n,head⟩]++(V.map (·.1)).map fun m=>⟨3,m, []⟩
structure Sane(F:Dk.Files)(B:List Dk.Op)(N:Nat)(M:Nat):Prop where
 files : ∀q∈F,1≤q.1∧q.1≤(N:Int)
 ops : ∀x∈B,Dk.isKind x.kind∧1≤x.no∧x.no≤(N:Int)
 asc:Dk.Asc F
 wt:Dk.wt F+Dk.wtB B≤M
section
variable {F : Dk.Files} {B : List Dk.Op} {N M : Nat}
theorem Sane.nil : Sane [] [] 0 0:=⟨fun q hq=>by simp at hq,fun q hq=>by simp at hq,Dk.Asc.nil,by simp[Dk.wt,Dk.wtB]⟩
theorem Sane.kinds(s:Sane F B N M)(h:N≤1000):Dk.Kinds B:=fun x hx=>by
 obtain⟨h1,h2,h3⟩:=s.ops x hx
 exact⟨h1,h2,by omega⟩
theorem Sane.next(s:Sane F B N M):Wl.next F B≤(N:Int)+1:=by
 have h1:=lastF_le (N:=(N:Int)) (by omega) fun q hq=>(s.files q hq).2
 have h2:=lastB_le h1 fun x hx=>(s.ops x hx).2.2
 unfold Wl.next
 omega
theorem Sane.all(s:Sane F B N M):Sane (Dk.all F B) [] N M:=by
 refine⟨fun q hq => ?_,fun q hq=>by simp at hq,Dk.asc_all s.asc B, ?_⟩
 ·rcases mem_all hq with ⟨p,hp,e⟩ | ⟨x,hx,hk,e⟩
  ·rw[← e];exact s.files p hp
  ·rw[e];exact(s.ops x hx).2
 ·have h1:=Dk.wt_all B F
  have h2:=s.wt
  have h3:Dk.wtB []=0:=rfl
  omega
theorem Sane.more(s:Sane F B N M){N' M' : Nat}(hN:N≤N')(hM:M≤M'):Sane F B N' M' :=
 ⟨fun q hq=>by have:=s.files q hq;omega,fun x hx=>by obtain⟨h1,h2,h3⟩:=s.ops x hx;exact⟨h1,h2,by omega⟩,s.asc,Nat.le_trans s.wt hM⟩
theorem Sane.snoc(s:Sane F B N M){x:Dk.Op}(hx:Dk.isKind x.kind∧1≤x.no∧x.no≤(N:Int)){l:Nat}(hl:x.data.length≤l):Sane F (B ++ [x]) N (M+1+l):=by
 refine⟨s.files,fun y hy => ?_,s.asc, ?_⟩
 ·rcases List.mem_append.1 hy with hy | hy
  ·exact s.ops y hy
  ·obtain rfl:y=x:=by simpa using hy
   exact hx
 ·rw[Dk.wtB_app]
  have:=s.wt
  simp[Dk.wtB]at this ⊢
  omega
theorem asc_len : ∀ {V:Dk.Files} {a b:Int},Dk.Asc V→(∀q∈V,a≤q.1∧q.1≤b)→(V.length:Int)≤max 0 (b - a+1)
 | [],_,_,_,_=>by simp;omega
 | p :: r,a,b,h,hq=>by
  have h1:=hq p (by simp)
  have:=asc_len (a:=p.1+1) (b:=b) h.tail fun q hr=>⟨by have:=h.head q hr;omega,(hq q (by simp[hr])).2⟩
  simp only[List.length_cons]
  omega
theorem Sane.count(s:Sane F B N M):(Dk.all F B).length≤N:=by
 have:=asc_len (a:=1) (b:=(N:Int)) s.all.asc fun q hq=>s.all.files q hq
 omega
theorem Sane.drops(s:Sane F B N M) : ∀(ms:List Int),(∀m∈ms,1≤m∧m≤(N:Int))→Sane F (B++ms.map fun m=>⟨3,m, []⟩) N (M+ms.length):=by
 intro ms
 induction ms using Hd.snoc_ind with
 | h0=>intro _;simpa using s
 | h1 l m ih =>
  intro h
  have h1:=(ih fun q hq=>h q (by simp[hq])).snoc (x:=⟨3,m, []⟩) ⟨.inr (.inr rfl),h m (by simp)⟩ (l:=0) (Nat.le_refl _)
  rw[List.map_append, ← List.append_assoc,List.length_append]
  exact h1
theorem Sane.begins(s:Sane F B N M){head:List UInt8}{H:Nat}(hh:head.length≤H):Sane F (B++Wl.begins (Wl.next F B) head (Dk.all F B)) (N+1) (M+2+H+N):=by
 have hn1:=next_pos F B
 have hn2:=s.next
 have s1:=((s.more (N' := N+1) (M' := M) (by omega) (Nat.le_refl _)).snoc (x:=⟨1,Wl.next F B, []⟩) ⟨.inl rfl,hn1,by exact_mod_cast hn2⟩ (l:=0) (Nat.le_refl _)).snoc (x:=⟨2,Wl.next F B,head⟩) ⟨.inr (.inl rfl),hn1,by exact_mod_cast hn2⟩ hh
 have s2:=s1.drops ((Dk.all F B).map (·.1)) fun m hm=>by
  obtain⟨q,hq,rfl⟩:=List.mem_map.1 hm
  have:=s.all.files q hq
  omega
 have hc:=s.count
 unfold Wl.begins
 rw[← List.append_assoc, ← List.append_assoc]
 rw[List.length_map]at s2
 exact s2.more (Nat.le_refl _) (by omega)
theorem Sane.crash(s:Sane F B N M)(k t:Int):Sane (Dk.crash F B k t) [] N M:=by
 have h0 : ∀i,Sane F (B.take i) N M:=fun i=>⟨s.files,fun x hx=>s.ops x (List.mem_of_mem_take hx),s.asc,by
  have h1:=Dk.wtB_split B i
  have h2:=s.wt
  omega⟩
 have hw:=Dk.wt_crash F B k t
 refine⟨?_,fun q hq=>by simp at hq,Dk.crash_asc s.asc B k t, ?_⟩
 ·intro q hq
  unfold Dk.crash at hq
  split at hq
  ·exact s.all.files q hq
  ·rename_i x hx
   split at hq
   ·rcases mem_done hq with ⟨p,hp,e⟩ | ⟨hk,e⟩
    ·rw[← e];exact(h0 _).all.files p hp
    ·rename_i hk2
     have:x.kind=1:=hk
     omega
   ·exact(h0 _).all.files q hq
 ·have:=s.wt
  have h3:Dk.wtB []=0:=rfl
  omega
end
end Wl
end
end Go.Proofs.YtdkdjofnnnljjaaGreatDoor

namespace Go.Proofs.YtdkdjofnnnljjaaGreatDoor
open Go.RowKit
set_option maxHeartbeats 1600000
set_option maxRecDepth 4000
theorem Bl.most_take{x c:Bl.Bal}{r:List Bl.Bal}{k:Nat}(h:r[k]? = some c):Bl.most (x :: r.take (k+1))=Bl.top (Bl.most (x :: r.take k)) c:=by
 rw[List.take_add_one,h]
 exact Bl.most_snoc x _ c
theorem bmax_any(v:Value)(l:List Bl.Bal)(w:World)(hv:ReadsB w v l):Calls Tryz.prog 98 #[v] w (Looks w (.agg (Bl.cells (Bl.most l)))):=by
 obtain⟨ao,cap,rfl,hc1,hc2⟩:=hv.shape
 rw[List.length_map]at hc1 ⊢
 cases l with
 | nil =>
  obtain⟨w1,e1,hl1,hB1,hz1⟩:=box_bal w Bl.zero
  have HL1:=Lib.hid hl1;have HB1:=Lib.hid hB1
  dsimp only [Bl.cells,Bl.zero]at e1
  clear hl1 hB1 hz1
  go_enter Tryz.func98,Tryz.ntmps98
  go_wp2_with (refine store_bal (by rfl) _ _ (by rfl) w.heap.size Bl.zero Bl.zero (by rfl) (by rfl) HL1.out ?_;intro w2 hl2 hg2)
  refine ret_bal1 rfl rfl hl2 rfl ?_
  exact⟨rfl,HB1.out.grown hg2 HB1.out.size (by rintro j hj;cases hj;omega)⟩
 | cons x r =>
  obtain⟨b,off,rfl,hlt,hc⟩:=ReadsB.places hv (by simp)
  obtain⟨n,hn⟩ : ∃n,n=r.length:=⟨_,rfl⟩
  rw[show(x :: r).length=n+1 by rw[hn];rfl]at hc1 ⊢
  have hv' : ReadsB w (.slice (some ⟨b,off,none⟩) (n+1) cap) (x :: r):=by rw[hn];simpa using hv
  obtain⟨ao2,hsl,hr⟩:=ReadsR.rest hv' 1 (by omega)
  rw[show n+1 - 1=n by omega]at hsl hr
  have hr' : ReadsB w (.slice ao2 n (cap - 1)) r:=hr
  have hslice : ∀W:World,(Instr.slice 182 (.slice (some ⟨b,off,none⟩) (n+1) cap) (some (.int .i64 1)) none none).run Tryz.prog W = .ok (.slice ao2 n (cap - 1)) W:=fun W=>(run_rest_bal W _ _ _ 1 (by omega)).trans (by rw[hsl])
  obtain⟨w1,e1,hl1,hk1,hB1,hz1⟩:=box_bals w Bl.zero x
  obtain⟨w0,e0⟩ : ∃w0,w.alloc (.cells #[.int .i64 0, .int .i64 0] 29)=w0:=⟨_,rfl⟩
  have hb0:Below w.heap.size w w0:=by rw[← e0];exact(Below.refl _ w).alloc (Nat.le_refl _) _
  have hs0:w0.heap.size=w.heap.size+1:=by rw[← e0];simp
  have hx0:=hc w0 hb0 0 x rfl
  rw[Nat.zero_mul,Nat.add_zero]at hx0
  obtain⟨hx0,hx1⟩:=hx0
  dsimp only [Bl.cells,Bl.zero]at e1
  rw[e0]at e1
  rw[← hs0]at hk1
  have hnb:n<9223372036854775807:=by omega
  have hsl0:w.heap.size<w0.heap.size:=by omega
  have HB1:=Lib.hid hB1
  have HL1:=Lib.hid hl1;have HK1:=Lib.hid hk1
  have HN:=Lib.hid hn
  obtain⟨m,hm⟩ : ∃m,m=n+1:=⟨_,rfl⟩
  have hm0:((m:Int) == 0)=false:=by simp;omega
  have hm1:0<m:=by omega
  rw[← hm]at hslice ⊢
  have HR:=Lib.hid hr'
  clear hv hv' hsl hr hr' hc hn hB1 hl1 hk1 hz1 hb0 hc2 hm hlt hc1 hs0
  go_enter Tryz.func98,Tryz.ntmps98
  go_wp2
  go_loopw [16] (fun y wr => ∃k:Nat,y = .int .i64 (k:Int)∧k≤n∧Bals wr w0.heap.size (Bl.most (x :: r.take k))∧Bals wr w.heap.size Bl.zero∧Below w.heap.size w wr) (fun y _=>n - (intOf y).toNat)
  case atStart=>exact⟨0,rfl,by omega,HK1.out,HL1.out,HB1.out⟩
  case round =>
   obtain⟨k,rfl,hk,hG,hO,hB⟩:=hrel
   have HG:=Lib.hid hG;have HO:=Lib.hid hO;have HB:=Lib.hid hB
   clear hG hO hB
   by_cases hlt:k<n
   ·obtain⟨c,hcr⟩ : ∃c,r[k]? = some c:=⟨_,List.getElem?_eq_getElem (by have:=HN.out;omega)⟩
    obtain⟨b2,off2,rfl,hblt,hc⟩:=ReadsB.places HR.out (by have:=HN.out;omega)
    obtain⟨c0,c1⟩:=hc wr HB.out k c hcr
    obtain⟨g,hg⟩ : ∃g,g=Bl.most (x :: r.take k):=⟨_,rfl⟩
    rw[← hg]at HG
    have HNX:Hid (Bl.most (x :: r.take (k+1))=Bl.top g c):=by show _=_;rw[hg];exact Bl.most_take hcr
    obtain⟨w3,e3,hl3,hB3,hz3⟩:=box_bal wr c
    have hG3:=HG.out.below hB3 HG.out.lt
    obtain⟨g0,g1⟩:=Bals.both hG3
    obtain⟨d0,d1⟩:=Bals.both hl3
    have HG3:=Lib.hid hG3;have HC3:=Lib.hid hl3
    have HO3:=Lib.hid (HO.out.below hB3 HO.out.lt)
    have HB3:=Lib.hid (HB.out.trans (hB3.mono HB.out.size))
    dsimp only [Bl.cells]at e3
    clear hcr hc hg hG3 hl3 hB3 hz3 hblt
    go_wp2_with fail
    refine(bless_any g c _).mono ?_
    rintro e w4 ⟨rfl,hB4⟩
    have hG4:=HG3.out.below hB4 HG3.out.lt
    have HC4:=Lib.hid (HC3.out.below hB4 HC3.out.lt)
    have HG4:=Lib.hid hG4
    have HO4:=Lib.hid (HO3.out.below hB4 HO3.out.lt)
    have HB4:=Lib.hid (HB3.out.trans (hB4.mono HB3.out.size))
    obtain⟨m0,m1⟩:=Bals.both HC4.out
    obtain⟨t,ht⟩ : ∃t,t=Bl.less g c:=⟨_,rfl⟩
    rw[← ht]
    have HT:=Lib.hid ht
    clear ht hG4 hB4 g0 g1 d0 d1 c0 c1
    cases t with
    | false =>
     have HTP:Hid (Bl.top g c=g):=by show _=_;rw[Bl.top, ← HT.out];rfl
     go_wp2
     go_roundw
     case rel=>exact⟨k+1,by go_num,by omega,by rw[HNX.out,HTP.out];exact HG4.out,HO4.out,HB4.out⟩
     case measure=>simp[intOf];omega
    | true =>
     have HTP:Hid (Bl.top g c=c):=by show _=_;rw[Bl.top, ← HT.out];rfl
     go_wp2_with (refine store_bal (by rfl) _ _ (by rfl) w0.heap.size g c (by rfl) (by rfl) HG4.out ?_;intro w5 hl5 hg5)
     have HO5:=Lib.hid (HO4.out.kept hg5 (by simp;omega))
     have HB5:=Lib.hid (HB4.out.grown hg5 HB4.out.size (by rintro j hj;cases hj;omega))
     go_roundw
     case rel=>exact⟨k+1,by go_num,by omega,by rw[HNX.out,HTP.out];exact hl5,HO5.out,HB5.out⟩
     case measure=>simp[intOf];omega
   ·obtain rfl:k=n:=by omega
    obtain⟨g,hg⟩ : ∃g,g=Bl.most (x :: r):=⟨_,rfl⟩
    have hgt:Bl.most (x :: r.take k)=g:=by rw[hg,HN.out,List.take_length]
    rw[hgt]at HG
    obtain⟨g0,g1⟩:=Bals.both HG.out
    have HGG:=Lib.hid hg
    clear hgt hg
    go_wp2_with (refine store_bal (by rfl) _ _ (by rfl) w.heap.size Bl.zero g (by rfl) (by rfl) HO.out ?_;intro w5 hl5 hg5)
    refine ret_bal1 rfl rfl hl5 rfl ?_
    exact⟨by rw[HGG.out],HB.out.grown hg5 HB.out.size (by rintro j hj;cases hj;omega)⟩
end Go.Proofs.YtdkdjofnnnljjaaGreatDoor
