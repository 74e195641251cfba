/- Several texts of mine in one: DkMath WlMath. -/
import Derived.Test.YtdkdjofnnnljjaaGreatDoorPMem
import Derived.Test.YtdkdjofnnnljjaaGreatDoorPSgPlain
namespace Go.Proofs.YtdkdjofnnnljjaaGreatDoor
open Go.RowKit
section
namespace Dk
structure Op where
 kind:Int
 no:Int
 data:List UInt8
abbrev Files := List (Int × List UInt8)
section
variable {α β : Type}
def Asc(l:List (Int × α)):Prop:=l.Pairwise fun a b=>a.1<b.1
def get : List (Int × α)→Int→Option α
 | [],_=>none
 | p :: r,n=>if p.1=n then some p.2 else get r n
def ins(n:Int)(x:α):List (Int × α)→List (Int × α)
 | [] => [(n,x)]
 | p :: r=>if n<p.1 then (n,x) :: p :: r else p :: ins n x r
def del(l:List (Int × α))(n:Int):List (Int × α):=l.filter fun p=>p.1 != n
def put(l:List (Int × α))(n:Int)(x:α):List (Int × α):=ins n x (del l n)
def onto(f:α→β)(l:List (Int × α)):List (Int × β):=l.map fun p=>(p.1,f p.2)
theorem Asc.tail{p:Int × α}{r:List (Int × α)}(h:Asc (p :: r)):Asc r:=(List.pairwise_cons.1 h).2
theorem Asc.head{p:Int × α}{r:List (Int × α)}(h:Asc (p :: r)) : ∀q∈r,p.1<q.1:=(List.pairwise_cons.1 h).1
theorem Asc.nil : Asc ([]:List (Int × α)):=List.Pairwise.nil
theorem mem_ins{n:Int}{x:α}{q:Int × α} : ∀ {l:List (Int × α)},q∈ins n x l↔q=(n,x)∨q∈l
 | []=>by simp[ins]
 | p :: r=>by
  unfold ins
  split
  ·simp
  ·rw[List.mem_cons,mem_ins (l:=r),List.mem_cons]
   constructor
   ·rintro(h | h | h)<;>simp[h]
   ·rintro(h | h | h)<;>simp[h]
theorem mem_del{n:Int}{q:Int × α}{l:List (Int × α)}:q∈del l n↔q∈l∧q.1≠n:=by
 unfold del
 rw[List.mem_filter]
 simp
theorem mem_put{n:Int}{x:α}{q:Int × α}{l:List (Int × α)}:q∈put l n x↔q=(n,x)∨(q∈l∧q.1≠n):=by
 unfold put
 rw[mem_ins,mem_del]
theorem asc_ins{n:Int}{x:α} : ∀ {l:List (Int × α)},Asc l→(∀q∈l,q.1≠n)→Asc (ins n x l)
 | [],_,_=>by simp[ins,Asc]
 | p :: r,h,hn=>by
  unfold ins
  split
  ·rename_i hlt
   refine List.pairwise_cons.2 ⟨fun q hq => ?_,h⟩
   rcases List.mem_cons.1 hq with rfl | hq
   ·exact hlt
   ·have:=h.head q hq
    show n<q.1
    omega
  ·rename_i hge
   have hp:=hn p (by simp)
   refine List.pairwise_cons.2 ⟨fun q hq => ?_,asc_ins h.tail (fun _ hq=>hn _ (List.mem_cons_of_mem _ hq))⟩
   rcases mem_ins.1 hq with rfl | hq
   ·show p.1<n
    omega
   ·exact h.head q hq
theorem asc_del{n:Int}{l:List (Int × α)}(h:Asc l):Asc (del l n):=List.Pairwise.filter _ h
theorem asc_put{n:Int}{x:α}{l:List (Int × α)}(h:Asc l):Asc (put l n x):=asc_ins (asc_del h) fun _ hq=>(mem_del.1 hq).2
theorem get_none{n:Int} : ∀ {l:List (Int × α)},get l n=none ↔ ∀q∈l,q.1≠n
 | []=>by simp[get]
 | p :: r=>by
  unfold get
  split
  ·rename_i h
   constructor
   ·intro e;cases e
   ·intro e;exact absurd h (e p (by simp))
  ·rename_i h
   rw[get_none (l:=r)]
   constructor
   ·intro e q hq
    rcases List.mem_cons.1 hq with rfl | hq
    ·exact h
    ·exact e q hq
   ·intro e q hq
    exact e q (List.mem_cons_of_mem _ hq)
theorem get_mem{n:Int}{x:α} : ∀ {l:List (Int × α)},get l n=some x→(n,x)∈l
 | [],h=>by simp[get]at h
 | p :: r,h=>by
  unfold get at h
  split at h
  ·rename_i hp
   simp only[Option.some.injEq]at h
   subst hp h
   exact List.mem_cons_self
  ·exact List.mem_cons_of_mem _ (get_mem h)
theorem get_of_mem{n:Int}{x:α} : ∀ {l:List (Int × α)},Asc l→(n,x)∈l→get l n=some x
 | [],_,h=>by simp at h
 | p :: r,ha,h=>by
  unfold get
  rcases List.mem_cons.1 h with rfl | h
  ·simp
  ·have:=ha.head _ h
   rw[if_neg (by simp only at this;omega)]
   exact get_of_mem ha.tail h
theorem del_none{n:Int}{l:List (Int × α)}(h:get l n=none):del l n=l:=by
 unfold del
 refine List.filter_eq_self.2 fun q hq => ?_
 have:=get_none.1 h q hq
 simpa using this
theorem onto_ins(f:α→β)(n:Int)(x:α) : ∀l:List (Int × α),onto f (ins n x l)=ins n (f x) (onto f l)
 | []=>rfl
 | p :: r=>by
  show onto f (if n<p.1 then _ else _)=if n<p.1 then _ else _
  split
  ·rfl
  ·show(p.1,f p.2) :: onto f (ins n x r)=_
   rw[onto_ins f n x r]
   rfl
theorem onto_del(f:α→β)(l:List (Int × α))(n:Int):onto f (del l n)=del (onto f l) n:=by
 unfold onto del
 rw[List.filter_map]
 rfl
theorem onto_put(f:α→β)(l:List (Int × α))(n:Int)(x:α):onto f (put l n x)=put (onto f l) n (f x):=by
 unfold put
 rw[onto_ins,onto_del]
theorem onto_get(f:α→β)(n:Int) : ∀l:List (Int × α),get (onto f l) n=(get l n).map f
 | []=>rfl
 | p :: r=>by
  show(if p.1=n then _ else get (onto f r) n)=((if p.1=n then _ else get r n):Option α).map f
  split
  ·rfl
  ·exact onto_get f n r
theorem asc_onto(f:α→β){l:List (Int × α)}:Asc (onto f l)↔Asc l:=by
 unfold Asc onto
 rw[List.pairwise_map]
theorem put_same{n:Int}{x:α} : ∀ {l:List (Int × α)},Asc l→get l n=some x→put l n x=l
 | [],_,h=>by simp[get]at h
 | p :: r,ha,h=>by
  unfold get at h
  unfold put del
  rw[List.filter_cons]
  split at h
  ·rename_i hp
   simp only[Option.some.injEq]at h
   subst hp h
   rw[if_neg (by simp)]
   have hr:r.filter (fun q=>q.1 != p.1)=r:=List.filter_eq_self.2 fun q hq=>by have:=ha.head q hq;simp;omega
   rw[hr]
   cases r with
   | nil=>rfl
   | cons q r =>
    unfold ins
    rw[if_pos (ha.head q (by simp))]
  ·rename_i hp
   rw[if_pos (by simpa using hp)]
   have hlt:p.1<n:=ha.head _ (get_mem h)
   show(if n<p.1 then _ else _)=_
   rw[if_neg (by omega)]
   exact congrArg _ (put_same ha.tail h)
end
def done(F:Files)(x:Op):Files :=
 match get F x.no with
 | none=>if x.kind=1 then put F x.no []else F
 | some d=>if x.kind=2 then put F x.no (d++x.data)else if x.kind=3 then del F x.no else F
def all(F:Files)(B:List Op):Files:=B.foldl done F
def clamp(n:Int)(most:Nat):Nat:=min n.toNat most
def torn(x:Op)(n:Int):Op:=⟨x.kind,x.no,x.data.take (clamp n x.data.length)⟩
def crash(F:Files)(B:List Op)(keep cut:Int):Files :=
 match B[clamp keep B.length]? with
 | none=>all F B
 | some x=>if x.kind=2 then done (all F (B.take (clamp keep B.length))) (torn x cut)else all F (B.take (clamp keep B.length))
def isKind(k:Int):Prop:=k=1∨k=2∨k=3
def Kinds(B:List Op):Prop := ∀x∈B,isKind x.kind∧1≤x.no∧x.no≤4294967296
theorem asc_done{F:Files}(h:Asc F)(x:Op):Asc (done F x):=by
 unfold done
 split
 ·split
  ·exact asc_put h
  ·exact h
 ·split
  ·exact asc_put h
  ·split
   ·exact asc_del h
   ·exact h
theorem asc_all{F:Files}(h:Asc F)(B:List Op):Asc (all F B):=by
 unfold all
 induction B generalizing F with
 | nil=>exact h
 | cons x r ih=>exact ih (asc_done h x)
theorem all_snoc(F:Files)(B:List Op)(x:Op):all F (B ++ [x])=done (all F B) x:=by simp[all,List.foldl_append]
theorem all_step{F:Files}{B:List Op}{i:Nat}{x:Op}(h:B[i]? = some x):all F (B.take (i+1))=done (all F (B.take i)) x:=by
 rw[List.take_add_one,h]
 exact all_snoc _ _ _
def wt(F:Files):Nat:=(F.map fun f=>1+f.2.length).sum
def wtB(B:List Op):Nat:=(B.map fun x=>1+x.data.length).sum
theorem wt_cons(f:Int × List UInt8)(F:Files):wt (f :: F)=1+f.2.length+wt F:=by simp[wt]
theorem wtB_cons(x:Op)(B:List Op):wtB (x :: B)=1+x.data.length+wtB B:=by simp[wtB]
theorem wtB_app(A B:List Op):wtB (A++B)=wtB A+wtB B:=by simp[wtB]
theorem wt_mem{f:Int × List UInt8} : ∀ {F:Files},f∈F→1+f.2.length≤wt F
 | [],h=>by simp at h
 | g :: r,h=>by
  rw[wt_cons]
  rcases List.mem_cons.1 h with rfl | h
  ·omega
  ·have:=wt_mem h;omega
theorem wtB_mem{x:Op} : ∀ {B:List Op},x∈B→1+x.data.length≤wtB B
 | [],h=>by simp at h
 | g :: r,h=>by
  rw[wtB_cons]
  rcases List.mem_cons.1 h with rfl | h
  ·omega
  ·have:=wtB_mem h;omega
theorem len_wt : ∀F:Files,F.length≤wt F
 | []=>by simp
 | f :: r=>by have:=len_wt r;rw[wt_cons,List.length_cons];omega
theorem len_wtB : ∀B:List Op,B.length≤wtB B
 | []=>by simp
 | f :: r=>by have:=len_wtB r;rw[wtB_cons,List.length_cons];omega
theorem wt_ins(n:Int)(d:List UInt8) : ∀F:Files,wt (ins n d F)=wt F+1+d.length
 | []=>by simp[ins,wt]
 | f :: r=>by
  unfold ins
  split
  ·rw[wt_cons];simp only;omega
  ·rw[wt_cons,wt_ins n d r,wt_cons];omega
theorem wt_del_le(n:Int) : ∀F:Files,wt (del F n)≤wt F
 | []=>by simp[del]
 | f :: r=>by
  have:=wt_del_le n r
  unfold del at this ⊢
  rw[List.filter_cons]
  split<;>simp only[wt_cons]<;>omega
theorem wt_del{n:Int}{d:List UInt8} : ∀ {F:Files},(n,d)∈F→wt (del F n)+(1+d.length)≤wt F
 | [],h=>by simp at h
 | f :: r,h=>by
  rw[wt_cons]
  have h2:=wt_del_le n r
  unfold del at h2 ⊢
  rw[List.filter_cons]
  rcases List.mem_cons.1 h with rfl | h
  ·rw[if_neg (by simp)]
   simp only
   omega
  ·have:=wt_del h
   unfold del at this
   split
   ·rw[wt_cons];omega
   ·omega
theorem wt_done(F:Files)(x:Op):wt (done F x)≤wt F+(1+x.data.length):=by
 unfold done
 split
 ·split
  ·unfold put
   rw[wt_ins]
   have:=wt_del_le x.no F
   simp
   omega
  ·omega
 ·rename_i d hd
  split
  ·unfold put
   rw[wt_ins]
   have:=wt_del (get_mem hd)
   simp
   omega
  ·split
   ·have:=wt_del_le x.no F;omega
   ·omega
theorem wt_all(B:List Op) : ∀F:Files,wt (all F B)≤wt F+wtB B:=by
 induction B with
 | nil=>intro F;simp[all,wtB]
 | cons x r ih =>
  intro F
  have h1:=ih (done F x)
  have h2:=wt_done F x
  rw[wtB_cons]
  show wt (all (done F x) r)≤_
  omega
theorem wtB_split(B:List Op)(i:Nat):wtB (B.take i)+wtB (B.drop i)=wtB B:=by rw[← wtB_app,List.take_append_drop]
def rest(x:Op):Bool→Files→Files
 | d, []=>if d then []else [(x.no, [])]
 | d,f :: r=>(if !d && decide (f.1>x.no)then [(x.no, [])]else [])++(if f.1≠x.no then [f]else if x.kind=2 then [(x.no,f.2++x.data)]else if x.kind=1 then [f]else [])++rest x (d || decide (f.1>x.no)) r
def begins(a b:Files):Prop:=a.length=b.length ∧ ∀(i:Nat) (f g:Int × List UInt8),a[i]? = some f→b[i]? = some g→f.1=g.1∧f.2 <+: g.2
theorem done_nothing{F:Files}(h:Asc F)(k no:Int)(h2:k=2):done F ⟨k,no, []⟩=F:=by
 unfold done
 subst h2
 simp only[List.append_nil]
 split
 ·rfl
 ·rename_i d hd
  exact put_same h hd
theorem crash_none{F:Files}(h:Asc F)(B:List Op):crash F B 0 0=F:=by
 unfold crash
 have e:clamp 0 B.length=0:=by simp[clamp]
 rw[e]
 cases B with
 | nil=>rfl
 | cons x r =>
  simp only[List.getElem?_cons_zero,List.take_zero]
  split
  ·rename_i h2
   have:torn x 0=⟨x.kind,x.no, []⟩:=by simp[torn,clamp]
   rw[this]
   exact done_nothing h _ _ h2
  ·rfl
theorem crash_all(F:Files)(B:List Op)(k n:Int)(h:(B.length:Int)≤k):crash F B k n=all F B:=by
 unfold crash
 have e:clamp k B.length=B.length:=by unfold clamp;omega
 rw[e,List.getElem?_eq_none (Nat.le_refl _)]
structure Step where
 kind:Int
 no:Int
 n:Int
 data:List UInt8
def takes(s:Step):Bool:=decide (1≤s.kind∧s.kind≤3∧1≤s.no∧s.no≤4294967296)
def opOf(s:Step):Op:=⟨s.kind,s.no,if s.kind=2 then s.data else []⟩
def step(x:Files × List Op)(s:Step):Files × List Op :=
 if s.kind=4 then (all x.1 x.2, [])else if s.kind=5 then (crash x.1 x.2 s.no s.n, [])else if takes s then (x.1,x.2 ++ [opOf s])else x
structure Good(x:Files × List Op)(n:Nat):Prop where
 asc:Asc x.1
 kinds:Kinds x.2
 small:wt x.1+wtB x.2≤n
def after(l:List Step):Files × List Op:=l.foldl step ([], [])
end Dk
end
end Go.Proofs.YtdkdjofnnnljjaaGreatDoor

namespace Go.Proofs.YtdkdjofnnnljjaaGreatDoor
open Go.RowKit
namespace Sg
theorem cut_told' {f:Int}(hf:f=1∨f=2){h:Hd.Hard}{more:List Re.Rec}(hok : ∀x∈Hd.recs h++more,Re.olderIn f x=0∧x.Fits)(hl:(Hd.recs h).length≤9223372036854775807){n:Nat}(hn:n≤(file f h more).length) :
 Torn ((file f h more).take n) ∨ ∃j,(Hd.recs h).length≤j∧j≤(Hd.recs h).length+more.length∧Frm.ends (bodies f h more) j≤n∧Whole ((file f h more).take n) f ((Hd.recs h).length:Int) ((Hd.recs h++more).take j) (Frm.ends (bodies f h more) j):=by
 have hc:=bodies_count f h more
 obtain⟨K,hK,hiff,_⟩:=cut hf h more (fun x hx=>(body_len (hok x hx).1 (hok x hx).2).1) (bodies_len hf hok hl) hn
 obtain⟨h1,h2⟩:=cut_read hf hok hl hn
 rw[hc]at hK hiff
 by_cases hk:K≤(Hd.recs h).length
 ·left
  have:=hiff (Hd.recs h).length (by omega)
  exact h1 (by omega)
 ·right
  refine⟨K - 1,by omega,by omega,(hiff (K - 1) (by omega)).2 (by omega),h2 (K - 1) (by omega) (by omega) ((hiff (K - 1) (by omega)).2 (by omega)) fun hlt => ?_⟩
  have:=hiff (K - 1+1) (by omega)
  omega
end Sg
namespace Wl
def Tells(b:List UInt8)(f:Int)(h:Hd.Hard):Prop := ∃s l e,Sg.Whole b f s l e∧Hd.of l=h
theorem Tells.one{b:List UInt8}{f f' : Int}{h h' : Hd.Hard}(t:Tells b f h)(t' : Tells b f' h'):f=f' ∧ h=h' := by
 obtain⟨s,l,e,hw,rfl⟩:=t
 obtain⟨s', l', e', hw', rfl⟩:=t'
 obtain⟨rfl,_,rfl,_⟩:=hw.one hw'
 exact⟨rfl,rfl⟩
theorem Tells.not{b:List UInt8}{f:Int}{h:Hd.Hard}(t:Tells b f h) : ¬Sg.Torn b:=fun ht=>by
 obtain⟨s,l,e,hw,_⟩:=t
 exact ht _ _ _ _ hw
theorem tells_or(b:List UInt8):Sg.Torn b ∨ ∃f h,Tells b f h:=by
 by_cases h : ∃f s l e,Sg.Whole b f s l e
 ·obtain⟨f,s,l,e,hw⟩:=h
  exact .inr ⟨f,_,s,l,e,hw,rfl⟩
 ·exact .inl fun f s l e hw=>h ⟨f,s,l,e,hw⟩
theorem torn_nil : Sg.Torn []:=fun f s l e hw=>by
 obtain⟨⟨y,c,h1,_⟩,_⟩:=hw
 obtain⟨c', _,h2,h3,_⟩:=Frm.next_ok h1
 simp at h3
 omega
def Peek(F:Dk.Files)(f:Int)(h:Hd.Hard):Prop :=
 (∃A n b C,F=A++(n,b) :: C∧Tells b f h ∧ ∀q∈C,Sg.Torn q.2)∨((∀q∈F,Sg.Torn q.2)∧f=1∧h=Hd.zero)
theorem Peek.nil : Peek [] 1 Hd.zero := .inr ⟨fun q hq=>by simp at hq,rfl,rfl⟩
theorem Peek.torn{F:Dk.Files}{f:Int}{h:Hd.Hard}(p:Peek F f h)(n:Int){b:List UInt8}(hb:Sg.Torn b):Peek (F ++ [(n,b)]) f h:=by
 rcases p with ⟨A,m,c,C,rfl,ht,hC⟩ | ⟨hF,rfl,rfl⟩
 ·refine .inl ⟨A,m,c,C ++ [(n,b)],by simp,ht,fun q hq => ?_⟩
  rcases List.mem_append.1 hq with hq | hq
  ·exact hC q hq
  ·obtain rfl:q=(n,b):=by simpa using hq
   exact hb
 ·refine .inr ⟨fun q hq => ?_,rfl,rfl⟩
  rcases List.mem_append.1 hq with hq | hq
  ·exact hF q hq
  ·obtain rfl:q=(n,b):=by simpa using hq
   exact hb
theorem Peek.last{F:Dk.Files}{f:Int}{h:Hd.Hard}(n:Int){b:List UInt8}(hb:Tells b f h):Peek (F ++ [(n,b)]) f h := .inl ⟨F,n,b, [],rfl,hb,fun q hq=>by simp at hq⟩
theorem peek_last{F:Dk.Files}{f f' : Int}{h h' : Hd.Hard}{n:Int}{b:List UInt8}(hb:Tells b f h)(p:Peek (F ++ [(n,b)]) f' h'):f' = f∧h' = h:=by
 rcases p with ⟨A,m,c,C,e,ht,hC⟩ | ⟨hF,_⟩
 ·rcases List.eq_nil_or_concat C with rfl | ⟨C', q,rfl⟩
  ·have h2:=List.append_inj_right' e rfl
   simp only[List.cons.injEq,Prod.mk.injEq,and_true]at h2
   obtain⟨rfl,rfl⟩:=h2
   obtain⟨rfl,rfl⟩:=ht.one hb
   exact⟨rfl,rfl⟩
  ·have h2:F ++ [(n,b)]=(A++(m,c) :: C') ++ [q]:=by rw[e];simp
   have h3:=List.append_inj_right' h2 rfl
   obtain rfl:(n,b)=q:=by simpa using h3
   exact absurd (hC (n,b) (by simp)) hb.not
 ·exact absurd (hF (n,b) (by simp)) hb.not
theorem peek_torn{F:Dk.Files}{f:Int}{h:Hd.Hard}{n:Int}{b:List UInt8}(hb:Sg.Torn b)(p:Peek (F ++ [(n,b)]) f h):Peek F f h:=by
 rcases p with ⟨A,m,c,C,e,ht,hC⟩ | ⟨hF,rfl,rfl⟩
 ·rcases List.eq_nil_or_concat C with rfl | ⟨C', q,rfl⟩
  ·have h2:=List.append_inj_right' e rfl
   simp only[List.cons.injEq,Prod.mk.injEq,and_true]at h2
   obtain⟨rfl,rfl⟩:=h2
   exact absurd hb ht.not
  ·have h2:F ++ [(n,b)]=(A++(m,c) :: C') ++ [q]:=by rw[e];simp
   have h3:=List.append_inj_left' h2 rfl
   exact .inl ⟨A,m,c,C', h3,ht,fun x hx=>hC x (by simp[hx])⟩
 ·exact .inr ⟨fun q hq=>hF q (by simp[hq]),rfl,rfl⟩
theorem Peek.one{F:Dk.Files}{f f' : Int}{h h' : Hd.Hard}(p:Peek F f h)(p' : Peek F f' h'):f=f' ∧ h=h' := by
 induction F using Hd.snoc_ind with
 | h0 =>
  rcases p with ⟨A,m,c,C,e,_⟩ | ⟨_,rfl,rfl⟩
  ·simp at e
  ·rcases p' with ⟨A,m,c,C,e,_⟩ | ⟨_,rfl,rfl⟩
   ·simp at e
   ·exact⟨rfl,rfl⟩
 | h1 l x ih =>
  obtain⟨n,b⟩:=x
  rcases tells_or b with ht | ⟨f0,h0,ht⟩
  ·exact ih (peek_torn ht p) (peek_torn ht p')
  ·obtain⟨rfl,rfl⟩:=peek_last ht p
   obtain⟨rfl,rfl⟩:=peek_last ht p'
   exact⟨rfl,rfl⟩
theorem ins_last{α:Type}{n:Int}{x:α} : ∀ {l:List (Int × α)},(∀q∈l,q.1<n)→Dk.ins n x l=l ++ [(n,x)]
 | [],_=>rfl
 | p :: r,h=>by
  unfold Dk.ins
  rw[if_neg (by have:=h p (by simp);omega),ins_last fun q hq=>h q (by simp[hq])]
  rfl
theorem del_last{α:Type}{n:Int}{x:α}{l:List (Int × α)}(h : ∀q∈l,q.1<n):Dk.del (l ++ [(n,x)]) n=l:=by
 unfold Dk.del
 rw[List.filter_append,List.filter_eq_self.2 fun q hq=>by have:=h q hq;simp;omega]
 simp
theorem put_last{α:Type}{n:Int}{x y:α}{l:List (Int × α)}(h : ∀q∈l,q.1<n):Dk.put (l ++ [(n,x)]) n y=l ++ [(n,y)]:=by
 unfold Dk.put
 rw[del_last h,ins_last h]
theorem put_new{α:Type}{n:Int}{y:α}{l:List (Int × α)}(h : ∀q∈l,q.1<n):Dk.put l n y=l ++ [(n,y)]:=by
 unfold Dk.put
 rw[show Dk.del l n=l from List.filter_eq_self.2 fun q hq=>by have:=h q hq;simp;omega,ins_last h]
theorem get_last{α:Type}{n:Int}{x:α} : ∀ {l:List (Int × α)},(∀q∈l,q.1<n)→Dk.get (l ++ [(n,x)]) n=some x
 | [],_=>by simp[Dk.get]
 | p :: r,h=>by
  show Dk.get (p :: (r ++ [(n,x)])) n=_
  unfold Dk.get
  rw[if_neg (by have:=h p (by simp);omega)]
  exact get_last fun q hq=>h q (by simp[hq])
theorem get_new{α:Type}{n:Int}{l:List (Int × α)}(h : ∀q∈l,q.1<n):Dk.get l n=none:=Dk.get_none.2 fun q hq=>by have:=h q hq;omega
theorem del_other{α:Type}{n m:Int}{x:α}{l:List (Int × α)}(h:m≠n):Dk.del (l ++ [(n,x)]) m=Dk.del l m ++ [(n,x)]:=by
 unfold Dk.del
 rw[List.filter_append]
 congr 1
 simp
 omega
theorem done_make{V:Dk.Files}{n:Int}(h : ∀q∈V,q.1<n)(d:List UInt8):Dk.done V ⟨1,n,d⟩=V ++ [(n, [])]:=by
 unfold Dk.done
 dsimp only
 rw[get_new h]
 dsimp only
 rw[if_pos rfl,put_new h]
theorem done_add{V:Dk.Files}{n:Int}{b:List UInt8}(h : ∀q∈V,q.1<n)(d:List UInt8):Dk.done (V ++ [(n,b)]) ⟨2,n,d⟩=V ++ [(n,b++d)]:=by
 unfold Dk.done
 dsimp only
 rw[get_last h]
 dsimp only
 rw[if_pos rfl,put_last h]
theorem done_drop{V:Dk.Files}{n m:Int}{b:List UInt8}(hm:m≠n)(d:List UInt8):Dk.done (V ++ [(n,b)]) ⟨3,m,d⟩=Dk.del V m ++ [(n,b)]:=by
 unfold Dk.done
 dsimp only
 cases hg:Dk.get (V ++ [(n,b)]) m with
 | none =>
  dsimp only
  rw[if_neg (by decide)]
  have hn:Dk.get V m=none:=Dk.get_none.2 fun q hq=>Dk.get_none.1 hg q (by simp[hq])
  rw[Dk.del_none hn]
 | some y =>
  dsimp only
  rw[if_neg (by decide),if_pos rfl,del_other hm]
theorem torn_add(n:Int)(d:List UInt8)(cut:Int):Dk.torn ⟨2,n,d⟩ cut=⟨2,n,d.take (Dk.clamp cut d.length)⟩:=rfl
def Fine(F:Dk.Files)(B:List Dk.Op)(P:Int→Hd.Hard→Prop):Prop := ∀keep cut,∃f h,P f h∧Peek (Dk.crash F B keep cut) f h
theorem Fine.synced{F:Dk.Files}{P:Int→Hd.Hard→Prop}{f:Int}{h:Hd.Hard}(p:Peek F f h)(hP:P f h):Fine F [] P:=fun keep cut=>⟨f,h,hP,by
 unfold Dk.crash Dk.clamp
 simp
 exact p⟩
theorem Fine.snoc{F:Dk.Files}{B:List Dk.Op}{P P' : Int→Hd.Hard→Prop}(h:Fine F B P)(hP : ∀f k,P f k→P' f k)(x:Dk.Op)(h1 : ∃f k,P' f k∧Peek (Dk.done (Dk.all F B) x) f k)
 (h2:x.kind=2 → ∀cut,∃f k,P' f k∧Peek (Dk.done (Dk.all F B) (Dk.torn x cut)) f k):Fine F (B ++ [x]) P' := by
 intro keep cut
 obtain⟨f0,k0,q0,p0⟩:=h keep cut
 have old : ∃f k,P' f k∧Peek (Dk.crash F B keep cut) f k:=⟨f0,k0,hP _ _ q0,p0⟩
 by_cases hc:keep.toNat<B.length
 ·have e1:Dk.clamp keep B.length=keep.toNat:=by unfold Dk.clamp;omega
  have e2:Dk.clamp keep (B ++ [x]).length=keep.toNat:=by unfold Dk.clamp;rw[List.length_append];omega
  have e3:Dk.crash F (B ++ [x]) keep cut=Dk.crash F B keep cut:=by
   unfold Dk.crash
   rw[e1,e2,List.getElem?_append_left hc,List.take_append_of_le_length (by omega),List.getElem?_eq_getElem hc]
  rw[e3]
  exact old
 ·have e1:Dk.clamp keep B.length=B.length:=by unfold Dk.clamp;omega
  have e0:Dk.crash F B keep cut=Dk.all F B:=by
   unfold Dk.crash
   rw[e1,List.getElem?_eq_none (Nat.le_refl _)]
  by_cases hl:keep.toNat=B.length
  ·have e2:Dk.clamp keep (B ++ [x]).length=B.length:=by unfold Dk.clamp;rw[List.length_append];simp;omega
   have e3:Dk.crash F (B ++ [x]) keep cut=if x.kind=2 then Dk.done (Dk.all F B) (Dk.torn x cut)else Dk.all F B:=by
    unfold Dk.crash
    rw[e2,List.getElem?_append_right (Nat.le_refl _),Nat.sub_self,List.take_append_of_le_length (Nat.le_refl _),List.take_length]
    rfl
   rw[e3]
   by_cases hk:x.kind=2
   ·rw[if_pos hk]
    exact h2 hk cut
   ·rw[if_neg hk, ← e0]
    exact old
  ·have e2:Dk.crash F (B ++ [x]) keep cut=Dk.all F (B ++ [x]):=Dk.crash_all F _ _ _ (by rw[List.length_append];simp;omega)
   rw[e2,Dk.all_snoc]
   exact h1
structure At(V:Dk.Files)(n f:Int)(h:Hd.Hard)(more:List Re.Rec):Prop where
 view : ∃A,V=A ++ [(n,Sg.file f h more)] ∧ ∀q∈A,q.1<n
 fmt:f=1∨f=2
 ok : ∀x∈Hd.recs h++more,Re.olderIn f x=0∧x.Fits
 len:(Hd.recs h).length≤9223372036854775807
theorem tells_file{f:Int}(hf:f=1∨f=2){h:Hd.Hard}{more:List Re.Rec}(hok : ∀x∈Hd.recs h++more,Re.olderIn f x=0∧x.Fits)(hl:(Hd.recs h).length≤9223372036854775807):Tells (Sg.file f h more) f (Hd.of (Hd.recs h++more)):=by
 have h1:=(Sg.cut_read hf hok hl (Nat.le_refl (Sg.file f h more).length)).2 ((Hd.recs h).length+more.length) (by omega) (by omega)
 have e:Frm.ends (Sg.bodies f h more) ((Hd.recs h).length+more.length)=(Sg.file f h more).length:=by
  unfold Frm.ends Sg.file
  rw[List.take_of_length_le (by rw[Sg.bodies_count];omega)]
 rw[e,List.take_length,List.take_of_length_le (by simp)]at h1
 exact⟨_,_,_,h1 (Nat.le_refl _) (by omega),rfl⟩
theorem At.peek{V:Dk.Files}{n f:Int}{h:Hd.Hard}{more:List Re.Rec}(a:At V n f h more):Peek V f (Hd.of (Hd.recs h++more)):=by
 obtain⟨A,rfl,_⟩:=a.view
 exact Peek.last n (tells_file a.fmt a.ok a.len)
theorem peek_head{A:Dk.Files}{n:Int}{f0:Int}{h0:Hd.Hard}(p:Peek A f0 h0)(hA : ∀q∈A,q.1<n){f:Int}(hf:f=1∨f=2){h:Hd.Hard}(hv:Hd.Valid h)(hok : ∀x∈Hd.recs h,Re.olderIn f x=0∧x.Fits)(hl:(Hd.recs h).length≤9223372036854775807)(cut:Int) :
 Peek (Dk.done (A ++ [(n, [])]) (Dk.torn ⟨2,n,Sg.file f h []⟩ cut)) f0 h0∨Peek (Dk.done (A ++ [(n, [])]) (Dk.torn ⟨2,n,Sg.file f h []⟩ cut)) f h:=by
 obtain⟨c,hc⟩ : ∃c,c=Dk.clamp cut (Sg.file f h []).length:=⟨_,rfl⟩
 have hcl:c≤(Sg.file f h []).length:=by rw[hc];unfold Dk.clamp;omega
 rw[torn_add, ← hc,done_add hA,List.nil_append]
 rcases Sg.cut_told' hf (h:=h) (more := []) (by simpa using hok) hl hcl with ht | ⟨j,hj1,hj2,_,hw⟩
 ·exact .inl (p.torn n ht)
 ·right
  rw[List.append_nil,List.take_of_length_le hj1]at hw
  exact Peek.last n ⟨_,_,_,hw,Hd.of_recs hv⟩
theorem At.begun{A:Dk.Files}{n:Int}(hA : ∀q∈A,q.1<n){f:Int}(hf:f=1∨f=2){h:Hd.Hard}(hok : ∀x∈Hd.recs h,Re.olderIn f x=0∧x.Fits)(hl:(Hd.recs h).length≤9223372036854775807):At (Dk.done (A ++ [(n, [])]) ⟨2,n,Sg.file f h []⟩) n f h []:=by
 rw[done_add hA,List.nil_append]
 exact⟨⟨A,rfl,hA⟩,hf,by simpa using hok,hl⟩
theorem At.drop{V:Dk.Files}{n f:Int}{h:Hd.Hard}{more:List Re.Rec}(a:At V n f h more){m:Int}(hm:m≠n)(d:List UInt8):At (Dk.done V ⟨3,m,d⟩) n f h more:=by
 obtain⟨A,rfl,hA⟩:=a.view
 rw[done_drop hm]
 exact⟨⟨_,rfl,fun q hq=>hA q (Dk.mem_del.1 hq).1⟩,a.fmt,a.ok,a.len⟩
structure Log(F:Dk.Files)(B:List Dk.Op)(n f:Int)(h:Hd.Hard)(more:List Re.Rec)(P:Int→Hd.Hard→Prop):Prop where
 fine:Fine F B P
 now:At (Dk.all F B) n f h more
 last:P f (Hd.of (Hd.recs h++more))
theorem Log.drops{F:Dk.Files}{n f:Int}{h:Hd.Hard}{more:List Re.Rec}{P:Int→Hd.Hard→Prop} : ∀(ms:List Int) {B:List Dk.Op},(∀m∈ms,m≠n)→Log F B n f h more P→Log F (B++ms.map fun m=>⟨3,m, []⟩) n f h more P
 | [],B,_,g=>by simpa using g
 | m :: r,B,hm,g=>by
  have ha:=g.now.drop (hm m (by simp)) []
  have g1:Log F (B ++ [⟨3,m, []⟩]) n f h more P:=⟨g.fine.snoc (fun _ _ q=>q) _ ⟨f,_,g.last,ha.peek⟩ fun hk=>absurd (show(3:Int)=2 from hk) (by decide),by rw[Dk.all_snoc];exact ha,g.last⟩
  have:=Log.drops r (fun q hq=>hm q (by simp[hq])) g1
  rw[List.append_assoc]at this
  exact this
theorem Log.begun{F:Dk.Files}{B:List Dk.Op}{P P' : Int→Hd.Hard→Prop}(g:Fine F B P){f0:Int}{h0:Hd.Hard}(p:Peek (Dk.all F B) f0 h0)(hp:P f0 h0){n:Int}(hn : ∀q∈Dk.all F B,q.1<n){f:Int}(hf:f=1∨f=2){h:Hd.Hard}(hv:Hd.Valid h)
 (hok : ∀x∈Hd.recs h,Re.olderIn f x=0∧x.Fits) (hl:(Hd.recs h).length≤9223372036854775807) (hP : ∀f k,P f k→P' f k) (hlast:P' f h) (ms:List Int) (hm : ∀m∈ms,m≠n) :
 Log F (B ++ [⟨1,n, []⟩] ++ [⟨2,n,Sg.file f h []⟩]++ms.map fun m=>⟨3,m, []⟩) n f h [] P' := by
 have e1:Dk.all F (B ++ [⟨1,n, []⟩])=Dk.all F B ++ [(n, [])]:=by rw[Dk.all_snoc,done_make hn]
 have g1:Fine F (B ++ [⟨1,n, []⟩]) P:=g.snoc (fun _ _ q=>q) _ ⟨f0,h0,hp,by rw[done_make hn];exact p.torn n torn_nil⟩ fun hk=>absurd (show(1:Int)=2 from hk) (by decide)
 have ha:=At.begun hn hf hok hl
 have hs:Hd.of (Hd.recs h ++ [])=h:=by rw[List.append_nil,Hd.of_recs hv]
 refine Log.drops ms hm ⟨g1.snoc hP _ ⟨f,h,hlast, ?_⟩ fun _ cut => ?_, ?_,by rw[hs];exact hlast⟩
 ·rw[e1, ← hs]
  have:=ha.peek
  rw[hs]at this ⊢
  exact this
 ·rw[e1]
  rcases peek_head p hn hf hv hok hl cut with h1 | h1
  ·exact⟨f0,h0,hP _ _ hp,h1⟩
  ·exact⟨f,h,hlast,h1⟩
 ·rw[Dk.all_snoc,e1]
  exact ha
end Wl
end Go.Proofs.YtdkdjofnnnljjaaGreatDoor
