/- Several texts of mine in one: GSa SgPlain DkMath. -/
import Derived.Test.YtdkdjofnnnljjaaGreatDoorPRtMath
import Derived.Test.YtdkdjofnnnljjaaGreatDoorPCmFew
import Derived.Test.YtdkdjofnnnljjaaGreatDoorHdMath
import Derived.Test.YtdkdjofnnnljjaaGreatDoorGFr
import Derived.Test.YtdkdjofnnnljjaaGreatDoorGCw
import Derived.Test.YtdkdjofnnnljjaaGreatDoorPVers
import Derived.Test.YtdkdjofnnnljjaaGreatDoorPMem
namespace Go.Proofs.YtdkdjofnnnljjaaGreatDoor
open Go.RowKit
theorem Re.decoded_small{s:List UInt8}(h:(Re.decode s).2=0):(Re.decode s).1.Fits∧(Re.decode s).1.cmd.Short 1000∧(Re.decode s).1.img.length≤32768∧Re.check (Re.decode s).1=0:=by
 obtain⟨h1,h2,_⟩:=Re.decode_ok s h
 have hc:=(Re.older_good h2).1
 have hg:=Re.check_good hc
 rw[h1]
 refine⟨(Re.got_inv s).1, ?_,Re.good_len hg,hc⟩
 by_cases hk:Re.hc (Re.got s).1.kind=true
 ·exact Short.up (Cm.check_short (hg.cmd hk)) (by omega)
 ·rw[Re.good_cmd hg (by simpa using hk)]
  exact⟨by simp[Cm.zero,Cm.bareOf],by simp[Cm.zero,Cm.bareOf],by simp[Cm.zero,Cm.bareOf]⟩
theorem Rt.get_back{v:Int}(hv:v=1∨v=2){x:Re.Rec}(h:Re.olderIn v x=0)(hf:x.Fits){s:Nat}(hs:x.cmd.Short s)(hs2:s≤9223372036854775807):Rt.get v (Rt.bytesIn v x)=(x,0):=by
 rcases hv with rfl | rfl
 ·rw[show Re.olderIn 1 x=Re.older x from Re.olderIn_one x]at h
  exact Re.decode_back h hf hs hs2
 ·rw[Rt.older_two]at h
  exact Rt.decode_back h hf hs hs2
theorem Re.olderIn_check{v:Int}{x:Re.Rec}(h:Re.olderIn v x=0):Re.check x=0:=by
 unfold Re.olderIn at h
 by_cases hc:Re.check x=0
 ·exact hc
 ·rw[if_pos hc]at h;exact absurd h hc
theorem Rt.get_none{v:Int}(hv:v=1∨v=2){s:List UInt8}(h:(Rt.get v s).2≠0):(Rt.get v s).1=Re.zero:=by
 rcases hv with rfl | rfl
 ·exact Re.decode_none s h
 ·exact Rt.decode_none s h
theorem Rt.get_ok{v:Int}(hv:v=1∨v=2){s:List UInt8}(h:(Rt.get v s).2=0) :
 Re.olderIn v (Rt.get v s).1=0∧Rt.bytesIn v (Rt.get v s).1=s∧(Rt.get v s).1.Fits∧(Rt.get v s).1.cmd.Short 1000∧(Rt.get v s).1.img.length≤32768:=by
 rcases hv with rfl | rfl
 ·have h' : (Re.decode s).2=0:=h
  obtain⟨h1,h2,h3⟩:=Re.decode_ok s h'
  obtain⟨s1,s2,s3,_⟩:=Re.decoded_small h'
  refine⟨?_, ?_,s1,s2,s3⟩
  ·rw[show Re.olderIn 1 _=Re.older _ from Re.olderIn_one _]
   show Re.older (Re.decode s).1=0
   rw[h1];exact h2
  ·show Re.bytes (Re.decode s).1=s
   rw[h1];exact h3
 ·have h' : (Rt.decode s).2=0:=h
  obtain⟨h1,h2,h3⟩:=Rt.decode_ok s h'
  have hg:=Re.check_good h2
  obtain⟨s1,_,_⟩:=Rt.got_inv s
  have hM:(Rt.get 2 s).1=Rt.gotR s:=h1
  rw[hM]
  refine⟨by rw[Rt.older_two];exact h2,h3,s1, ?_,Re.good_len hg⟩
  by_cases hk:Re.hc (Rt.gotR s).kind=true
  ·exact Short.up (Cm.check_short (hg.cmd hk)) (by omega)
  ·rw[Re.good_cmd hg (by simpa using hk)]
   exact⟨by simp[Cm.zero,Cm.bareOf],by simp[Cm.zero,Cm.bareOf],by simp[Cm.zero,Cm.bareOf]⟩
namespace Frm
theorem next_drop{l y:List UInt8}{a:Nat}{e:Int}(h:next l a=(y,e,0)) : ∃c:Nat,e=(c:Int)∧l.drop a=frame y++l.drop c∧a+(frame y).length=c∧c≤l.length∧0<y.length∧y.length≤65536:=by
 obtain⟨c0,hc0,_,hc2,h0,h1⟩:=next_ok h
 rcases next_cases l a with ⟨e', he', _,hn⟩ | ⟨p,n,c,hp,hpl,_,_,_,henc,hcase⟩
 ·rw[hn]at h
  simp only[Prod.mk.injEq]at h
  exact absurd h.2.2 he'
 ·obtain rfl:p=a:=by omega
  rcases hcase with ⟨_,hn⟩ | ⟨_,hn⟩ | ⟨hn0,hn1,⟨_,hn⟩ | ⟨hlen,⟨htail,hn⟩ | ⟨_,hn⟩⟩⟩
  ·rw[hn]at h;simp at h
  ·rw[hn]at h;simp at h
  ·rw[hn]at h;simp at h
  ·rw[hn]at h
   simp only[Prod.mk.injEq,and_true]at h
   obtain⟨rfl,rfl⟩:=h
   have hy:((l.drop (p+c)).take n).length=n:=by rw[List.length_take,List.length_drop];omega
   have hf:frame ((l.drop (p+c)).take n)=(l.drop p).take (c+n+4):=by
    have:=frame_there hlen henc
    rw[decide_eq_true htail,beq_iff_eq]at this
    exact this
   refine⟨p+c+n+4,rfl, ?_, ?_,hlen,h0,h1⟩
   ·rw[hf,show p+c+n+4=p+(c+n+4) by omega, ← List.drop_drop,List.take_append_drop]
   ·rw[hf,List.length_take,List.length_drop];omega
  ·rw[hn]at h;simp at h
theorem next_take{l y:List UInt8}{a c m:Nat}(h:next l a=(y,(c:Int),0))(hm:c≤m):next (l.take m) a=(y,(c:Int),0):=by
 obtain⟨c', e,h1,h2,h3,h4,h5⟩:=next_drop h
 obtain rfl:c=c' := by omega
 have hd:(l.take m).drop a=frame y++(l.take m).drop c:=by
  rw[List.drop_take,h1,List.take_append,List.take_of_length_le (by omega),List.drop_take]
  congr 2
  omega
 have:=next_frame hd (by rw[List.length_take];omega) h4 h5
 rw[this,h2]
theorem next_end{l:List UInt8}{a:Nat}(h:l.length≤a):(next l a).2.2≠0:=by
 intro h0
 obtain⟨y,e,e0,hn⟩ : ∃y e e0,next l a=(y,e,e0):=⟨_,_,_,rfl⟩
 rw[hn]at h0
 obtain rfl:e0=0:=h0
 obtain⟨c,_,h1,h2,_⟩:=next_ok hn
 omega
theorem flat_one(y:List UInt8)(fs:List (List UInt8)):flat (y :: fs)=frame y++flat fs:=by simp[flat]
theorem cut_is(n:Nat)(fs:List (List UInt8)) : ∃want a,Cut n fs want a:=by
 induction fs using Hd.snoc_ind with
 | h0=>exact⟨[],0,Cut.zero n⟩
 | h1 l x ih =>
  obtain⟨want,a,hc⟩:=ih
  by_cases hx:(flat (l ++ [x])).length≤n
  ·by_cases hl:l=want
   ·subst hl;exact⟨_,_,hc.in x hx⟩
   ·refine absurd hx ?_
    obtain⟨t,ht,hr⟩:=hc.rest
    cases t with
    | nil=>exact absurd (by simpa using ht) hl
    | cons y s =>
     have:=hr y s rfl
     have ha:=hc.at_
     rw[flat_snoc,ht,flat_app,flat_one]
     simp only[List.length_append]
     omega
  ·exact⟨_,_,hc.out x (by omega)⟩
def ends(fs:List (List UInt8))(i:Nat):Nat:=(flat (fs.take (i+1))).length
theorem flat_take_le(fs:List (List UInt8)){i j:Nat}(h:i≤j):(flat (fs.take i)).length≤(flat (fs.take j)).length:=by
 have e:fs.take j=fs.take i++(fs.drop i).take (j - i):=by
  rw[← List.take_add];congr 1;omega
 rw[e,flat_app,List.length_append]
 omega
theorem Cut.want_take{n:Nat}{fs want:List (List UInt8)}{a:Nat}(h:Cut n fs want a):want=fs.take want.length∧want.length≤fs.length:=by
 obtain⟨t,ht,_⟩:=h.rest
 rw[ht]
 simp
theorem Cut.iff{n:Nat}{fs want:List (List UInt8)}{a:Nat}(h:Cut n fs want a){i:Nat}(hi:i<fs.length):ends fs i≤n↔i<want.length:=by
 obtain⟨hw,hl⟩:=h.want_take
 have ha:=h.at_
 have hle:=h.le
 constructor
 ·intro he
  refine Decidable.byContradiction fun hx => ?_
  obtain⟨t,ht,hr⟩:=h.rest
  cases t with
  | nil =>
   rw[List.append_nil]at ht
   subst ht
   omega
  | cons y s =>
   have h1:=hr y s rfl
   have h2:(flat (fs.take (want.length+1))).length≤ends fs i:=flat_take_le fs (by omega)
   have h3:fs.take (want.length+1)=want ++ [y]:=by rw[ht,List.take_append,List.take_of_length_le (by omega)];simp
   rw[h3,flat_snoc,List.length_append]at h2
   omega
 ·intro hx
  have h2:ends fs i≤(flat (fs.take want.length)).length:=flat_take_le fs (by omega)
  rw[← hw]at h2
  omega
end Frm
namespace Sg
inductive Run(f:Int)(b:List UInt8):Nat→List Re.Rec→Nat→Prop
 | nil (a:Nat):Run f b a [] a
 | cons {a c e:Nat} {x:List UInt8} {r:Re.Rec} {t:List Re.Rec}:Frm.next b a=(x,(c:Int),0)→Rt.get f x=(r,0)→Run f b c t e→Run f b a (r :: t) e
def Stops(f:Int)(b:List UInt8)(a:Nat):Prop:=(Frm.next b a).2.2≠0∨(Rt.get f (Frm.next b a).1).2≠0
theorem Run.snoc{f:Int}{b:List UInt8}{a e:Nat}{t:List Re.Rec}(h:Run f b a t e) : ∀ {x:List UInt8} {r:Re.Rec} {c:Nat},Frm.next b e=(x,(c:Int),0)→Rt.get f x=(r,0)→Run f b a (t ++ [r]) c:=by
 induction h with
 | nil a=>intro x r c h1 h2;exact .cons h1 h2 (.nil c)
 | cons h1 h2 _ ih=>intro x r c h3 h4;exact .cons h1 h2 (ih h3 h4)
theorem Run.bound{f:Int}{b:List UInt8}{a e:Nat}{t:List Re.Rec}(h:Run f b a t e)(ha:a≤b.length):a+6*t.length≤e∧e≤b.length:=by
 induction h with
 | nil a=>simp;exact ha
 | cons h1 _ _ ih =>
  obtain⟨c', hc,h3,h4,_⟩:=Frm.next_ok h1
  have:c' = _:=Int.ofNat.inj hc.symm
  subst this
  have:=ih h4
  simp
  omega
theorem Run.one{f:Int}{b:List UInt8}{a e e' : Nat}{t t' : List Re.Rec}(h:Run f b a t e)(hs:Stops f b e)(h' : Run f b a t' e')(hs' : Stops f b e'):t=t' ∧ e=e' := by
 induction h generalizing t' with
 | nil a =>
  cases h' with
  | nil=>exact⟨rfl,rfl⟩
  | cons h1 h2 _ =>
   rcases hs with hs | hs
   ·rw[h1]at hs;exact absurd rfl hs
   ·rw[h1]at hs;exact absurd (by rw[h2]) hs
 | cons h1 h2 _ ih =>
  cases h' with
  | nil =>
   rcases hs' with hs | hs
   ·rw[h1]at hs;exact absurd rfl hs
   ·rw[h1]at hs;exact absurd (by rw[h2]) hs
  | cons h3 h4 h5 =>
   rw[h1]at h3
   simp only[Prod.mk.injEq,Int.natCast_inj,and_true]at h3
   obtain⟨rfl,rfl⟩:=h3
   rw[h2]at h4
   simp only[Prod.mk.injEq,and_true]at h4
   subst h4
   obtain⟨rfl,rfl⟩:=ih hs h5
   exact⟨rfl,rfl⟩
theorem Run.cut{f:Int}{b:List UInt8}{a e m:Nat}{t:List Re.Rec}(h:Run f b a t e)(ha:a≤b.length)(hm:e≤m):Run f (b.take m) a t e:=by
 induction h with
 | nil a=>exact .nil a
 | cons h1 h2 h3 ih =>
  obtain⟨c', hc,_,h4,_⟩:=Frm.next_ok h1
  have:c' = _:=Int.ofNat.inj hc.symm
  subst this
  have:=h3.bound h4
  exact .cons (Frm.next_take h1 (by omega)) h2 (ih h4 hm)
theorem Run.good{f:Int}(hf:f=1∨f=2){b:List UInt8}{a e:Nat}{t:List Re.Rec}(h:Run f b a t e) : ∀r∈t,Re.olderIn f r=0∧r.Fits∧r.cmd.Short 1000∧r.img.length≤32768:=by
 induction h with
 | nil a=>intro r hr;simp at hr
 | @cons a c e x r t h1 h2 _ ih =>
  intro q hq
  rcases List.mem_cons.1 hq with rfl | hq
  ·have h3:=Rt.get_ok hf (s:=x) (by rw[h2])
   rw[h2]at h3
   exact⟨h3.1,h3.2.2.1,h3.2.2.2.1,h3.2.2.2.2⟩
  ·exact ih q hq
theorem run_path{f:Int}(hf:f=1∨f=2){b:List UInt8} : ∀(l:List Re.Rec) (a e:Nat),(∀x∈l,Re.olderIn f x=0∧x.Fits∧x.cmd.Short 1000)→Frm.Path b a (l.map (Rt.bytesIn f)) e→Run f b a l e
 | [],a,e,_,h=>by cases h;exact .nil a
 | x :: r,a,e,hl,h=>by
  cases h with
  | cons h1 h2 =>
   obtain⟨g1,g2,g3⟩:=hl x (by simp)
   exact .cons h1 (Rt.get_back hf g1 g2 g3 (by omega)) (run_path hf r _ _ (fun q hq=>hl q (by simp[hq])) h2)
end Sg
def Sg.first(f:Int)(n:Nat):List UInt8:=enc f.toNat++enc n
def Sg.bodies(f:Int)(h:Hd.Hard)(more:List Re.Rec):List (List UInt8):=Sg.first f (Hd.recs h).length :: (Hd.recs h++more).map (Rt.bytesIn f)
def Sg.file(f:Int)(h:Hd.Hard)(more:List Re.Rec):List UInt8:=Frm.flat (Sg.bodies f h more)
def Sg.Ok(f:Int)(x:Re.Rec):Prop:=Re.olderIn f x=0∧x.Fits∧x.cmd.Short 1000∧x.img.length≤100000∧(Rt.bytesIn f x).length≤110000
theorem Sg.flat_len{f:Int}(y:List UInt8) : ∀l:List Re.Rec,(∀x∈l,Sg.Ok f x)→(Frm.flat (y :: l.map (Rt.bytesIn f))).length≤(Frm.frame y).length+120000*l.length:=by
 intro l
 induction l using Hd.snoc_ind with
 | h0=>intro _;simp[Frm.flat]
 | h1 l x ih =>
  intro h
  have h1:=ih fun c hc=>h c (by simp[hc])
  have h2:=(h x (by simp)).2.2.2.2
  have h3:=Frm.frame_len (Rt.bytesIn f x)
  have h4:=enc_nine (n:=(Rt.bytesIn f x).length) (by omega)
  have e:Frm.flat (y :: (l ++ [x]).map (Rt.bytesIn f))=Frm.flat (y :: l.map (Rt.bytesIn f))++Frm.frame (Rt.bytesIn f x):=by simp[Frm.flat]
  rw[e,List.length_append,List.length_append]
  simp
  omega
theorem Sg.cut{f:Int}(hf:f=1∨f=2)(h:Hd.Hard)(more:List Re.Rec)(hok : ∀x∈Hd.recs h++more,Sg.Ok f x)(hb : ∀y∈Sg.bodies f h more,0<y.length∧y.length≤65536){n:Nat}(hn:n≤(Sg.file f h more).length) :
 ∃k,k≤(Sg.bodies f h more).length∧(∀i,i<(Sg.bodies f h more).length→(Frm.ends (Sg.bodies f h more) i≤n↔i<k)) ∧
  (k=0→(Frm.next ((Sg.file f h more).take n) (0:Nat)).2.2≠0) ∧
  ∀j,k=j+1 → ∃c e:Nat,Frm.next ((Sg.file f h more).take n) (0:Nat)=(Sg.first f (Hd.recs h).length,(c:Int),0)∧Sg.Run f ((Sg.file f h more).take n) c ((Hd.recs h++more).take j) e∧e=Frm.ends (Sg.bodies f h more) j∧(Frm.next ((Sg.file f h more).take n) (e:Nat)).2.2≠0:=by
 obtain⟨want,a,hc⟩:=Frm.cut_is n (Sg.bodies f h more)
 obtain⟨hp,hs⟩:=hc.path hn hb
 obtain⟨hw,hl⟩:=hc.want_take
 refine⟨want.length,hl,fun i hi=>hc.iff hi,fun h0 => ?_,fun j hj => ?_⟩
 ·have:want = []:=List.eq_nil_of_length_eq_zero h0
  subst this
  have ha:=hc.at_
  have:a=0:=by rw[ha];rfl
  subst this
  exact hs
 ·have ha:=hc.at_
  rw[hj]at hw
  have e1:want=Sg.first f (Hd.recs h).length :: ((Hd.recs h++more).take j).map (Rt.bytesIn f):=by
   rw[hw]
   show(Sg.first f (Hd.recs h).length :: (Hd.recs h++more).map (Rt.bytesIn f)).take (j+1)=_
   rw[List.take_succ_cons,List.map_take]
  rw[e1]at hp
  have hp' : Frm.Path ((Sg.file f h more).take n) 0 (Sg.first f (Hd.recs h).length :: ((Hd.recs h++more).take j).map (Rt.bytesIn f)) a:=hp
  cases hp' with
  | @cons _ c _ _ _ h1 h2 =>
   refine⟨c,a,h1,Sg.run_path hf _ _ _ (fun x hx => ?_) h2, ?_,hs⟩
   ·have:=hok x (List.mem_of_mem_take hx)
    exact⟨this.1,this.2.1,this.2.2.1⟩
   ·rw[ha,hw]
    rfl
end Go.Proofs.YtdkdjofnnnljjaaGreatDoor

namespace Go.Proofs.YtdkdjofnnnljjaaGreatDoor
open Go.RowKit
theorem Vs.opens_two(f:Int):Vs.opens 2 f=if f=1∨f=2 then 0 else 8:=by
 unfold Vs.opens
 rcases Vs.may_or f with ⟨h,h1⟩ | ⟨h,h1,h2⟩
 ·rw[if_pos ⟨by decide,h⟩,if_neg (by omega),if_pos h1]
 ·rw[if_neg (by rw[h];simp),if_neg (by omega)]
namespace Sg
theorem body_len{f:Int}{x:Re.Rec}(h:Re.olderIn f x=0)(hx:x.Fits):Ok f x∧(0<(Rt.bytesIn f x).length∧(Rt.bytesIn f x).length≤65536)∧(Rt.bytesIn f x).length≤300+x.img.length:=by
 have hg:=Re.check_good (Re.olderIn_check h)
 have hi:=Re.good_len hg
 have hs:x.cmd.Short 48:=by
  by_cases hk:Re.hc x.kind=true
  ·exact Cm.check_short (hg.cmd hk)
  ·rw[Re.good_cmd hg (by simpa using hk)]
   exact⟨by simp[Cm.zero,Cm.bareOf],by simp[Cm.zero,Cm.bareOf],by simp[Cm.zero,Cm.bareOf]⟩
 have h9:=enc_nine (n:=x.img.length) (by omega)
 have hp:(Pk.text x.img).length≤9+x.img.length:=by unfold Pk.text;rw[List.length_append];omega
 have hb:0<(Rt.bytesIn f x).length∧(Rt.bytesIn f x).length≤300+x.img.length:=by
  unfold Rt.bytesIn
  split
  ·have f1:=hx.n x.bal.round (by simp[Re.nums]);have f2:=hx.n x.bal.node (by simp[Re.nums]);have f3:=hx.n x.index (by simp[Re.nums])
   have q1:=enc_nine (n:=x.bal.round.toNat) (by omega);have q2:=enc_nine (n:=x.bal.node.toNat) (by omega);have q3:=enc_nine (n:=x.index.toNat) (by omega)
   have hk14:1≤x.kind∧x.kind≤4:=by have:=hg.kind;unfold Re.known at this;simpa using this
   have q0:=enc_nine (n:=(x.kind+16).toNat) (by omega)
   have p0:=enc_pos (x.kind+16).toNat
   have q4:=Cm.bytes_few 2 x.cmd hx.c hs
   have L1:=Mt.part_le (Re.hb x.kind) (enc x.bal.round.toNat)
   have L2:=Mt.part_le (Re.hb x.kind) (enc x.bal.node.toNat)
   have L3:=Mt.part_le (Re.hi x.kind) (enc x.index.toNat)
   have L4:=Mt.part_le (Re.hc x.kind) (Cm.bytes 2 x.cmd)
   have L5:=Mt.part_le (Re.hm x.kind) (Pk.text x.img)
   unfold Rt.bytes
   simp only[List.length_append]
   omega
  ·have n1:=Ms.nbytes_len (Re.nums x) fun z hz=>(hx.n z hz).2
   have n2:0<(Ms.nbytes (Re.nums x)).length:=by
    have p0:=enc_pos x.kind.toNat
    unfold Ms.nbytes Re.nums
    simp only[List.flatMap_cons,List.length_append]
    omega
   have n3:(Re.nums x).length=4:=rfl
   have q4:=Cm.bytes_few 1 x.cmd hx.c hs
   have ht:(Re.tail x).length≤207+x.img.length:=by
    unfold Re.tail
    split
    ·omega
    ·split
     ·omega
     ·simp
   unfold Re.bytes
   rw[List.length_append]
   omega
 exact⟨⟨h,hx,Short.up hs (by omega),by omega,by omega⟩,⟨hb.1,by omega⟩,hb.2⟩
def n1(y:List UInt8):Int × Int × Int:=Cm.rnum y 0 0
def n2(y:List UInt8):Int × Int × Int:=Cm.rnum y (n1 y).2.1.toNat (n1 y).2.2
def nd(y:List UInt8):Int:=Cm.done y (n2 y).2.1.toNat (n2 y).2.2
def numbers(y:List UInt8):Int × Int × Int:=if nd y≠0 then (0,0,nd y)else if Vs.opens 2 (n1 y).1≠0 then (0,0,Vs.opens 2 (n1 y).1)else ((n1 y).1,(n2 y).1,0)
theorem numbers_or(y:List UInt8):(∃e,e≠0∧numbers y=(0,0,e)) ∨ ∃f s:Int,(f=1∨f=2)∧0≤s∧s≤9223372036854775807∧numbers y=(f,s,0):=by
 unfold numbers
 by_cases h1:nd y=0
 ·rw[if_neg (by simpa using h1)]
  by_cases h2:Vs.opens 2 (n1 y).1=0
  ·rw[if_neg (by simpa using h2)]
   refine .inr ⟨_,_, ?_,(Ms.rnum_num y _ _).1,(Ms.rnum_num y _ _).2,rfl⟩
   rw[Vs.opens_two]at h2
   by_cases h3:(n1 y).1=1∨(n1 y).1=2
   ·exact h3
   ·rw[if_neg h3]at h2;omega
  ·rw[if_pos h2]
   exact .inl ⟨_,h2,rfl⟩
 ·rw[if_pos h1]
  exact .inl ⟨_,h1,rfl⟩
theorem numbers_nil : ∃e,e≠0∧numbers []=(0,0,e):=by
 rcases numbers_or []with h | ⟨f,s,hf,_,_,h⟩
 ·exact h
 ·exfalso
  rcases Cm.rnum_cases [] 0 0 with ⟨e,he,hn⟩ | ⟨n,q,_,h1,h2,_⟩
  ·have h1:n1 []=(0,((0:Nat):Int),e):=hn
   have h2:n2 []=(0,((0:Nat):Int),e):=by
    unfold n2
    rw[h1]
    exact if_neg he
   have h3:nd []=e:=by
    unfold nd Cm.done
    rw[h2]
    exact if_pos he
   unfold numbers at h
   rw[h3,if_pos he]at h
   simp only[Prod.mk.injEq]at h
   exact he h.2.2
  ·simp at h2;omega
theorem numbers_first{f:Int}(hf:f=1∨f=2){n:Nat}(hn:n≤9223372036854775807):numbers (first f n)=(f,(n:Int),0):=by
 have e1:n1 (first f n)=(f,(((enc f.toNat).length:Nat):Int),0):=by
  have:=Cm.rnum_at [] (enc n) (n:=f.toNat) (by omega)
  rw[List.nil_append,List.nil_append,show((f.toNat:Nat):Int)=f by omega]at this
  exact this
 have e2:n2 (first f n)=((n:Int),(((first f n).length:Nat):Int),0):=by
  have:=Cm.rnum_at (enc f.toNat) [] (n:=n) hn
  rw[List.append_nil]at this
  unfold n2
  rw[e1]
  exact this
 unfold numbers nd
 rw[e2,e1]
 dsimp only
 rw[Int.toNat_natCast,Cm.done_end,if_neg (by simp),if_neg (by rw[Vs.opens_two,if_pos hf];simp)]
structure Whole(b:List UInt8)(f s:Int)(l:List Re.Rec)(e:Nat):Prop where
 first : ∃(y:List UInt8) (c:Nat),Frm.next b ((0:Nat):Int)=(y,(c:Int),0)∧numbers y=(f,s,0)∧Run f b c l e
 stops:Stops f b e
 enough:s≤(l.length:Int)
def Torn(b:List UInt8):Prop := ∀f s l e,¬Whole b f s l e
theorem Whole.one{b:List UInt8}{f s f' s' : Int}{l l' : List Re.Rec}{e e' : Nat}(h:Whole b f s l e)(h' : Whole b f' s' l' e'):f=f' ∧ s=s' ∧ l=l' ∧ e=e' := by
 obtain⟨⟨y,c,h1,h2,h3⟩,hs,_⟩:=h
 obtain⟨⟨y', c', h1', h2', h3'⟩,hs', _⟩:=h'
 rw[h1]at h1'
 simp only[Prod.mk.injEq,Int.natCast_inj,and_true]at h1'
 obtain⟨rfl,rfl⟩:=h1'
 rw[h2]at h2'
 simp only[Prod.mk.injEq,and_true]at h2'
 obtain⟨rfl,rfl⟩:=h2'
 obtain⟨rfl,rfl⟩:=h3.one hs h3' hs'
 exact⟨rfl,rfl,rfl,rfl⟩
theorem Whole.format{b:List UInt8}{f s:Int}{l:List Re.Rec}{e:Nat}(h:Whole b f s l e):f=1∨f=2:=by
 obtain⟨⟨y,c,_,h2,_⟩,_,_⟩:=h
 rcases numbers_or y with ⟨e,he,hn⟩ | ⟨f', s', hf,_,_,hn⟩
 ·rw[h2]at hn
  simp only[Prod.mk.injEq]at hn
  exact absurd hn.2.2.symm he
 ·rw[h2]at hn
  simp only[Prod.mk.injEq,and_true]at hn
  rw[hn.1]
  exact hf
theorem Whole.bound{b:List UInt8}{f s:Int}{l:List Re.Rec}{e:Nat}(h:Whole b f s l e):l.length≤b.length∧e≤b.length:=by
 obtain⟨⟨y,c,h1,_,h3⟩,_,_⟩:=h
 obtain⟨c', hc,_,h4,_⟩:=Frm.next_ok h1
 obtain rfl:c=c' := by omega
 have:=h3.bound h4
 omega
theorem bodies_len{f:Int}(hf:f=1∨f=2){h:Hd.Hard}{more:List Re.Rec}(hok : ∀x∈Hd.recs h++more,Re.olderIn f x=0∧x.Fits)(hl:(Hd.recs h).length≤9223372036854775807) : ∀y∈bodies f h more,0<y.length∧y.length≤65536:=by
 intro y hy
 unfold bodies at hy
 rcases List.mem_cons.1 hy with rfl | hy
 ·have p0:=enc_pos f.toNat
  have q0:=enc_nine (n:=f.toNat) (by omega)
  have q1:=enc_nine hl
  unfold first
  rw[List.length_append]
  omega
 ·obtain⟨x,hx,rfl⟩:=List.mem_map.1 hy
  have:=hok x hx
  exact(body_len this.1 this.2).2.1
theorem bodies_count(f:Int)(h:Hd.Hard)(more:List Re.Rec):(bodies f h more).length=(Hd.recs h).length+more.length+1:=by simp[bodies]
theorem cut_read{f:Int}(hf:f=1∨f=2){h:Hd.Hard}{more:List Re.Rec}(hok : ∀x∈Hd.recs h++more,Re.olderIn f x=0∧x.Fits)(hl:(Hd.recs h).length≤9223372036854775807){n:Nat}(hn:n≤(file f h more).length) :
 (n<Frm.ends (bodies f h more) (Hd.recs h).length→Torn ((file f h more).take n)) ∧
 (∀k,(Hd.recs h).length≤k→k≤(Hd.recs h).length+more.length→Frm.ends (bodies f h more) k≤n→(k<(Hd.recs h).length+more.length→n<Frm.ends (bodies f h more) (k+1)) →
   Whole ((file f h more).take n) f ((Hd.recs h).length:Int) ((Hd.recs h++more).take k) (Frm.ends (bodies f h more) k)):=by
 have hc:=bodies_count f h more
 obtain⟨k0,hk0,hiff,hz,hs⟩:=cut hf h more (fun x hx=>(body_len (hok x hx).1 (hok x hx).2).1) (bodies_len hf hok hl) hn
 constructor
 ·intro hlt f' s' l' e' hw
  have h1 : ¬(Hd.recs h).length<k0:=fun q=>by
   have:=(hiff (Hd.recs h).length (by omega)).2 q
   omega
  obtain⟨⟨y,c,g1,g2,g3⟩,g4,g5⟩:=hw
  match k0,hz,hs,h1 with
  | 0,hz,_,_ =>
   have:=hz rfl
   rw[g1]at this
   exact this rfl
  | j+1,_,hs,h1 =>
   obtain⟨c', e'', k1,k2,_,k4⟩:=hs j rfl
   rw[k1]at g1
   simp only[Prod.mk.injEq,Int.natCast_inj,and_true]at g1
   obtain⟨rfl,rfl⟩:=g1
   rw[numbers_first hf hl]at g2
   simp only[Prod.mk.injEq,and_true]at g2
   obtain⟨rfl,rfl⟩:=g2
   obtain⟨rfl,_⟩:=k2.one (.inl k4) g3 g4
   rw[List.length_take,List.length_append]at g5
   omega
 ·intro k h1 h2 h3 h4
  have h5:k<k0:=(hiff k (by omega)).1 h3
  have h6:k+1=k0:=by
   rcases Nat.lt_or_ge (k+1) k0 with q | q
   ·have:=(hiff (k+1) (by omega)).2 q
    have:=h4 (by omega)
    omega
   ·omega
  obtain⟨c', e'', k1,k2,k3,k4⟩:=hs k h6.symm
  rw[k3]at k2 k4
  refine⟨⟨_,c', k1,numbers_first hf hl,k2⟩, .inl k4, ?_⟩
  rw[List.length_take,List.length_append]
  omega
end Sg
end Go.Proofs.YtdkdjofnnnljjaaGreatDoor

namespace Go.Proofs.YtdkdjofnnnljjaaGreatDoor
open Go.RowKit
section
namespace Dk
structure Op where
 kind:Int
 no:Int
 data:List UInt8
abbrev Files := List (Int × List UInt8)
section
variable {α β : Type}
def Asc(l:List (Int × α)):Prop:=l.Pairwise fun a b=>a.1<b.1
def get : List (Int × α)→Int→Option α
 | [],_=>none
 | p :: r,n=>if p.1=n then some p.2 else get r n
def ins(n:Int)(x:α):List (Int × α)→List (Int × α)
 | [] => [(n,x)]
 | p :: r=>if n<p.1 then (n,x) :: p :: r else p :: ins n x r
def del(l:List (Int × α))(n:Int):List (Int × α):=l.filter fun p=>p.1 != n
def put(l:List (Int × α))(n:Int)(x:α):List (Int × α):=ins n x (del l n)
def onto(f:α→β)(l:List (Int × α)):List (Int × β):=l.map fun p=>(p.1,f p.2)
theorem Asc.tail{p:Int × α}{r:List (Int × α)}(h:Asc (p :: r)):Asc r:=(List.pairwise_cons.1 h).2
theorem Asc.head{p:Int × α}{r:List (Int × α)}(h:Asc (p :: r)) : ∀q∈r,p.1<q.1:=(List.pairwise_cons.1 h).1
theorem Asc.nil : Asc ([]:List (Int × α)):=List.Pairwise.nil
theorem mem_ins{n:Int}{x:α}{q:Int × α} : ∀ {l:List (Int × α)},q∈ins n x l↔q=(n,x)∨q∈l
 | []=>by simp[ins]
 | p :: r=>by
  unfold ins
  split
  ·simp
  ·rw[List.mem_cons,mem_ins (l:=r),List.mem_cons]
   constructor
   ·rintro(h | h | h)<;>simp[h]
   ·rintro(h | h | h)<;>simp[h]
theorem mem_del{n:Int}{q:Int × α}{l:List (Int × α)}:q∈del l n↔q∈l∧q.1≠n:=by
 unfold del
 rw[List.mem_filter]
 simp
theorem mem_put{n:Int}{x:α}{q:Int × α}{l:List (Int × α)}:q∈put l n x↔q=(n,x)∨(q∈l∧q.1≠n):=by
 unfold put
 rw[mem_ins,mem_del]
theorem asc_ins{n:Int}{x:α} : ∀ {l:List (Int × α)},Asc l→(∀q∈l,q.1≠n)→Asc (ins n x l)
 | [],_,_=>by simp[ins,Asc]
 | p :: r,h,hn=>by
  unfold ins
  split
  ·rename_i hlt
   refine List.pairwise_cons.2 ⟨fun q hq => ?_,h⟩
   rcases List.mem_cons.1 hq with rfl | hq
   ·exact hlt
   ·have:=h.head q hq
    show n<q.1
    omega
  ·rename_i hge
   have hp:=hn p (by simp)
   refine List.pairwise_cons.2 ⟨fun q hq => ?_,asc_ins h.tail (fun _ hq=>hn _ (List.mem_cons_of_mem _ hq))⟩
   rcases mem_ins.1 hq with rfl | hq
   ·show p.1<n
    omega
   ·exact h.head q hq
theorem asc_del{n:Int}{l:List (Int × α)}(h:Asc l):Asc (del l n):=List.Pairwise.filter _ h
theorem asc_put{n:Int}{x:α}{l:List (Int × α)}(h:Asc l):Asc (put l n x):=asc_ins (asc_del h) fun _ hq=>(mem_del.1 hq).2
theorem get_none{n:Int} : ∀ {l:List (Int × α)},get l n=none ↔ ∀q∈l,q.1≠n
 | []=>by simp[get]
 | p :: r=>by
  unfold get
  split
  ·rename_i h
   constructor
   ·intro e;cases e
   ·intro e;exact absurd h (e p (by simp))
  ·rename_i h
   rw[get_none (l:=r)]
   constructor
   ·intro e q hq
    rcases List.mem_cons.1 hq with rfl | hq
    ·exact h
    ·exact e q hq
   ·intro e q hq
    exact e q (List.mem_cons_of_mem _ hq)
theorem get_mem{n:Int}{x:α} : ∀ {l:List (Int × α)},get l n=some x→(n,x)∈l
 | [],h=>by simp[get]at h
 | p :: r,h=>by
  unfold get at h
  split at h
  ·rename_i hp
   simp only[Option.some.injEq]at h
   subst hp h
   exact List.mem_cons_self
  ·exact List.mem_cons_of_mem _ (get_mem h)
theorem get_of_mem{n:Int}{x:α} : ∀ {l:List (Int × α)},Asc l→(n,x)∈l→get l n=some x
 | [],_,h=>by simp at h
 | p :: r,ha,h=>by
  unfold get
  rcases List.mem_cons.1 h with rfl | h
  ·simp
  ·have:=ha.head _ h
   rw[if_neg (by simp only at this;omega)]
   exact get_of_mem ha.tail h
theorem del_none{n:Int}{l:List (Int × α)}(h:get l n=none):del l n=l:=by
 unfold del
 refine List.filter_eq_self.2 fun q hq => ?_
 have:=get_none.1 h q hq
 simpa using this
theorem onto_ins(f:α→β)(n:Int)(x:α) : ∀l:List (Int × α),onto f (ins n x l)=ins n (f x) (onto f l)
 | []=>rfl
 | p :: r=>by
  show onto f (if n<p.1 then _ else _)=if n<p.1 then _ else _
  split
  ·rfl
  ·show(p.1,f p.2) :: onto f (ins n x r)=_
   rw[onto_ins f n x r]
   rfl
theorem onto_del(f:α→β)(l:List (Int × α))(n:Int):onto f (del l n)=del (onto f l) n:=by
 unfold onto del
 rw[List.filter_map]
 rfl
theorem onto_put(f:α→β)(l:List (Int × α))(n:Int)(x:α):onto f (put l n x)=put (onto f l) n (f x):=by
 unfold put
 rw[onto_ins,onto_del]
theorem onto_get(f:α→β)(n:Int) : ∀l:List (Int × α),get (onto f l) n=(get l n).map f
 | []=>rfl
 | p :: r=>by
  show(if p.1=n then _ else get (onto f r) n)=((if p.1=n then _ else get r n):Option α).map f
  split
  ·rfl
  ·exact onto_get f n r
theorem asc_onto(f:α→β){l:List (Int × α)}:Asc (onto f l)↔Asc l:=by
 unfold Asc onto
 rw[List.pairwise_map]
theorem put_same{n:Int}{x:α} : ∀ {l:List (Int × α)},Asc l→get l n=some x→put l n x=l
 | [],_,h=>by simp[get]at h
 | p :: r,ha,h=>by
  unfold get at h
  unfold put del
  rw[List.filter_cons]
  split at h
  ·rename_i hp
   simp only[Option.some.injEq]at h
   subst hp h
   rw[if_neg (by simp)]
   have hr:r.filter (fun q=>q.1 != p.1)=r:=List.filter_eq_self.2 fun q hq=>by have:=ha.head q hq;simp;omega
   rw[hr]
   cases r with
   | nil=>rfl
   | cons q r =>
    unfold ins
    rw[if_pos (ha.head q (by simp))]
  ·rename_i hp
   rw[if_pos (by simpa using hp)]
   have hlt:p.1<n:=ha.head _ (get_mem h)
   show(if n<p.1 then _ else _)=_
   rw[if_neg (by omega)]
   exact congrArg _ (put_same ha.tail h)
end
def done(F:Files)(x:Op):Files :=
 match get F x.no with
 | none=>if x.kind=1 then put F x.no []else F
 | some d=>if x.kind=2 then put F x.no (d++x.data)else if x.kind=3 then del F x.no else F
def all(F:Files)(B:List Op):Files:=B.foldl done F
def clamp(n:Int)(most:Nat):Nat:=min n.toNat most
def torn(x:Op)(n:Int):Op:=⟨x.kind,x.no,x.data.take (clamp n x.data.length)⟩
def crash(F:Files)(B:List Op)(keep cut:Int):Files :=
 match B[clamp keep B.length]? with
 | none=>all F B
 | some x=>if x.kind=2 then done (all F (B.take (clamp keep B.length))) (torn x cut)else all F (B.take (clamp keep B.length))
def isKind(k:Int):Prop:=k=1∨k=2∨k=3
def Kinds(B:List Op):Prop := ∀x∈B,isKind x.kind∧1≤x.no∧x.no≤4294967296
theorem asc_done{F:Files}(h:Asc F)(x:Op):Asc (done F x):=by
 unfold done
 split
 ·split
  ·exact asc_put h
  ·exact h
 ·split
  ·exact asc_put h
  ·split
   ·exact asc_del h
   ·exact h
theorem asc_all{F:Files}(h:Asc F)(B:List Op):Asc (all F B):=by
 unfold all
 induction B generalizing F with
 | nil=>exact h
 | cons x r ih=>exact ih (asc_done h x)
theorem all_snoc(F:Files)(B:List Op)(x:Op):all F (B ++ [x])=done (all F B) x:=by simp[all,List.foldl_append]
theorem all_step{F:Files}{B:List Op}{i:Nat}{x:Op}(h:B[i]? = some x):all F (B.take (i+1))=done (all F (B.take i)) x:=by
 rw[List.take_add_one,h]
 exact all_snoc _ _ _
theorem crash_asc{F:Files}(h:Asc F)(B:List Op)(k n:Int):Asc (crash F B k n):=by
 unfold crash
 split
 ·exact asc_all h _
 ·split
  ·exact asc_done (asc_all h _) _
  ·exact asc_all h _
def wt(F:Files):Nat:=(F.map fun f=>1+f.2.length).sum
def wtB(B:List Op):Nat:=(B.map fun x=>1+x.data.length).sum
theorem wt_cons(f:Int × List UInt8)(F:Files):wt (f :: F)=1+f.2.length+wt F:=by simp[wt]
theorem wtB_cons(x:Op)(B:List Op):wtB (x :: B)=1+x.data.length+wtB B:=by simp[wtB]
theorem wtB_app(A B:List Op):wtB (A++B)=wtB A+wtB B:=by simp[wtB]
theorem wt_mem{f:Int × List UInt8} : ∀ {F:Files},f∈F→1+f.2.length≤wt F
 | [],h=>by simp at h
 | g :: r,h=>by
  rw[wt_cons]
  rcases List.mem_cons.1 h with rfl | h
  ·omega
  ·have:=wt_mem h;omega
theorem wtB_mem{x:Op} : ∀ {B:List Op},x∈B→1+x.data.length≤wtB B
 | [],h=>by simp at h
 | g :: r,h=>by
  rw[wtB_cons]
  rcases List.mem_cons.1 h with rfl | h
  ·omega
  ·have:=wtB_mem h;omega
theorem len_wt : ∀F:Files,F.length≤wt F
 | []=>by simp
 | f :: r=>by have:=len_wt r;rw[wt_cons,List.length_cons];omega
theorem len_wtB : ∀B:List Op,B.length≤wtB B
 | []=>by simp
 | f :: r=>by have:=len_wtB r;rw[wtB_cons,List.length_cons];omega
theorem wt_ins(n:Int)(d:List UInt8) : ∀F:Files,wt (ins n d F)=wt F+1+d.length
 | []=>by simp[ins,wt]
 | f :: r=>by
  unfold ins
  split
  ·rw[wt_cons];simp only;omega
  ·rw[wt_cons,wt_ins n d r,wt_cons];omega
theorem wt_del_le(n:Int) : ∀F:Files,wt (del F n)≤wt F
 | []=>by simp[del]
 | f :: r=>by
  have:=wt_del_le n r
  unfold del at this ⊢
  rw[List.filter_cons]
  split<;>simp only[wt_cons]<;>omega
theorem wt_del{n:Int}{d:List UInt8} : ∀ {F:Files},(n,d)∈F→wt (del F n)+(1+d.length)≤wt F
 | [],h=>by simp at h
 | f :: r,h=>by
  rw[wt_cons]
  have h2:=wt_del_le n r
  unfold del at h2 ⊢
  rw[List.filter_cons]
  rcases List.mem_cons.1 h with rfl | h
  ·rw[if_neg (by simp)]
   simp only
   omega
  ·have:=wt_del h
   unfold del at this
   split
   ·rw[wt_cons];omega
   ·omega
theorem wt_done(F:Files)(x:Op):wt (done F x)≤wt F+(1+x.data.length):=by
 unfold done
 split
 ·split
  ·unfold put
   rw[wt_ins]
   have:=wt_del_le x.no F
   simp
   omega
  ·omega
 ·rename_i d hd
  split
  ·unfold put
   rw[wt_ins]
   have:=wt_del (get_mem hd)
   simp
   omega
  ·split
   ·have:=wt_del_le x.no F;omega
   ·omega
theorem wt_all(B:List Op) : ∀F:Files,wt (all F B)≤wt F+wtB B:=by
 induction B with
 | nil=>intro F;simp[all,wtB]
 | cons x r ih =>
  intro F
  have h1:=ih (done F x)
  have h2:=wt_done F x
  rw[wtB_cons]
  show wt (all (done F x) r)≤_
  omega
theorem wtB_split(B:List Op)(i:Nat):wtB (B.take i)+wtB (B.drop i)=wtB B:=by rw[← wtB_app,List.take_append_drop]
theorem wt_crash(F:Files)(B:List Op)(k n:Int):wt (crash F B k n)≤wt F+wtB B:=by
 have h1:=wtB_split B (clamp k B.length)
 unfold crash
 split
 ·exact wt_all B F
 ·rename_i x hx
  have h2:=wt_all (B.take (clamp k B.length)) F
  split
  ·have h3:=wt_done (all F (B.take (clamp k B.length))) (torn x n)
   have h4:x∈B.drop (clamp k B.length):=by
    obtain⟨hlt,e⟩:=List.getElem?_eq_some_iff.1 hx
    rw[List.mem_iff_getElem?]
    exact⟨0,by simpa using hx⟩
   have h5:=wtB_mem h4
   have h6:(torn x n).data.length≤x.data.length:=by simp[torn];omega
   omega
  ·omega
def rest(x:Op):Bool→Files→Files
 | d, []=>if d then []else [(x.no, [])]
 | d,f :: r=>(if !d && decide (f.1>x.no)then [(x.no, [])]else [])++(if f.1≠x.no then [f]else if x.kind=2 then [(x.no,f.2++x.data)]else if x.kind=1 then [f]else [])++rest x (d || decide (f.1>x.no)) r
def begins(a b:Files):Prop:=a.length=b.length ∧ ∀(i:Nat) (f g:Int × List UInt8),a[i]? = some f→b[i]? = some g→f.1=g.1∧f.2 <+: g.2
theorem done_nothing{F:Files}(h:Asc F)(k no:Int)(h2:k=2):done F ⟨k,no, []⟩=F:=by
 unfold done
 subst h2
 simp only[List.append_nil]
 split
 ·rfl
 ·rename_i d hd
  exact put_same h hd
theorem crash_none{F:Files}(h:Asc F)(B:List Op):crash F B 0 0=F:=by
 unfold crash
 have e:clamp 0 B.length=0:=by simp[clamp]
 rw[e]
 cases B with
 | nil=>rfl
 | cons x r =>
  simp only[List.getElem?_cons_zero,List.take_zero]
  split
  ·rename_i h2
   have:torn x 0=⟨x.kind,x.no, []⟩:=by simp[torn,clamp]
   rw[this]
   exact done_nothing h _ _ h2
  ·rfl
theorem crash_all(F:Files)(B:List Op)(k n:Int)(h:(B.length:Int)≤k):crash F B k n=all F B:=by
 unfold crash
 have e:clamp k B.length=B.length:=by unfold clamp;omega
 rw[e,List.getElem?_eq_none (Nat.le_refl _)]
structure Step where
 kind:Int
 no:Int
 n:Int
 data:List UInt8
def takes(s:Step):Bool:=decide (1≤s.kind∧s.kind≤3∧1≤s.no∧s.no≤4294967296)
def opOf(s:Step):Op:=⟨s.kind,s.no,if s.kind=2 then s.data else []⟩
def step(x:Files × List Op)(s:Step):Files × List Op :=
 if s.kind=4 then (all x.1 x.2, [])else if s.kind=5 then (crash x.1 x.2 s.no s.n, [])else if takes s then (x.1,x.2 ++ [opOf s])else x
structure Good(x:Files × List Op)(n:Nat):Prop where
 asc:Asc x.1
 kinds:Kinds x.2
 small:wt x.1+wtB x.2≤n
def Large(l:List Step):Bool:=(l.take 60).any (fun s=>decide (100<s.data.length)) || decide (60<l.length)
def after(l:List Step):Files × List Op:=l.foldl step ([], [])
end Dk
end
end Go.Proofs.YtdkdjofnnnljjaaGreatDoor
