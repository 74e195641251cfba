/- Several texts of mine in one: BalMath CmdMath EnMath CmdBack EnCode MsMath. -/
import Derived.Test.YtdkdjofnnnljjaaGreatDoorGMb
import Derived.Lib.ItoaNum
import Derived.Test.YtdkdjofnnnljjaaGreatDoorPPkMath
import Derived.Test.YtdkdjofnnnljjaaGreatDoorPVers
namespace Go.Proofs.YtdkdjofnnnljjaaGreatDoor
open Go.RowKit
namespace Bl
structure Bal where
 round:Int
 node:Int
 deriving DecidableEq
structure Bal.Fits(b:Bal):Prop where
 r0 : -9223372036854775808≤b.round
 r1:b.round≤9223372036854775807
 n0 : -9223372036854775808≤b.node
 n1:b.node≤9223372036854775807
def zero : Bal:=⟨0,0⟩
theorem zero_fits : zero.Fits:=by constructor<;>simp[zero]
def cells(b:Bal):Array Value := #[.int .i64 b.round, .int .i64 b.node]
def within(n most:Int):Bool:=decide (1≤n) && decide (n≤most)
def may(b:Bal):Bool:=decide (b=zero) || (within b.round 4294967296 && within b.node 9)
def less(a b:Bal):Bool:=if a.round=b.round then decide (a.node<b.node)else decide (a.round<b.round)
def top(x y:Bal):Bal:=if less x y=true then y else x
def most(l:List Bal):Bal:=match l with
 | []=>zero
 | x :: r=>r.foldl top x
def from1(b:Bal):Int:=max b.round 1
def first(b:Bal)(node:Int):Bal:=⟨from1 b,node⟩
def step(b:Bal)(node:Int):Bal:=if less b (first b node)=true then first b node else ⟨from1 b+1,node⟩
def next(b:Bal)(node:Int):Bal × Int:=if may b=true∧within node 9=true then (if 4294967296<(step b node).round then (zero,6)else (step b node,0))else (zero,6)
def text(b:Bal):List UInt8:=if may b=true then Lib.itoa b.round ++ [46]++Lib.itoa b.node else []
theorem may_cases(b:Bal)(h:may b=true):b=zero∨(1≤b.round∧b.round≤4294967296∧1≤b.node∧b.node≤9):=by
 unfold may within at h
 simp only[Bool.or_eq_true,Bool.and_eq_true,decide_eq_true_eq]at h
 rcases h with h | h
 ·exact Or.inl h
 ·exact Or.inr ⟨h.1.1,h.1.2,h.2.1,h.2.2⟩
theorem may_num(b:Bal)(h:may b=true):0≤b.round∧b.round≤4294967296∧0≤b.node∧b.node≤9:=by
 rcases may_cases b h with rfl | h
 ·simp[zero]
 ·omega
theorem may_fits(b:Bal)(h:may b=true):b.Fits:=by
 have:=may_num b h
 constructor<;>omega
theorem less_irr(a:Bal):less a a=false:=by simp[less]
theorem less_or(a b:Bal):(less a b=true∧less b a=false∧a≠b)∨(less a b=false∧less b a=true∧a≠b)∨(less a b=false∧less b a=false∧a=b):=by
 obtain⟨r,n⟩:=a
 obtain⟨r', n'⟩:=b
 simp only[less,ne_eq,Bal.mk.injEq]
 by_cases h:r=r'
 ·subst h
  simp only[if_true,true_and,decide_eq_true_eq,decide_eq_false_iff_not]
  omega
 ·rw[if_neg h,if_neg (fun e=>h e.symm)]
  simp only[h,false_and,not_false_eq_true,and_true,decide_eq_true_eq,decide_eq_false_iff_not,and_false,or_false]
  omega
theorem less_trans(a b c:Bal)(h:less b a=false)(k:less c b=false):less c a=false:=by
 obtain⟨r,n⟩:=a
 obtain⟨r', n'⟩:=b
 obtain⟨r'', n''⟩:=c
 simp only[less]at h k ⊢
 split at h<;>split at k<;>split<;>simp only[decide_eq_false_iff_not]at h k ⊢ <;> omega
theorem most_snoc(x:Bal)(l:List Bal)(y:Bal):most (x :: (l ++ [y]))=top (most (x :: l)) y:=by
 show(l ++ [y]).foldl top x=top (l.foldl top x) y
 rw[List.foldl_append];rfl
theorem next_ok(b:Bal)(node:Int)(h:(next b node).2=0):may b=true∧within node 9=true∧(next b node).1=step b node∧(step b node).round≤4294967296:=by
 unfold next at h ⊢
 by_cases h1:may b=true∧within node 9=true
 ·rw[if_pos h1]at h ⊢
  by_cases h2:4294967296<(step b node).round
  ·rw[if_pos h2]at h;cases h
  ·rw[if_neg h2]at h ⊢
   exact⟨h1.1,h1.2,rfl,by omega⟩
 ·rw[if_neg h1]at h;cases h
end Bl
namespace Cm
structure Cmd where
 kind:Int
 client:Int
 seq:Int
 node:Int
 key:List UInt8
 old:List UInt8
 val:List UInt8
 deriving DecidableEq
inductive F where
 | client | seq | key | old | val | node
 deriving DecidableEq
def F.num : F→Bool
 | .client=>true | .seq=>true | .node=>true | .key=>false | .old=>false | .val=>false
def F.most : F→Int
 | .client=>8 | .seq=>4294967296 | .node=>9 | .key=>0 | .old=>0 | .val=>0
def F.at : F→Nat
 | .client=>1 | .seq=>2 | .key=>3 | .val=>4 | .old=>5 | .node=>6
def Cmd.n(c:Cmd):F→Int
 | .client=>c.client | .seq=>c.seq | .node=>c.node | .key=>0 | .old=>0 | .val=>0
def Cmd.s(c:Cmd):F→List UInt8
 | .client => [] | .seq => [] | .node => [] | .key=>c.key | .old=>c.old | .val=>c.val
def Cmd.setN(c:Cmd)(n:Int):F→Cmd
 | .client=>{ c with client:=n } | .seq=>{ c with seq:=n } | .node=>{ c with node:=n } | .key=>c | .old=>c | .val=>c
def Cmd.setS(c:Cmd)(s:List UInt8):F→Cmd
 | .client=>c | .seq=>c | .node=>c | .key=>{ c with key:=s } | .old=>{ c with old:=s } | .val=>{ c with val:=s }
structure Cmd.Fits(c:Cmd):Prop where
 k0 : -9223372036854775808≤c.kind
 k1:c.kind≤9223372036854775807
 c0 : -9223372036854775808≤c.client
 c1:c.client≤9223372036854775807
 q0 : -9223372036854775808≤c.seq
 q1:c.seq≤9223372036854775807
 n0 : -9223372036854775808≤c.node
 n1:c.node≤9223372036854775807
def Cmd.Short(c:Cmd)(m:Nat):Prop:=c.key.length≤m∧c.old.length≤m∧c.val.length≤m
theorem Cmd.Fits.n{c:Cmd}(h:c.Fits)(f:F) : -9223372036854775808≤c.n f∧c.n f≤9223372036854775807:=by
 obtain⟨_,_,_,_,_,_,_,_⟩:=h
 cases f<;>simp[Cmd.n]<;>omega
theorem Cmd.Fits.setN{c:Cmd}(h:c.Fits)(f:F){n:Int}(h0 : -9223372036854775808≤n)(h1:n≤9223372036854775807):(c.setN n f).Fits:=by
 obtain⟨_,_,_,_,_,_,_,_⟩:=h
 cases f<;>constructor<;>simp[Cmd.setN]<;>omega
theorem Cmd.Fits.setS{c:Cmd}(h:c.Fits)(f:F)(s:List UInt8):(c.setS s f).Fits:=by
 obtain⟨_,_,_,_,_,_,_,_⟩:=h
 cases f<;>constructor<;>simp[Cmd.setS]<;>omega
theorem Cmd.Short.s{c:Cmd}{m:Nat}(h:c.Short m)(f:F):(c.s f).length≤m:=by
 obtain⟨h1,h2,h3⟩:=h
 cases f<;>simp[Cmd.s,h1,h2,h3]
theorem Cmd.Short.setN{c:Cmd}{m:Nat}(h:c.Short m)(f:F)(n:Int):(c.setN n f).Short m:=by
 obtain⟨h1,h2,h3⟩:=h
 cases f<;>exact⟨h1,h2,h3⟩
theorem Cmd.Short.setS{c:Cmd}{m:Nat}(h:c.Short m)(f:F){s:List UInt8}(hs:s.length≤m):(c.setS s f).Short m:=by
 obtain⟨h1,h2,h3⟩:=h
 cases f<;>refine⟨?_, ?_, ?_⟩<;>first | exact h1 | exact h2 | exact h3 | exact hs
theorem Cmd.setN_kind(c:Cmd)(n:Int)(f:F):(c.setN n f).kind=c.kind:=by cases f<;>rfl
theorem Cmd.setS_kind(c:Cmd)(s:List UInt8)(f:F):(c.setS s f).kind=c.kind:=by cases f<;>rfl
def fields(k:Int):List F :=
 if k=2 then [.client, .seq, .key, .val]else if k=3∨k=4 then [.client, .seq, .key]else if k=5 then [.client, .seq, .key, .old, .val]
 else if k=7∨k=8 then [.node]else []
def encoded(v k:Int):List F:=if v=1 then [.client, .seq, .key, .val, .node]else fields k
theorem fields_no{k:Int}(h2:k≠2)(h3:k≠3)(h4:k≠4)(h5:k≠5)(h7:k≠7)(h8:k≠8):fields k = []:=by simp[fields,h2,h3,h4,h5,h7,h8]
theorem fields_len(k:Int):(fields k).length≤5:=by
 unfold fields
 repeat' split
 all_goals decide
theorem encoded_len(v k:Int):(encoded v k).length≤5:=by
 unfold encoded
 split
 ·decide
 ·exact fields_len k
theorem fields_once(k:Int):(fields k).Nodup:=by
 unfold fields
 repeat' split
 all_goals decide
theorem encoded_once(v k:Int):(encoded v k).Nodup:=by
 unfold encoded
 split
 ·decide
 ·exact fields_once k
def within(c:Cmd)(f:F):Bool := !f.num || (decide (1≤c.n f) && decide (c.n f≤f.most))
def okS(f:F)(s:List UInt8):Bool:=if f = .key then Rn.key ⟨s.toArray⟩else Rn.val ⟨s.toArray⟩
def spelt(c:Cmd)(f:F):Bool:=f.num || okS f (c.s f)
def wipe(c:Cmd)(f:F):Cmd:=if f.num=true then c.setN 0 f else c.setS [] f
def bareOf(k:Int):Cmd:=⟨k,0,0,0, [], [], []⟩
def zero : Cmd:=bareOf 0
def alone(c:Cmd):Bool:=decide ((fields c.kind).foldl wipe c=bareOf c.kind)
def known(k:Int):Bool:=decide (1≤k) && decide (k≤8)
def check(c:Cmd):Int :=
 if known c.kind=false then 5 else if(fields c.kind).all (within c)=false then 6 else if(fields c.kind).all (spelt c)=false then 7 else if alone c=false then 3 else 0
def owned(k:Int):Bool:=decide (2≤k) && decide (k≤5)
def checkIn(v:Int)(c:Cmd):Int:=if Vs.may v=false then 8 else if check c≠0 then check c else if Vs.has v c.kind=false then 8 else 0
def fenc(c:Cmd)(f:F):List UInt8:=if f.num=true then enc (c.n f).toNat else Pk.text (c.s f)
def bytes(v:Int)(c:Cmd):List UInt8:=enc c.kind.toNat++(encoded v c.kind).flatMap (fenc c)
def big : Int:=9223372036854775807
def rnum(b:List UInt8)(p:Nat)(er:Int):Int × Int × Int:=if er=0 then Pk.num b p big else (0,(p:Int),er)
def rtxt(b:List UInt8)(p:Nat)(er:Int):List UInt8 × Int × Int:=if er=0 then Pk.txt b p big else ([],(p:Int),er)
def gstep(b:List UInt8)(t:Cmd × Nat × Int)(f:F):Cmd × Nat × Int :=
 if f.num=true then (t.1.setN (rnum b t.2.1 t.2.2).1 f,(rnum b t.2.1 t.2.2).2.1.toNat,(rnum b t.2.1 t.2.2).2.2)
 else (t.1.setS (rtxt b t.2.1 t.2.2).1 f,(rtxt b t.2.1 t.2.2).2.1.toNat,(rtxt b t.2.1 t.2.2).2.2)
def get(v:Int)(b:List UInt8)(p:Nat)(er:Int):Cmd × Nat × Int :=
 (encoded v (rnum b p er).1).foldl (gstep b) (bareOf (rnum b p er).1,(rnum b p er).2.1.toNat,(rnum b p er).2.2)
def done(b:List UInt8)(p:Nat)(er:Int):Int:=if er≠0 then er else if p<b.length then 3 else 0
def decode(v:Int)(b:List UInt8):Cmd × Int :=
 if Vs.may v=false then (zero,8)
 else if done b (get v b 0 0).2.1 (get v b 0 0).2.2≠0 then (zero,done b (get v b 0 0).2.1 (get v b 0 0).2.2)
 else if checkIn v (get v b 0 0).1≠0 then (zero,checkIn v (get v b 0 0).1)else ((get v b 0 0).1,0)
theorem rnum_cases(b:List UInt8)(p:Nat)(er:Int) :
 (∃e:Int,e≠0∧rnum b p er=(0,(p:Int),e)) ∨
 (∃n q:Nat,er=0∧p<q∧q≤b.length∧n≤9223372036854775807∧rnum b p er=((n:Int),(q:Int),0)∧b.take q=b.take p++enc n):=by
 unfold rnum
 by_cases he:er=0
 ·rw[if_pos he]
  rcases getp_cases b p with ⟨e,he,hg⟩ | ⟨p', n,c,hp,hc,h0,hn,hg,ht⟩
  ·left;exact⟨e,he,by unfold Pk.num;rw[hg];simp[he]⟩
  ·right
   obtain rfl:p=p' := by omega
   refine⟨n,p+c,he,by omega,hc,hn, ?_, ?_⟩
   ·unfold Pk.num
    rw[hg,if_neg (by simp),if_neg (by unfold big;simp;omega)]
   ·rw[← ht,List.take_add]
 ·rw[if_neg he];left;exact⟨er,he,rfl⟩
theorem rtxt_cases(b:List UInt8)(p:Nat)(er:Int)(hp:p≤b.length) :
 (∃(e:Int) (q:Nat),e≠0∧q≤b.length∧rtxt b p er=([],(q:Int),e)) ∨
 (∃(s:List UInt8) (q:Nat),er=0∧p<q∧q≤b.length∧s.length≤b.length∧rtxt b p er=(s,(q:Int),0)∧b.take q=b.take p++Pk.text s):=by
 unfold rtxt
 by_cases he:er=0
 ·rw[if_pos he]
  rcases Pk.txt_cases b p big hp with ⟨e,q,he,hq,_,hg⟩ | ⟨n,q,hc,hq,hg⟩
  ·left;exact⟨e,q,he,hq,hg⟩
  ·right
   have hl:((b.drop q).take n).length=n:=by simp;omega
   refine⟨(b.drop q).take n,q+n,he, ?_,hq,by rw[hl];omega,hg, ?_⟩
   all_goals
    rcases Pk.cnt_cases b p big with ⟨e,he,_,h2⟩ | ⟨n2,q2,_,_,_,_,h2⟩ | ⟨n2,q2,h1,_,h2⟩
    ·rw[h2]at hc;simp at hc;omega
    ·rw[h2]at hc;simp at hc
    ·rw[h2]at hc
     simp at hc
     obtain⟨rfl,rfl⟩:n2=n∧q2=q:=by omega
     have h3:=rnum_cases b p 0
     unfold rnum at h3
     rw[if_pos rfl,h1]at h3
     rcases h3 with ⟨e,he,h3⟩ | ⟨n3,q3,_,h4,h5,_,h3,h6⟩
     ·simp at h3;omega
     ·simp at h3
      obtain⟨rfl,rfl⟩:n2=n3∧q2=q3:=by omega
      first
       | omega
       | (rw[List.take_add,h6,Pk.text,hl,List.append_assoc])
 ·rw[if_neg he];left;exact⟨er,p,he,hp,rfl⟩
end Cm
structure En.Ent where
 index:Int
 bal:Bl.Bal
 cmd:Cm.Cmd
deriving DecidableEq
namespace En
structure Ent.Fits(e:Ent):Prop where
 i0 : -9223372036854775808≤e.index
 i1:e.index≤9223372036854775807
 bal:e.bal.Fits
 cmd:e.cmd.Fits
def zero : Ent:=⟨0,Bl.zero,Cm.zero⟩
def cells(e:Ent):Array Value := #[.int .i64 e.index, .int .i64 e.bal.round, .int .i64 e.bal.node, .int .i64 e.cmd.kind, .int .i64 e.cmd.client, .int .i64 e.cmd.seq, .string ⟨e.cmd.key.toArray⟩, .string ⟨e.cmd.val.toArray⟩, .string ⟨e.cmd.old.toArray⟩, .int .i64 e.cmd.node]
def ranged(e:Ent):Bool:=decide (1≤e.index) && decide (e.index≤4294967296) && Bl.may e.bal
def one(b:Int)(e:Ent):Int:=if ranged e=false then 6 else if Cm.check e.cmd≠0 then Cm.check e.cmd else if e.index≤b then 12 else 0
def check : Int→List Ent→Int
 | _, []=>0
 | b,e :: r=>if one b e≠0 then one b e else check e.index r
def has(v:Int)(l:List Ent):Bool:=l.all fun e=>Vs.has v e.cmd.kind
theorem drop_at{α:Type}{l:List α}{k:Nat}{e:α}(h:l[k]? = some e):l.drop k=e :: l.drop (k+1):=by
 obtain⟨hk,rfl⟩:=List.getElem?_eq_some_iff.1 h
 exact List.drop_eq_getElem_cons hk
theorem check_step{l:List Ent}{k:Nat}{e:Ent}(h:l[k]? = some e)(b:Int):check b (l.drop k)=if one b e≠0 then one b e else check e.index (l.drop (k+1)):=by rw[drop_at h];rfl
theorem has_no{l:List Ent}{k:Nat}{e:Ent}(h:l[k]? = some e){v:Int}(hv:Vs.has v e.cmd.kind=false):has v l=false:=by
 unfold has
 rw[List.all_eq_false]
 exact⟨e,List.mem_of_getElem? h,by rw[hv];simp⟩
def Asc(l:List Ent):Prop:=l.Pairwise fun a b=>a.index<b.index
instance (l : List Ent):Decidable (Asc l):=inferInstanceAs (Decidable (l.Pairwise fun a b=>a.index<b.index))
def below(l:List Ent)(x:Int):Nat:=l.countP fun e=>decide (e.index<x)
def found(l:List Ent)(x:Int):Bool:=(l[below l x]?).any fun e=>decide (e.index=x)
def upto(l:List Ent)(x:Int):Nat:=below l x+(if found l x then 1 else 0)
def find(l:List Ent)(x:Int):Ent:=if found l x then (l[below l x]?).getD zero else zero
def put(l:List Ent)(e:Ent):List Ent:=l.take (below l e.index) ++ [e]++l.drop (upto l e.index)
theorem below_le(l:List Ent)(x:Int):below l x≤l.length:=List.countP_le_length
theorem below_less{a:Ent}{x:Int}(r:List Ent)(h:a.index<x):below (a :: r) x=below r x+1:=by
 unfold below
 rw[List.countP_cons_of_pos (by simpa using h)]
theorem below_none{a:Ent}{x:Int}{r:List Ent}(hp:Asc (a :: r))(h : ¬a.index<x):below (a :: r) x=0:=by
 unfold below
 rw[List.countP_cons_of_neg (by simpa using h),List.countP_eq_zero]
 intro e he
 have:=(List.pairwise_cons.1 hp).1 e he
 simp;omega
theorem found_less{a:Ent}{x:Int}(r:List Ent)(h:a.index<x):found (a :: r) x=found r x:=by
 unfold found
 rw[below_less r h,List.getElem?_cons_succ]
theorem found_none{a:Ent}{x:Int}{r:List Ent}(hp:Asc (a :: r))(h : ¬a.index<x):found (a :: r) x=decide (a.index=x):=by
 unfold found
 rw[below_none hp h]
 simp
theorem upto_less{a:Ent}{x:Int}(r:List Ent)(h:a.index<x):upto (a :: r) x=upto r x+1:=by
 unfold upto
 rw[below_less r h,found_less r h]
 omega
theorem upto_same{a:Ent}{x:Int}{r:List Ent}(hp:Asc (a :: r))(h:a.index=x):upto (a :: r) x=1:=by
 unfold upto
 rw[below_none hp (by omega),found_none hp (by omega),decide_eq_true h]
 rfl
theorem upto_more{a:Ent}{x:Int}{r:List Ent}(hp:Asc (a :: r))(h:x<a.index):upto (a :: r) x=0:=by
 unfold upto
 rw[below_none hp (by omega),found_none hp (by omega),decide_eq_false (by omega)]
 rfl
theorem below_iff : ∀(l:List Ent) (x:Int),Asc l → ∀(k:Nat) (e:Ent),l[k]? = some e→(e.index<x↔k<below l x)
 | [],x,_,k,e,h=>by simp at h
 | a :: r,x,hp,k,e,h=>by
  obtain⟨h1,h2⟩:=List.pairwise_cons.1 hp
  by_cases ha:a.index<x
  ·rw[below_less r ha]
   cases k with
   | zero=>simp at h;subst h;exact⟨fun _=>by omega,fun _=>ha⟩
   | succ k=>rw[below_iff r x h2 k e (by simpa using h)];omega
  ·rw[below_none hp ha]
   refine⟨fun hc => ?_,fun h=>by omega⟩
   cases k with
   | zero=>simp at h;subst h;omega
   | succ k=>have:=h1 e (List.mem_of_getElem? (show r[k]? = some e by simpa using h));omega
theorem upto_le(l:List Ent)(x:Int):upto l x≤l.length:=by
 have hb:=below_le l x
 unfold upto
 cases hf:found l x with
 | false=>simpa using hb
 | true =>
  unfold found at hf
  cases hk:l[below l x]? with
  | none=>rw[hk]at hf;simp at hf
  | some e=>have:=(List.getElem?_eq_some_iff.1 hk).1;simp;omega
theorem below_upto(l:List Ent)(x:Int):below l x≤upto l x:=by unfold upto;omega
theorem pair_lt{l:List Ent}(hp:Asc l){i j:Nat}{a b:Ent}(h:i<j)(ha:l[i]? = some a)(hb:l[j]? = some b):a.index<b.index:=by
 obtain⟨h1,rfl⟩:=List.getElem?_eq_some_iff.1 ha
 obtain⟨h2,rfl⟩:=List.getElem?_eq_some_iff.1 hb
 exact List.pairwise_iff_getElem.1 hp i j h1 h2 h
theorem at_found{l:List Ent}(hp:Asc l){k:Nat}{e:Ent}(h:l[k]? = some e):found l e.index=true∧below l e.index=k:=by
 have hb:below l e.index=k:=by
  have h1 : ¬k<below l e.index:=fun hk=>by have:=(below_iff l e.index hp k e h).2 hk;omega
  rcases Nat.lt_or_ge (below l e.index) k with hlt | hge
  ·have hk:=(List.getElem?_eq_some_iff.1 h).1
   obtain⟨a,ha⟩ : ∃a,l[below l e.index]? = some a:=⟨_,List.getElem?_eq_getElem (by omega)⟩
   have h2:=pair_lt hp hlt ha h
   have h3:=(below_iff l e.index hp _ a ha).1 h2
   omega
  ·omega
 refine⟨?_,hb⟩
 unfold found
 rw[hb,h]
 simp
theorem found_at{l:List Ent}{x:Int}(h:found l x=true) : ∃e,l[below l x]? = some e∧e.index=x:=by
 unfold found at h
 cases hk:l[below l x]? with
 | none=>rw[hk]at h;simp at h
 | some e=>rw[hk]at h;exact⟨e,rfl,by simpa using h⟩
def ahead(e:Ent)(s:List Ent × Bool)(a:Ent):List Ent × Bool:=if s.2=false∧e.index≤a.index then (s.1 ++ [e],true)else s
def wstep(e:Ent)(s:List Ent × Bool)(a:Ent):List Ent × Bool:=if a.index≠e.index then ((ahead e s a).1 ++ [a],(ahead e s a).2)else ahead e s a
theorem put_less{a e:Ent}(r:List Ent)(h:a.index<e.index):put (a :: r) e=a :: put r e:=by
 unfold put
 rw[below_less r h,upto_less r h]
 rfl
theorem below_put(l:List Ent)(e:Ent)(hp:Asc l) : ∀k a,(put l e)[k]? = some a→k<below l e.index→a.index<e.index:=by
 intro k a h hk
 have hl:=below_le l e.index
 have hlen:(l.take (below l e.index)).length=below l e.index:=by rw[List.length_take];omega
 unfold put at h
 rw[List.append_assoc,List.getElem?_append_left (by omega),List.getElem?_take,if_pos hk]at h
 exact(below_iff l e.index hp k a h).2 hk
theorem put_asc : ∀(l:List Ent) (e:Ent),Asc l→Asc (put l e)
 | [],e,_=>by show List.Pairwise _ [e];simp
 | a :: r,e,hp=>by
  obtain⟨h1,h2⟩:=List.pairwise_cons.1 hp
  by_cases ha:a.index<e.index
  ·rw[put_less r ha]
   refine List.pairwise_cons.2 ⟨fun b hb => ?_,put_asc r e h2⟩
   unfold put at hb
   rw[List.mem_append,List.mem_append]at hb
   rcases hb with (hb | hb) | hb
   ·exact h1 b (List.mem_of_mem_take hb)
   ·simp at hb;subst hb;exact ha
   ·exact h1 b (List.mem_of_mem_drop hb)
  ·have hr:Asc (e :: r):=List.pairwise_cons.2 ⟨fun b hb=>by have:=h1 b hb;omega,h2⟩
   by_cases hx:a.index=e.index
   ·have:put (a :: r) e=e :: r:=by unfold put;rw[upto_same hp hx,below_none hp ha];rfl
    rw[this];exact hr
   ·have:put (a :: r) e=e :: a :: r:=by unfold put;rw[upto_more hp (by omega),below_none hp ha];rfl
    rw[this]
    refine List.pairwise_cons.2 ⟨fun b hb => ?_,hp⟩
    rcases List.mem_cons.1 hb with rfl | hb
    ·omega
    ·have:=h1 b hb;omega
theorem put_len(l:List Ent)(e:Ent):(put l e).length≤l.length+1:=by
 have h1:=below_le l e.index
 have h2:=upto_le l e.index
 have h3:=below_upto l e.index
 unfold put
 simp
 omega
theorem find_yes{l:List Ent}{x:Int}{e:Ent}(h:found l x=true)(he:l[below l x]? = some e):find l x=e:=by unfold find;rw[if_pos h,he];rfl
theorem find_no{l:List Ent}{x:Int}(h:found l x=false):find l x=zero:=by unfold find;rw[h];rfl
end En
namespace Cm
def Cmd.Pos(c:Cmd):Prop:=0≤c.kind∧0≤c.client∧0≤c.seq∧0≤c.node
theorem Cmd.Pos.n{c:Cmd}(h:c.Pos)(f:F):0≤c.n f:=by
 obtain⟨_,_,_,_⟩:=h
 cases f<;>simp[Cmd.n]<;>omega
def copy(c a:Cmd)(f:F):Cmd:=if f.num=true then a.setN (c.n f) f else a.setS (c.s f) f
def restrict(v:Int)(c:Cmd):Cmd:=(encoded v c.kind).foldl (copy c) (bareOf c.kind)
theorem gstep_back(c a:Cmd)(hp:c.Pos)(hf:c.Fits){m:Nat}(hs:c.Short m)(hm:m≤9223372036854775807)(pre post:List UInt8)(f:F) :
 gstep (pre++(fenc c f++post)) (a,pre.length,0) f=(copy c a f,(pre++fenc c f).length,0):=by
 unfold gstep copy fenc
 cases h:f.num with
 | true =>
  rw[if_pos rfl,if_pos rfl,if_pos rfl]
  have h0:=hp.n f
  have h1:=(hf.n f).2
  have hn:=Pk.num_enc pre post (N:=(c.n f).toNat) (most:=big) (by omega) (by unfold big;omega)
  have e:rnum (pre++(enc (c.n f).toNat++post)) pre.length 0=(((c.n f).toNat:Int),((pre.length+(enc (c.n f).toNat).length:Nat):Int),0):=by unfold rnum;rw[if_pos rfl];exact hn
  dsimp only
  rw[e]
  simp only[Int.toNat_natCast,List.length_append,Prod.mk.injEq,and_true]
  rw[Int.toNat_of_nonneg h0]
 | false =>
  rw[if_neg (by simp),if_neg (by simp),if_neg (by simp)]
  have h1:=hs.s f
  have hn:=Pk.txt_text pre post (s:=c.s f) (most:=big) (by omega) (by unfold big;omega)
  have e:rtxt (pre++(Pk.text (c.s f)++post)) pre.length 0=(c.s f,((pre.length+(Pk.text (c.s f)).length:Nat):Int),0):=by unfold rtxt;rw[if_pos rfl];exact hn
  dsimp only
  rw[e]
  simp only[Int.toNat_natCast,List.length_append]
theorem fold_back(c:Cmd)(hp:c.Pos)(hf:c.Fits){m:Nat}(hs:c.Short m)(hm:m≤9223372036854775807)(b:List UInt8) : ∀(fs:List F) (a:Cmd) (pre post:List UInt8),b=pre++(fs.flatMap (fenc c)++post) →
 fs.foldl (gstep b) (a,pre.length,0)=(fs.foldl (copy c) a,(pre++fs.flatMap (fenc c)).length,0):=by
 intro fs
 induction fs with
 | nil=>intro a pre post _;simp
 | cons f fs ih =>
  intro a pre post hb
  rw[List.foldl_cons,List.foldl_cons]
  have h1:gstep b (a,pre.length,0) f=(copy c a f,(pre++fenc c f).length,0):=by
   rw[hb,List.flatMap_cons,List.append_assoc]
   exact gstep_back c a hp hf hs hm pre _ f
  rw[h1,ih (copy c a f) (pre++fenc c f) post (by rw[hb];simp)]
  simp
theorem get_back(v:Int)(c:Cmd)(hp:c.Pos)(hf:c.Fits){m:Nat}(hs:c.Short m)(hm:m≤9223372036854775807):get v (bytes v c) 0 0=(restrict v c,(bytes v c).length,0):=by
 have hk:rnum (bytes v c) 0 0=(c.kind,(((enc c.kind.toNat).length:Nat):Int),0):=by
  unfold rnum bytes
  rw[if_pos rfl]
  have h1:=hf.k1
  have h0:=hp.1
  have:=Pk.num_enc [] ((encoded v c.kind).flatMap (fenc c)) (N:=c.kind.toNat) (most:=big) (by omega) (by unfold big;omega)
  simp only[List.nil_append,List.length_nil,Nat.zero_add]at this
  rw[this,Int.toNat_of_nonneg h0]
 unfold get
 rw[hk]
 simp only[Int.toNat_natCast]
 rw[fold_back c hp hf hs hm (bytes v c) (encoded v c.kind) (bareOf c.kind) (enc c.kind.toNat) [] (by simp[bytes])]
 rfl
theorem restrict_flat(c:Cmd)(h:c.old = []):restrict 1 c=c:=by
 obtain⟨k,cl,sq,nd,ky,od,vl⟩:=c
 dsimp only at h
 subst h
 rfl
theorem restrict_alone(v:Int)(hv:v≠1)(c:Cmd)(h:alone c=true):restrict v c=c:=by
 obtain⟨k,cl,sq,nd,ky,od,vl⟩:=c
 have h' := of_decide_eq_true h
 unfold restrict encoded
 rw[if_neg hv]
 dsimp only at h' ⊢
 rcases Vs.kinds k with rfl | rfl | rfl | rfl | rfl | rfl | rfl | rfl | hk
 rotate_right
 ·have hf:fields k = []:=fields_no (by omega) (by omega) (by omega) (by omega) (by omega) (by omega)
  rw[hf]at h' ⊢
  exact h'.symm
 all_goals
  simp[fields,wipe,F.num,Cmd.setN,Cmd.setS,bareOf]at h'
  simp[fields,copy,F.num,Cmd.setN,Cmd.setS,Cmd.n,Cmd.s,bareOf,h']
theorem check_ok{c:Cmd}(h:check c=0):known c.kind=true∧alone c=true:=by
 unfold check at h
 cases hk:known c.kind with
 | false=>rw[if_pos hk]at h;omega
 | true =>
  rw[if_neg (by rw[hk];simp)]at h
  split at h
  ·omega
  ·split at h
   ·omega
   ·split at h
    ·omega
    ·rename_i ha
     exact⟨rfl,by simpa using ha⟩
theorem check_pos{c:Cmd}(h:check c=0):c.Pos:=by
 obtain⟨hk,ha⟩:=check_ok h
 unfold check at h
 rw[hk,if_neg (by simp)]at h
 by_cases h6:(fields c.kind).all (within c)=false
 ·rw[if_pos h6]at h;omega
 ·have hw:(fields c.kind).all (within c)=true:=by simpa using h6
  have h' := of_decide_eq_true ha
  clear h ha h6
  obtain⟨k,cl,sq,nd,ky,od,vl⟩:=c
  dsimp only at hk hw h'
  rcases Vs.kinds k with rfl | rfl | rfl | rfl | rfl | rfl | rfl | rfl | h
  rotate_right
  ·simp[known]at hk;omega
  all_goals
   simp[fields,wipe,F.num,Cmd.setN,Cmd.setS,bareOf]at h'
   simp[fields,within,F.num,F.most,Cmd.n]at hw
   refine⟨?_, ?_, ?_, ?_⟩<;>dsimp only<;>first | omega | grind
theorem checkIn_ok{v:Int}{c:Cmd}(h:checkIn v c=0):Vs.may v=true∧check c=0∧Vs.has v c.kind=true:=by
 unfold checkIn at h
 by_cases h1:Vs.may v=false
 ·rw[if_pos h1]at h;omega
 ·rw[if_neg h1]at h
  by_cases h2:check c=0
  ·rw[if_neg (by simpa using h2)]at h
   by_cases h3:Vs.has v c.kind=false
   ·rw[if_pos h3]at h;omega
   ·exact⟨by simpa using h1,h2,by simpa using h3⟩
  ·rw[if_pos h2]at h;omega
theorem restrict_ok(v:Int)(c:Cmd)(h:checkIn v c=0):restrict v c=c:=by
 obtain⟨_,hc,hh⟩:=checkIn_ok h
 obtain⟨hk,ha⟩:=check_ok hc
 by_cases hv:v=1
 ·subst hv
  apply restrict_flat
  have h' := of_decide_eq_true ha
  clear h hc ha
  obtain⟨k,cl,sq,nd,ky,od,vl⟩:=c
  dsimp only at hk hh h' ⊢
  rcases Vs.kinds k with rfl | rfl | rfl | rfl | rfl | rfl | rfl | rfl | h
  rotate_right
  ·simp[known]at hk;omega
  all_goals first | (simp[Vs.has,Vs.common]at hh;done) | skip
  all_goals
   simp[fields,wipe,F.num,Cmd.setN,Cmd.setS,bareOf]at h'
   simp[h']
 ·exact restrict_alone v hv c ha
theorem done_end(b:List UInt8):done b b.length 0=0:=by unfold done;simp
theorem gstep_other(b:List UInt8)(t:Cmd × Nat × Int)(f g:F)(h:g≠f):(gstep b t f).1.n g=t.1.n g∧(gstep b t f).1.s g=t.1.s g:=by
 unfold gstep
 split
 ·dsimp only
  cases f<;>cases g<;>first | exact⟨rfl,rfl⟩ | exact absurd rfl h
 ·dsimp only
  cases f<;>cases g<;>first | exact⟨rfl,rfl⟩ | exact absurd rfl h
theorem fold_other(b:List UInt8) : ∀(fs:List F) (t:Cmd × Nat × Int) (g:F),g∉fs→(fs.foldl (gstep b) t).1.n g=t.1.n g∧(fs.foldl (gstep b) t).1.s g=t.1.s g:=by
 intro fs
 induction fs with
 | nil=>intro t g _;exact⟨rfl,rfl⟩
 | cons f fs ih =>
  intro t g hg
  have h1:=ih (gstep b t f) g (fun h=>hg (List.mem_cons_of_mem _ h))
  have h2:=gstep_other b t f g (fun h=>hg (by rw[h];simp))
  rw[List.foldl_cons,h1.1,h1.2,h2.1,h2.2]
  exact⟨rfl,rfl⟩
theorem gstep_kind(b:List UInt8)(t:Cmd × Nat × Int)(f:F):(gstep b t f).1.kind=t.1.kind:=by
 unfold gstep
 split
 ·exact Cmd.setN_kind _ _ _
 ·exact Cmd.setS_kind _ _ _
theorem foldg_kind(b:List UInt8) : ∀(fs:List F) (t:Cmd × Nat × Int),(fs.foldl (gstep b) t).1.kind=t.1.kind:=by
 intro fs
 induction fs with
 | nil=>intro t;rfl
 | cons f fs ih=>intro t;rw[List.foldl_cons,ih,gstep_kind]
theorem fenc_same(c d:Cmd)(f:F)(h:c.n f=d.n f∧c.s f=d.s f):fenc c f=fenc d f:=by unfold fenc;rw[h.1,h.2]
theorem gstep_ok(b:List UInt8)(c:Cmd)(p:Nat)(er:Int)(f:F)(hp:p≤b.length)(h:(gstep b (c,p,er) f).2.2=0) :
 er=0∧(gstep b (c,p,er) f).2.1≤b.length∧b.take (gstep b (c,p,er) f).2.1=b.take p++fenc (gstep b (c,p,er) f).1 f:=by
 unfold gstep at h ⊢
 cases hn:f.num with
 | true =>
  rw[hn,if_pos rfl]at h
  rw[if_pos rfl]
  dsimp only at h ⊢
  rcases rnum_cases b p er with ⟨e,he,hr⟩ | ⟨n,q,h0,_,hq,_,hr,ht⟩
  ·rw[hr]at h;exact absurd h he
  ·rw[hr]
   simp only[Int.toNat_natCast]
   refine⟨h0,hq, ?_⟩
   rw[ht]
   unfold fenc
   rw[if_pos hn]
   cases f<;>first | rfl | cases hn
 | false =>
  rw[hn,if_neg (by simp)]at h
  rw[if_neg (by simp)]
  dsimp only at h ⊢
  rcases rtxt_cases b p er hp with ⟨e,q,he,_,hr⟩ | ⟨s,q,h0,_,hq,_,hr,ht⟩
  ·rw[hr]at h;exact absurd h he
  ·rw[hr]
   simp only[Int.toNat_natCast]
   refine⟨h0,hq, ?_⟩
   rw[ht]
   unfold fenc
   rw[if_neg (by rw[hn];simp)]
   cases f<;>first | rfl | cases hn
theorem gstep_err(b:List UInt8)(c:Cmd)(p:Nat)(er:Int)(f:F)(hp:p≤b.length):(gstep b (c,p,er) f).2.1≤b.length:=by
 unfold gstep
 split
 ·dsimp only
  rcases rnum_cases b p er with ⟨e,_,hr⟩ | ⟨n,q,_,_,hq,_,hr,_⟩
  ·rw[hr];simpa using hp
  ·rw[hr];simpa using hq
 ·dsimp only
  rcases rtxt_cases b p er hp with ⟨e,q,_,hq,hr⟩ | ⟨s,q,_,_,hq,_,hr,_⟩
  ·rw[hr];simpa using hq
  ·rw[hr];simpa using hq
theorem fold_bytes(b:List UInt8) : ∀(fs:List F) (t:Cmd × Nat × Int),fs.Nodup→t.2.1≤b.length→(fs.foldl (gstep b) t).2.2=0 →
 t.2.2=0∧(fs.foldl (gstep b) t).2.1≤b.length∧b.take (fs.foldl (gstep b) t).2.1=b.take t.2.1++fs.flatMap (fenc (fs.foldl (gstep b) t).1):=by
 intro fs
 induction fs with
 | nil=>intro t _ hp h;exact⟨h,hp,by simp⟩
 | cons f fs ih =>
  intro t hn hp h
  obtain⟨c,p,er⟩:=t
  have hn' := List.nodup_cons.1 hn
  rw[List.foldl_cons]at h ⊢
  obtain⟨h1,h2,h3⟩:=ih (gstep b (c,p,er) f) hn'.2 (gstep_err b c p er f hp) h
  obtain⟨h4,_,h6⟩:=gstep_ok b c p er f hp h1
  refine⟨h4,h2, ?_⟩
  rw[h3,h6,List.flatMap_cons,List.append_assoc,fenc_same _ _ f (fold_other b fs (gstep b (c,p,er) f) f hn'.1)]
theorem decode_ok(v:Int)(b:List UInt8)(h:(decode v b).2=0):(v=1∨v=2)∧check (decode v b).1=0∧Vs.has v (decode v b).1.kind=true∧bytes v (decode v b).1=b:=by
 unfold decode at h ⊢
 by_cases h1:Vs.may v=false
 ·rw[if_pos h1]at h;cases h
 ·rw[if_neg h1]at h ⊢
  by_cases h2:done b (get v b 0 0).2.1 (get v b 0 0).2.2=0
  ·rw[if_neg (by simpa using h2)]at h ⊢
   by_cases h3:checkIn v (get v b 0 0).1=0
   ·rw[if_neg (by simpa using h3)]at h ⊢
    dsimp only
    obtain⟨hm,hc,hh⟩:=checkIn_ok h3
    refine⟨(Vs.may_or v).elim (fun x=>x.2) (fun x=>by rw[hm]at x;cases x.1),hc,hh, ?_⟩
    have her:(get v b 0 0).2.2=0:=by
     unfold done at h2
     split at h2
     ·rename_i hne;exact absurd h2 hne
     ·rename_i hne;simpa using hne
    have hpl : ¬(get v b 0 0).2.1<b.length:=by
     unfold done at h2
     rw[if_neg (by simpa using her)]at h2
     intro hlt
     rw[if_pos hlt]at h2
     omega
    unfold get at her hpl ⊢
    rcases rnum_cases b 0 0 with ⟨e,he,hr⟩ | ⟨n,q,_,_,hq,hnb,hr,ht⟩
    ·rw[hr]at her
     have:=(fold_bytes b _ _ (encoded_once v 0) (by simp) her).1
     exact absurd this he
    ·rw[hr]at her hpl ⊢
     simp only[Int.toNat_natCast]at her hpl ⊢
     obtain⟨_,h5,h6⟩:=fold_bytes b _ _ (encoded_once v (n:Int)) (by exact hq) her
     rw[List.take_of_length_le (by omega)]at h6
     unfold bytes
     rw[foldg_kind]
     show enc (n:Int).toNat++(encoded v (n:Int)).flatMap _=b
     rw[Int.toNat_natCast]
     conv=>rhs;rw[h6]
     dsimp only
     rw[ht]
     simp
   ·rw[if_pos h3]at h;exact absurd h h3
  ·rw[if_pos h2]at h;exact absurd h h2
theorem decode_none(v:Int)(b:List UInt8)(h:(decode v b).2≠0):(decode v b).1=zero:=by
 unfold decode at h ⊢
 by_cases h1:Vs.may v=false
 ·rw[if_pos h1]
 ·rw[if_neg h1]at h ⊢
  by_cases h2:done b (get v b 0 0).2.1 (get v b 0 0).2.2=0
  ·rw[if_neg (by simpa using h2)]at h ⊢
   by_cases h3:checkIn v (get v b 0 0).1=0
   ·rw[if_neg (by simpa using h3)]at h;exact absurd rfl h
   ·rw[if_pos h3]
  ·rw[if_pos h2]
end Cm
namespace Cm
theorem rnum_at(pre post:List UInt8){n:Nat}(h:n≤9223372036854775807):rnum (pre++(enc n++post)) pre.length 0=((n:Int),(((pre++enc n).length:Nat):Int),0):=by
 have:=Pk.num_enc pre post (N:=n) (most:=big) h (by unfold big;omega)
 unfold rnum
 rw[if_pos rfl,this,List.length_append]
theorem get_at(v:Int)(c:Cmd)(hp:c.Pos)(hf:c.Fits){m:Nat}(hs:c.Short m)(hm:m≤9223372036854775807)(pre post:List UInt8) :
 get v (pre++(bytes v c++post)) pre.length 0=(restrict v c,(pre++bytes v c).length,0):=by
 have h1:=hf.k1
 have h0:=hp.1
 have hk:=rnum_at pre ((encoded v c.kind).flatMap (fenc c)++post) (n:=c.kind.toNat) (by omega)
 have e:pre++(bytes v c++post)=pre++(enc c.kind.toNat++((encoded v c.kind).flatMap (fenc c)++post)):=by simp[bytes]
 unfold get
 rw[e,hk,Int.toNat_of_nonneg h0]
 simp only[Int.toNat_natCast]
 rw[fold_back c hp hf hs hm _ (encoded v c.kind) (bareOf c.kind) (pre++enc c.kind.toNat) post (by simp)]
 unfold restrict bytes
 rw[List.append_assoc]
theorem get_ok(v:Int)(b:List UInt8)(p:Nat)(er:Int)(h:(get v b p er).2.2=0)(hp:p≤b.length) :
 er=0∧(get v b p er).2.1≤b.length∧b.take (get v b p er).2.1=b.take p++bytes v (get v b p er).1:=by
 unfold get at h ⊢
 rcases rnum_cases b p er with ⟨e,he,hr⟩ | ⟨n,q,h0,_,hq,_,hr,ht⟩
 ·rw[hr]at h
  have:=(fold_bytes b _ _ (encoded_once v 0) (by simpa using hp) h).1
  exact absurd this he
 ·rw[hr]at h ⊢
  simp only[Int.toNat_natCast]at h ⊢
  obtain⟨_,h5,h6⟩:=fold_bytes b _ _ (encoded_once v (n:Int)) hq h
  refine⟨h0,h5, ?_⟩
  rw[h6]
  dsimp only
  rw[ht,List.append_assoc]
  unfold bytes
  rw[foldg_kind]
  rfl
theorem fold_le(b:List UInt8) : ∀(fs:List F) (t:Cmd × Nat × Int),t.2.1≤b.length→(fs.foldl (gstep b) t).2.1≤b.length:=by
 intro fs
 induction fs with
 | nil=>intro t h;exact h
 | cons f fs ih=>intro t h;exact ih _ (gstep_err b t.1 t.2.1 t.2.2 f h)
theorem get_le(v:Int)(b:List UInt8)(p:Nat)(er:Int)(hp:p≤b.length):(get v b p er).2.1≤b.length:=by
 unfold get
 rcases rnum_cases b p er with ⟨e,_,hr⟩ | ⟨n,q,_,_,hq,_,hr,_⟩
 ·rw[hr];exact fold_le b _ _ (by simpa using hp)
 ·rw[hr];exact fold_le b _ _ (by simpa using hq)
theorem rnum_le(b:List UInt8)(p:Nat)(er:Int)(hp:p≤b.length):(rnum b p er).2.1.toNat≤b.length:=by
 rcases rnum_cases b p er with ⟨e,_,hr⟩ | ⟨n,q,_,_,hq,_,hr,_⟩
 ·rw[hr];simpa using hp
 ·rw[hr];simpa using hq
theorem rnum_ok(b:List UInt8)(p:Nat)(er:Int)(h:(rnum b p er).2.2=0):er=0∧0≤(rnum b p er).1∧(rnum b p er).1≤9223372036854775807∧(rnum b p er).2.1.toNat≤b.length∧b.take (rnum b p er).2.1.toNat=b.take p++enc (rnum b p er).1.toNat:=by
 rcases rnum_cases b p er with ⟨e,he,hr⟩ | ⟨n,q,h0,_,hq,hn,hr,ht⟩
 ·rw[hr]at h;exact absurd h he
 ·rw[hr]
  simp only[Int.toNat_natCast]
  exact⟨h0,by omega,by omega,hq,ht⟩
end Cm
namespace En
def ebytes(v:Int)(e:Ent):List UInt8:=enc e.index.toNat++(enc e.bal.round.toNat++(enc e.bal.node.toNat++Cm.bytes v e.cmd))
def bytes(v:Int)(l:List Ent):List UInt8:=enc l.length++l.flatMap (ebytes v)
def get1(v:Int)(b:List UInt8)(p:Nat)(er:Int):Ent × Nat × Int :=
 let r:=Cm.rnum b p er
 let s:=Cm.rnum b r.2.1.toNat r.2.2
 let t:=Cm.rnum b s.2.1.toNat s.2.2
 let c:=Cm.get v b t.2.1.toNat t.2.2
 (⟨r.1,⟨s.1,t.1⟩,c.1⟩,c.2)
def gets(v:Int)(b:List UInt8)(p:Nat)(er:Int):Nat→List Ent × Nat × Int
 | 0=>([],p,er)
 | k+1=>((gets v b p er k).1 ++ [(get1 v b (gets v b p er k).2.1 (gets v b p er k).2.2).1],(get1 v b (gets v b p er k).2.1 (gets v b p er k).2.2).2)
def count(b:List UInt8)(p:Nat)(er:Int):Int × Int × Int:=if er=0 then Pk.cnt b p 256 else (0,(p:Int),er)
def get(v:Int)(b:List UInt8)(p:Nat)(er:Int):List Ent × Nat × Int :=
 let c:=count b p er
 let t:=gets v b c.2.1.toNat c.2.2 c.1.toNat
 (if t.2.2=0 then t.1 else [],t.2)
structure Ent.Pos(e:Ent):Prop where
 i:0≤e.index
 r:0≤e.bal.round
 n:0≤e.bal.node
 c:e.cmd.Pos
def restrict(v:Int)(e:Ent):Ent:=⟨e.index,e.bal,Cm.restrict v e.cmd⟩
theorem ebytes_pos(v:Int)(e:Ent):0<(ebytes v e).length:=by
 unfold ebytes
 have:=enc_pos e.index.toNat
 simp;omega
theorem flat_ge(v:Int)(l:List Ent):l.length≤(l.flatMap (ebytes v)).length:=by
 induction l with
 | nil=>simp
 | cons e r ih=>have:=ebytes_pos v e;rw[List.flatMap_cons,List.length_append,List.length_cons];omega
theorem get1_at(v:Int)(e:Ent)(hp:e.Pos)(hf:e.Fits){m:Nat}(hs:e.cmd.Short m)(hm:m≤9223372036854775807)(pre post:List UInt8) :
 get1 v (pre++(ebytes v e++post)) pre.length 0=(restrict v e,(pre++ebytes v e).length,0):=by
 have hi:=hp.i;have hr:=hp.r;have hn:=hp.n
 have hi1:=hf.i1;have hr1:=hf.bal.r1;have hn1:=hf.bal.n1
 have a1:=Cm.rnum_at pre (enc e.bal.round.toNat++(enc e.bal.node.toNat++(Cm.bytes v e.cmd++post))) (n:=e.index.toNat) (by omega)
 have a2:=Cm.rnum_at (pre++enc e.index.toNat) (enc e.bal.node.toNat++(Cm.bytes v e.cmd++post)) (n:=e.bal.round.toNat) (by omega)
 have a3:=Cm.rnum_at (pre++enc e.index.toNat++enc e.bal.round.toNat) (Cm.bytes v e.cmd++post) (n:=e.bal.node.toNat) (by omega)
 have a4:=Cm.get_at v e.cmd hp.c hf.cmd hs hm (pre++enc e.index.toNat++enc e.bal.round.toNat++enc e.bal.node.toNat) post
 have e1:pre++(ebytes v e++post)=pre++(enc e.index.toNat++(enc e.bal.round.toNat++(enc e.bal.node.toNat++(Cm.bytes v e.cmd++post)))):=by simp[ebytes]
 have e2:pre++enc e.index.toNat++(enc e.bal.round.toNat++(enc e.bal.node.toNat++(Cm.bytes v e.cmd++post)))=pre++(enc e.index.toNat++(enc e.bal.round.toNat++(enc e.bal.node.toNat++(Cm.bytes v e.cmd++post)))):=by simp
 have e3:pre++enc e.index.toNat++enc e.bal.round.toNat++(enc e.bal.node.toNat++(Cm.bytes v e.cmd++post))=pre++(enc e.index.toNat++(enc e.bal.round.toNat++(enc e.bal.node.toNat++(Cm.bytes v e.cmd++post)))):=by simp
 have e4:pre++enc e.index.toNat++enc e.bal.round.toNat++enc e.bal.node.toNat++(Cm.bytes v e.cmd++post)=pre++(enc e.index.toNat++(enc e.bal.round.toNat++(enc e.bal.node.toNat++(Cm.bytes v e.cmd++post)))):=by simp
 rw[e2]at a2
 rw[e3]at a3
 rw[e4]at a4
 rw[e1]
 unfold get1
 dsimp only
 rw[a1]
 simp only[Int.toNat_natCast]
 rw[a2]
 simp only[Int.toNat_natCast]
 rw[a3]
 simp only[Int.toNat_natCast]
 rw[a4]
 unfold restrict ebytes
 rw[Int.toNat_of_nonneg hi,Int.toNat_of_nonneg hr,Int.toNat_of_nonneg hn]
 simp
theorem gets_at(v:Int)(l:List Ent)(hp : ∀e∈l,e.Pos∧e.Fits){m:Nat}(hs : ∀e∈l,e.cmd.Short m)(hm:m≤9223372036854775807)(b pre post:List UInt8)(hb:b=pre++(l.flatMap (ebytes v)++post)) :
 ∀k,k≤l.length→gets v b pre.length 0 k=((l.take k).map (restrict v),(pre++(l.take k).flatMap (ebytes v)).length,0)
 | 0,_=>by simp[gets]
 | k+1,hk=>by
  have ih:=gets_at v l hp hs hm b pre post hb k (by omega)
  obtain⟨e,he⟩ : ∃e,l[k]? = some e:=⟨_,List.getElem?_eq_getElem (by omega)⟩
  have hmem:=List.mem_of_getElem? he
  have ht:l.take (k+1)=l.take k ++ [e]:=by rw[List.take_add_one,he];rfl
  have hsp:l.flatMap (ebytes v)=(l.take k).flatMap (ebytes v)++(ebytes v e++(l.drop (k+1)).flatMap (ebytes v)):=by
   conv=>lhs;rw[← List.take_append_drop (k+1) l,ht]
   simp[List.flatMap_append]
  have h1:=get1_at v e (hp e hmem).1 (hp e hmem).2 (hs e hmem) hm (pre++(l.take k).flatMap (ebytes v)) ((l.drop (k+1)).flatMap (ebytes v)++post)
  have e1:b=pre++(l.take k).flatMap (ebytes v)++(ebytes v e++((l.drop (k+1)).flatMap (ebytes v)++post)):=by rw[hb,hsp];simp
  rw[← e1]at h1
  unfold gets
  rw[ih]
  dsimp only
  rw[h1,ht]
  simp[List.flatMap_append]
theorem count_at(pre post:List UInt8){n:Nat}(h:n≤256)(hr:n≤post.length):count (pre++(enc n++post)) pre.length 0=((n:Int),(((pre++enc n).length:Nat):Int),0):=by
 have hn:=Pk.num_enc pre post (N:=n) (most:=256) (by omega) (by omega)
 unfold count Pk.cnt
 rw[if_pos rfl,hn,if_neg (by simp;omega),List.length_append]
theorem get_at(v:Int)(l:List Ent)(hl:l.length≤256)(hp : ∀e∈l,e.Pos∧e.Fits){m:Nat}(hs : ∀e∈l,e.cmd.Short m)(hm:m≤9223372036854775807)(pre post:List UInt8) :
 get v (pre++(bytes v l++post)) pre.length 0=(l.map (restrict v),(pre++bytes v l).length,0):=by
 have hc:=count_at pre (l.flatMap (ebytes v)++post) (n:=l.length) hl (by have:=flat_ge v l;rw[List.length_append];omega)
 have e1:pre++(bytes v l++post)=pre++(enc l.length++(l.flatMap (ebytes v)++post)):=by simp[bytes]
 have hg:=gets_at v l hp hs hm (pre++(enc l.length++(l.flatMap (ebytes v)++post))) (pre++enc l.length) post (by simp) l.length (Nat.le_refl _)
 rw[List.take_length]at hg
 unfold get
 dsimp only
 rw[e1,hc]
 simp only[Int.toNat_natCast]
 rw[hg]
 simp[bytes]
theorem get1_le(v:Int)(b:List UInt8)(p:Nat)(er:Int)(hp:p≤b.length):(get1 v b p er).2.1≤b.length :=
 Cm.get_le v b _ _ (Cm.rnum_le b _ _ (Cm.rnum_le b _ _ (Cm.rnum_le b p er hp)))
theorem get1_ok(v:Int)(b:List UInt8)(p:Nat)(er:Int)(h:(get1 v b p er).2.2=0)(hp:p≤b.length) :
 er=0∧b.take (get1 v b p er).2.1=b.take p++ebytes v (get1 v b p er).1:=by
 unfold get1 at h ⊢
 dsimp only at h ⊢
 have l1:=Cm.rnum_le b p er hp
 obtain⟨r,hr⟩ : ∃r,r=Cm.rnum b p er:=⟨_,rfl⟩
 have k1:=Cm.rnum_ok b p er
 rw[← hr]at h l1 k1 ⊢
 have l2:=Cm.rnum_le b r.2.1.toNat r.2.2 l1
 obtain⟨s,hs⟩ : ∃s,s=Cm.rnum b r.2.1.toNat r.2.2:=⟨_,rfl⟩
 have k2:=Cm.rnum_ok b r.2.1.toNat r.2.2
 rw[← hs]at h l2 k2 ⊢
 have l3:=Cm.rnum_le b s.2.1.toNat s.2.2 l2
 obtain⟨t,ht⟩ : ∃t,t=Cm.rnum b s.2.1.toNat s.2.2:=⟨_,rfl⟩
 have k3:=Cm.rnum_ok b s.2.1.toNat s.2.2
 rw[← ht]at h l3 k3 ⊢
 obtain⟨g0,_,g2⟩:=Cm.get_ok v b _ _ h l3
 obtain⟨z3,_,_,_,b3⟩:=k3 g0
 obtain⟨z2,_,_,_,b2⟩:=k2 z3
 obtain⟨z1,_,_,_,b1⟩:=k1 z2
 refine⟨z1, ?_⟩
 rw[g2,b3,b2,b1]
 unfold ebytes
 simp
theorem gets_le(v:Int)(b:List UInt8)(p:Nat)(er:Int)(hp:p≤b.length) : ∀k,(gets v b p er k).2.1≤b.length
 | 0=>hp
 | k+1=>get1_le v b _ _ (gets_le v b p er hp k)
theorem gets_len(v:Int)(b:List UInt8)(p:Nat)(er:Int) : ∀k,(gets v b p er k).1.length=k
 | 0=>rfl
 | k+1=>by unfold gets;simp[gets_len v b p er k]
theorem gets_ok(v:Int)(b:List UInt8)(p:Nat)(er:Int)(hp:p≤b.length) : ∀k,(gets v b p er k).2.2=0→er=0∧b.take (gets v b p er k).2.1=b.take p++(gets v b p er k).1.flatMap (ebytes v)
 | 0,h=>⟨h,by simp[gets]⟩
 | k+1,h=>by
  have hk:=gets_le v b p er hp k
  obtain⟨h1,h2⟩:=get1_ok v b _ _ h hk
  obtain⟨h3,h4⟩:=gets_ok v b p er hp k h1
  refine⟨h3, ?_⟩
  show b.take (get1 v b _ _).2.1=_
  rw[h2,h4,show(gets v b p er (k+1)).1=(gets v b p er k).1 ++ [(get1 v b (gets v b p er k).2.1 (gets v b p er k).2.2).1]from rfl]
  simp[List.flatMap_append]
theorem count_cases(b:List UInt8)(p:Nat)(er:Int)(hp:p≤b.length) :
 (∃(e:Int) (q:Nat),e≠0∧q≤b.length∧count b p er=(0,(q:Int),e))∨(∃n q:Nat,er=0∧q≤b.length∧n≤256∧count b p er=((n:Int),(q:Int),0)∧b.take q=b.take p++enc n):=by
 unfold count
 by_cases he:er=0
 ·rw[if_pos he]
  rcases Pk.cnt_cases b p 256 with ⟨e,h,_,hg⟩ | ⟨n,q,_,hq,_,_,hg⟩ | ⟨n,q,hn,hq,hg⟩
  ·left;exact⟨e,p,h,hp,hg⟩
  ·left;exact⟨1,q,by omega,hq,hg⟩
  ·right
   rcases Pk.num_cases b p 256 with ⟨e,h,_,hg2⟩ | ⟨n2,q2,_,_,_,_,_,hg2⟩ | ⟨n2,q2,hgp,_,hq2,hn2,hm,hg2⟩
   ·rw[hg2]at hn;simp at hn;omega
   ·rw[hg2]at hn;simp at hn
   ·rw[hg2]at hn
    simp at hn
    obtain⟨rfl,rfl⟩:n2=n∧q2=q:=by omega
    refine⟨n2,q2,he,hq2,by omega,hg, ?_⟩
    have h3:=Cm.rnum_ok b p 0
    unfold Cm.rnum Pk.num at h3
    rw[if_pos rfl,hgp,if_neg (by simp),if_neg (by unfold Cm.big;simp;omega)]at h3
    simpa using (h3 rfl).2.2.2.2
 ·rw[if_neg he];left;exact⟨er,p,he,hp,rfl⟩
theorem get_le(v:Int)(b:List UInt8)(p:Nat)(er:Int)(hp:p≤b.length):(get v b p er).2.1≤b.length:=by
 unfold get
 rcases count_cases b p er hp with ⟨e,q,_,hq,h⟩ | ⟨n,q,_,hq,_,h,_⟩
 ·rw[h];exact gets_le v b _ _ (by simpa using hq) _
 ·rw[h];exact gets_le v b _ _ (by simpa using hq) _
theorem get_ok(v:Int)(b:List UInt8)(p:Nat)(er:Int)(h:(get v b p er).2.2=0)(hp:p≤b.length) :
 er=0∧(get v b p er).1.length≤256∧b.take (get v b p er).2.1=b.take p++bytes v (get v b p er).1:=by
 unfold get at h ⊢
 dsimp only at h ⊢
 rw[if_pos h]
 rcases count_cases b p er hp with ⟨e,q,he,hq,hc⟩ | ⟨n,q,h0,hq,hn,hc,ht⟩
 ·rw[hc]at h
  exact absurd (gets_ok v b _ _ (by simpa using hq) _ h).1 he
 ·rw[hc]at h ⊢
  simp only[Int.toNat_natCast]at h ⊢
  obtain⟨_,h2⟩:=gets_ok v b q 0 hq n h
  have hl:=gets_len v b q 0 n
  refine⟨h0,by omega, ?_⟩
  rw[h2,ht,bytes,hl,List.append_assoc]
end En
structure Ms.Msg where
 kind:Int
 frm:Int
 dst:Int
 bal:Bl.Bal
 index:Int
 commit:Int
 version:Int
 ents:List En.Ent
 img:List UInt8
 deriving DecidableEq
namespace Ms
def zero : Msg:=⟨0,0,0,Bl.zero,0,0,0, [], []⟩
def cells(m:Msg)(ve vi:Value):Array Value := #[.int .i64 m.kind, .int .i64 m.frm, .int .i64 m.dst, .int .i64 m.bal.round, .int .i64 m.bal.node, .int .i64 m.index, .int .i64 m.commit, .int .i64 m.version,ve,vi]
def hv(k:Int):Bool:=decide (k=1) || decide (k=2)
def hb(k:Int):Bool:=decide (3≤k) && decide (k≤8)
def hi(k:Int):Bool:=decide (k=3) || (decide (k=4) || (decide (k=6) || decide (k=9)))
def hc(k:Int):Bool:=decide (k=4) || (decide (k=8) || decide (k=10))
def he(k:Int):Bool:=decide (k=4) || (decide (k=5) || decide (k=10))
def hm(k:Int):Bool:=decide (k=11)
def known(k:Int):Bool:=decide (1≤k) && decide (k≤11)
def tab : List Int := [0,1,1,6,30,18,6,2,10,4,24,32]
def mask(k:Int):Int:=if 0≤k∧k<12 then tab.getD k.toNat 0 else 0
theorem kinds(k:Int):k=1∨k=2∨k=3∨k=4∨k=5∨k=6∨k=7∨k=8∨k=9∨k=10∨k=11∨(k<1∨11<k):=by omega
theorem mask_no{k:Int}(h:k<1∨11<k):mask k=0:=by
 unfold mask
 by_cases h0:0≤k∧k<12
 ·obtain rfl:k=0:=by omega
  rfl
 ·rw[if_neg h0]
theorem has_no{k:Int}(h:k<1∨11<k):hv k=false∧hb k=false∧hi k=false∧hc k=false∧he k=false∧hm k=false∧known k=false:=by
 unfold hv hb hi hc he hm known
 simp only[Bool.or_eq_false_iff,Bool.and_eq_false_iff,decide_eq_false_iff_not]
 omega
def within(n lo hi:Int):Bool:=decide (lo≤n) && decide (n≤hi)
def nodes(a b:Int):Bool:=within a 1 9 && (within b 1 9 && decide (a≠b))
def owned(b:Bl.Bal):Bool:=Bl.may b && decide (b≠Bl.zero)
def ranged(m:Msg):Bool := !(hv m.kind && !Vs.may m.version) && (!(hb m.kind && !owned m.bal) && (!(hi m.kind && !within m.index 1 4294967296) && !(hc m.kind && !within m.commit 0 4294967296)))
def own(m:Msg):Msg :=
 ⟨m.kind,m.frm,m.dst,if hb m.kind=true then m.bal else Bl.zero,if hi m.kind=true then m.index else 0,if hc m.kind=true then m.commit else 0,if hv m.kind=true then m.version else 0,if he m.kind=true then m.ents else [],if hm m.kind=true then m.img else []⟩
def sole(m:Msg):Bool:=match m.ents with
 | [e]=>decide (e.bal=m.bal)
 | _=>false
def whole(m:Msg):Bool:=if m.kind=5 then sole m else if m.kind=11 then decide (0<m.img.length)else true
def long(m:Msg):Bool:=decide (256<(own m).ents.length) || decide (32768<(own m).img.length)
def check(m:Msg):Int :=
 if known m.kind=false then 5
 else if(nodes m.frm m.dst && ranged m)=false then 6
 else if long m=true then 2
 else if En.check 0 (own m).ents≠0 then En.check 0 (own m).ents
 else if(decide (own m=m) && whole m)=false then 3 else 0
def newer(m:Msg):Bool:=(hv m.kind && decide (m.version≠1)) || !En.has 1 m.ents
def older(m:Msg):Int:=if check m≠0 then check m else if newer m=true then 8 else 0
def nums(m:Msg):List Int := [m.kind,m.frm,m.dst,m.bal.round,m.bal.node,m.index,m.commit]
def nbytes(l:List Int):List UInt8:=l.flatMap fun n=>enc n.toNat
def bytes(m:Msg):List UInt8:=nbytes (nums m)++(En.bytes 1 m.ents++Pk.text m.img)
structure Msg.Fits(m:Msg):Prop where
 n : ∀x∈nums m, -9223372036854775808≤x∧x≤9223372036854775807
 e : ∀x∈m.ents,x.Fits
def rnums(b:List UInt8):Nat→List Int × Nat × Int
 | 0=>([],0,0)
 | k+1=>((rnums b k).1 ++ [(Cm.rnum b (rnums b k).2.1 (rnums b k).2.2).1],(Cm.rnum b (rnums b k).2.1 (rnums b k).2.2).2.1.toNat,(Cm.rnum b (rnums b k).2.1 (rnums b k).2.2).2.2)
def nth(l:List Int)(i:Nat):Int:=l.getD i 0
def ofNums(l:List Int):Msg:=⟨nth l 0,nth l 1,nth l 2,⟨nth l 3,nth l 4⟩,nth l 5,nth l 6,0, [], []⟩
def raw(b:List UInt8)(p:Nat)(er:Int):List UInt8 × Int × Int:=if er=0 then Pk.txt b p 32768 else ([],(p:Int),er)
def gotE(b:List UInt8):List En.Ent × Nat × Int:=En.get 1 b (rnums b 7).2.1 (rnums b 7).2.2
def gotR(b:List UInt8):List UInt8 × Int × Int:=raw b (gotE b).2.1 (gotE b).2.2
def gotM(b:List UInt8):Msg :=
 ⟨nth (rnums b 7).1 0,nth (rnums b 7).1 1,nth (rnums b 7).1 2,⟨nth (rnums b 7).1 3,nth (rnums b 7).1 4⟩,nth (rnums b 7).1 5,nth (rnums b 7).1 6,if hv (nth (rnums b 7).1 0)=true then 1 else 0,(gotE b).1,(gotR b).1⟩
def get(b:List UInt8):Msg × Nat × Int:=(gotM b,(gotR b).2.1.toNat,(gotR b).2.2)
def decode(b:List UInt8):Msg × Int :=
 if Cm.done b (get b).2.1 (get b).2.2≠0 then (zero,Cm.done b (get b).2.1 (get b).2.2)
 else if older (get b).1≠0 then (zero,older (get b).1)else ((get b).1,0)
theorem nbytes_app(l m:List Int):nbytes (l++m)=nbytes l++nbytes m:=by simp[nbytes]
theorem nbytes_one(n:Int):nbytes [n]=enc n.toNat:=by simp[nbytes]
theorem nbytes_len(l:List Int)(h : ∀x∈l,x≤9223372036854775807):(nbytes l).length≤9*l.length:=by
 induction l with
 | nil=>simp[nbytes]
 | cons x r ih =>
  have h1:=enc_nine (n:=x.toNat) (by have:=h x (by simp);omega)
  have h2:=ih fun y hy=>h y (by simp[hy])
  show((enc x.toNat)++nbytes r).length≤_
  rw[List.length_append,List.length_cons]
  omega
theorem rnums_at(l:List Int)(hl : ∀x∈l,0≤x∧x≤9223372036854775807)(b post:List UInt8)(hb:b=nbytes l++post) :
 ∀k,k≤l.length→rnums b k=(l.take k,(nbytes (l.take k)).length,0)
 | 0,_=>by simp[rnums,nbytes]
 | k+1,hk=>by
  have ih:=rnums_at l hl b post hb k (by omega)
  obtain⟨x,hx⟩ : ∃x,l[k]? = some x:=⟨_,List.getElem?_eq_getElem (by omega)⟩
  obtain⟨h0,h1⟩:=hl x (List.mem_of_getElem? hx)
  have ht:l.take (k+1)=l.take k ++ [x]:=by rw[List.take_add_one,hx];rfl
  have e:b=nbytes (l.take k)++(enc x.toNat++(nbytes (l.drop (k+1))++post)):=by
   rw[hb]
   conv=>lhs;rw[← List.take_append_drop (k+1) l,ht]
   rw[nbytes_app,nbytes_app,nbytes_one]
   simp
  have hr:=Cm.rnum_at (nbytes (l.take k)) (nbytes (l.drop (k+1))++post) (n:=x.toNat) (by omega)
  rw[← e]at hr
  unfold rnums
  rw[ih]
  dsimp only
  rw[hr,ht,nbytes_app,nbytes_one,Int.toNat_of_nonneg h0]
  simp
  omega
theorem rnums_le(b:List UInt8) : ∀k,(rnums b k).2.1≤b.length
 | 0=>Nat.zero_le _
 | k+1=>Cm.rnum_le b _ _ (rnums_le b k)
theorem rnums_len(b:List UInt8) : ∀k,(rnums b k).1.length=k
 | 0=>rfl
 | k+1=>by unfold rnums;simp[rnums_len b k]
theorem rnum_num(b:List UInt8)(p:Nat)(er:Int):0≤(Cm.rnum b p er).1∧(Cm.rnum b p er).1≤9223372036854775807:=by
 rcases Cm.rnum_cases b p er with ⟨e,_,hr⟩ | ⟨n,q,_,_,_,hb,hr,_⟩
 ·rw[hr];simp
 ·rw[hr];simp;omega
theorem rnums_num(b:List UInt8) : ∀k,∀x∈(rnums b k).1,0≤x∧x≤9223372036854775807
 | 0,x,h=>by simp[rnums]at h
 | k+1,x,h=>by
  unfold rnums at h
  dsimp only at h
  rcases List.mem_append.1 h with h | h
  ·exact rnums_num b k x h
  ·rw[List.mem_singleton]at h
   subst h
   exact rnum_num _ _ _
theorem rnums_ok(b:List UInt8) : ∀k,(rnums b k).2.2=0→b.take (rnums b k).2.1=nbytes (rnums b k).1
 | 0,_=>by simp[rnums,nbytes]
 | k+1,h=>by
  obtain⟨h1,_,_,_,h5⟩:=Cm.rnum_ok b _ _ (show(Cm.rnum b (rnums b k).2.1 (rnums b k).2.2).2.2=0 from h)
  have ih:=rnums_ok b k h1
  show b.take (Cm.rnum b (rnums b k).2.1 (rnums b k).2.2).2.1.toNat=nbytes ((rnums b k).1 ++ [_])
  rw[nbytes_app,nbytes_one,h5,ih]
theorem nth_in{l:List Int}{i:Nat}(h:i<l.length):nth l i∈l:=by
 unfold nth
 rw[List.getD_eq_getElem?_getD,List.getElem?_eq_getElem h]
 exact List.getElem_mem h
theorem seven{l:List Int}(h:l.length=7) : [nth l 0,nth l 1,nth l 2,nth l 3,nth l 4,nth l 5,nth l 6]=l:=by
 match l,h with
 | [a,b,c,d,e,f,g],_=>rfl
theorem raw_cases(b:List UInt8)(p:Nat)(er:Int)(hp:p≤b.length) :
 (∃(e:Int) (q:Nat),e≠0∧q≤b.length∧raw b p er=([],(q:Int),e)) ∨
 (∃(s:List UInt8) (q:Nat),er=0∧q≤b.length∧s.length≤b.length∧raw b p er=(s,(q:Int),0)∧b.take q=b.take p++Pk.text s):=by
 unfold raw
 by_cases he:er=0
 ·rw[if_pos he]
  rcases Pk.txt_cases b p 32768 hp with ⟨e,q,he,hq,_,hg⟩ | ⟨n,q,hc,hq,hg⟩
  ·left;exact⟨e,q,he,hq,hg⟩
  ·right
   have hl:((b.drop q).take n).length=n:=by simp;omega
   refine⟨(b.drop q).take n,q+n,he,hq,by rw[hl];omega,hg, ?_⟩
   rcases Pk.cnt_cases b p 32768 with ⟨e,he,_,h2⟩ | ⟨n2,q2,_,_,_,_,h2⟩ | ⟨n2,q2,h1,_,h2⟩
   ·rw[h2]at hc;simp at hc;omega
   ·rw[h2]at hc;simp at hc
   ·rw[h2]at hc
    simp at hc
    obtain⟨rfl,rfl⟩:n2=n∧q2=q:=by omega
    rcases Pk.num_cases b p 32768 with ⟨e,h,_,hg2⟩ | ⟨n3,q3,_,_,_,_,_,hg2⟩ | ⟨n3,q3,hgp,_,hq3,hn3,_,hg2⟩
    ·rw[hg2]at h1;simp at h1;omega
    ·rw[hg2]at h1;simp at h1
    ·rw[hg2]at h1
     simp at h1
     obtain⟨rfl,rfl⟩:n3=n2∧q3=q2:=by omega
     have h3:=Cm.rnum_ok b p 0
     unfold Cm.rnum Pk.num at h3
     rw[if_pos rfl,hgp,if_neg (by simp),if_neg (by unfold Cm.big;simp;omega)]at h3
     have h4:=(h3 rfl).2.2.2.2
     simp only[Int.toNat_natCast]at h4
     rw[List.take_add,h4,Pk.text,hl,List.append_assoc]
 ·rw[if_neg he];left;exact⟨er,p,he,hp,rfl⟩
theorem raw_at(pre post:List UInt8){s:List UInt8}(hs:s.length≤32768):raw (pre++(Pk.text s++post)) pre.length 0=(s,(((pre++Pk.text s).length:Nat):Int),0):=by
 unfold raw
 rw[if_pos rfl,Pk.txt_text pre post (by omega) (by omega),List.length_append]
theorem ents_ok : ∀(l:List En.Ent) (b:Int),En.check b l=0 → ∀e∈l,En.ranged e=true∧Cm.check e.cmd=0
 | [],_,_,e,he=>by simp at he
 | a :: r,b,h,e,he=>by
  have h' : (if En.one b a≠0 then En.one b a else En.check a.index r)=0:=h
  by_cases h1:En.one b a=0
  ·rw[if_neg (by simpa using h1)]at h'
   rcases List.mem_cons.1 he with rfl | he
   ·unfold En.one at h1
    by_cases h2:En.ranged e=false
    ·rw[if_pos h2]at h1;omega
    ·rw[if_neg h2]at h1
     by_cases h3:Cm.check e.cmd=0
     ·exact⟨by simpa using h2,h3⟩
     ·rw[if_pos h3]at h1;exact absurd h1 h3
   ·exact ents_ok r _ h' e he
  ·rw[if_pos h1]at h'; exact absurd h' h1
theorem ent_pos{e:En.Ent}(h:En.ranged e=true)(hc:Cm.check e.cmd=0):e.Pos:=by
 unfold En.ranged at h
 simp only[Bool.and_eq_true,decide_eq_true_eq]at h
 have hb:=h.2
 have hp:=Cm.check_pos hc
 have:0≤e.bal.round∧0≤e.bal.node:=by
  unfold Bl.may Bl.within at hb
  rcases Bool.or_eq_true_iff.1 hb with h1 | h1
  ·rw[of_decide_eq_true h1];exact⟨Int.le_refl _,Int.le_refl _⟩
  ·simp only[Bool.and_eq_true,decide_eq_true_eq]at h1
   omega
 exact⟨by omega,this.1,this.2,hp⟩
theorem ent_one{e:En.Ent}(hc:Cm.check e.cmd=0)(hv:Vs.has 1 e.cmd.kind=true):En.restrict 1 e=e:=by
 have h:Cm.checkIn 1 e.cmd=0:=by
  unfold Cm.checkIn
  rw[if_neg (by decide),if_neg (by simpa using hc),if_neg (by rw[hv];simp)]
 unfold En.restrict
 rw[Cm.restrict_ok 1 e.cmd h]
structure Good(m:Msg):Prop where
 kind:known m.kind=true
 nodes:nodes m.frm m.dst=true
 ranged:ranged m=true
 long:long m=false
 ents:En.check 0 m.ents=0
 own:own m=m
 whole:whole m=true
theorem check_good{m:Msg}(h:check m=0):Good m:=by
 unfold check at h
 by_cases h1:known m.kind=false
 ·rw[if_pos h1]at h;omega
 rw[if_neg h1]at h
 by_cases h2:(Ms.nodes m.frm m.dst && Ms.ranged m)=false
 ·rw[if_pos h2]at h;omega
 rw[if_neg h2]at h
 by_cases h3:Ms.long m=true
 ·rw[if_pos h3]at h;omega
 rw[if_neg h3]at h
 by_cases h4:En.check 0 (Ms.own m).ents=0
 ·rw[if_neg (by simpa using h4)]at h
  by_cases h5:(decide (Ms.own m=m) && Ms.whole m)=false
  ·rw[if_pos h5]at h;omega
  ·simp only[Bool.not_eq_false,Bool.and_eq_true,decide_eq_true_eq]at h1 h2 h5
   exact⟨h1,h2.1,h2.2,by simpa using h3,by rw[h5.1]at h4;exact h4,h5.1,h5.2⟩
 ·rw[if_pos h4]at h;exact absurd h h4
theorem older_good{m:Msg}(h:older m=0):check m=0∧newer m=false:=by
 unfold older at h
 by_cases h1:check m=0
 ·rw[if_neg (by simpa using h1)]at h
  by_cases h2:newer m=true
  ·rw[if_pos h2]at h;omega
  ·exact⟨h1,by simpa using h2⟩
 ·rw[if_pos h1]at h;exact absurd h h1
theorem good_len{m:Msg}(h:Good m):m.ents.length≤256∧m.img.length≤32768:=by
 have:=h.long
 unfold Ms.long at this
 rw[h.own]at this
 simp at this
 omega
theorem good_version{m:Msg}(h:Good m)(hn:newer m=false):m.version=if hv m.kind=true then 1 else 0:=by
 unfold newer at hn
 simp at hn
 by_cases hk:hv m.kind=true
 ·rw[if_pos hk];exact hn.1 hk
 ·rw[if_neg hk]
  have:=congrArg Msg.version h.own
  rw[← this]
  show(if hv m.kind=true then m.version else 0)=0
  rw[if_neg hk]
theorem good_pos{m:Msg}(h:Good m) : ∀x∈nums m,0≤x∧x≤9223372036854775807:=by
 have hk:=h.kind;have hn:=h.nodes;have hr:=h.ranged
 unfold known at hk
 unfold Ms.nodes within at hn
 simp only[Bool.and_eq_true,decide_eq_true_eq]at hk hn
 have hb:(0≤m.bal.round∧m.bal.round≤4294967296)∧(0≤m.bal.node∧m.bal.node≤9):=by
  by_cases hx:hb m.kind=true
  ·unfold Ms.ranged at hr
   simp only[Bool.and_eq_true]at hr
   have ho:owned m.bal=true:=by
    have:=hr.2.1
    rw[hx]at this
    simpa using this
   unfold owned at ho
   have hmay:=(Bool.and_eq_true_iff.1 ho).1
   unfold Bl.may Bl.within at hmay
   rcases Bool.or_eq_true_iff.1 hmay with h1 | h1
   ·rw[of_decide_eq_true h1];simp[Bl.zero]
   ·simp only[Bool.and_eq_true,decide_eq_true_eq]at h1
    omega
  ·have:=congrArg Msg.bal h.own
   rw[← this]
   show(_≤(if hb m.kind=true then m.bal else Bl.zero).round∧_)∧_
   rw[show(Ms.own m).bal=if hb m.kind=true then m.bal else Bl.zero from rfl,if_neg hx]
   simp[Bl.zero]
 have hix:0≤m.index∧m.index≤4294967296:=by
  by_cases hx:hi m.kind=true
  ·unfold Ms.ranged at hr
   simp only[Bool.and_eq_true]at hr
   have:=hr.2.2.1
   rw[hx]at this
   simp[within]at this
   omega
  ·have:=congrArg Msg.index h.own
   rw[← this,show(Ms.own m).index=if hi m.kind=true then m.index else 0 from rfl,if_neg hx]
   simp
 have hcx:0≤m.commit∧m.commit≤4294967296:=by
  by_cases hx:hc m.kind=true
  ·unfold Ms.ranged at hr
   simp only[Bool.and_eq_true]at hr
   have:=hr.2.2.2
   rw[hx]at this
   simp[within]at this
   omega
  ·have:=congrArg Msg.commit h.own
   rw[← this,show(Ms.own m).commit=if hc m.kind=true then m.commit else 0 from rfl,if_neg hx]
   simp
 intro x hx
 simp only[nums,List.mem_cons,List.not_mem_nil,or_false]at hx
 rcases hx with rfl | rfl | rfl | rfl | rfl | rfl | rfl<;>omega
theorem decode_back{m:Msg}(h:older m=0)(hf:m.Fits){s:Nat}(hs : ∀e∈m.ents,e.cmd.Short s)(hs2:s≤9223372036854775807):decode (bytes m)=(m,0):=by
 obtain⟨hc,hn⟩:=older_good h
 have hg:=check_good hc
 obtain⟨hl,hl2⟩:=good_len hg
 have hver:=good_version hg hn
 have hpos:=good_pos hg
 have hhas:En.has 1 m.ents=true:=by unfold newer at hn;simp at hn;exact hn.2
 have hents : ∀e∈m.ents,e.Pos∧e.Fits∧En.restrict 1 e=e:=fun e he=>by
  obtain⟨h1,h2⟩:=ents_ok _ _ hg.ents e he
  exact⟨ent_pos h1 h2,hf.e e he,ent_one h2 (List.all_eq_true.1 hhas e he)⟩
 have h1:=rnums_at (nums m) hpos (bytes m) (En.bytes 1 m.ents++Pk.text m.img) rfl 7 (Nat.le_refl _)
 rw[show(nums m).take 7=nums m from rfl]at h1
 have h2:=En.get_at 1 m.ents hl (fun e he=>⟨(hents e he).1,(hents e he).2.1⟩) hs hs2 (nbytes (nums m)) (Pk.text m.img)
 rw[show m.ents.map (En.restrict 1)=m.ents from by
  conv=>rhs;rw[← List.map_id m.ents]
  exact List.map_congr_left fun e he=>(hents e he).2.2]at h2
 have h3:=raw_at (nbytes (nums m)++En.bytes 1 m.ents) [] hl2
 rw[List.append_nil,List.append_assoc]at h3
 have hgE:gotE (bytes m)=(m.ents,(nbytes (nums m)++En.bytes 1 m.ents).length,0):=by
  unfold gotE
  rw[h1]
  exact h2
 have hgR:gotR (bytes m)=(m.img,(((bytes m).length:Nat):Int),0):=by
  unfold gotR
  rw[hgE]
  have e:(nbytes (nums m)++(En.bytes 1 m.ents++Pk.text m.img))=bytes m:=rfl
  rw[e]at h3
  rw[h3]
 have hgM:gotM (bytes m)=m:=by
  unfold gotM
  rw[h1,hgE,hgR]
  dsimp only
  rw[show nth (nums m) 0=m.kind from rfl, ← hver]
  rfl
 have hget:get (bytes m)=(m,(bytes m).length,0):=by
  unfold get
  rw[hgM,hgR]
  rfl
 unfold decode
 rw[hget]
 dsimp only
 rw[Cm.done_end,if_neg (by simp),if_neg (by simpa using h)]
theorem decode_none(b:List UInt8)(h:(decode b).2≠0):(decode b).1=zero:=by
 unfold decode at h ⊢
 by_cases h2:Cm.done b (get b).2.1 (get b).2.2=0
 ·rw[if_neg (by simpa using h2)]at h ⊢
  by_cases h3:older (get b).1=0
  ·rw[if_neg (by simpa using h3)]at h;exact absurd rfl h
  ·rw[if_pos h3]
 ·rw[if_pos h2]
theorem decode_ok(b:List UInt8)(h:(decode b).2=0):(decode b).1=(get b).1∧older (get b).1=0∧bytes (get b).1=b:=by
 unfold decode at h ⊢
 by_cases h2:Cm.done b (get b).2.1 (get b).2.2=0
 ·rw[if_neg (by simpa using h2)]at h ⊢
  by_cases h3:older (get b).1=0
  ·rw[if_neg (by simpa using h3)]
   refine⟨rfl,h3, ?_⟩
   have her:(get b).2.2=0:=by
    unfold Cm.done at h2
    split at h2
    ·rename_i hne;exact absurd h2 hne
    ·rename_i hne;simpa using hne
   have hpl : ¬(get b).2.1<b.length:=by
    unfold Cm.done at h2
    rw[if_neg (by simpa using her)]at h2
    intro hlt
    rw[if_pos hlt]at h2
    omega
   have l1:=rnums_le b 7
   have l2:(gotE b).2.1≤b.length:=En.get_le 1 b _ _ l1
   rcases raw_cases b (gotE b).2.1 (gotE b).2.2 l2 with ⟨e,q,he,_,hr⟩ | ⟨s,q,h0,hq,_,hr,ht⟩
   ·have hr' : gotR b=([],(q:Int),e):=hr
    have:(get b).2.2=e:=by unfold get;rw[hr']
    exact absurd (this.symm.trans her) he
   ·have hr' : gotR b=(s,(q:Int),0):=hr
    have hq2:(get b).2.1=q:=by unfold get;rw[hr'];simp
    rw[hq2]at hpl
    rw[List.take_of_length_le (by omega)]at ht
    obtain⟨k0,_,k2⟩:=En.get_ok 1 b _ _ (show(gotE b).2.2=0 from h0) l1
    have k3:=rnums_ok b 7 k0
    have hn7:nums (get b).1=(rnums b 7).1:=seven (rnums_len b 7)
    conv=>rhs;rw[ht]
    unfold bytes
    rw[hn7,show(get b).1.ents=(gotE b).1 from rfl,show(get b).1.img=s from by show(gotR b).1=s;rw[hr']]
    rw[show b.take (gotE b).2.1=b.take (rnums b 7).2.1++En.bytes 1 (gotE b).1 from k2,k3]
    simp
  ·rw[if_pos h3]at h;exact absurd h h3
 ·rw[if_pos h2]at h;exact absurd h h2
end Ms
end Go.Proofs.YtdkdjofnnnljjaaGreatDoor
