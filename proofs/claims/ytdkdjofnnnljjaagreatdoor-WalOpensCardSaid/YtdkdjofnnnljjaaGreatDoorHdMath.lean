/- The state of a log, plain: what a record makes of it, what records come to, by the document's two loops too; which may be; the records of one. No program is spoken of. -/
import Derived.Test.YtdkdjofnnnljjaaGreatDoorGRe
import Derived.Test.YtdkdjofnnnljjaaGreatDoorGPl
namespace Go.Proofs.YtdkdjofnnnljjaaGreatDoor
open Go.RowKit
namespace En
theorem put_nil(e:Ent):put [] e = [e]:=rfl
theorem put_eq{a e:Ent}{r:List Ent}(hp:Asc (a :: r))(h:a.index=e.index):put (a :: r) e=e :: r:=by
 unfold put;rw[upto_same hp h,below_none hp (by omega)];rfl
theorem put_more{a e:Ent}{r:List Ent}(hp:Asc (a :: r))(h:e.index<a.index):put (a :: r) e=e :: a :: r:=by
 unfold put;rw[upto_more hp h,below_none hp (by omega)];rfl
theorem mem_put{e a:Ent} : ∀ {l:List Ent},Asc l→(a∈put l e↔a=e∨(a∈l∧a.index≠e.index))
 | [],_=>by rw[put_nil];simp
 | b :: r,hp=>by
  obtain⟨h1,h2⟩:=List.pairwise_cons.1 hp
  rcases Int.lt_trichotomy b.index e.index with h | h | h
  ·rw[put_less r h,List.mem_cons,mem_put h2,List.mem_cons]
   constructor
   ·rintro(rfl | rfl | ⟨h3,h4⟩)
    ·exact .inr ⟨.inl rfl,by omega⟩
    ·exact .inl rfl
    ·exact .inr ⟨.inr h3,h4⟩
   ·rintro(rfl | ⟨rfl | h3,h4⟩)
    ·exact .inr (.inl rfl)
    ·exact .inl rfl
    ·exact .inr (.inr ⟨h3,h4⟩)
  ·rw[put_eq hp h,List.mem_cons,List.mem_cons]
   constructor
   ·rintro(rfl | h3)
    ·exact .inl rfl
    ·exact .inr ⟨.inr h3,by have:=h1 a h3;omega⟩
   ·rintro(rfl | ⟨rfl | h3,h4⟩)
    ·exact .inl rfl
    ·exact absurd h h4
    ·exact .inr h3
  ·rw[put_more hp h,List.mem_cons,List.mem_cons]
   constructor
   ·rintro(rfl | rfl | h3)
    ·exact .inl rfl
    ·exact .inr ⟨.inl rfl,by omega⟩
    ·exact .inr ⟨.inr h3,by have:=h1 a h3;omega⟩
   ·rintro(rfl | ⟨h3,_⟩)
    ·exact .inl rfl
    ·exact .inr h3
theorem put_last{e:Ent} : ∀ {l:List Ent},(∀a∈l,a.index<e.index)→put l e=l ++ [e]
 | [],_=>rfl
 | a :: r,h=>by
  rw[put_less r (h a (by simp)),put_last fun b hb=>h b (List.mem_cons_of_mem _ hb)]
  rfl
theorem found_iff{l:List Ent}(hp:Asc l){x:Int}:found l x=true ↔ ∃e∈l,e.index=x:=by
 constructor
 ·intro h
  obtain⟨e,he,hx⟩:=found_at h
  exact⟨e,List.mem_of_getElem? he,hx⟩
 ·rintro⟨e,he,rfl⟩
  obtain⟨k,hk⟩:=List.getElem?_of_mem he
  exact(at_found hp hk).1
theorem check_iff : ∀(l:List Ent) (b:Int),check b l=0↔Asc l ∧ ∀e∈l,ranged e=true∧Cm.check e.cmd=0∧b<e.index
 | [],b=>by simp[check,Asc]
 | a :: r,b=>by
  have ih:=check_iff r a.index
  have ho:one b a=0↔ranged a=true∧Cm.check a.cmd=0∧b<a.index:=by
   unfold one
   cases hr:ranged a
   ·simp
   ·by_cases hc:Cm.check a.cmd=0
    ·by_cases hb:a.index≤b
     ·simp[hc,hb]<;>omega
     ·simp[hc,hb]<;>omega
    ·simp[hc]
  unfold check
  constructor
  ·intro h
   split at h
   ·rename_i h0;exact absurd h h0
   ·rename_i h0
    have h0:one b a=0:=by omega
    obtain⟨h1,h2⟩:=ih.1 h
    obtain⟨o1,o2,o3⟩:=ho.1 h0
    refine⟨List.pairwise_cons.2 ⟨fun c hc=>(h2 c hc).2.2,h1⟩,fun e he => ?_⟩
    rcases List.mem_cons.1 he with rfl | he
    ·exact⟨o1,o2,o3⟩
    ·obtain⟨p1,p2,p3⟩:=h2 e he
     exact⟨p1,p2,by omega⟩
  ·rintro⟨h1,h2⟩
   obtain⟨h3,h4⟩:=List.pairwise_cons.1 h1
   rw[if_neg (by rw[ho.2 (h2 a (by simp))];simp)]
   exact ih.2 ⟨h4,fun e he=>⟨(h2 e (List.mem_cons_of_mem _ he)).1,(h2 e (List.mem_cons_of_mem _ he)).2.1,h3 e he⟩⟩
def cut(b:Int)(l:List Ent):List Ent:=l.filter fun e=>decide (b<e.index)
theorem mem_cut{b:Int}{l:List Ent}{e:Ent}:e∈cut b l↔e∈l∧b<e.index:=by unfold cut;rw[List.mem_filter];simp
theorem cut_asc{b:Int}{l:List Ent}(h:Asc l):Asc (cut b l):=List.Pairwise.filter _ h
theorem cut_all{b:Int}{l:List Ent}(h : ∀e∈l,b<e.index):cut b l=l:=List.filter_eq_self.2 fun e he=>by simpa using h e he
theorem cut_cons(b:Int)(a:Ent)(r:List Ent):cut b (a :: r)=if b<a.index then a :: cut b r else cut b r:=by
 unfold cut
 rw[List.filter_cons]
 by_cases h:b<a.index<;>simp[h]
end En
namespace Hd
structure Hard where
 prom:Bl.Bal
 base:Int
 img:List UInt8
 acc:List En.Ent
 chs:List En.Ent
 deriving DecidableEq
def zero : Hard:=⟨Bl.zero,0, [], [], []⟩
def ent(x:Re.Rec):En.Ent:=⟨x.index,x.bal,x.cmd⟩
def proms(p:Bl.Bal)(x:Re.Rec):Bl.Bal:=if Re.hb x.kind=true∧Bl.less p x.bal=true then x.bal else p
def two(b:Int)(s:List En.Ent × List En.Ent)(x:Re.Rec):List En.Ent × List En.Ent :=
 if Re.check x≠0∨x.index≤b∨Re.hc x.kind=false then s
 else if x.kind=2 then (En.put s.1 (ent x),s.2)else if En.found s.2 x.index=true then s else (s.1,En.put s.2 (ent x))
def apply(h:Hard)(x:Re.Rec):Hard :=
 if Re.check x≠0 then h
 else if x.kind=4∧h.base<x.index then ⟨h.prom,x.index,x.img,En.cut x.index h.acc,En.cut x.index h.chs⟩
 else ⟨proms h.prom x,h.base,h.img,(two h.base (h.acc,h.chs) x).1,(two h.base (h.acc,h.chs) x).2⟩
def of(l:List Re.Rec):Hard:=l.foldl apply zero
def one(s:Bl.Bal × Int × List UInt8)(x:Re.Rec):Bl.Bal × Int × List UInt8 :=
 if Re.check x≠0 then s else (proms s.1 x,if x.kind=4∧s.2.1<x.index then (x.index,x.img)else s.2)
def rows(b:Int)(l:List Re.Rec):List En.Ent × List En.Ent:=l.foldl (two b) ([], [])
theorem snoc_ind{α:Type}{P:List α→Prop}(h0:P [])(h1 : ∀l x,P l→P (l ++ [x]))(l:List α):P l:=by
 have : ∀m:List α,P m.reverse:=fun m=>by
  induction m with
  | nil=>exact h0
  | cons a r ih=>rw[List.reverse_cons];exact h1 _ _ ih
 have h:=this l.reverse
 rwa[List.reverse_reverse]at h
theorem of_snoc(l:List Re.Rec)(x:Re.Rec):of (l ++ [x])=apply (of l) x:=by simp[of,List.foldl_append]
theorem two_out{b:Int}(s:List En.Ent × List En.Ent){x:Re.Rec}(h:Re.check x≠0∨x.index≤b∨Re.hc x.kind=false):two b s x=s:=by unfold two;rw[if_pos h]
theorem two_in{b:Int}(s:List En.Ent × List En.Ent){x:Re.Rec}(hk:Re.check x=0)(hb:b<x.index)(hh:Re.hc x.kind=true) :
 two b s x=if x.kind=2 then (En.put s.1 (ent x),s.2)else if En.found s.2 x.index=true then s else (s.1,En.put s.2 (ent x)):=by
 unfold two
 rw[if_neg]
 rintro(h | h | h)
 ·exact h hk
 ·omega
 ·rw[hh]at h;cases h
theorem check_known{x:Re.Rec}(h:Re.check x=0):1≤x.kind∧x.kind≤4:=by
 unfold Re.check at h
 cases hk:Re.known x.kind
 ·rw[if_pos hk]at h;cases h
 ·simpa[Re.known] using hk
structure Fine(x:Re.Rec):Prop where
 kind:1≤x.kind∧x.kind≤4
 bal:Re.hb x.kind=true→Bl.may x.bal=true∧x.bal≠Bl.zero
 index:Re.hi x.kind=true→1≤x.index∧x.index≤4294967296
 img:Re.hm x.kind=true→x.img ≠ []∧x.img.length≤32768
 cmd:Re.hc x.kind=true→Cm.check x.cmd=0
 own:Re.own x=x
theorem check_fine{x:Re.Rec}:Re.check x=0↔Fine x:=by
 constructor
 ·intro h
  have hkn:=check_known h
  unfold Re.check at h
  rw[if_neg (by simp[Re.known];omega)]at h
  split at h
  ·cases h
  ·rename_i hr
   split at h
   ·cases h
   ·rename_i hi
    split at h
    ·rename_i hc;exact absurd h hc.2
    ·rename_i hc
     split at h
     ·cases h
     ·rename_i ho
      replace hr:Re.ranged x=true:=by simpa using hr
      replace ho:(decide (Re.own x=x) && Re.whole x)=true:=by simpa using ho
      simp only[Re.ranged,Ms.owned,Ms.within,Bool.and_eq_true,Bool.not_eq_true', Bool.and_eq_false_iff,Bool.not_eq_false', decide_eq_true_eq]at hr
      simp only[Re.whole,Bool.and_eq_true,decide_eq_true_eq,Bool.not_eq_true', Bool.and_eq_false_iff,decide_eq_false_iff_not]at ho
      simp only[Bool.and_eq_true,decide_eq_true_eq,not_and]at hi
      refine⟨hkn,fun h => ?_,fun h => ?_,fun h=>⟨?_, ?_⟩,fun h => ?_,ho.1⟩
      ·rcases hr.1 with h2 | h2
       ·rw[h]at h2;cases h2
       ·exact h2
      ·rcases hr.2 with h2 | h2
       ·rw[h]at h2;cases h2
       ·exact h2
      ·rcases ho.2 with h2 | h2
       ·rw[h]at h2;cases h2
       ·exact h2
      ·have:=hi h;omega
      ·exact Decidable.byContradiction fun h2=>hc ⟨h,h2⟩
 ·rintro⟨h1,h2,h3,h4,h5,h6⟩
  unfold Re.check
  have e1:Re.known x.kind=true:=by simp[Re.known];omega
  have e2:Re.ranged x=true:=by
   simp only[Re.ranged,Ms.owned,Ms.within,Bool.and_eq_true,Bool.not_eq_true', Bool.and_eq_false_iff,Bool.not_eq_false', decide_eq_true_eq]
   constructor
   ·cases hb:Re.hb x.kind
    ·exact .inl rfl
    ·exact .inr (h2 hb)
   ·cases hb:Re.hi x.kind
    ·exact .inl rfl
    ·exact .inr (h3 hb)
  have e3:(Re.hm x.kind && decide (32768<x.img.length))=false:=by
   cases hb:Re.hm x.kind
   ·rfl
   ·have:=(h4 hb).2;simpa using this
  have e5:Re.whole x=true:=by
   unfold Re.whole
   cases hb:Re.hm x.kind
   ·rfl
   ·have:=(h4 hb).1;simpa using this
  rw[if_neg (by rw[e1];simp),if_neg (by rw[e2];simp),if_neg (by rw[e3];simp),if_neg (fun h=>h.2 (h5 h.1)),if_neg (by rw[h6,e5];simp)]
structure Valid(h:Hard):Prop where
 prom:Bl.may h.prom=true
 base:0≤h.base∧h.base≤4294967296
 img:h.img.length≤32768
 both:0<h.base↔h.img ≠ []
 acc:En.check 0 h.acc=0
 chs:En.check 0 h.chs=0
 accs : ∀e∈h.acc,h.base<e.index∧e.bal.round≠0∧Bl.less h.prom e.bal=false
 chss : ∀e∈h.chs,h.base<e.index∧e.bal.round=0
theorem Valid.ascA{h:Hard}(v:Valid h):En.Asc h.acc:=((En.check_iff _ _).1 v.acc).1
theorem Valid.ascC{h:Hard}(v:Valid h):En.Asc h.chs:=((En.check_iff _ _).1 v.chs).1
theorem valid_zero : Valid zero:=⟨rfl,⟨by decide,by decide⟩,by decide,by simp[zero],rfl,rfl,fun e he=>by simp[zero]at he,fun e he=>by simp[zero]at he⟩
theorem check_put{l:List En.Ent}(h:En.check 0 l=0){e:En.Ent}(h1:En.ranged e=true)(h2:Cm.check e.cmd=0):En.check 0 (En.put l e)=0:=by
 obtain⟨ha,hl⟩:=(En.check_iff _ _).1 h
 refine(En.check_iff _ _).2 ⟨En.put_asc _ _ ha,fun a hm => ?_⟩
 rcases(En.mem_put ha).1 hm with rfl | ⟨hm,_⟩
 ·refine⟨h1,h2, ?_⟩
  simp only[En.ranged,Bool.and_eq_true,decide_eq_true_eq]at h1
  omega
 ·exact hl a hm
theorem check_cut{l:List En.Ent}(h:En.check 0 l=0)(b:Int):En.check 0 (En.cut b l)=0:=by
 obtain⟨ha,hl⟩:=(En.check_iff _ _).1 h
 exact(En.check_iff _ _).2 ⟨En.cut_asc ha,fun a hm=>hl a (En.mem_cut.1 hm).1⟩
theorem round_pos{b:Bl.Bal}(h:Bl.may b=true):b≠Bl.zero↔b.round≠0:=by
 rcases Bl.may_cases b h with rfl | h2
 ·simp[Bl.zero]
 ·constructor
  ·intro _;omega
  ·rintro _ rfl;simp[Bl.zero]at h2
theorem proms_may{p:Bl.Bal}{x:Re.Rec}(h:Bl.may p=true)(f:Fine x):Bl.may (proms p x)=true:=by
 unfold proms
 split
 ·rename_i h2;exact(f.bal h2.1).1
 ·exact h
theorem proms_less{p b:Bl.Bal}{x:Re.Rec}(h:Bl.less p b=false):Bl.less (proms p x) b=false:=by
 unfold proms
 split
 ·rename_i h2
  have h3:Bl.less x.bal p=false:=by
   rcases Bl.less_or p x.bal with h4 | h4 | h4
   ·exact h4.2.1
   ·rw[h4.1]at h2;cases h2.2
   ·exact h4.2.1
  exact Bl.less_trans _ _ _ h h3
 ·exact h
theorem proms_self(p:Bl.Bal){x:Re.Rec}(h:Re.hb x.kind=true):Bl.less (proms p x) x.bal=false:=by
 unfold proms
 split
 ·exact Bl.less_irr _
 ·rename_i h2
  cases h3:Bl.less p x.bal
  ·rfl
  ·exact absurd ⟨h,h3⟩ h2
theorem own_bal{x:Re.Rec}(f:Fine x)(h:Re.hb x.kind=false):x.bal=Bl.zero:=by
 have:=congrArg Re.Rec.bal f.own
 simp only[Re.own,h]at this
 simpa using this.symm
theorem valid_apply{h:Hard}(v:Valid h)(x:Re.Rec):Valid (apply h x):=by
 unfold apply
 split
 ·exact v
 ·rename_i hck
  have f:=check_fine.1 (Decidable.not_not.1 hck)
  split
  ·rename_i h4
   have hi:=f.index (by simp[Re.hi,h4.1])
   have hm:=f.img (by simp[Re.hm,h4.1])
   exact⟨v.prom,⟨by show 0≤x.index;omega,hi.2⟩,hm.2,⟨fun _=>hm.1,fun _=>by show 0<x.index;omega⟩,check_cut v.acc _,check_cut v.chs _,fun e he=>⟨(En.mem_cut.1 he).2,(v.accs e (En.mem_cut.1 he).1).2⟩,fun e he=>⟨(En.mem_cut.1 he).2,(v.chss e (En.mem_cut.1 he).1).2⟩⟩
  ·have hold : ∀e∈h.acc,h.base<e.index∧e.bal.round≠0∧Bl.less (proms h.prom x) e.bal=false:=fun e he=>⟨(v.accs e he).1,(v.accs e he).2.1,proms_less (v.accs e he).2.2⟩
   by_cases ht:x.index≤h.base∨Re.hc x.kind=false
   ·rw[two_out _ (.inr ht)]
    exact⟨proms_may v.prom f,v.base,v.img,v.both,v.acc,v.chs,hold,v.chss⟩
   ·have hb:h.base<x.index:=Int.not_le.1 fun h2=>ht (.inl h2)
    have hh:Re.hc x.kind=true:=by cases h2:Re.hc x.kind;exact absurd (.inr h2) ht;rfl
    rw[two_in _ (Decidable.not_not.1 hck) hb hh]
    have hi:Re.hi x.kind=true:=by
     simp only[Re.hc,Bool.or_eq_true,decide_eq_true_eq]at hh
     simp only[Re.hi,Bool.or_eq_true,decide_eq_true_eq];omega
    have hi:=f.index hi
    have hcm:=f.cmd hh
    split
    ·rename_i h2
     have hb2:Re.hb x.kind=true:=by simp[Re.hb,h2]
     have hbal:=f.bal hb2
     have hr:En.ranged (ent x)=true:=by simp[En.ranged,ent,hbal.1,hi]
     refine⟨proms_may v.prom f,v.base,v.img,v.both,check_put v.acc hr hcm,v.chs,fun e he => ?_,v.chss⟩
     rcases(En.mem_put v.ascA).1 he with rfl | ⟨he,_⟩
     ·exact⟨hb,(round_pos hbal.1).1 hbal.2,proms_self _ hb2⟩
     ·exact hold e he
    ·split
     ·exact⟨proms_may v.prom f,v.base,v.img,v.both,v.acc,v.chs,hold,v.chss⟩
     ·rename_i h2 h3
      have hb2:Re.hb x.kind=false:=by
       simp only[Re.hc,Bool.or_eq_true,decide_eq_true_eq]at hh
       simp only[Re.hb,Bool.or_eq_false_iff,decide_eq_false_iff_not];omega
      have hz:=own_bal f hb2
      have hr:En.ranged (ent x)=true:=by
       have:Bl.may x.bal=true:=by rw[hz];rfl
       simp[En.ranged,ent,this,hi]
      refine⟨proms_may v.prom f,v.base,v.img,v.both,v.acc,check_put v.chs hr hcm,hold,fun e he => ?_⟩
      rcases(En.mem_put v.ascC).1 he with rfl | ⟨he,_⟩
      ·exact⟨hb,by show x.bal.round=0;rw[hz];rfl⟩
      ·exact v.chss e he
theorem valid_of(l:List Re.Rec):Valid (of l):=by
 induction l using snoc_ind with
 | h0=>exact valid_zero
 | h1 l x ih=>rw[of_snoc];exact valid_apply ih x
def recA(e:En.Ent):Re.Rec:=⟨2,e.bal,e.index,e.cmd, []⟩
def recC(e:En.Ent):Re.Rec:=⟨3,Bl.zero,e.index,e.cmd, []⟩
def recI(h:Hard):Re.Rec:=⟨4,Bl.zero,h.base,Cm.zero,h.img⟩
def recP(h:Hard):Re.Rec:=⟨1,h.prom,0,Cm.zero, []⟩
def recs(h:Hard):List Re.Rec:=(if 0<h.base then [recI h]else [])++(if h.prom≠Bl.zero then [recP h]else [])++h.acc.map recA++h.chs.map recC
theorem fine_acc{e:En.Ent}(h1:En.ranged e=true)(h2:Cm.check e.cmd=0)(h3:e.bal.round≠0):Fine (recA e):=by
 simp only[En.ranged,Bool.and_eq_true,decide_eq_true_eq]at h1
 refine⟨⟨by show(1:Int)≤2;omega,by show(2:Int)≤4;omega⟩,fun _=>⟨h1.2,(round_pos h1.2).2 h3⟩,fun _=>h1.1,fun h => ?_,fun _=>h2,rfl⟩
 simp[recA,Re.hm]at h
theorem fine_chs{e:En.Ent}(h1:En.ranged e=true)(h2:Cm.check e.cmd=0):Fine (recC e):=by
 simp only[En.ranged,Bool.and_eq_true,decide_eq_true_eq]at h1
 refine⟨⟨by show(1:Int)≤3;omega,by show(3:Int)≤4;omega⟩,fun h => ?_,fun _=>h1.1,fun h => ?_,fun _=>h2,rfl⟩
 ·simp[recC,Re.hb]at h
 ·simp[recC,Re.hm]at h
theorem fine_img{h:Hard}(v:Valid h)(hb:0<h.base):Fine (recI h):=by
 refine⟨⟨by show(1:Int)≤4;omega,by show(4:Int)≤4;omega⟩,fun h => ?_,fun _=>⟨by show 1≤h.base;omega,v.base.2⟩,fun _=>⟨v.both.1 hb,v.img⟩,fun h => ?_,rfl⟩
 ·simp[recI,Re.hb]at h
 ·simp[recI,Re.hc]at h
theorem fine_prom{h:Hard}(v:Valid h)(hp:h.prom≠Bl.zero):Fine (recP h):=by
 refine⟨⟨by show(1:Int)≤1;omega,by show(1:Int)≤4;omega⟩,fun _=>⟨v.prom,hp⟩,fun h => ?_,fun h => ?_,fun h => ?_,rfl⟩
 ·simp[recP,Re.hi]at h
 ·simp[recP,Re.hm]at h
 ·simp[recP,Re.hc]at h
theorem apply_in{h:Hard}{x:Re.Rec}(f:Fine x)(h4:x.kind≠4):apply h x=⟨proms h.prom x,h.base,h.img,(two h.base (h.acc,h.chs) x).1,(two h.base (h.acc,h.chs) x).2⟩:=by
 unfold apply
 rw[if_neg (by rw[check_fine.2 f];simp),if_neg (fun h=>h4 h.1)]
theorem apply_acc{h:Hard}{e:En.Ent}(h1:En.ranged e=true)(h2:Cm.check e.cmd=0)(h3:h.base<e.index∧e.bal.round≠0∧Bl.less h.prom e.bal=false)(h4 : ∀a∈h.acc,a.index<e.index) :
 apply h (recA e)={h with acc:=h.acc ++ [e]}:=by
 have f:=fine_acc h1 h2 h3.2.1
 have hp:proms h.prom (recA e)=h.prom:=by unfold proms;rw[if_neg (fun h5=>by rw[show(recA e).bal=e.bal from rfl,h3.2.2]at h5;cases h5.2)]
 rw[apply_in f (by show(2:Int)≠4;omega),hp,two_in _ (check_fine.2 f) h3.1 rfl,if_pos (show(recA e).kind=2 from rfl)]
 show Hard.mk h.prom h.base h.img (En.put h.acc e) h.chs=_
 rw[En.put_last h4]
theorem apply_chs{h:Hard}{e:En.Ent}(hc:En.Asc h.chs)(h1:En.ranged e=true)(h2:Cm.check e.cmd=0)(h3:h.base<e.index∧e.bal.round=0)(h4 : ∀a∈h.chs,a.index<e.index) :
 apply h (recC e)={h with chs:=h.chs ++ [e]}:=by
 have f:=fine_chs h1 h2
 have hp:proms h.prom (recC e)=h.prom:=by unfold proms;rw[if_neg (fun h5=>by have:=h5.1;simp[recC,Re.hb]at this)]
 have hm:Bl.may e.bal=true:=by simp only[En.ranged,Bool.and_eq_true]at h1;exact h1.2
 have hz:e.bal=Bl.zero:=Decidable.byContradiction fun h5=>(round_pos hm).1 h5 h3.2
 have he:ent (recC e)=e:=by
  obtain⟨i,b,c⟩:=e
  simp only at hz
  subst hz
  rfl
 have hf:En.found h.chs e.index=false:=by
  cases h5:En.found h.chs e.index
  ·rfl
  ·obtain⟨a,ha,hx⟩:=(En.found_iff hc).1 h5
   have:=h4 a ha
   omega
 rw[apply_in f (by show(3:Int)≠4;omega),hp,two_in _ (check_fine.2 f) h3.1 rfl,if_neg (show ¬(recC e).kind=2 by show ¬(3:Int)=2;omega)]
 rw[if_neg (by show ¬En.found h.chs e.index=true;rw[hf];simp),he]
 show Hard.mk h.prom h.base h.img h.acc (En.put h.chs e)=_
 rw[En.put_last h4]
theorem fold_acc : ∀(l:List En.Ent) (h:Hard),En.Asc l→(∀e∈l,En.ranged e=true∧Cm.check e.cmd=0∧h.base<e.index∧e.bal.round≠0∧Bl.less h.prom e.bal=false)→(∀a∈h.acc,∀e∈l,a.index<e.index) →
 (l.map recA).foldl apply h={h with acc:=h.acc++l}
 | [],h,_,_,_=>by simp
 | e :: r,h,ha,hl,hb=>by
  obtain⟨h1,h2⟩:=List.pairwise_cons.1 ha
  obtain⟨e1,e2,e3⟩:=hl e (by simp)
  rw[List.map_cons,List.foldl_cons,apply_acc e1 e2 e3 (fun a h3=>hb a h3 e (by simp))]
  refine(fold_acc r {h with acc:=h.acc ++ [e]} h2 (fun a h3=>hl a (List.mem_cons_of_mem _ h3)) (fun a h3 c h4 => ?_)).trans ?_
  rotate_left
  ·simp
  ·rcases List.mem_append.1 h3 with h3 | h3
   ·exact hb a h3 c (List.mem_cons_of_mem _ h4)
   ·simp at h3;subst h3;exact h1 c h4
theorem fold_chs : ∀(l:List En.Ent) (h:Hard),En.Asc l→En.Asc h.chs→(∀e∈l,En.ranged e=true∧Cm.check e.cmd=0∧h.base<e.index∧e.bal.round=0)→(∀a∈h.chs,∀e∈l,a.index<e.index) →
 (l.map recC).foldl apply h={h with chs:=h.chs++l}
 | [],h,_,_,_,_=>by simp
 | e :: r,h,ha,hc,hl,hb=>by
  obtain⟨h1,h2⟩:=List.pairwise_cons.1 ha
  obtain⟨e1,e2,e3⟩:=hl e (by simp)
  have hc2:En.Asc (h.chs ++ [e]):=by
   rw[← En.put_last fun a h3=>hb a h3 e (by simp)]
   exact En.put_asc _ _ hc
  rw[List.map_cons,List.foldl_cons,apply_chs hc e1 e2 e3 (fun a h3=>hb a h3 e (by simp))]
  refine(fold_chs r {h with chs:=h.chs ++ [e]} h2 hc2 (fun a h3=>hl a (List.mem_cons_of_mem _ h3)) (fun a h3 c h4 => ?_)).trans ?_
  rotate_left
  ·simp
  ·rcases List.mem_append.1 h3 with h3 | h3
   ·exact hb a h3 c (List.mem_cons_of_mem _ h4)
   ·simp at h3;subst h3;exact h1 c h4
theorem of_recs{h:Hard}(v:Valid h):of (recs h)=h:=by
 obtain⟨ha,hla⟩:=(En.check_iff _ _).1 v.acc
 obtain⟨hc,hlc⟩:=(En.check_iff _ _).1 v.chs
 unfold of recs
 rw[List.foldl_append,List.foldl_append,List.foldl_append]
 have e1:(if 0<h.base then [recI h]else []).foldl apply zero=⟨Bl.zero,h.base,h.img, [], []⟩:=by
  by_cases hb:0<h.base
  ·rw[if_pos hb]
   show apply zero (recI h)=_
   unfold apply
   rw[if_neg (by rw[check_fine.2 (fine_img v hb)];simp),if_pos ⟨rfl,hb⟩]
   rfl
  ·rw[if_neg hb]
   have h0:h.base=0:=by have:=v.base.1;omega
   have hi:h.img = []:=Decidable.byContradiction fun h5=>hb (v.both.2 h5)
   show zero=_
   rw[h0,hi]
   rfl
 have e2:(if h.prom≠Bl.zero then [recP h]else []).foldl apply ⟨Bl.zero,h.base,h.img, [], []⟩=⟨h.prom,h.base,h.img, [], []⟩:=by
  by_cases hp:h.prom≠Bl.zero
  ·rw[if_pos hp]
   show apply _ (recP h)=_
   have hr:=(round_pos v.prom).1 hp
   have hl:Bl.less Bl.zero h.prom=true:=by
    rcases Bl.may_cases _ v.prom with h5 | h5
    ·exact absurd h5 hp
    ·unfold Bl.less
     rw[if_neg (by show ¬(0:Int)=h.prom.round;omega)]
     show decide ((0:Int)<h.prom.round)=true
     simp;omega
   rw[apply_in (fine_prom v hp) (by show(1:Int)≠4;omega),two_out _ (.inr (.inr rfl))]
   unfold proms
   rw[if_pos ⟨rfl,hl⟩]
   rfl
  ·rw[if_neg hp]
   have h0:h.prom=Bl.zero:=Decidable.not_not.1 hp
   show Hard.mk Bl.zero h.base h.img [] []=_
   rw[h0]
 rw[e1,e2,fold_acc h.acc ⟨h.prom,h.base,h.img, [], []⟩ ha (fun e he=>⟨(hla e he).1,(hla e he).2.1,v.accs e he⟩) (fun a h3=>by simp at h3)]
 show List.foldl apply ⟨h.prom,h.base,h.img,h.acc, []⟩ (h.chs.map recC)=h
 rw[fold_chs h.chs ⟨h.prom,h.base,h.img,h.acc, []⟩ hc List.Pairwise.nil (fun e he=>⟨(hlc e he).1,(hlc e he).2.1,v.chss e he⟩) (fun a h3=>by simp at h3)]
 rfl
theorem apply_bad{h:Hard}{x:Re.Rec}(hx:Re.check x≠0):apply h x=h:=by unfold apply;rw[if_pos hx]
end Hd
end Go.Proofs.YtdkdjofnnnljjaaGreatDoor
