/- Several texts of mine in one: MtMath RtMath. -/
import Derived.Test.YtdkdjofnnnljjaaGreatDoorGPl
import Derived.Test.YtdkdjofnnnljjaaGreatDoorGRe
namespace Go.Proofs.YtdkdjofnnnljjaaGreatDoor
open Go.RowKit
namespace Mt
def part(t:Bool)(l:List UInt8):List UInt8:=if t=true then l else []
def one(e:En.Ent):List UInt8:=enc e.index.toNat++Cm.bytes 2 e.cmd
def ents(m:Ms.Msg):List UInt8:=if m.kind=5 then m.ents.flatMap one else part (Ms.he m.kind) (En.bytes 2 m.ents)
def bytes(m:Ms.Msg):List UInt8 :=
 Ms.nbytes [m.kind,m.frm,m.dst]++(part (Ms.hb m.kind) (enc m.bal.round.toNat)++(part (Ms.hb m.kind) (enc m.bal.node.toNat)++(part (Ms.hi m.kind) (enc m.index.toNat)++(part (Ms.hc m.kind) (enc m.commit.toNat)++(part (Ms.hv m.kind) (enc m.version.toNat)++(ents m++part (Ms.hm m.kind) (Pk.text m.img)))))))
def num(t:Bool)(b:List UInt8)(s:Nat × Int):Int × Nat × Int:=if t=true then ((Cm.rnum b s.1 s.2).1,(Cm.rnum b s.1 s.2).2.1.toNat,(Cm.rnum b s.1 s.2).2.2)else (0,s)
def list(k:Int)(bal:Bl.Bal)(b:List UInt8)(s:Nat × Int):List En.Ent × Nat × Int :=
 if k=5 then ([⟨(Cm.rnum b s.1 s.2).1,bal,(Cm.get 2 b (Cm.rnum b s.1 s.2).2.1.toNat (Cm.rnum b s.1 s.2).2.2).1⟩],(Cm.get 2 b (Cm.rnum b s.1 s.2).2.1.toNat (Cm.rnum b s.1 s.2).2.2).2)
 else if Ms.he k=true then En.get 2 b s.1 s.2 else ([],s)
def img(t:Bool)(b:List UInt8)(s:Nat × Int):List UInt8 × Nat × Int:=if t=true then ((Ms.raw b s.1 s.2).1,(Ms.raw b s.1 s.2).2.1.toNat,(Ms.raw b s.1 s.2).2.2)else ([],s)
def kindOf(b:List UInt8):Int:=Ms.nth (Ms.rnums b 3).1 0
def r1(b:List UInt8):=num (Ms.hb (kindOf b)) b (Ms.rnums b 3).2
def r2(b:List UInt8):=num (Ms.hb (kindOf b)) b (r1 b).2
def r3(b:List UInt8):=num (Ms.hi (kindOf b)) b (r2 b).2
def r4(b:List UInt8):=num (Ms.hc (kindOf b)) b (r3 b).2
def r5(b:List UInt8):=num (Ms.hv (kindOf b)) b (r4 b).2
def r6(b:List UInt8):=list (kindOf b) ⟨(r1 b).1,(r2 b).1⟩ b (r5 b).2
def r7(b:List UInt8):=img (Ms.hm (kindOf b)) b (r6 b).2
def gotM(b:List UInt8):Ms.Msg:=⟨kindOf b,Ms.nth (Ms.rnums b 3).1 1,Ms.nth (Ms.rnums b 3).1 2,⟨(r1 b).1,(r2 b).1⟩,(r3 b).1,(r4 b).1,(r5 b).1,(r6 b).1,(r7 b).1⟩
def decode(b:List UInt8):Ms.Msg × Int :=
 if(Ms.rnums b 3).2.2≠0 then (Ms.zero,(Ms.rnums b 3).2.2)
 else if Ms.known (kindOf b)=false then (Ms.zero,3)
 else if Cm.done b (r7 b).2.1 (r7 b).2.2≠0 then (Ms.zero,Cm.done b (r7 b).2.1 (r7 b).2.2)
 else if Ms.check (gotM b)≠0 then (Ms.zero,Ms.check (gotM b))else (gotM b,0)
theorem part_yes(l:List UInt8):part true l=l:=rfl
theorem part_no(l:List UInt8):part false l = []:=rfl
theorem num_at(t:Bool)(pre post:List UInt8){n:Int}(h0:0≤n)(h1:n≤9223372036854775807)(hz:t=false→n=0) :
 num t (pre++(part t (enc n.toNat)++post)) (pre.length,0)=(n,(pre++part t (enc n.toNat)).length,0):=by
 cases t with
 | true =>
  rw[part_yes]
  unfold num
  rw[if_pos rfl,Cm.rnum_at pre post (by omega),Int.toNat_of_nonneg h0]
  simp
  omega
 | false =>
  rw[part_no,hz rfl]
  simp[num]
theorem num_ok(t:Bool)(b:List UInt8)(s:Nat × Int)(hs:s.1≤b.length)(h:(num t b s).2.2=0) :
 s.2=0∧(num t b s).2.1≤b.length∧b.take (num t b s).2.1=b.take s.1++part t (enc (num t b s).1.toNat):=by
 cases t with
 | true =>
  unfold num at h ⊢
  rw[if_pos rfl]at h ⊢
  obtain⟨h1,_,_,h4,h5⟩:=Cm.rnum_ok b s.1 s.2 h
  exact⟨h1,h4,h5⟩
 | false =>
  unfold num at h ⊢
  rw[if_neg (by simp)]at h ⊢
  exact⟨h,hs,by rw[part_no,List.append_nil]⟩
theorem num_le(t:Bool)(b:List UInt8)(s:Nat × Int)(hs:s.1≤b.length):(num t b s).2.1≤b.length:=by
 unfold num
 split
 ·exact Cm.rnum_le b s.1 s.2 hs
 ·exact hs
theorem img_at(t:Bool)(pre post:List UInt8){l:List UInt8}(h:l.length≤32768)(hz:t=false→l = []) :
 img t (pre++(part t (Pk.text l)++post)) (pre.length,0)=(l,(pre++part t (Pk.text l)).length,0):=by
 cases t with
 | true =>
  rw[part_yes]
  unfold img
  rw[if_pos rfl,Ms.raw_at pre post h]
  simp
  omega
 | false =>
  rw[part_no,hz rfl]
  simp[img]
theorem img_ok(t:Bool)(b:List UInt8)(s:Nat × Int)(hs:s.1≤b.length)(h:(img t b s).2.2=0) :
 s.2=0∧(img t b s).2.1≤b.length∧b.take (img t b s).2.1=b.take s.1++part t (Pk.text (img t b s).1):=by
 cases t with
 | true =>
  unfold img at h ⊢
  rw[if_pos rfl]at h ⊢
  rcases Ms.raw_cases b s.1 s.2 hs with ⟨e,q,he,_,hr⟩ | ⟨x,q,h0,hq,_,hr,ht⟩
  ·rw[hr]at h;exact absurd h he
  ·rw[hr]at h ⊢
   simp only[Int.toNat_natCast]
   exact⟨h0,hq,ht⟩
 | false =>
  unfold img at h ⊢
  rw[if_neg (by simp)]at h ⊢
  exact⟨h,hs,by rw[part_no,List.append_nil]⟩
theorem has_two{k:Int}(h:Cm.known k=true):Vs.has 2 k=true:=by
 unfold Cm.known at h
 simp only[Bool.and_eq_true,decide_eq_true_eq]at h
 rcases Vs.kinds k with rfl | rfl | rfl | rfl | rfl | rfl | rfl | rfl | h'
 rotate_right
 ·omega
 all_goals decide
theorem cmd_two{c:Cm.Cmd}(h:Cm.check c=0):Cm.restrict 2 c=c:=by
 refine Cm.restrict_ok 2 c ?_
 unfold Cm.checkIn
 rw[if_neg (by decide),if_neg (by simpa using h),if_neg (by rw[has_two (Cm.check_ok h).1];simp)]
theorem ent_two{e:En.Ent}(h:Cm.check e.cmd=0):En.restrict 2 e=e:=by
 unfold En.restrict
 rw[cmd_two h]
theorem list_at{m:Ms.Msg}(hg:Ms.Good m)(hf : ∀e∈m.ents,e.Fits){s:Nat}(hs : ∀e∈m.ents,e.cmd.Short s)(hs2:s≤9223372036854775807)(pre post:List UInt8) :
 list m.kind m.bal (pre++(ents m++post)) (pre.length,0)=(m.ents,(pre++ents m).length,0):=by
 have hents : ∀e∈m.ents,e.Pos∧e.Fits∧En.restrict 2 e=e:=fun e he=>by
  obtain⟨h1,h2⟩:=Ms.ents_ok _ _ hg.ents e he
  exact⟨Ms.ent_pos h1 h2,hf e he,ent_two h2⟩
 unfold list ents
 by_cases h5:m.kind=5
 ·rw[if_pos h5,if_pos h5]
  have hw:=hg.whole
  unfold Ms.whole at hw
  rw[if_pos h5]at hw
  unfold Ms.sole at hw
  obtain⟨e,he,hb⟩ : ∃e,m.ents = [e]∧e.bal=m.bal:=by
   match hm:m.ents,hw with
   | [e],hw=>exact⟨e,rfl,of_decide_eq_true hw⟩
  obtain⟨hp,hfe,hre⟩:=hents e (by rw[he];simp)
  have h1:=hp.i;have h2:=hfe.i1
  have hre2:Cm.restrict 2 e.cmd=e.cmd:=by have:=congrArg En.Ent.cmd hre;exact this
  rw[he]
  have e1 : [e].flatMap one=enc e.index.toNat++Cm.bytes 2 e.cmd:=by simp[one]
  have e2:pre++([e].flatMap one++post)=pre++(enc e.index.toNat++(Cm.bytes 2 e.cmd++post)):=by rw[e1];simp
  have a1:=Cm.rnum_at pre (Cm.bytes 2 e.cmd++post) (n:=e.index.toNat) (by omega)
  have a2:=Cm.get_at 2 e.cmd hp.c hfe.cmd (hs e (by rw[he];simp)) hs2 (pre++enc e.index.toNat) post
  have e3:pre++enc e.index.toNat++(Cm.bytes 2 e.cmd++post)=pre++(enc e.index.toNat++(Cm.bytes 2 e.cmd++post)):=by simp
  rw[e3,hre2]at a2
  rw[e2]
  dsimp only
  rw[a1]
  simp only[Int.toNat_natCast]
  rw[a2,e1,Int.toNat_of_nonneg h1, ← hb]
  simp
 ·rw[if_neg h5,if_neg h5]
  by_cases he:Ms.he m.kind=true
  ·rw[if_pos he,he,part_yes]
   have h2:=En.get_at 2 m.ents (Ms.good_len hg).1 (fun e he=>⟨(hents e he).1,(hents e he).2.1⟩) hs hs2 pre post
   rw[show m.ents.map (En.restrict 2)=m.ents from by
    conv=>rhs;rw[← List.map_id m.ents]
    exact List.map_congr_left fun e he=>(hents e he).2.2]at h2
   exact h2
  ·have hz:m.ents = []:=by
    have:=congrArg Ms.Msg.ents hg.own
    rw[← this]
    exact if_neg he
   rw[if_neg he,Bool.not_eq_true]at *
   rw[he,part_no,hz]
   simp
theorem list_ok{k:Int}(bal:Bl.Bal)(b:List UInt8)(s:Nat × Int)(hs:s.1≤b.length)(h:(list k bal b s).2.2=0) :
 s.2=0∧(list k bal b s).2.1≤b.length∧b.take (list k bal b s).2.1=b.take s.1++(if k=5 then (list k bal b s).1.flatMap one else part (Ms.he k) (En.bytes 2 (list k bal b s).1)):=by
 unfold list at h ⊢
 by_cases h5:k=5
 ·rw[if_pos h5]at h
  simp only[if_pos h5]
  have l1:=Cm.rnum_le b s.1 s.2 hs
  obtain⟨g0,g1,g2⟩:=Cm.get_ok 2 b _ _ h l1
  obtain⟨z1,_,_,_,b1⟩:=Cm.rnum_ok b s.1 s.2 g0
  refine⟨z1,g1, ?_⟩
  rw[g2,b1]
  simp[one]
 ·rw[if_neg h5]at h
  simp only[if_neg h5]
  by_cases he:Ms.he k=true
  ·rw[if_pos he]at h
   simp only[if_pos he]
   obtain⟨z,_,ht⟩:=En.get_ok 2 b s.1 s.2 h hs
   exact⟨z,En.get_le 2 b s.1 s.2 hs,by rw[ht,he,part_yes]⟩
  ·rw[if_neg he]at h
   simp only[if_neg he]
   rw[Bool.not_eq_true]at he
   exact⟨h,hs,by rw[he,part_no,List.append_nil]⟩
theorem list_le(k:Int)(bal:Bl.Bal)(b:List UInt8)(s:Nat × Int)(hs:s.1≤b.length):(list k bal b s).2.1≤b.length:=by
 unfold list
 split
 ·exact Cm.get_le 2 b _ _ (Cm.rnum_le b s.1 s.2 hs)
 ·split
  ·exact En.get_le 2 b s.1 s.2 hs
  ·exact hs
theorem decode_back{m:Ms.Msg}(h:Ms.check m=0)(hf:m.Fits){s:Nat}(hs : ∀e∈m.ents,e.cmd.Short s)(hs2:s≤9223372036854775807):decode (bytes m)=(m,0):=by
 have hg:=Ms.check_good h
 have hpos:=Ms.good_pos hg
 obtain⟨hl,hl2⟩:=Ms.good_len hg
 have hown:=hg.own
 have zb:Ms.hb m.kind=false→m.bal=Bl.zero:=fun q=>by have:=congrArg Ms.Msg.bal hown;rw[← this];exact if_neg (by rw[q];simp)
 have zi:Ms.hi m.kind=false→m.index=0:=fun q=>by have:=congrArg Ms.Msg.index hown;rw[← this];exact if_neg (by rw[q];simp)
 have zc:Ms.hc m.kind=false→m.commit=0:=fun q=>by have:=congrArg Ms.Msg.commit hown;rw[← this];exact if_neg (by rw[q];simp)
 have zv:Ms.hv m.kind=false→m.version=0:=fun q=>by have:=congrArg Ms.Msg.version hown;rw[← this];exact if_neg (by rw[q];simp)
 have zm:Ms.hm m.kind=false→m.img = []:=fun q=>by have:=congrArg Ms.Msg.img hown;rw[← this];exact if_neg (by rw[q];simp)
 have hver:0≤m.version∧m.version≤2:=by
  by_cases hk:Ms.hv m.kind=true
  ·have hr:=hg.ranged
   unfold Ms.ranged at hr
   rw[hk]at hr
   simp only[Bool.true_and,Bool.and_eq_true,Bool.not_eq_true', Bool.not_eq_false']at hr
   rcases Vs.may_or m.version with ⟨_,h1 | h1⟩ | ⟨h1,_,_⟩
   ·omega
   ·omega
   ·rw[h1]at hr;simp at hr
  ·rw[zv (by simpa using hk)];omega
 have q0:=hpos m.kind (by simp[Ms.nums]);have q3:=hpos m.bal.round (by simp[Ms.nums]);have q4:=hpos m.bal.node (by simp[Ms.nums])
 have q5:=hpos m.index (by simp[Ms.nums]);have q6:=hpos m.commit (by simp[Ms.nums])
 obtain⟨B,hB⟩ : ∃B,B=bytes m:=⟨_,rfl⟩
 obtain⟨A0,hA0⟩ : ∃A,A=Ms.nbytes [m.kind,m.frm,m.dst]:=⟨_,rfl⟩
 obtain⟨A1,hA1⟩ : ∃A,A=part (Ms.hb m.kind) (enc m.bal.round.toNat):=⟨_,rfl⟩
 obtain⟨A2,hA2⟩ : ∃A,A=part (Ms.hb m.kind) (enc m.bal.node.toNat):=⟨_,rfl⟩
 obtain⟨A3,hA3⟩ : ∃A,A=part (Ms.hi m.kind) (enc m.index.toNat):=⟨_,rfl⟩
 obtain⟨A4,hA4⟩ : ∃A,A=part (Ms.hc m.kind) (enc m.commit.toNat):=⟨_,rfl⟩
 obtain⟨A5,hA5⟩ : ∃A,A=part (Ms.hv m.kind) (enc m.version.toNat):=⟨_,rfl⟩
 obtain⟨A6,hA6⟩ : ∃A,A=ents m:=⟨_,rfl⟩
 obtain⟨A7,hA7⟩ : ∃A,A=part (Ms.hm m.kind) (Pk.text m.img):=⟨_,rfl⟩
 have hBB:B=A0++(A1++(A2++(A3++(A4++(A5++(A6++A7)))))):=by rw[hB,hA0,hA1,hA2,hA3,hA4,hA5,hA6,hA7];rfl
 have g0:=Ms.rnums_at [m.kind,m.frm,m.dst] (fun x hx=>hpos x (by simp[Ms.nums]at hx ⊢; rcases hx with h | h | h<;>simp[h])) B (A1++(A2++(A3++(A4++(A5++(A6++A7)))))) (by rw[← hA0];exact hBB) 3 (Nat.le_refl _)
 rw[show [m.kind,m.frm,m.dst].take 3 = [m.kind,m.frm,m.dst]from rfl, ← hA0]at g0
 have hk:kindOf B=m.kind:=by unfold kindOf;rw[g0];rfl
 have g1:r1 B=(m.bal.round,(A0++A1).length,0):=by
  have:=num_at (Ms.hb m.kind) A0 (A2++(A3++(A4++(A5++(A6++A7))))) q3.1 q3.2 (fun q=>by rw[zb q];rfl)
  rw[← hA1, ← hBB]at this
  unfold r1;rw[hk,g0];exact this
 have g2:r2 B=(m.bal.node,(A0++A1++A2).length,0):=by
  have:=num_at (Ms.hb m.kind) (A0++A1) (A3++(A4++(A5++(A6++A7)))) q4.1 q4.2 (fun q=>by rw[zb q];rfl)
  rw[← hA2,show A0++A1++(A2++(A3++(A4++(A5++(A6++A7)))))=B by rw[hBB];simp]at this
  unfold r2;rw[hk,g1];exact this
 have g3:r3 B=(m.index,(A0++A1++A2++A3).length,0):=by
  have:=num_at (Ms.hi m.kind) (A0++A1++A2) (A4++(A5++(A6++A7))) q5.1 q5.2 zi
  rw[← hA3,show A0++A1++A2++(A3++(A4++(A5++(A6++A7))))=B by rw[hBB];simp]at this
  unfold r3;rw[hk,g2];exact this
 have g4:r4 B=(m.commit,(A0++A1++A2++A3++A4).length,0):=by
  have:=num_at (Ms.hc m.kind) (A0++A1++A2++A3) (A5++(A6++A7)) q6.1 q6.2 zc
  rw[← hA4,show A0++A1++A2++A3++(A4++(A5++(A6++A7)))=B by rw[hBB];simp]at this
  unfold r4;rw[hk,g3];exact this
 have g5:r5 B=(m.version,(A0++A1++A2++A3++A4++A5).length,0):=by
  have:=num_at (Ms.hv m.kind) (A0++A1++A2++A3++A4) (A6++A7) hver.1 (by omega) zv
  rw[← hA5,show A0++A1++A2++A3++A4++(A5++(A6++A7))=B by rw[hBB];simp]at this
  unfold r5;rw[hk,g4];exact this
 have g6:r6 B=(m.ents,(A0++A1++A2++A3++A4++A5++A6).length,0):=by
  have:=list_at hg hf.e hs hs2 (A0++A1++A2++A3++A4++A5) A7
  rw[← hA6,show A0++A1++A2++A3++A4++A5++(A6++A7)=B by rw[hBB];simp]at this
  unfold r6;rw[hk,g5,g1,g2];exact this
 have g7:r7 B=(m.img,B.length,0):=by
  have:=img_at (Ms.hm m.kind) (A0++A1++A2++A3++A4++A5++A6) [] hl2 zm
  rw[← hA7,List.append_nil,show A0++A1++A2++A3++A4++A5++A6++A7=B by rw[hBB];simp]at this
  unfold r7;rw[hk,g6];exact this
 have gm:gotM B=m:=by
  unfold gotM
  rw[hk,g0,g1,g2,g3,g4,g5,g6,g7]
  rfl
 rw[← hB]
 unfold decode
 rw[hk,gm,g7,if_neg (by rw[g0];simp),if_neg (by rw[hg.kind];simp)]
 dsimp only
 rw[Cm.done_end,if_neg (by simp),if_neg (by simpa using h)]
theorem decode_none(b:List UInt8)(h:(decode b).2≠0):(decode b).1=Ms.zero:=by
 unfold decode at h ⊢
 by_cases h1:(Ms.rnums b 3).2.2=0
 ·rw[if_neg (by simpa using h1)]at h ⊢
  by_cases h2:Ms.known (kindOf b)=false
  ·rw[if_pos h2]
  ·rw[if_neg h2]at h ⊢
   by_cases h3:Cm.done b (r7 b).2.1 (r7 b).2.2=0
   ·rw[if_neg (by simpa using h3)]at h ⊢
    by_cases h4:Ms.check (gotM b)=0
    ·rw[if_neg (by simpa using h4)]at h;exact absurd rfl h
    ·rw[if_pos h4]
   ·rw[if_pos h3]
 ·rw[if_pos h1]
theorem decode_ok(b:List UInt8)(h:(decode b).2=0):(decode b).1=gotM b∧Ms.check (gotM b)=0∧bytes (gotM b)=b:=by
 unfold decode at h ⊢
 by_cases h1:(Ms.rnums b 3).2.2=0
 ·rw[if_neg (by simpa using h1)]at h ⊢
  by_cases h2:Ms.known (kindOf b)=false
  ·rw[if_pos h2]at h;simp at h
  ·rw[if_neg h2]at h ⊢
   by_cases h3:Cm.done b (r7 b).2.1 (r7 b).2.2=0
   ·rw[if_neg (by simpa using h3)]at h ⊢
    by_cases h4:Ms.check (gotM b)=0
    ·rw[if_neg (by simpa using h4)]
     refine⟨rfl,h4, ?_⟩
     have her:(r7 b).2.2=0:=by
      unfold Cm.done at h3
      split at h3
      ·rename_i hne;exact absurd h3 hne
      ·rename_i hne;simpa using hne
     have hpl : ¬(r7 b).2.1<b.length:=by
      unfold Cm.done at h3
      rw[if_neg (by simpa using her)]at h3
      intro hlt
      rw[if_pos hlt]at h3
      omega
     have l0:=Ms.rnums_le b 3
     have l1:=num_le (Ms.hb (kindOf b)) b (Ms.rnums b 3).2 l0
     have l2:=num_le (Ms.hb (kindOf b)) b (r1 b).2 l1
     have l3:=num_le (Ms.hi (kindOf b)) b (r2 b).2 l2
     have l4:=num_le (Ms.hc (kindOf b)) b (r3 b).2 l3
     have l5:=num_le (Ms.hv (kindOf b)) b (r4 b).2 l4
     have l6:=list_le (kindOf b) ⟨(r1 b).1,(r2 b).1⟩ b (r5 b).2 l5
     obtain⟨z6,_,t7⟩:=img_ok (Ms.hm (kindOf b)) b (r6 b).2 l6 her
     obtain⟨z5,_,t6⟩:=list_ok (k:=kindOf b) ⟨(r1 b).1,(r2 b).1⟩ b (r5 b).2 l5 z6
     obtain⟨z4,_,t5⟩:=num_ok (Ms.hv (kindOf b)) b (r4 b).2 l4 z5
     obtain⟨z3,_,t4⟩:=num_ok (Ms.hc (kindOf b)) b (r3 b).2 l3 z4
     obtain⟨z2,_,t3⟩:=num_ok (Ms.hi (kindOf b)) b (r2 b).2 l2 z3
     obtain⟨z1,_,t2⟩:=num_ok (Ms.hb (kindOf b)) b (r1 b).2 l1 z2
     obtain⟨z0,_,t1⟩:=num_ok (Ms.hb (kindOf b)) b (Ms.rnums b 3).2 l0 z1
     have t0:=Ms.rnums_ok b 3 z0
     have h3n : [kindOf b,Ms.nth (Ms.rnums b 3).1 1,Ms.nth (Ms.rnums b 3).1 2]=(Ms.rnums b 3).1:=by
      have hl:=Ms.rnums_len b 3
      unfold kindOf
      match (Ms.rnums b 3).1,hl with
      | [a,c,d],_=>rfl
     have hb:b=b.take (r7 b).2.1:=(List.take_of_length_le (by omega)).symm
     conv=>rhs;rw[hb]
     rw[show b.take (r7 b).2.1=b.take (r6 b).2.1++part (Ms.hm (kindOf b)) (Pk.text (r7 b).1)from t7]
     rw[show b.take (r6 b).2.1=b.take (r5 b).2.1++(if kindOf b=5 then (r6 b).1.flatMap one else part (Ms.he (kindOf b)) (En.bytes 2 (r6 b).1))from t6]
     rw[show b.take (r5 b).2.1=b.take (r4 b).2.1++part (Ms.hv (kindOf b)) (enc (r5 b).1.toNat)from t5]
     rw[show b.take (r4 b).2.1=b.take (r3 b).2.1++part (Ms.hc (kindOf b)) (enc (r4 b).1.toNat)from t4]
     rw[show b.take (r3 b).2.1=b.take (r2 b).2.1++part (Ms.hi (kindOf b)) (enc (r3 b).1.toNat)from t3]
     rw[show b.take (r2 b).2.1=b.take (r1 b).2.1++part (Ms.hb (kindOf b)) (enc (r2 b).1.toNat)from t2]
     rw[show b.take (r1 b).2.1=b.take (Ms.rnums b 3).2.1++part (Ms.hb (kindOf b)) (enc (r1 b).1.toNat)from t1,t0]
     unfold bytes ents
     rw[show(gotM b).kind=kindOf b from rfl,show [kindOf b,(gotM b).frm,(gotM b).dst]=(Ms.rnums b 3).1 from h3n]
     simp only[List.append_assoc]
     rfl
    ·rw[if_pos h4]at h;exact absurd h h4
   ·rw[if_pos h3]at h;exact absurd h h3
 ·rw[if_pos h1]at h;exact absurd h h1
theorem cmd_less{c:Cm.Cmd}(h:Vs.has 1 c.kind=true):(Cm.bytes 2 c).length≤(Cm.bytes 1 c).length:=by
 have h1:Cm.encoded 1 c.kind = [.client, .seq, .key, .val, .node]:=rfl
 have h2:Cm.encoded 2 c.kind=Cm.fields c.kind:=rfl
 unfold Cm.bytes
 rw[h1,h2]
 rcases Vs.kinds c.kind with q | q | q | q | q | q | q | q | q
 rotate_right
 ·rw[Cm.fields_no (by omega) (by omega) (by omega) (by omega) (by omega) (by omega)];simp
 all_goals (rw[q]at h ⊢; first | exact absurd h (by decide) | (simp[Cm.fields]<;>omega))
theorem ents_less(l:List En.Ent)(h:En.has 1 l=true):(l.flatMap (En.ebytes 2)).length≤(l.flatMap (En.ebytes 1)).length:=by
 induction l with
 | nil=>simp
 | cons e r ih =>
  unfold En.has at h
  rw[List.all_cons,Bool.and_eq_true]at h
  have h1:=ih h.2
  have h2:=cmd_less h.1
  rw[List.flatMap_cons,List.flatMap_cons,List.length_append,List.length_append]
  unfold En.ebytes at h1 ⊢
  simp only[List.length_append]at h1 ⊢
  omega
theorem part_le(t:Bool)(l:List UInt8):(part t l).length≤l.length:=by cases t<;>simp[part]
theorem less{m:Ms.Msg}(h:Ms.older m=0):(bytes m).length≤(Ms.bytes m).length:=by
 obtain⟨hc,hn⟩:=Ms.older_good h
 have hg:=Ms.check_good hc
 have hhas:En.has 1 m.ents=true:=by unfold Ms.newer at hn;simp at hn;exact hn.2
 have he:=ents_less m.ents hhas
 have p1:=part_le (Ms.hb m.kind) (enc m.bal.round.toNat);have p2:=part_le (Ms.hb m.kind) (enc m.bal.node.toNat)
 have p3:=part_le (Ms.hi m.kind) (enc m.index.toNat);have p4:=part_le (Ms.hc m.kind) (enc m.commit.toNat)
 have p7:=part_le (Ms.hm m.kind) (Pk.text m.img)
 have e0:=enc_pos m.ents.length
 have e1:=enc_pos m.img.length
 have e2:=enc_pos m.index.toNat
 have hv:(part (Ms.hv m.kind) (enc m.version.toNat)).length+(part (Ms.hi m.kind) (enc m.index.toNat)).length≤(enc m.index.toNat).length:=by
  cases hk:Ms.hv m.kind with
  | false=>rw[part_no];simpa using p3
  | true =>
   have hver:=Ms.good_version hg hn
   rw[hk,if_pos rfl]at hver
   have hi:Ms.hi m.kind=false:=by
    have hk' : m.kind=1∨m.kind=2:=by unfold Ms.hv at hk;simpa using hk
    rcases hk' with q | q<;>rw[q]<;>decide
   rw[hver,hi,part_no,part_yes]
   have:(enc (1:Int).toNat).length=1:=by decide+kernel
   simp only[List.length_nil]
   omega
 have hen:(ents m).length≤(En.bytes 1 m.ents).length:=by
  unfold ents En.bytes
  by_cases h5:m.kind=5
  ·rw[if_pos h5]
   have hl:(m.ents.flatMap one).length≤(m.ents.flatMap (En.ebytes 2)).length:=by
    generalize m.ents=l
    induction l with
    | nil=>simp
    | cons e r ih =>
     rw[List.flatMap_cons,List.flatMap_cons,List.length_append,List.length_append]
     unfold one En.ebytes at *
     simp only[List.length_append]at *
     omega
   rw[List.length_append]
   omega
  ·rw[if_neg h5]
   have:=part_le (Ms.he m.kind) (enc m.ents.length++m.ents.flatMap (En.ebytes 2))
   rw[List.length_append]at this ⊢
   omega
 unfold bytes Ms.bytes
 have n1:(Ms.nbytes (Ms.nums m)).length=(Ms.nbytes [m.kind,m.frm,m.dst]).length+((enc m.bal.round.toNat).length+((enc m.bal.node.toNat).length+((enc m.index.toNat).length+(enc m.commit.toNat).length))):=by
  simp[Ms.nbytes,Ms.nums];omega
 simp only[List.length_append]
 rw[n1]
 omega
end Mt
end Go.Proofs.YtdkdjofnnnljjaaGreatDoor

namespace Go.Proofs.YtdkdjofnnnljjaaGreatDoor
open Go.RowKit
namespace Rt
def bytes(x:Re.Rec):List UInt8 :=
 enc (x.kind+16).toNat++(Mt.part (Re.hb x.kind) (enc x.bal.round.toNat)++(Mt.part (Re.hb x.kind) (enc x.bal.node.toNat)++(Mt.part (Re.hi x.kind) (enc x.index.toNat)++(Mt.part (Re.hc x.kind) (Cm.bytes 2 x.cmd)++Mt.part (Re.hm x.kind) (Pk.text x.img)))))
def cmd(t:Bool)(b:List UInt8)(s:Nat × Int):Cm.Cmd × Nat × Int:=if t=true then Cm.get 2 b s.1 s.2 else (Cm.zero,s)
def r0(b:List UInt8):=Mt.num true b (0,0)
def kindOf(b:List UInt8):Int:=(r0 b).1 - 16
def r1(b:List UInt8):=Mt.num (Re.hb (kindOf b)) b (r0 b).2
def r2(b:List UInt8):=Mt.num (Re.hb (kindOf b)) b (r1 b).2
def r3(b:List UInt8):=Mt.num (Re.hi (kindOf b)) b (r2 b).2
def r4(b:List UInt8):=cmd (Re.hc (kindOf b)) b (r3 b).2
def r5(b:List UInt8):=Mt.img (Re.hm (kindOf b)) b (r4 b).2
def gotR(b:List UInt8):Re.Rec:=⟨kindOf b,⟨(r1 b).1,(r2 b).1⟩,(r3 b).1,(r4 b).1,(r5 b).1⟩
def decode(b:List UInt8):Re.Rec × Int :=
 if(r0 b).2.2≠0 then (Re.zero,(r0 b).2.2)
 else if Re.known (kindOf b)=false then (Re.zero,3)
 else if Cm.done b (r5 b).2.1 (r5 b).2.2≠0 then (Re.zero,Cm.done b (r5 b).2.1 (r5 b).2.2)
 else if Re.check (gotR b)≠0 then (Re.zero,Re.check (gotR b))else (gotR b,0)
theorem older_two(x:Re.Rec):Re.olderIn 2 x=Re.check x:=by
 unfold Re.olderIn
 by_cases h:Re.check x=0
 ·rw[if_neg (by simpa using h),h]
  refine if_neg ?_
  cases hk:Re.hc x.kind with
  | false=>simp
  | true=>rw[Mt.has_two (Cm.check_ok ((Re.check_good h).cmd hk)).1];simp
 ·rw[if_pos h]
def bytesIn(v:Int)(x:Re.Rec):List UInt8:=if v=2 then bytes x else Re.bytes x
def put(v:Int)(x:Re.Rec):List UInt8 × Int :=
 if v=1∨v=2 then (if Re.olderIn v x≠0 then ([],Re.olderIn v x)else (bytesIn v x,0))else ([],8)
def get(v:Int)(b:List UInt8):Re.Rec × Int:=if v=1 then Re.decode b else if v=2 then decode b else (Re.zero,8)
theorem cmd_at(t:Bool)(pre post:List UInt8){c:Cm.Cmd}(h:t=true→Cm.check c=0)(hf:c.Fits){s:Nat}(hs:c.Short s)(hs2:s≤9223372036854775807)(hz:t=false→c=Cm.zero) :
 cmd t (pre++(Mt.part t (Cm.bytes 2 c)++post)) (pre.length,0)=(c,(pre++Mt.part t (Cm.bytes 2 c)).length,0):=by
 cases t with
 | true =>
  rw[Mt.part_yes]
  unfold cmd
  rw[if_pos rfl]
  have:=Cm.get_at 2 c (Cm.check_pos (h rfl)) hf hs hs2 pre post
  rw[Mt.cmd_two (h rfl)]at this
  exact this
 | false =>
  rw[Mt.part_no,hz rfl]
  simp[cmd]
theorem cmd_ok(t:Bool)(b:List UInt8)(s:Nat × Int)(hs:s.1≤b.length)(h:(cmd t b s).2.2=0) :
 s.2=0∧(cmd t b s).2.1≤b.length∧b.take (cmd t b s).2.1=b.take s.1++Mt.part t (Cm.bytes 2 (cmd t b s).1):=by
 cases t with
 | true =>
  unfold cmd at h ⊢
  rw[if_pos rfl]at h ⊢
  exact Cm.get_ok 2 b s.1 s.2 h hs
 | false =>
  unfold cmd at h ⊢
  rw[if_neg (by simp)]at h ⊢
  exact⟨h,hs,by rw[Mt.part_no,List.append_nil]⟩
theorem cmd_le(t:Bool)(b:List UInt8)(s:Nat × Int)(hs:s.1≤b.length):(cmd t b s).2.1≤b.length:=by
 unfold cmd
 split
 ·exact Cm.get_le 2 b s.1 s.2 hs
 ·exact hs
theorem decode_back{x:Re.Rec}(h:Re.check x=0)(hf:x.Fits){s:Nat}(hs:x.cmd.Short s)(hs2:s≤9223372036854775807):decode (bytes x)=(x,0):=by
 have hg:=Re.check_good h
 have hpos:=Re.good_pos hg
 have hl2:=Re.good_len hg
 have hown:=hg.own
 have zb:Re.hb x.kind=false→x.bal=Bl.zero:=fun q=>by have:=congrArg Re.Rec.bal hown;rw[← this];exact if_neg (by rw[q];simp)
 have zi:Re.hi x.kind=false→x.index=0:=fun q=>by have:=congrArg Re.Rec.index hown;rw[← this];exact if_neg (by rw[q];simp)
 have hkn:1≤x.kind∧x.kind≤4:=by have:=hg.kind;unfold Re.known at this;simpa using this
 have q3:=hpos x.bal.round (by simp[Re.nums]);have q4:=hpos x.bal.node (by simp[Re.nums]);have q5:=hpos x.index (by simp[Re.nums])
 obtain⟨B,hB⟩ : ∃B,B=bytes x:=⟨_,rfl⟩
 obtain⟨A0,hA0⟩ : ∃A,A=enc (x.kind+16).toNat:=⟨_,rfl⟩
 obtain⟨A1,hA1⟩ : ∃A,A=Mt.part (Re.hb x.kind) (enc x.bal.round.toNat):=⟨_,rfl⟩
 obtain⟨A2,hA2⟩ : ∃A,A=Mt.part (Re.hb x.kind) (enc x.bal.node.toNat):=⟨_,rfl⟩
 obtain⟨A3,hA3⟩ : ∃A,A=Mt.part (Re.hi x.kind) (enc x.index.toNat):=⟨_,rfl⟩
 obtain⟨A4,hA4⟩ : ∃A,A=Mt.part (Re.hc x.kind) (Cm.bytes 2 x.cmd):=⟨_,rfl⟩
 obtain⟨A5,hA5⟩ : ∃A,A=Mt.part (Re.hm x.kind) (Pk.text x.img):=⟨_,rfl⟩
 have hBB:B=A0++(A1++(A2++(A3++(A4++A5)))):=by rw[hB,hA0,hA1,hA2,hA3,hA4,hA5];rfl
 have g0:r0 B=(x.kind+16,A0.length,0):=by
  have:=Mt.num_at true [] (A1++(A2++(A3++(A4++A5)))) (n:=x.kind+16) (by omega) (by omega) (fun q=>by cases q)
  rw[Mt.part_yes, ← hA0,List.nil_append, ← hBB,List.nil_append]at this
  exact this
 have hk:kindOf B=x.kind:=by unfold kindOf;rw[g0];show x.kind+16 - 16=_;omega
 have g1:r1 B=(x.bal.round,(A0++A1).length,0):=by
  have:=Mt.num_at (Re.hb x.kind) A0 (A2++(A3++(A4++A5))) q3.1 q3.2 (fun q=>by rw[zb q];rfl)
  rw[← hA1, ← hBB]at this
  unfold r1;rw[hk,g0];exact this
 have g2:r2 B=(x.bal.node,(A0++A1++A2).length,0):=by
  have:=Mt.num_at (Re.hb x.kind) (A0++A1) (A3++(A4++A5)) q4.1 q4.2 (fun q=>by rw[zb q];rfl)
  rw[← hA2,show A0++A1++(A2++(A3++(A4++A5)))=B by rw[hBB];simp]at this
  unfold r2;rw[hk,g1];exact this
 have g3:r3 B=(x.index,(A0++A1++A2++A3).length,0):=by
  have:=Mt.num_at (Re.hi x.kind) (A0++A1++A2) (A4++A5) q5.1 q5.2 zi
  rw[← hA3,show A0++A1++A2++(A3++(A4++A5))=B by rw[hBB];simp]at this
  unfold r3;rw[hk,g2];exact this
 have g4:r4 B=(x.cmd,(A0++A1++A2++A3++A4).length,0):=by
  have:=cmd_at (Re.hc x.kind) (A0++A1++A2++A3) A5 hg.cmd hf.c hs hs2 (Re.good_cmd hg)
  rw[← hA4,show A0++A1++A2++A3++(A4++A5)=B by rw[hBB];simp]at this
  unfold r4;rw[hk,g3];exact this
 have g5:r5 B=(x.img,B.length,0):=by
  have:=Mt.img_at (Re.hm x.kind) (A0++A1++A2++A3++A4) [] hl2 (Re.good_img hg)
  rw[← hA5,List.append_nil,show A0++A1++A2++A3++A4++A5=B by rw[hBB];simp]at this
  unfold r5;rw[hk,g4];exact this
 have gm:gotR B=x:=by
  unfold gotR
  rw[hk,g1,g2,g3,g4,g5]
 rw[← hB]
 unfold decode
 rw[hk,gm,g5,if_neg (by rw[g0];simp),if_neg (by rw[hg.kind];simp)]
 dsimp only
 rw[Cm.done_end,if_neg (by simp),if_neg (by simpa using h)]
theorem decode_none(b:List UInt8)(h:(decode b).2≠0):(decode b).1=Re.zero:=by
 unfold decode at h ⊢
 by_cases h1:(r0 b).2.2=0
 ·rw[if_neg (by simpa using h1)]at h ⊢
  by_cases h2:Re.known (kindOf b)=false
  ·rw[if_pos h2]
  ·rw[if_neg h2]at h ⊢
   by_cases h3:Cm.done b (r5 b).2.1 (r5 b).2.2=0
   ·rw[if_neg (by simpa using h3)]at h ⊢
    by_cases h4:Re.check (gotR b)=0
    ·rw[if_neg (by simpa using h4)]at h;exact absurd rfl h
    ·rw[if_pos h4]
   ·rw[if_pos h3]
 ·rw[if_pos h1]
theorem r0_le(b:List UInt8):(r0 b).2.1≤b.length:=Mt.num_le true b (0,0) (Nat.zero_le _)
theorem decode_ok(b:List UInt8)(h:(decode b).2=0):(decode b).1=gotR b∧Re.check (gotR b)=0∧bytes (gotR b)=b:=by
 unfold decode at h ⊢
 by_cases h1:(r0 b).2.2=0
 ·rw[if_neg (by simpa using h1)]at h ⊢
  by_cases h2:Re.known (kindOf b)=false
  ·rw[if_pos h2]at h;simp at h
  ·rw[if_neg h2]at h ⊢
   by_cases h3:Cm.done b (r5 b).2.1 (r5 b).2.2=0
   ·rw[if_neg (by simpa using h3)]at h ⊢
    by_cases h4:Re.check (gotR b)=0
    ·rw[if_neg (by simpa using h4)]
     refine⟨rfl,h4, ?_⟩
     have her:(r5 b).2.2=0:=by
      unfold Cm.done at h3
      split at h3
      ·rename_i hne;exact absurd h3 hne
      ·rename_i hne;simpa using hne
     have hpl : ¬(r5 b).2.1<b.length:=by
      unfold Cm.done at h3
      rw[if_neg (by simpa using her)]at h3
      intro hlt
      rw[if_pos hlt]at h3
      omega
     have l0:=r0_le b
     have l1:=Mt.num_le (Re.hb (kindOf b)) b (r0 b).2 l0
     have l2:=Mt.num_le (Re.hb (kindOf b)) b (r1 b).2 l1
     have l3:=Mt.num_le (Re.hi (kindOf b)) b (r2 b).2 l2
     have l4:=cmd_le (Re.hc (kindOf b)) b (r3 b).2 l3
     obtain⟨z4,_,t5⟩:=Mt.img_ok (Re.hm (kindOf b)) b (r4 b).2 l4 her
     obtain⟨z3,_,t4⟩:=cmd_ok (Re.hc (kindOf b)) b (r3 b).2 l3 z4
     obtain⟨z2,_,t3⟩:=Mt.num_ok (Re.hi (kindOf b)) b (r2 b).2 l2 z3
     obtain⟨z1,_,t2⟩:=Mt.num_ok (Re.hb (kindOf b)) b (r1 b).2 l1 z2
     obtain⟨z0,_,t1⟩:=Mt.num_ok (Re.hb (kindOf b)) b (r0 b).2 l0 z1
     obtain⟨_,_,t0⟩:=Mt.num_ok true b (0,0) (Nat.zero_le _) h1
     rw[Mt.part_yes,List.take_zero,List.nil_append]at t0
     have hn0:(kindOf b+16)=(r0 b).1:=by unfold kindOf;omega
     have hb:b=b.take (r5 b).2.1:=(List.take_of_length_le (by omega)).symm
     conv=>rhs;rw[hb]
     rw[show b.take (r5 b).2.1=b.take (r4 b).2.1++Mt.part (Re.hm (kindOf b)) (Pk.text (r5 b).1)from t5]
     rw[show b.take (r4 b).2.1=b.take (r3 b).2.1++Mt.part (Re.hc (kindOf b)) (Cm.bytes 2 (r4 b).1)from t4]
     rw[show b.take (r3 b).2.1=b.take (r2 b).2.1++Mt.part (Re.hi (kindOf b)) (enc (r3 b).1.toNat)from t3]
     rw[show b.take (r2 b).2.1=b.take (r1 b).2.1++Mt.part (Re.hb (kindOf b)) (enc (r2 b).1.toNat)from t2]
     rw[show b.take (r1 b).2.1=b.take (r0 b).2.1++Mt.part (Re.hb (kindOf b)) (enc (r1 b).1.toNat)from t1]
     rw[show b.take (r0 b).2.1=enc (r0 b).1.toNat from t0]
     unfold bytes
     rw[show(gotR b).kind=kindOf b from rfl,hn0]
     simp only[List.append_assoc]
     rfl
    ·rw[if_pos h4]at h;exact absurd h h4
   ·rw[if_pos h3]at h;exact absurd h h3
 ·rw[if_pos h1]at h;exact absurd h h1
theorem less{x:Re.Rec}(h:Re.older x=0):(bytes x).length≤(Re.bytes x).length:=by
 obtain⟨hc,hn⟩:=Re.older_good h
 have hg:=Re.check_good hc
 have hkn:1≤x.kind∧x.kind≤4:=by have:=hg.kind;unfold Re.known at this;simpa using this
 have p1:=Mt.part_le (Re.hb x.kind) (enc x.bal.round.toNat);have p2:=Mt.part_le (Re.hb x.kind) (enc x.bal.node.toNat)
 have p3:=Mt.part_le (Re.hi x.kind) (enc x.index.toNat)
 have hone : ∀n:Int,1≤n→n≤4→(enc (n+16).toNat).length=(enc n.toNat).length:=fun n h1 h2=>by
  have:n=1∨n=2∨n=3∨n=4:=by omega
  rcases this with rfl | rfl | rfl | rfl<;>decide+kernel
 have p0:=hone x.kind hkn.1 hkn.2
 have p4:(Mt.part (Re.hc x.kind) (Cm.bytes 2 x.cmd)++Mt.part (Re.hm x.kind) (Pk.text x.img)).length≤(Re.tail x).length:=by
  unfold Re.tail
  cases hk:Re.hc x.kind with
  | true =>
   have hm:Re.hm x.kind=false:=by unfold Re.hc at hk;unfold Re.hm;simp at hk ⊢; omega
   rw[hm,Mt.part_yes,Mt.part_no,List.append_nil,if_pos rfl]
   refine Mt.cmd_less ?_
   unfold Re.newer at hn
   rw[hk]at hn
   simpa using hn
  | false =>
   rw[Mt.part_no,List.nil_append,if_neg (by simp)]
   cases hm:Re.hm x.kind with
   | true=>rw[Mt.part_yes,if_pos rfl];exact Nat.le_refl _
   | false=>rw[Mt.part_no];simp
 unfold bytes Re.bytes
 rw[show Ms.nbytes (Re.nums x)=enc x.kind.toNat++(enc x.bal.round.toNat++(enc x.bal.node.toNat++enc x.index.toNat)) by simp[Ms.nbytes,Re.nums]]
 simp only[List.length_append]at p4 ⊢
 omega
theorem got_inv(b:List UInt8):(gotR b).Fits∧(gotR b).cmd.Short b.length∧(gotR b).img.length≤b.length:=by
 have hz:Cm.zero.Fits∧Cm.zero.Short b.length:=⟨by constructor<;>simp[Cm.zero,Cm.bareOf],by simp[Cm.zero,Cm.bareOf],by simp[Cm.zero,Cm.bareOf],by simp[Cm.zero,Cm.bareOf]⟩
 have hnum : ∀(t:Bool) (s:Nat × Int), -9223372036854775808≤(Mt.num t b s).1∧(Mt.num t b s).1≤9223372036854775807:=fun t s=>by
  unfold Mt.num
  split
  ·have:=Ms.rnum_num b s.1 s.2
   dsimp only
   omega
  ·dsimp only;omega
 have l0:=r0_le b
 have l1:=Mt.num_le (Re.hb (kindOf b)) b (r0 b).2 l0
 have l2:=Mt.num_le (Re.hb (kindOf b)) b (r1 b).2 l1
 have l3:=Mt.num_le (Re.hi (kindOf b)) b (r2 b).2 l2
 have l4:=cmd_le (Re.hc (kindOf b)) b (r3 b).2 l3
 have hcmd:(r4 b).1.Fits∧(r4 b).1.Short b.length:=by
  unfold r4 cmd
  split
  ·obtain⟨_,h2,h3⟩:=Cm.get_inv_at 2 b _ (r3 b).2.2 l3
   exact⟨h3,h2⟩
  ·exact hz
 have hk : -9223372036854775808≤kindOf b∧kindOf b≤9223372036854775807:=by
  have:=Ms.rnum_num b 0 0
  rw[show kindOf b=(Cm.rnum b 0 0).1 - 16 from rfl]
  omega
 refine⟨⟨fun z hz => ?_,hcmd.1⟩,hcmd.2, ?_⟩
 ·simp only[Re.nums,List.mem_cons,List.not_mem_nil,or_false]at hz
  rcases hz with rfl | rfl | rfl | rfl
  ·exact hk
  ·exact hnum _ _
  ·exact hnum _ _
  ·exact hnum _ _
 ·show(r5 b).1.length≤_
  unfold r5 Mt.img
  split
  ·rcases Ms.raw_cases b (r4 b).2.1 (r4 b).2.2 l4 with ⟨e,q,_,_,hr⟩ | ⟨s,q,_,_,hs,hr,_⟩
   ·rw[hr];simp
   ·rw[hr];exact hs
  ·simp
end Rt
end Go.Proofs.YtdkdjofnnnljjaaGreatDoor
