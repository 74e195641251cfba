/- Several texts of mine in one: ReMath ReMem ReLeaf. -/
import Derived.Test.YtdkdjofnnnljjaaGreatDoorPCmFew
import Derived.Test.YtdkdjofnnnljjaaGreatDoorGCw
import Derived.Test.YtdkdjofnnnljjaaGreatDoorPCmdChk
import Derived.Test.YtdkdjofnnnljjaaGreatDoorPEnMem
import Derived.Test.YtdkdjofnnnljjaaGreatDoorGMb
import Derived.Test.YtdkdjofnnnljjaaGreatDoorPGMp
namespace Go.Proofs.YtdkdjofnnnljjaaGreatDoor
open Go.RowKit
set_option maxHeartbeats 1600000
set_option maxRecDepth 4000
structure Re.Rec where
 kind:Int
 bal:Bl.Bal
 index:Int
 cmd:Cm.Cmd
 img:List UInt8
 deriving DecidableEq
namespace Re
def zero : Rec:=⟨0,Bl.zero,0,Cm.zero, []⟩
def cells(x:Rec)(vi:Value):Array Value := #[.int .i64 x.kind, .int .i64 x.bal.round, .int .i64 x.bal.node, .int .i64 x.index, .int .i64 x.cmd.kind, .int .i64 x.cmd.client, .int .i64 x.cmd.seq, .string ⟨x.cmd.key.toArray⟩, .string ⟨x.cmd.val.toArray⟩, .string ⟨x.cmd.old.toArray⟩, .int .i64 x.cmd.node,vi]
def hb(k:Int):Bool:=decide (k=1) || decide (k=2)
def hi(k:Int):Bool:=decide (k=2) || (decide (k=3) || decide (k=4))
def hc(k:Int):Bool:=decide (k=2) || decide (k=3)
def hm(k:Int):Bool:=decide (k=4)
def known(k:Int):Bool:=decide (1≤k) && decide (k≤4)
theorem kinds(k:Int):k=1∨k=2∨k=3∨k=4∨(k<1∨4<k):=by omega
theorem has_no{k:Int}(h:k<1∨4<k):hb k=false∧hi k=false∧hc k=false∧hm k=false∧known k=false:=by
 unfold hb hi hc hm known
 simp only[Bool.or_eq_false_iff,Bool.and_eq_false_iff,decide_eq_false_iff_not]
 omega
def ranged(x:Rec):Bool := !(hb x.kind && !Ms.owned x.bal) && !(hi x.kind && !Ms.within x.index 1 4294967296)
def own(x:Rec):Rec:=⟨x.kind,if hb x.kind=true then x.bal else Bl.zero,if hi x.kind=true then x.index else 0,if hc x.kind=true then x.cmd else Cm.zero,if hm x.kind=true then x.img else []⟩
def whole(x:Rec):Bool := !(hm x.kind && decide (x.img = []))
def check(x:Rec):Int :=
 if known x.kind=false then 5
 else if ranged x=false then 6
 else if(hm x.kind && decide (32768<x.img.length))=true then 2
 else if hc x.kind=true∧Cm.check x.cmd≠0 then Cm.check x.cmd
 else if(decide (own x=x) && whole x)=false then 3 else 0
def newer(x:Rec):Bool:=hc x.kind && !Vs.has 1 x.cmd.kind
def older(x:Rec):Int:=if check x≠0 then check x else if newer x=true then 8 else 0
def large(x:Rec):Bool:=decide (200<x.cmd.key.length) || (decide (200<x.cmd.val.length) || (decide (200<x.cmd.old.length) || ((decide (300<x.img.length) && decide (x.img.length<32760)) || decide (32780<x.img.length))))
def nums(x:Rec):List Int := [x.kind,x.bal.round,x.bal.node,x.index]
def tail(x:Rec):List UInt8:=if hc x.kind=true then Cm.bytes 1 x.cmd else if hm x.kind=true then Pk.text x.img else []
def bytes(x:Rec):List UInt8:=Ms.nbytes (nums x)++tail x
structure Rec.Fits(x:Rec):Prop where
 n : ∀z∈nums x, -9223372036854775808≤z∧z≤9223372036854775807
 c:x.cmd.Fits
def base(l:List Int):Rec:=⟨Ms.nth l 0,⟨Ms.nth l 1,Ms.nth l 2⟩,Ms.nth l 3,Cm.zero, []⟩
def got(b:List UInt8):Rec × Nat × Int :=
 if hc (Ms.nth (Ms.rnums b 4).1 0)=true then ({base (Ms.rnums b 4).1 with cmd:=(Cm.get 1 b (Ms.rnums b 4).2.1 (Ms.rnums b 4).2.2).1},(Cm.get 1 b (Ms.rnums b 4).2.1 (Ms.rnums b 4).2.2).2.1,(Cm.get 1 b (Ms.rnums b 4).2.1 (Ms.rnums b 4).2.2).2.2)
 else if hm (Ms.nth (Ms.rnums b 4).1 0)=true then ({base (Ms.rnums b 4).1 with img:=(Ms.raw b (Ms.rnums b 4).2.1 (Ms.rnums b 4).2.2).1},(Ms.raw b (Ms.rnums b 4).2.1 (Ms.rnums b 4).2.2).2.1.toNat,(Ms.raw b (Ms.rnums b 4).2.1 (Ms.rnums b 4).2.2).2.2)
 else if Ms.nth (Ms.rnums b 4).1 0=1 then (base (Ms.rnums b 4).1,(Ms.rnums b 4).2.1,(Ms.rnums b 4).2.2)
 else (base (Ms.rnums b 4).1,(Ms.rnums b 4).2.1,if(Ms.rnums b 4).2.2=0 then 3 else (Ms.rnums b 4).2.2)
def decode(b:List UInt8):Rec × Int :=
 if Cm.done b (got b).2.1 (got b).2.2≠0 then (zero,Cm.done b (got b).2.1 (got b).2.2)
 else if older (got b).1≠0 then (zero,older (got b).1)else ((got b).1,0)
structure Good(x:Rec):Prop where
 kind:known x.kind=true
 ranged:ranged x=true
 long:(hm x.kind && decide (32768<x.img.length))=false
 cmd:hc x.kind=true→Cm.check x.cmd=0
 own:own x=x
 whole:whole x=true
theorem check_good{x:Rec}(h:check x=0):Good x:=by
 unfold check at h
 by_cases h1:known x.kind=false
 ·rw[if_pos h1]at h;omega
 rw[if_neg h1]at h
 by_cases h2:Re.ranged x=false
 ·rw[if_pos h2]at h;omega
 rw[if_neg h2]at h
 by_cases h3:(hm x.kind && decide (32768<x.img.length))=true
 ·rw[if_pos h3]at h;omega
 rw[if_neg h3]at h
 by_cases h4:hc x.kind=true∧Cm.check x.cmd≠0
 ·rw[if_pos h4]at h;exact absurd h h4.2
 ·rw[if_neg h4]at h
  by_cases h5:(decide (Re.own x=x) && Re.whole x)=false
  ·rw[if_pos h5]at h;omega
  ·simp only[Bool.not_eq_false,Bool.and_eq_true,decide_eq_true_eq]at h5
   exact⟨by simpa using h1,by simpa using h2,by simpa using h3,fun hk=>by by_cases hq:Cm.check x.cmd=0;exact hq;exact absurd ⟨hk,hq⟩ h4,h5.1,h5.2⟩
theorem older_good{x:Rec}(h:older x=0):check x=0∧newer x=false:=by
 unfold older at h
 by_cases h1:check x=0
 ·rw[if_neg (by simpa using h1)]at h
  by_cases h2:newer x=true
  ·rw[if_pos h2]at h;omega
  ·exact⟨h1,by simpa using h2⟩
 ·rw[if_pos h1]at h;exact absurd h h1
theorem good_len{x:Rec}(h:Good x):x.img.length≤32768:=by
 by_cases hx:hm x.kind=true
 ·have:=h.long
  rw[hx]at this
  simp at this
  omega
 ·have:=congrArg Rec.img h.own
  rw[← this,show(Re.own x).img=if hm x.kind=true then x.img else []from rfl,if_neg hx]
  simp
theorem good_cmd{x:Rec}(h:Good x)(hk:hc x.kind=false):x.cmd=Cm.zero:=by
 have:=congrArg Rec.cmd h.own
 rw[← this]
 show(if hc x.kind=true then x.cmd else Cm.zero)=Cm.zero
 rw[if_neg (by rw[hk];simp)]
theorem good_img{x:Rec}(h:Good x)(hk:hm x.kind=false):x.img = []:=by
 have:=congrArg Rec.img h.own
 rw[← this]
 show(if hm x.kind=true then x.img else []) = []
 rw[if_neg (by rw[hk];simp)]
theorem good_pos{x:Rec}(h:Good x) : ∀z∈nums x,0≤z∧z≤9223372036854775807:=by
 have hk:=h.kind;have hr:=h.ranged
 unfold known at hk
 simp only[Bool.and_eq_true,decide_eq_true_eq]at hk
 unfold Re.ranged at hr
 simp only[Bool.and_eq_true]at hr
 have hb:(0≤x.bal.round∧x.bal.round≤4294967296)∧(0≤x.bal.node∧x.bal.node≤9):=by
  by_cases hx:hb x.kind=true
  ·have ho:Ms.owned x.bal=true:=by
    have:=hr.1
    rw[hx]at this
    simpa using this
   unfold Ms.owned at ho
   have hmay:=(Bool.and_eq_true_iff.1 ho).1
   unfold Bl.may Bl.within at hmay
   rcases Bool.or_eq_true_iff.1 hmay with h1 | h1
   ·rw[of_decide_eq_true h1];simp[Bl.zero]
   ·simp only[Bool.and_eq_true,decide_eq_true_eq]at h1
    omega
  ·have:=congrArg Rec.bal h.own
   rw[← this,show(Re.own x).bal=if hb x.kind=true then x.bal else Bl.zero from rfl,if_neg hx]
   simp[Bl.zero]
 have hix:0≤x.index∧x.index≤4294967296:=by
  by_cases hx:hi x.kind=true
  ·have:=hr.2
   rw[hx]at this
   simp[Ms.within]at this
   omega
  ·have:=congrArg Rec.index h.own
   rw[← this,show(Re.own x).index=if hi x.kind=true then x.index else 0 from rfl,if_neg hx]
   simp
 intro z hz
 simp only[nums,List.mem_cons,List.not_mem_nil,or_false]at hz
 rcases hz with rfl | rfl | rfl | rfl<;>omega
theorem four{l:List Int}(h:l.length=4) : [Ms.nth l 0,Ms.nth l 1,Ms.nth l 2,Ms.nth l 3]=l:=by
 match l,h with
 | [_,_,_,_],_=>rfl
theorem base_nums(x:Rec):base (nums x)={x with cmd:=Cm.zero,img := []}:=rfl
theorem decode_back{x:Rec}(h:older x=0)(hf:x.Fits){s:Nat}(hs:x.cmd.Short s)(hs2:s≤9223372036854775807):decode (bytes x)=(x,0):=by
 obtain⟨hck,hn⟩:=older_good h
 have hg:=check_good hck
 have h1:=Ms.rnums_at (nums x) (good_pos hg) (bytes x) (tail x) rfl 4 (Nat.le_refl _)
 rw[show(nums x).take 4=nums x from rfl]at h1
 have h0:Ms.nth (nums x) 0=x.kind:=rfl
 have hget:got (bytes x)=(x,(bytes x).length,0):=by
  unfold got
  rw[h1]
  dsimp only
  rw[h0,base_nums]
  by_cases hc1:hc x.kind=true
  ·rw[if_pos hc1]
   have hcm:=hg.cmd hc1
   have hm0:hm x.kind=false:=by unfold hc at hc1;unfold hm;simp at hc1 ⊢; omega
   have hin:Cm.checkIn 1 x.cmd=0:=by
    unfold newer at hn
    rw[hc1]at hn
    unfold Cm.checkIn
    rw[if_neg (by decide),if_neg (by simpa using hcm),if_neg (by simp at hn;rw[hn];simp)]
   have hga:=Cm.get_at 1 x.cmd (Cm.check_pos hcm) hf.c hs hs2 (Ms.nbytes (nums x)) []
   have ht:tail x=Cm.bytes 1 x.cmd:=if_pos hc1
   have hb:bytes x=Ms.nbytes (nums x)++Cm.bytes 1 x.cmd:=by unfold bytes;rw[ht]
   rw[List.append_nil,Cm.restrict_ok 1 x.cmd hin, ← hb]at hga
   rw[hga]
   dsimp only
   rw[show({x with cmd:=x.cmd,img := []}:Rec)=x from by rw[show([]:List UInt8)=x.img from(good_img hg hm0).symm]]
  ·rw[if_neg hc1]
   have hc0:hc x.kind=false:=by simpa using hc1
   by_cases hm1:hm x.kind=true
   ·rw[if_pos hm1]
    have ht:tail x=Pk.text x.img:=(if_neg hc1).trans (if_pos hm1)
    have hb:bytes x=Ms.nbytes (nums x)++Pk.text x.img:=by unfold bytes;rw[ht]
    have hra:=Ms.raw_at (Ms.nbytes (nums x)) [] (good_len hg)
    rw[List.append_nil, ← hb]at hra
    rw[hra]
    dsimp only
    rw[show({x with cmd:=Cm.zero,img:=x.img}:Rec)=x from by rw[← good_cmd hg hc0]]
    rfl
   ·rw[if_neg hm1]
    have hm0:hm x.kind=false:=by simpa using hm1
    have hk1:x.kind=1:=by
     have hk:=hg.kind
     unfold known at hk
     unfold hc at hc0
     unfold hm at hm0
     simp at hk hc0 hm0
     omega
    have ht:tail x = []:=(if_neg hc1).trans (if_neg hm1)
    rw[if_pos hk1,show({x with cmd:=Cm.zero,img := []}:Rec)=x from by rw[← good_cmd hg hc0, ← good_img hg hm0]]
    unfold bytes
    rw[ht,List.append_nil]
 unfold decode
 rw[hget]
 dsimp only
 rw[Cm.done_end,if_neg (by simp),if_neg (by simpa using h)]
theorem decode_none(b:List UInt8)(h:(decode b).2≠0):(decode b).1=zero:=by
 unfold decode at h ⊢
 by_cases h2:Cm.done b (got b).2.1 (got b).2.2=0
 ·rw[if_neg (by simpa using h2)]at h ⊢
  by_cases h3:older (got b).1=0
  ·rw[if_neg (by simpa using h3)]at h;exact absurd rfl h
  ·rw[if_pos h3]
 ·rw[if_pos h2]
theorem decode_ok(b:List UInt8)(h:(decode b).2=0):(decode b).1=(got b).1∧older (got b).1=0∧bytes (got b).1=b:=by
 unfold decode at h ⊢
 by_cases h2:Cm.done b (got b).2.1 (got b).2.2=0
 ·rw[if_neg (by simpa using h2)]at h ⊢
  by_cases h3:older (got b).1=0
  ·rw[if_neg (by simpa using h3)]
   refine⟨rfl,h3, ?_⟩
   have her:(got b).2.2=0:=by
    unfold Cm.done at h2
    split at h2
    ·rename_i hne;exact absurd h2 hne
    ·rename_i hne;simpa using hne
   have hpl : ¬(got b).2.1<b.length:=by
    unfold Cm.done at h2
    rw[if_neg (by simpa using her)]at h2
    intro hlt
    rw[if_pos hlt]at h2
    omega
   clear h h2 h3
   have l1:=Ms.rnums_le b 4
   have hn4 : ∀x:Rec,x.kind=(base (Ms.rnums b 4).1).kind→x.bal=(base (Ms.rnums b 4).1).bal→x.index=(base (Ms.rnums b 4).1).index→nums x=(Ms.rnums b 4).1:=fun x h1 h2 h3=>by
    unfold nums
    rw[h1,h2,h3]
    exact four (Ms.rnums_len b 4)
   unfold got at her hpl ⊢
   by_cases hc1:hc (Ms.nth (Ms.rnums b 4).1 0)=true
   ·rw[if_pos hc1]at her hpl ⊢
    dsimp only at her hpl ⊢
    obtain⟨k0,k1,k2⟩:=Cm.get_ok 1 b _ _ her l1
    have k3:=Ms.rnums_ok b 4 k0
    rw[List.take_of_length_le (by omega),k3]at k2
    conv=>rhs;rw[k2]
    unfold bytes
    exact congr (congrArg _ (congrArg Ms.nbytes (hn4 _ rfl rfl rfl))) (if_pos hc1)
   ·rw[if_neg hc1]at her hpl ⊢
    by_cases hm1:hm (Ms.nth (Ms.rnums b 4).1 0)=true
    ·rw[if_pos hm1]at her hpl ⊢
     dsimp only at her hpl ⊢
     rcases Ms.raw_cases b (Ms.rnums b 4).2.1 (Ms.rnums b 4).2.2 l1 with ⟨e,q,he,_,hr⟩ | ⟨s,q,h0,hq,_,hr,ht⟩
     ·rw[hr]at her;exact absurd her he
     ·rw[hr]at hpl ⊢
      simp only[Int.toNat_natCast]at hpl
      rw[List.take_of_length_le (by omega),Ms.rnums_ok b 4 h0]at ht
      conv=>rhs;rw[ht]
      unfold bytes
      exact congr (congrArg _ (congrArg Ms.nbytes (hn4 _ rfl rfl rfl))) ((if_neg hc1).trans (if_pos hm1))
    ·rw[if_neg hm1]at her hpl ⊢
     by_cases hk1:Ms.nth (Ms.rnums b 4).1 0=1
     ·rw[if_pos hk1]at her hpl ⊢
      dsimp only at her hpl ⊢
      have k3:=Ms.rnums_ok b 4 her
      rw[List.take_of_length_le (by omega)]at k3
      conv=>rhs;rw[k3]
      unfold bytes
      rw[hn4 _ rfl rfl rfl,show tail (base (Ms.rnums b 4).1) = []from(if_neg hc1).trans (if_neg hm1),List.append_nil]
     ·rw[if_neg hk1]at her
      dsimp only at her
      split at her<;>omega
  ·rw[if_pos h3]at h;exact absurd h h3
 ·rw[if_pos h2]at h;exact absurd h h2
theorem got_inv(b:List UInt8):(got b).1.Fits∧(got b).1.cmd.Short b.length∧(got b).1.img.length≤b.length:=by
 have l1:=Ms.rnums_le b 4
 have hz:Cm.zero.Fits∧Cm.zero.Short b.length:=⟨by constructor<;>simp[Cm.zero,Cm.bareOf],by simp[Cm.zero,Cm.bareOf],by simp[Cm.zero,Cm.bareOf],by simp[Cm.zero,Cm.bareOf]⟩
 have hn : ∀z∈(Ms.rnums b 4).1, -9223372036854775808≤z∧z≤9223372036854775807:=fun z hz=>by
  have:=Ms.rnums_num b 4 z hz
  omega
 have h4:nums (base (Ms.rnums b 4).1)=(Ms.rnums b 4).1:=four (Ms.rnums_len b 4)
 unfold got
 split
 ·obtain⟨_,h2,h3⟩:=Cm.get_inv_at 1 b _ (Ms.rnums b 4).2.2 l1
  exact⟨⟨fun z hz=>hn z (h4 ▸ hz),h3⟩,h2,Nat.zero_le _⟩
 ·split
  ·refine⟨⟨fun z hz=>hn z (h4 ▸ hz),hz.1⟩,hz.2, ?_⟩
   rcases Ms.raw_cases b (Ms.rnums b 4).2.1 (Ms.rnums b 4).2.2 l1 with ⟨e,q,_,_,hr⟩ | ⟨s,q,_,_,hs,hr,_⟩
   ·rw[hr];simp
   ·rw[hr];exact hs
  ·split<;>exact⟨⟨fun z hz=>hn z (h4 ▸ hz),hz.1⟩,hz.2,Nat.zero_le _⟩
theorem small{x:Rec}(h:large x=false):x.cmd.Short 200∧x.img.length≤32780:=by
 unfold large at h
 simp only[Bool.or_eq_false_iff,decide_eq_false_iff_not]at h
 exact⟨⟨by omega,by omega,by omega⟩,by omega⟩
theorem bytes_len{x:Rec}(hf:x.Fits)(hs:x.cmd.Short 1000)(hm:x.img.length≤100000):(bytes x).length≤110000:=by
 have n1:=Ms.nbytes_len (nums x) fun z hz=>(hf.n z hz).2
 have h4:(nums x).length=4:=rfl
 have h5:=enc_nine (n:=x.img.length) (by omega)
 have h6:(Cm.bytes 1 x.cmd).length≤4000:=by
  have a4:=enc_nine (n:=x.cmd.kind.toNat) (by have:=hf.c.k1;omega)
  have a5:=enc_nine (n:=x.cmd.client.toNat) (by have:=hf.c.c1;omega)
  have a6:=enc_nine (n:=x.cmd.seq.toNat) (by have:=hf.c.q1;omega)
  have a7:=enc_nine (n:=x.cmd.node.toNat) (by have:=hf.c.n1;omega)
  have a8:=enc_nine (n:=x.cmd.key.length) (by have:=hs.1;omega)
  have a9:=enc_nine (n:=x.cmd.val.length) (by have:=hs.2.2;omega)
  have c1:=hs.1
  have c3:=hs.2.2
  unfold Cm.bytes Cm.encoded
  rw[if_pos rfl]
  simp[Cm.fenc,Cm.F.num,Cm.Cmd.n,Cm.Cmd.s,Pk.text]
  omega
 have h7:(tail x).length≤100009:=by
  unfold tail
  split
  ·omega
  ·split
   ·unfold Pk.text;rw[List.length_append];omega
   ·simp
 unfold bytes
 rw[List.length_append]
 omega
def olderIn(v:Int)(x:Rec):Int:=if check x≠0 then check x else if(hc x.kind && !Vs.has v x.cmd.kind)=true then 8 else 0
theorem olderIn_one(x:Rec):olderIn 1 x=older x:=rfl
end Re
section
abbrev Recs(w:World)(g:Nat)(x:Re.Rec)(vi:Value):Prop:=Lies w g 42 (Re.cells x vi)
section
variable {w : World} {g : Nat} {x : Re.Rec} {vi : Value}
theorem Recs.c0(h:Recs w g x vi):w.cell? ⟨g,0,none⟩=some (.int .i64 x.kind):=h.cell 0 _ rfl
theorem Recs.c1(h:Recs w g x vi):w.cell? ⟨g,1,none⟩=some (.int .i64 x.bal.round):=h.cell 1 _ rfl
theorem Recs.c2(h:Recs w g x vi):w.cell? ⟨g,2,none⟩=some (.int .i64 x.bal.node):=h.cell 2 _ rfl
theorem Recs.c3(h:Recs w g x vi):w.cell? ⟨g,3,none⟩=some (.int .i64 x.index):=h.cell 3 _ rfl
theorem Recs.c4(h:Recs w g x vi):w.cell? ⟨g,4,none⟩=some (.int .i64 x.cmd.kind):=h.cell 4 _ rfl
theorem Recs.c5(h:Recs w g x vi):w.cell? ⟨g,5,none⟩=some (.int .i64 x.cmd.client):=h.cell 5 _ rfl
theorem Recs.c6(h:Recs w g x vi):w.cell? ⟨g,6,none⟩=some (.int .i64 x.cmd.seq):=h.cell 6 _ rfl
theorem Recs.c7(h:Recs w g x vi):w.cell? ⟨g,7,none⟩=some (.string ⟨x.cmd.key.toArray⟩):=h.cell 7 _ rfl
theorem Recs.c8(h:Recs w g x vi):w.cell? ⟨g,8,none⟩=some (.string ⟨x.cmd.val.toArray⟩):=h.cell 8 _ rfl
theorem Recs.c9(h:Recs w g x vi):w.cell? ⟨g,9,none⟩=some (.string ⟨x.cmd.old.toArray⟩):=h.cell 9 _ rfl
theorem Recs.c10(h:Recs w g x vi):w.cell? ⟨g,10,none⟩=some (.int .i64 x.cmd.node):=h.cell 10 _ rfl
theorem Recs.c11(h:Recs w g x vi):w.cell? ⟨g,11,none⟩=some vi:=h.cell 11 _ rfl
theorem Recs.all(h:Recs w g x vi):w.cell? ⟨g,0,none⟩=some (.int .i64 x.kind)∧w.cell? ⟨g,1,none⟩=some (.int .i64 x.bal.round)∧w.cell? ⟨g,2,none⟩=some (.int .i64 x.bal.node)∧w.cell? ⟨g,3,none⟩=some (.int .i64 x.index)∧w.cell? ⟨g,4,none⟩=some (.int .i64 x.cmd.kind)∧w.cell? ⟨g,5,none⟩=some (.int .i64 x.cmd.client)∧w.cell? ⟨g,6,none⟩=some (.int .i64 x.cmd.seq)∧w.cell? ⟨g,7,none⟩=some (.string ⟨x.cmd.key.toArray⟩)∧w.cell? ⟨g,8,none⟩=some (.string ⟨x.cmd.val.toArray⟩)∧w.cell? ⟨g,9,none⟩=some (.string ⟨x.cmd.old.toArray⟩)∧w.cell? ⟨g,10,none⟩=some (.int .i64 x.cmd.node)∧w.cell? ⟨g,11,none⟩=some vi :=
 ⟨h.c0,h.c1,h.c2,h.c3,h.c4,h.c5,h.c6,h.c7,h.c8,h.c9,h.c10,h.c11⟩
theorem Recs.num(h:Recs w g x vi)(k:Nat)(hk:k<4):w.cell? ⟨g,k,none⟩=some (.int .i64 (Ms.nth (Re.nums x) k)):=by
 have:k=0∨k=1∨k=2∨k=3:=by omega
 rcases this with rfl | rfl | rfl | rfl<;>exact h.cell _ _ rfl
end
theorem box_rec(w:World)(x:Re.Rec)(vi:Value) : ∃w1,w.alloc (.cells (Re.cells x vi) 42)=w1∧Recs w1 w.heap.size x vi∧Below w.heap.size w w1∧w1.heap.size=w.heap.size+1 :=
 ⟨_,rfl,Lies.new w _ _,(Below.refl _ w).alloc (Nat.le_refl _) _,by simp⟩
theorem box_recs(w:World)(x:Re.Rec)(vi:Value)(x' : Re.Rec)(vi' : Value) : ∃w1,(w.alloc (.cells (Re.cells x vi) 42)).alloc (.cells (Re.cells x' vi') 42)=w1∧Recs w1 w.heap.size x vi∧Recs w1 (w.heap.size+1) x' vi' ∧ Below w.heap.size w w1∧w1.heap.size=w.heap.size+2:=by
 refine⟨_,rfl,(Lies.new w _ _).alloc _, ?_,((Below.refl _ w).alloc (Nat.le_refl _) _).alloc (by simp) _,by simp⟩
 have:=Lies.new (w.alloc (.cells (Re.cells x vi) 42)) 42 (Re.cells x' vi')
 simpa using this
theorem Re.cells_one(x:Re.Rec){vi:Value}(h:vi.oneCell' = true):(Re.cells x vi).all (·.oneCell')=true:=by
 have hi : ∀x:Int,(Value.int .i64 x).oneCell' = true:=fun _=>rfl
 have hs : ∀s:ByteArray,(Value.string s).oneCell' = true:=fun _=>rfl
 simp[Re.cells,hi,hs,h]
theorem run_rec(w:World)(g:Nat)(x:Re.Rec)(vi:Value)(h:Recs w g x vi):(loadVar 42 ⟨g,0,none⟩).run Tryz.prog w = .ok (.agg (Re.cells x vi)) w :=
 run_loadVar_row w g _ _ (Re.cells x vi) (0,0) _ h Tryz.underlying42 rfl (by kernel_rfl)
theorem ret_rec1{fn:Func}{R:Ending→World→Prop}{a:Act}{w:World}{p:Tmp}{g:Nat}{x:Re.Rec}{vi:Value}(h:fn.results = #[.cell p 42])(hp:a.tmps.getD p undef = .pointer (some ⟨g,0,none⟩))
 (hl:Recs w g x vi) (hd:a.defers = []) (hR:R (.returned (.agg (Re.cells x vi))) w):bodyPost Tryz.prog fn R .ret a w:=by
 refine bodyPost_ret ?_ hd hR
 rw[results_one h,hp]
 simp[asAddr,Result.andThen,run_rec w g x vi hl]
theorem ret_rec2{fn:Func}{R:Ending→World→Prop}{a:Act}{w:World}{p u:Tmp}{g:Nat}{x:Re.Rec}{vi:Value}(h:fn.results = #[.cell p 42, .tmp u])(hp:a.tmps.getD p undef = .pointer (some ⟨g,0,none⟩))
 (hl:Recs w g x vi) (hd:a.defers = []) (hR:R (.returned (.tuple #[.agg (Re.cells x vi),a.tmps.getD u undef])) w):bodyPost Tryz.prog fn R .ret a w:=by
 refine bodyPost_ret ?_ hd hR
 rw[results_two h,hp]
 simp[asAddr,Result.andThen,run_rec w g x vi hl]
theorem store_rec{ops:Array Oper}{rest:List Oper}{op:Oper}{a:Act}{w:World}{Q:Exit→Act→World→Prop}(hgd:op.guard=none)(x y:Operand)(ho:op.op = .store 42 x y)
 (g:Nat) (r0:Re.Rec) (vi0:Value) (r:Re.Rec) (vi:Value) (hx:a.eval x = .pointer (some ⟨g,0,none⟩)) (hy:a.eval y = .agg (Re.cells r vi)) (hi:vi.oneCell' = true) (hl:Recs w g r0 vi0)
 (h : ∀w', Recs w' g r vi→w.grownBy w' (some g)→wpList Tryz.prog ops Q rest (a.put op.dst undef) w'):wpList Tryz.prog ops Q (op :: rest) a w :=
 store_part hgd _ x y ho g 0 _ _ (Re.cells r vi) (.agg (Re.cells r vi)) (Re.cells r vi).toList hx hy rfl (by kernel_rfl) (by rw[Array.all_toList];exact Re.cells_one r hi) hl (Nat.le_refl 12) (by simp[Re.cells]) h
theorem load_rec{ops:Array Oper}{rest:List Oper}{op:Oper}{a:Act}{w:World}{Q:Exit→Act→World→Prop}(hgd:op.guard=none)(x:Operand)(ho:op.op = .load 42 x)
 (g:Nat) (r:Re.Rec) (vi:Value) (hx:a.eval x = .pointer (some ⟨g,0,none⟩)) (hl:Recs w g r vi)
 (h:wpList Tryz.prog ops Q rest (a.put op.dst (.agg (Re.cells r vi))) w):wpList Tryz.prog ops Q (op :: rest) a w :=
 wpList_load_mid hgd _ x ho g 0 hx (Re.cells r vi).toList _ (fun j v hv=>by rw[Nat.zero_add];exact hl.cell j v (by simpa using hv)) Tryz.underlying42 rfl (by kernel_rfl) h
theorem Re.cells_no8(r:Re.Rec)(io:Option Addr)(ik ic:Nat)(c:Int) : ∀k:Nat,(Re.cells r (.slice io ik ic))[k]? ≠ some (Value.int .u8 c)
 | 0=>by simp[Re.cells]
 | 1=>by simp[Re.cells]
 | 2=>by simp[Re.cells]
 | 3=>by simp[Re.cells]
 | 4=>by simp[Re.cells]
 | 5=>by simp[Re.cells]
 | 6=>by simp[Re.cells]
 | 7=>by simp[Re.cells]
 | 8=>by simp[Re.cells]
 | 9=>by simp[Re.cells]
 | 10=>by simp[Re.cells]
 | 11=>by simp[Re.cells]
 | k+12=>by simp[Re.cells]
theorem Reads.kept_rec{w w' : World}{b:Nat}{v:Value}{l:List UInt8}{r:Re.Rec}{io:Option Addr}{ik ic:Nat}(h:Reads w v l)(hl:Recs w b r (.slice io ik ic))(hg:w.grownBy w' (some b)):Reads w' v l :=
 h.kept_of hl (fun j x=>Re.cells_no8 r io ik ic x j) hg
end
theorem reBal_any(b:Bl.Bal)(w:World):Calls Tryz.prog 165 #[.agg (Bl.cells b)] w (Looks w (.int .i64 (if Ms.owned b=true then 0 else 6))):=by
 obtain⟨w1,e1,hl1,hB1,hz1⟩:=box_bal w b
 obtain⟨p0,p1⟩:=Bals.both hl1
 have HL1:=Lib.hid hl1;have HB1:=Lib.hid hB1
 obtain⟨r,hr⟩ : ∃r:Int,r=if Ms.owned b=true then 0 else 6:=⟨_,rfl⟩
 rw[← hr]
 unfold Ms.owned at hr
 have hmay:=bmay_any b w1
 obtain⟨t,ht⟩ : ∃t,t=Bl.may b:=⟨_,rfl⟩
 rw[← ht]at hr hmay
 have hg:=guard_bal
 have heq:=fun W=>run_eql_bal W b Bl.zero
 obtain⟨z,hz⟩ : ∃z,z=decide (b=Bl.zero):=⟨_,rfl⟩
 rw[← hz]at heq
 rw[show decide (b≠Bl.zero) = !z by rw[hz,decide_not]]at hr
 dsimp only [Bl.cells,Bl.zero]at heq
 clear hl1 hB1 hz1 ht hz
 cases t with
 | false =>
  have HR:Hid (r=6):=hr
  clear hr
  go_enter Tryz.func165,Tryz.ntmps165
  go_wp2_with fail
  refine hmay.mono ?_
  rintro e w2 ⟨rfl,hB2⟩
  go_wp2
  go_ret
  exact⟨by rw[HR.out];rfl,HB1.out.trans (hB2.mono HB1.out.size)⟩
 | true =>
  cases z with
  | false =>
   have HR:Hid (r=0):=hr
   clear hr
   go_enter Tryz.func165,Tryz.ntmps165
   go_wp2_with fail
   refine hmay.mono ?_
   rintro e w2 ⟨rfl,hB2⟩
   obtain⟨q0,q1⟩:=Bals.both (HL1.out.below hB2 HL1.out.lt)
   have HB2:=Lib.hid (HB1.out.trans (hB2.mono HB1.out.size))
   clear hB2 p0 p1
   go_wp2
   go_ret
   exact⟨by rw[HR.out];rfl,HB2.out⟩
  | true =>
   have HR:Hid (r=6):=hr
   clear hr
   go_enter Tryz.func165,Tryz.ntmps165
   go_wp2_with fail
   refine hmay.mono ?_
   rintro e w2 ⟨rfl,hB2⟩
   obtain⟨q0,q1⟩:=Bals.both (HL1.out.below hB2 HL1.out.lt)
   have HB2:=Lib.hid (HB1.out.trans (hB2.mono HB1.out.size))
   clear hB2 p0 p1
   go_wp2
   go_ret
   exact⟨by rw[HR.out];rfl,HB2.out⟩
theorem reIndex_any(n:Int)(w:World):Calls Tryz.prog 166 #[.int .i64 n] w (Says w (.int .i64 (if Ms.within n 1 4294967296=true then 0 else 6))):=by
 obtain⟨r,hr⟩ : ∃r:Int,r=if Ms.within n 1 4294967296=true then 0 else 6:=⟨_,rfl⟩
 rw[← hr]
 unfold Ms.within at hr
 by_cases h1:n<1
 ·have HR:Hid (r=6):=by show _=_;rw[hr,decide_eq_false (show ¬ 1≤n by omega)];rfl
  clear hr
  go_enter Tryz.func166,Tryz.ntmps166
  go_wp2
  go_ret
  exact⟨by rw[HR.out];rfl,rfl⟩
 ·rw[decide_eq_true (show 1≤n by omega)]at hr
  by_cases h2:4294967296<n
  ·have HR:Hid (r=6):=by show _=_;rw[hr,decide_eq_false (show ¬n≤4294967296 by omega)];rfl
   clear hr
   go_enter Tryz.func166,Tryz.ntmps166
   go_wp2
   go_ret
   exact⟨by rw[HR.out];rfl,rfl⟩
  ·have HR:Hid (r=0):=by show _=_;rw[hr,decide_eq_true (show n≤4294967296 by omega)];rfl
   clear hr
   go_enter Tryz.func166,Tryz.ntmps166
   go_wp2
   go_ret
   exact⟨by rw[HR.out];rfl,rfl⟩
theorem reImage_any(u:Value)(l:List UInt8)(w:World)(hu:Reads w u l):Calls Tryz.prog 168 #[u] w (Says w (.int .i64 (if decide (32768<l.length)=true then 2 else 0))):=by
 obtain⟨ao,cap,rfl⟩:=hu.shape
 have hlen:=hu.len
 obtain⟨n,hn⟩ : ∃n,n=l.length:=⟨_,rfl⟩
 rw[← hn]at hlen ⊢
 have hnb:n≤9223372036854775807:=by omega
 clear hu hn hlen
 by_cases h:32768<n
 ·rw[decide_eq_true h,if_pos rfl]
  have d:decide ((32768:Int)<(n:Int))=true:=by simp;omega
  clear h
  go_enter Tryz.func168,Tryz.ntmps168
  go_wp2
  go_ret
  exact⟨rfl,rfl⟩
 ·rw[decide_eq_false h,if_neg (by simp)]
  have d:decide ((32768:Int)<(n:Int))=false:=by simp;omega
  clear h
  go_enter Tryz.func168,Tryz.ntmps168
  go_wp2
  go_ret
  exact⟨rfl,rfl⟩
theorem Re.ext_iff(a b:Re.Rec):a=b↔a.kind=b.kind∧a.bal=b.bal∧a.index=b.index∧a.cmd=b.cmd∧a.img=b.img:=by
 obtain⟨k,b1,i,c,m⟩:=a
 obtain⟨k', b1', i', c', m'⟩:=b
 simp only[Re.Rec.mk.injEq]
theorem sameRe_any(m m' : Re.Rec)(vi vi' : Value)(w:World)(hi:Reads w vi m.img)(hi' : Reads w vi' m'.img) :
 Calls Tryz.prog 141 #[.agg (Re.cells m vi), .agg (Re.cells m' vi')] w (Looks w (.bool (decide (m=m')))):=by
 obtain⟨w1,e1,hl1,hk1,hB1,hz1⟩:=box_recs w m vi m' vi'
 obtain⟨p0,p1,p2,p3,p4,p5,p6,p7,p8,p9,p10,p11⟩:=Recs.all hl1
 obtain⟨q0,q1,q2,q3,q4,q5,q6,q7,q8,q9,q10,q11⟩:=Recs.all hk1
 have HCI:=Lib.hid (equalB_any vi vi' m.img m'.img w1 (hi.below hB1) (hi'.below hB1))
 have HB:=Lib.hid hB1
 have hgb:=guard_bal
 have hgc:=guard_cmd
 have heb:=fun W=>run_eql_bal W m.bal m'.bal
 have hec:=fun W=>run_eql_cmd W m.cmd m'.cmd
 obtain⟨r,hr⟩ : ∃r,r=decide (m=m'):=⟨_,rfl⟩
 rw[← hr]
 have HR:=Lib.hid hr
 have HE:=Lib.hid (Re.ext_iff m m')
 obtain⟨z,hz⟩ : ∃z,z=decide (m.bal=m'.bal):=⟨_,rfl⟩
 rw[← hz]at heb
 obtain⟨y,hy⟩ : ∃y,y=decide (m.cmd=m'.cmd):=⟨_,rfl⟩
 rw[← hy]at hec
 have HZZ:=Lib.hid hz;have HYY:=Lib.hid hy
 dsimp only [Bl.cells]at heb
 dsimp only [Cm.cells]at hec
 clear hl1 hk1 hB1 hz1 hi hi' hr hz hy
 by_cases h0:m.kind=m'.kind
 rotate_left
 ·have d0:(m.kind == m'.kind)=false:=by simpa using h0
  have HZ:Hid (r=false):=HR.out.trans (decide_eq_false fun h=>h0 ((HE.out.1 h).1))
  clear h0
  go_enter Tryz.func141,Tryz.ntmps141
  go_wp2
  go_ret
  exact⟨by rw[HZ.out];rfl,HB.out⟩
 have d0:(m.kind == m'.kind)=true:=by simpa using h0
 have H0:=Lib.hid h0
 clear h0
 cases z with
 | false =>
  have HZ:Hid (r=false):=HR.out.trans (decide_eq_false fun h=>of_decide_eq_false HZZ.out.symm ((HE.out.1 h).2.1))
  go_enter Tryz.func141,Tryz.ntmps141
  go_wp2
  go_ret
  exact⟨by rw[HZ.out];rfl,HB.out⟩
 | true =>
  have H1:=Lib.hid (of_decide_eq_true HZZ.out.symm)
  by_cases h2:m.index=m'.index
  rotate_left
  ·have d2:(m.index == m'.index)=false:=by simpa using h2
   have HZ:Hid (r=false):=HR.out.trans (decide_eq_false fun h=>h2 ((HE.out.1 h).2.2.1))
   clear h2
   go_enter Tryz.func141,Tryz.ntmps141
   go_wp2
   go_ret
   exact⟨by rw[HZ.out];rfl,HB.out⟩
  have d2:(m.index == m'.index)=true:=by simpa using h2
  have H2:=Lib.hid h2
  clear h2
  cases y with
  | false =>
   have HZ:Hid (r=false):=HR.out.trans (decide_eq_false fun h=>of_decide_eq_false HYY.out.symm ((HE.out.1 h).2.2.2.1))
   go_enter Tryz.func141,Tryz.ntmps141
   go_wp2
   go_ret
   exact⟨by rw[HZ.out];rfl,HB.out⟩
  | true =>
   have H3:=Lib.hid (of_decide_eq_true HYY.out.symm)
   have HZ:Hid (r=(m.img == m'.img)):=by
    show _=_
    rw[HR.out]
    cases hx:m.img == m'.img with
    | false=>exact decide_eq_false fun h=>by rw[(HE.out.1 h).2.2.2.2]at hx;simp at hx
    | true=>exact decide_eq_true (HE.out.2 ⟨H0.out,H1.out,H2.out,H3.out,by simpa using hx⟩)
   obtain⟨x,hx⟩ : ∃x,x=(m.img == m'.img):=⟨_,rfl⟩
   rw[← hx]at HZ HCI
   clear hx
   go_enter Tryz.func141,Tryz.ntmps141
   go_wp2_with fail
   refine HCI.out.mono ?_
   rintro e w5 ⟨rfl,hB5⟩
   go_wp2
   go_ret
   exact⟨by rw[HZ.out];rfl,HB.out.trans (hB5.mono HB.out.size)⟩
end Go.Proofs.YtdkdjofnnnljjaaGreatDoor
