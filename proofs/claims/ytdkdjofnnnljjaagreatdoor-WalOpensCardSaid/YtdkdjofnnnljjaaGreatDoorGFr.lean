/- Several texts of mine in one: CrcMath CrcU32 CrcChg FrmMath. -/
import Derived.WalkKit
import Derived.Laws.Bits64
import Derived.Test.YtdkdjofnnnljjaaGreatDoorPPkMath
namespace Go.Proofs.YtdkdjofnnnljjaaGreatDoor
open Go.RowKit
namespace Crc
abbrev R := BitVec 32
def poly : R:=0xedb88320
def step(r:R):R:=(r >>> 1) ^^^ (if r.getLsbD 0 then poly else 0#32)
def steps : Nat→R→R
 | 0,r=>r
 | n+1,r=>steps n (step r)
def wide(c:UInt8):R:=BitVec.ofNat 32 c.toNat
def upd(r:R)(c:UInt8):R:=steps 8 (r ^^^ wide c)
def run(r:R)(l:List UInt8):R:=l.foldl upd r
def sum(l:List UInt8):R := ~~~ (run (~~~ 0#32) l)
theorem run_app(r:R)(l m:List UInt8):run r (l++m)=run (run r l) m:=by simp[run]
theorem step_xor(a b:R):step (a ^^^ b)=step a ^^^ step b:=by
 unfold step
 rw[BitVec.ushiftRight_xor_distrib,BitVec.getLsbD_xor]
 cases a.getLsbD 0<;>cases b.getLsbD 0<;>simp
 ·rw[BitVec.xor_assoc]
 ·rw[BitVec.xor_assoc,BitVec.xor_comm (b >>> 1),BitVec.xor_assoc]
 ·rw[BitVec.xor_assoc,BitVec.xor_comm poly,BitVec.xor_assoc,BitVec.xor_self,BitVec.xor_zero]
theorem steps_xor(n:Nat) : ∀a b:R,steps n (a ^^^ b)=steps n a ^^^ steps n b:=by
 induction n with
 | zero=>intro a b;rfl
 | succ n ih=>intro a b;show steps n (step (a ^^^ b))=_;rw[step_xor,ih];rfl
theorem step_zero{a:R}(h:step a=0#32):a=0#32:=by
 unfold step at h
 cases hb:a.getLsbD 0 with
 | true =>
  rw[hb]at h
  exfalso
  have h31:=congrArg (fun x:R=>x.getLsbD 31) h
  simp[poly]at h31
 | false =>
  rw[hb]at h
  simp only[Bool.false_eq_true,if_false,BitVec.xor_zero]at h
  apply BitVec.eq_of_getLsbD_eq
  intro i hi
  match i,hi with
  | 0,_=>simpa using hb
  | i+1,hi =>
   have:=congrArg (fun x:R=>x.getLsbD i) h
   simpa[BitVec.getLsbD_ushiftRight,Nat.add_comm] using this
theorem steps_inj0(n:Nat) : ∀a:R,steps n a=0#32→a=0#32:=by
 induction n with
 | zero=>intro a h;exact h
 | succ n ih=>intro a h;exact step_zero (ih _ h)
theorem xor_eq_zero{a b:R}(h:a ^^^ b=0#32):a=b:=by
 have:=congrArg (fun x=>x ^^^ b) h
 simpa[BitVec.xor_assoc] using this
theorem steps_inj{n:Nat}{a b:R}(h:steps n a=steps n b):a=b:=by
 apply xor_eq_zero
 apply steps_inj0 n
 rw[steps_xor,h,BitVec.xor_self]
theorem step_even(v:R)(h:v.toNat<2 ^ 31):step (v <<< 1)=v:=by
 unfold step
 have h0:(v <<< 1).getLsbD 0=false:=by simp
 rw[h0]
 simp only[Bool.false_eq_true,if_false,BitVec.xor_zero]
 apply BitVec.eq_of_toNat_eq
 rw[BitVec.toNat_ushiftRight,BitVec.toNat_shiftLeft,Nat.shiftLeft_eq,Nat.shiftRight_eq_div_pow]
 omega
theorem steps_even(n:Nat) : ∀v:R,v.toNat<2 ^ (32 - n)→n≤32→steps n (v <<< n)=v:=by
 induction n with
 | zero=>intro v _ _;simp[steps]
 | succ n ih =>
  intro v h hn
  show steps n (step (v <<< (n+1)))=v
  have e:v <<< (n+1)=(v <<< n) <<< 1:=by rw[BitVec.shiftLeft_add]
  have hv:(v <<< n).toNat<2 ^ 31:=by
   rw[BitVec.toNat_shiftLeft,Nat.shiftLeft_eq]
   have h1:v.toNat*2 ^ n<2 ^ (32 - (n+1))*2 ^ n:=Nat.mul_lt_mul_of_pos_right h (Nat.two_pow_pos n)
   rw[← Nat.pow_add,show 32 - (n+1)+n=31 by omega]at h1
   rw[Nat.mod_eq_of_lt (by omega)]
   exact h1
  rw[e,step_even _ hv]
  refine ih v (Nat.lt_of_lt_of_le h (Nat.pow_le_pow_right (by omega) (by omega))) (by omega)
theorem wide_lt(c:UInt8):(wide c).toNat<2 ^ 8:=by
 have:=c.toNat_lt
 simp[wide];omega
theorem back{a v:R}(h:steps 8 a=v)(hv:v.toNat<2 ^ 24):a=v <<< 8:=by
 apply steps_inj (n:=8)
 rw[h,steps_even 8 v (by simpa using hv) (by omega)]
theorem wide_zero{c:UInt8}(h:wide c=0#32):c=0:=by
 have:=congrArg BitVec.toNat h
 have hc:=c.toNat_lt
 simp[wide]at this
 apply UInt8.toNat_inj.1
 simp;omega
theorem shl8{d:R}(hd:d.toNat<2 ^ 24):(d <<< 8).toNat=d.toNat*256:=by
 rw[BitVec.toNat_shiftLeft,Nat.shiftLeft_eq];omega
theorem shl_eq_wide{d:R}{c:UInt8}(h:d <<< 8=wide c)(hd:d.toNat<2 ^ 24):d=0#32∧c=0:=by
 have h1:=congrArg BitVec.toNat h
 rw[shl8 hd]at h1
 have h2:=wide_lt c
 have h3:d.toNat=0:=by omega
 have h4:d=0#32:=BitVec.eq_of_toNat_eq (by simpa using h3)
 refine⟨h4,wide_zero ?_⟩
 rw[← h,h4];simp
theorem xor_swap{a b c:R}(h:a ^^^ b=c):a=c ^^^ b:=by
 rw[← h,BitVec.xor_assoc,BitVec.xor_self,BitVec.xor_zero]
theorem xor_small{a b:R}{n:Nat}(ha:a.toNat<2 ^ n)(hb:b.toNat<2 ^ n):(a ^^^ b).toNat<2 ^ n:=by
 rw[BitVec.toNat_xor];exact Nat.xor_lt_two_pow ha hb
theorem four(x0 x1 x2 x3:UInt8)(h:run 0#32 [x0,x1,x2,x3]=0#32):x0=0∧x1=0∧x2=0∧x3=0:=by
 obtain⟨d1,h1⟩ : ∃d,upd 0#32 x0=d:=⟨_,rfl⟩
 obtain⟨d2,h2⟩ : ∃d,upd d1 x1=d:=⟨_,rfl⟩
 obtain⟨d3,h3⟩ : ∃d,upd d2 x2=d:=⟨_,rfl⟩
 have h4:upd d3 x3=0#32:=by rw[← h3, ← h2, ← h1];exact h
 unfold upd at h1 h2 h3 h4
 have w0:=wide_lt x0
 have w1:=wide_lt x1
 have w2:=wide_lt x2
 have w3:=wide_lt x3
 have e3:d3=wide x3:=xor_eq_zero (steps_inj0 8 _ h4)
 have b3:d3.toNat<2 ^ 8:=by rw[e3];exact w3
 have e2:=xor_swap (back h3 (by omega))
 have b2:d2.toNat<2 ^ 16:=by rw[e2];exact xor_small (by rw[shl8 (by omega)];omega) (by omega)
 have e1:=xor_swap (back h2 (by omega))
 have b1:d1.toNat<2 ^ 24:=by rw[e1];exact xor_small (by rw[shl8 (by omega)];omega) (by omega)
 have e0:=back h1 b1
 rw[BitVec.zero_xor]at e0
 obtain⟨z1,y0⟩:=shl_eq_wide e0.symm b1
 have f1:=e1.symm.trans z1
 have g1:=xor_eq_zero f1
 obtain⟨z2,y1⟩:=shl_eq_wide g1 (by omega)
 have g2:=xor_eq_zero (e2.symm.trans z2)
 obtain⟨z3,y2⟩:=shl_eq_wide g2 (by omega)
 exact⟨y0,y1,y2,wide_zero (by rw[← e3,z3])⟩
theorem split4(r:R):r=((r >>> 4) <<< 4) ^^^ (r &&& 15#32):=by
 apply BitVec.eq_of_getLsbD_eq
 intro i hi
 by_cases h:i<4
 ·match i,h with
  | 0,_=>simp
  | 1,_=>simp
  | 2,_=>simp
  | 3,_=>simp
 ·have h15:(15#32).getLsbD i=false:=by
   rw[BitVec.getLsbD_ofNat]
   simp only[hi,decide_true,Bool.true_and]
   exact Nat.testBit_lt_two_pow (Nat.lt_of_lt_of_le (show 15<2 ^ 4 by omega) (Nat.pow_le_pow_right (by omega) (by omega)))
  simp only[BitVec.getLsbD_xor,BitVec.getLsbD_and,h15,Bool.and_false,Bool.xor_false,BitVec.getLsbD_shiftLeft,BitVec.getLsbD_ushiftRight,hi,h]
  simp[show 4+(i - 4)=i by omega]
theorem nibble(r:R):steps 4 r=(r >>> 4) ^^^ steps 4 (r &&& 15#32):=by
 conv=>lhs;rw[split4 r]
 rw[steps_xor,steps_even 4 (r >>> 4) _ (by omega)]
 rw[BitVec.toNat_ushiftRight,Nat.shiftRight_eq_div_pow]
 have:=r.isLt
 omega
theorem steps_add(n m:Nat) : ∀r:R,steps (n+m) r=steps m (steps n r):=by
 induction n with
 | zero=>intro r;rw[Nat.zero_add];rfl
 | succ n ih=>intro r;rw[Nat.succ_add];exact ih (step r)
end Crc
namespace Crc
theorem bits_xor_u32(a b:R):bits .xor .u32 (a.toNat:Int) (b.toNat:Int)=((a ^^^ b).toNat:Int):=by
 have h1 : ∀c:R,BitVec.ofInt 32 (c.toNat:Int)=c:=by
  intro c;rw[BitVec.ofInt_natCast];simp
 show IntKind.u32.wrap ((BitVec.ofInt 32 (a.toNat:Int) ^^^ BitVec.ofInt 32 (b.toNat:Int)).toNat:Int)=_
 rw[h1,h1,IntKind.wrap_u32]
 have:=(a ^^^ b).isLt
 omega
theorem bits_and_u32(a b:R):bits .and .u32 (a.toNat:Int) (b.toNat:Int)=((a &&& b).toNat:Int):=by
 have h1 : ∀c:R,BitVec.ofInt 32 (c.toNat:Int)=c:=by
  intro c;rw[BitVec.ofInt_natCast];simp
 show IntKind.u32.wrap ((BitVec.ofInt 32 (a.toNat:Int) &&& BitVec.ofInt 32 (b.toNat:Int)).toNat:Int)=_
 rw[h1,h1,IntKind.wrap_u32]
 have:=(a &&& b).isLt
 omega
def tab : List Int := [0,498536548,997073096,651767980,1994146192,1802195444,1303535960,1342533948,3988292384,4027552580,3604390888,3412177804,2607071920,2262029012,2685067896,3183342108]
theorem tab_is(i:Nat)(h:i<16):tab.getD i 0=((steps 4 (BitVec.ofNat 32 i)).toNat:Int):=by
 have : ∀i:Fin 16,tab.getD i.1 0=((steps 4 (BitVec.ofNat 32 i.1)).toNat:Int):=by decide
 exact this ⟨i,h⟩
theorem four_bits(r:R) : ∃j:Nat,j<16∧bits .and .u32 (r.toNat:Int) 15=(j:Int) ∧ ∃t:Nat,t<4294967296∧tab.getD j 0=(t:Int)∧bits .xor .u32 ((r.toNat:Int) / 16) (t:Int)=((steps 4 r).toNat:Int):=by
 have hlt:(r &&& 15#32).toNat<16:=by
  rw[BitVec.toNat_and];exact Nat.lt_of_le_of_lt Nat.and_le_right (by decide)
 refine⟨(r &&& 15#32).toNat,hlt,bits_and_u32 r 15#32,(steps 4 (r &&& 15#32)).toNat,(steps 4 (r &&& 15#32)).isLt, ?_, ?_⟩
 ·rw[tab_is _ hlt];simp
 ·have e:(r.toNat:Int) / (16:Int)=((r >>> 4).toNat:Int):=by
   rw[BitVec.toNat_ushiftRight,Nat.shiftRight_eq_div_pow];omega
  rw[e,bits_xor_u32, ← nibble]
theorem byte_in(r:R)(c:UInt8):bits .xor .u32 (r.toNat:Int) (c.toNat:Int)=((r ^^^ wide c).toNat:Int):=by
 rw[← bits_xor_u32]
 have:=c.toNat_lt
 rw[show((wide c).toNat:Int)=(c.toNat:Int) by simp[wide]]
theorem upd_eight(r:R)(c:UInt8):upd r c=steps 4 (steps 4 (r ^^^ wide c)):=by
 unfold upd;exact steps_add 4 4 _
theorem not_is(r:R):bits .xor .u32 IntKind.u32.max (r.toNat:Int)=((~~~ r).toNat:Int):=by
 have:=bits_xor_u32 (~~~ 0#32) r
 have e:(~~~ 0#32) ^^^ r = ~~~ r:=by
  rw[← BitVec.not_xor_left,BitVec.zero_xor]
 rw[e]at this
 exact this
theorem run_take(r:R)(l:List UInt8)(k:Nat)(h:k<l.length):run r (l.take (k+1))=upd (run r (l.take k)) l[k]:=by
 rw[List.take_succ_eq_append_getElem h,run_app];rfl
def add(s:R)(l:List UInt8):R := ~~~ (run (~~~ s) l)
end Crc
namespace Crc
structure Chg(l cur:List UInt8)(p k:Nat)(xs:List UInt8)(o:Bool):Prop where
 len:cur.length=l.length
 out : ∀j,j<p∨p+k≤j→cur[j]? = l[j]?
 inn : ∀j,j<k→cur[p+j]? = (l[p+j]?).map (· ^^^ xs.getD j 0)
 any:o=(xs.take k).any (· != 0)
theorem Chg.zero(l:List UInt8)(p:Nat)(xs:List UInt8):Chg l l p 0 xs false:=⟨rfl,fun _ _=>rfl,fun _ h=>absurd h (by omega),by simp⟩
theorem Chg.at{l cur:List UInt8}{p k:Nat}{xs:List UInt8}{o:Bool}(h:Chg l cur p k xs o):cur[p+k]? = l[p+k]? := h.out _ (.inr (Nat.le_refl _))
theorem Chg.next{l cur:List UInt8}{p k:Nat}{xs:List UInt8}{o:Bool}{c x:UInt8}(h:Chg l cur p k xs o)(hk:k<xs.length)(hc:cur[p+k]? = some c)(hx:x=xs.getD k 0):Chg l (cur.set (p+k) (c ^^^ x)) p (k+1) xs (o || x != 0):=by
 refine⟨by simp[h.len],fun j hj => ?_,fun j hj => ?_, ?_⟩
 ·rw[List.getElem?_set_ne (by omega)];exact h.out j (by omega)
 ·by_cases e:j=k
  ·subst e
   rw[List.getElem?_set_self (by have:=(List.getElem?_eq_some_iff.1 hc).1;exact this), ← h.at,hc, ← hx];rfl
  ·rw[List.getElem?_set_ne (by omega)];exact h.inn j (by omega)
 ·rw[List.take_succ_eq_append_getElem hk,List.any_append, ← h.any,hx]
  simp[List.getD,List.getElem?_eq_getElem hk]
end Crc
theorem getv_cut : ∀(n k acc j:Nat),k+(enc n).length≤9→(0<k→0<n)→j<(enc n).length→getv k acc ((enc n).take j)=(0,0,1):=by
 intro n
 induction n using Nat.strongRecOn with
 | ind n ih =>
  intro k acc j h9 h0 hj
  by_cases h:n<128
  ·rw[enc_lt h]at hj ⊢
   simp at hj
   subst hj
   rfl
  ·rw[enc_ge (by omega)]at h9 hj ⊢
   simp at h9 hj
   cases j with
   | zero=>rfl
   | succ j =>
    simp only[List.take_succ_cons]
    have e:=high n
    unfold getv
    rw[if_neg (by omega),if_neg (by omega)]
    exact ih (n / 128) (by omega) _ _ _ (by omega) (by omega) (by omega)
namespace Frm
def le(s:Nat):List UInt8 := [UInt8.ofNat s,UInt8.ofNat (s / 256),UInt8.ofNat (s / 65536),UInt8.ofNat (s / 16777216)]
def tail(l:List UInt8):List UInt8:=le (Crc.sum l).toNat
theorem tail_len(l:List UInt8):(tail l).length=4:=rfl
def frame(l:List UInt8):List UInt8:=enc l.length++l++tail l
theorem frame_len(l:List UInt8):(frame l).length=(enc l.length).length+l.length+4:=by simp[frame,tail_len];omega
def next(l:List UInt8)(pl:Int):List UInt8 × Int × Int :=
 if(getp l pl).2.2≠0 then ([],0,(getp l pl).2.2)
 else if(getp l pl).1<1 then ([],0,3)
 else if 65536<(getp l pl).1 then ([],0,2)
 else if(l.length:Int) - (getp l pl).2.1<(getp l pl).1+4 then ([],0,1)
 else if(l.drop ((getp l pl).2.1.toNat+(getp l pl).1.toNat)).take 4=tail ((l.drop (getp l pl).2.1.toNat).take (getp l pl).1.toNat)
  then ((l.drop (getp l pl).2.1.toNat).take (getp l pl).1.toNat,(getp l pl).2.1+(getp l pl).1+4,0)
  else ([],0,4)
theorem next_cases(l:List UInt8)(pl:Int) :
 (∃e:Int,e≠0∧getp l pl=(0,0,e)∧next l pl=([],0,e)) ∨
 (∃p n c:Nat,pl=(p:Int)∧p+c≤l.length∧0<c∧n≤9223372036854775807∧getp l pl=((n:Int),((p+c:Nat):Int),0)∧(l.drop p).take c=enc n ∧
   ((n=0∧next l pl=([],0,3))∨(65536<n∧next l pl=([],0,2)) ∨
    (0<n∧n≤65536∧((l.length<p+c+n+4∧next l pl=([],0,1)) ∨
     (p+c+n+4≤l.length ∧
       (((l.drop (p+c+n)).take 4=tail ((l.drop (p+c)).take n)∧next l pl=((l.drop (p+c)).take n,((p+c+n+4:Nat):Int),0)) ∨
        ((l.drop (p+c+n)).take 4≠tail ((l.drop (p+c)).take n)∧next l pl=([],0,4)))))))):=by
 rcases getp_cases l pl with ⟨e,he,hg⟩ | ⟨p,n,c,h1,h2,h3,h4,hg,h5⟩
 ·exact .inl ⟨e,he,hg,by unfold next;rw[hg,if_pos (by simpa using he)]⟩
 ·refine .inr ⟨p,n,c,h1,h2,h3,h4,hg,h5, ?_⟩
  unfold next
  rw[hg]
  simp only[ne_eq,not_true_eq_false,if_false,Int.toNat_natCast]
  by_cases a:n=0
  ·rw[if_pos (by omega)];exact .inl ⟨a,rfl⟩
  rw[if_neg (by omega)]
  by_cases b:65536<n
  ·rw[if_pos (by omega)];exact .inr (.inl ⟨b,rfl⟩)
  rw[if_neg (by omega)]
  refine .inr (.inr ⟨by omega,by omega, ?_⟩)
  by_cases d:l.length<p+c+n+4
  ·rw[if_pos (by omega)];exact .inl ⟨d,rfl⟩
  rw[if_neg (by omega)]
  refine .inr ⟨by omega, ?_⟩
  by_cases f:(l.drop (p+c+n)).take 4=tail ((l.drop (p+c)).take n)
  ·rw[if_pos f];exact .inl ⟨f,by simp⟩
  ·rw[if_neg f];exact .inr ⟨f,rfl⟩
theorem next_ok{l:List UInt8}{a:Nat}{x:List UInt8}{e:Int}(h:next l a=(x,e,0)) : ∃c:Nat,e=(c:Int)∧a+6≤c∧c≤l.length∧0<x.length∧x.length≤65536:=by
 rcases next_cases l a with ⟨e', he,_,hn⟩ | ⟨p,n,c,h1,h2,h3,h4,hg,h5,⟨_,hn⟩ | ⟨_,hn⟩ | ⟨hn0,hn1,⟨_,hn⟩ | ⟨hl,⟨_,hn⟩ | ⟨_,hn⟩⟩⟩⟩
 all_goals rw[h]at hn;simp only[Prod.mk.injEq]at hn
 ·exact absurd hn.2.2.symm he
 ·omega
 ·omega
 ·omega
 ·obtain⟨rfl,rfl,_⟩:=hn
  exact⟨_,rfl,by omega,hl,by simp;omega,by simp;omega⟩
 ·omega
theorem frame_there{l:List UInt8}{p n c:Nat}(h:p+c+n+4≤l.length)(he:(l.drop p).take c=enc n) :
 (frame ((l.drop (p+c)).take n) == (l.drop p).take (c+n+4))=decide ((l.drop (p+c+n)).take 4=tail ((l.drop (p+c)).take n)):=by
 have hn:((l.drop (p+c)).take n).length=n:=by simp;omega
 have e:(l.drop p).take (c+n+4)=enc n++(l.drop (p+c)).take n++(l.drop (p+c+n)).take 4:=by
  rw[← he,List.take_add,List.take_add,List.drop_drop,List.drop_drop,Nat.add_assoc]
 rw[e,Bool.eq_iff_iff,beq_iff_eq,decide_eq_true_iff]
 unfold frame
 rw[hn,List.append_cancel_left_eq]
 exact⟨fun h=>h.symm,fun h=>h.symm⟩
inductive Path(l:List UInt8):Nat→List (List UInt8)→Nat→Prop
 | nil (a:Nat):Path l a [] a
 | cons {a c b:Nat} {x:List UInt8} {t:List (List UInt8)}:next l a=(x,(c:Int),0)→Path l c t b→Path l a (x :: t) b
theorem Path.snoc{l:List UInt8}{a b:Nat}{t:List (List UInt8)}(h:Path l a t b) : ∀ {x:List UInt8} {c:Nat},next l b=(x,(c:Int),0)→Path l a (t ++ [x]) c:=by
 induction h with
 | nil a=>intro x c hn;exact .cons hn (.nil c)
 | cons hn _ ih=>intro x c h'; exact .cons hn (ih h')
theorem Path.bound{l:List UInt8}{a b:Nat}{t:List (List UInt8)}(h:Path l a t b):a+6*t.length≤b∧(t ≠ []→b≤l.length):=by
 induction h with
 | nil a=>simp
 | cons hn hp ih =>
  obtain⟨c', hc,h1,h2,_⟩:=next_ok hn
  have:c' = _:=Int.ofNat.inj hc.symm
  subst this
  refine⟨by simp;omega,fun _ => ?_⟩
  cases hp with
  | nil=>exact h2
  | cons _ _=>exact ih.2 (by simp)
theorem Path.one{l:List UInt8}{a b b' : Nat}{t t' : List (List UInt8)}(h:Path l a t b)(hs:(next l b).2.2≠0)(h' : Path l a t' b')(hs' : (next l b').2.2≠0):t=t' ∧ b=b' := by
 induction h generalizing t' with
 | nil a =>
  cases h' with
  | nil=>exact⟨rfl,rfl⟩
  | cons hn _=>rw[hn]at hs;exact absurd rfl hs
 | cons hn hp ih =>
  cases h' with
  | nil=>rw[hn]at hs'; exact absurd rfl hs'
  | cons hn' hp' =>
   rw[hn]at hn'
   simp only[Prod.mk.injEq,Int.natCast_inj,and_true]at hn'
   obtain⟨rfl,rfl⟩:=hn'
   obtain⟨rfl,rfl⟩:=ih hs hp'
   exact⟨rfl,rfl⟩
theorem next_frame{l post y:List UInt8}{a:Nat}(h:l.drop a=frame y++post)(ha:a≤l.length)(h0:0<y.length)(h1:y.length≤65536):next l a=(y,((a+(frame y).length:Nat):Int),0):=by
 have hg:getv 0 0 (l.drop a)=(y.length,(enc y.length).length,0):=by
  have:=getv_enc (y++tail y++post) y.length 0 0 (by omega) (by have:=enc_nine (n:=y.length) (by omega);omega)
  rw[h];unfold frame
  rw[List.append_assoc,List.append_assoc]
  simpa[List.append_assoc] using this
 have hgp:=getp_ok ha hg
 have hd:=congrArg List.length h
 rw[List.length_append,frame_len,List.length_drop]at hd
 obtain⟨c,hc⟩ : ∃c,c=(enc y.length).length:=⟨_,rfl⟩
 have e1:l.drop (a+c)=y++tail y++post:=by
  rw[← List.drop_drop,h];unfold frame
  rw[List.append_assoc,List.append_assoc,List.drop_append,hc];simp[List.append_assoc]
 have e2:(l.drop (a+c)).take y.length=y:=by rw[e1,List.append_assoc];simp
 have e3:(l.drop (a+c+y.length)).take 4=tail y:=by
  rw[← List.drop_drop,e1,List.append_assoc,List.drop_append]
  simp[← tail_len y]
 unfold next
 rw[hgp]
 simp only[ne_eq,not_true_eq_false,if_false, ← hc]
 rw[if_neg (by omega),if_neg (by omega),if_neg (by omega),show((a:Int)+(c:Int)).toNat=a+c by omega,Int.toNat_natCast,e2,e3,if_pos rfl]
 simp only[Prod.mk.injEq,and_true,true_and]
 rw[frame_len];omega
theorem next_cut{l y:List UInt8}{a k:Nat}(h:l.drop a=(frame y).take k)(ha:a≤l.length)(hk:k<(frame y).length)(h0:0<y.length)(h1:y.length≤65536):(next l a).2.2≠0:=by
 have h9:=enc_nine (n:=y.length) (by omega)
 have hd:=congrArg List.length h
 rw[List.length_drop,List.length_take]at hd
 by_cases hc:k<(enc y.length).length
 ·have hg:getv 0 0 (l.drop a)=(0,0,1):=by
   rw[h];unfold frame
   rw[List.append_assoc,List.take_append_of_le_length (by omega)]
   exact getv_cut _ _ _ _ (by omega) (by omega) hc
  have hgp:=getp_err (e:=1) ha (by omega) hg
  unfold next
  rw[hgp];simp
 ·have hg:getv 0 0 (l.drop a)=(y.length,(enc y.length).length,0):=by
   have:=getv_enc ((y++tail y).take (k - (enc y.length).length)) y.length 0 0 (by omega) (by omega)
   rw[h];unfold frame
   rw[List.append_assoc,List.take_append,List.take_of_length_le (by omega)]
   simpa using this
  have hgp:=getp_ok ha hg
  rw[frame_len]at hk hd
  unfold next
  rw[hgp]
  simp only[ne_eq,not_true_eq_false,if_false]
  rw[if_neg (by omega),if_neg (by omega),if_pos (by omega)]
  simp
def flat(fs:List (List UInt8)):List UInt8:=(fs.map frame).flatten
theorem flat_snoc(fs:List (List UInt8))(x:List UInt8):flat (fs ++ [x])=flat fs++frame x:=by simp[flat]
theorem flat_app(fs gs:List (List UInt8)):flat (fs++gs)=flat fs++flat gs:=by simp[flat]
theorem path_flat(l post:List UInt8) : ∀(fs:List (List UInt8)) (a:Nat),(∀y∈fs,0<y.length∧y.length≤65536)→a≤l.length→l.drop a=flat fs++post→Path l a fs (a+(flat fs).length):=by
 intro fs
 induction fs with
 | nil=>intro a _ _ _;exact .nil a
 | cons y t ih =>
  intro a hy ha h
  obtain⟨h0,h1⟩:=hy y (by simp)
  have h' : l.drop a=frame y++(flat t++post):=by rw[h];simp[flat]
  have hd:=congrArg List.length h'
  rw[List.length_append,List.length_drop]at hd
  refine .cons (next_frame h' ha h0 h1) ?_
  have:=ih (a+(frame y).length) (fun z hz=>hy z (by simp[hz])) (by omega) (by rw[← List.drop_drop,h'];simp)
  have e:a+(flat (y :: t)).length=a+(frame y).length+(flat t).length:=by simp[flat];omega
  rw[e];exact this
structure Cut(n:Nat)(fs want:List (List UInt8))(a:Nat):Prop where
 at_:a=(flat want).length
 le:a≤n
 rest : ∃t,fs=want++t ∧ ∀y s,t=y :: s→n<a+(frame y).length
theorem Cut.zero(n:Nat):Cut n [] [] 0:=⟨rfl,by omega, [],rfl,fun y s h=>by cases h⟩
theorem Cut.in{n:Nat}{fs want:List (List UInt8)}{a:Nat}(h:Cut n fs want a)(x:List UInt8)(hx:(flat (fs ++ [x])).length≤n):Cut n (fs ++ [x]) (want ++ [x]) (flat (fs ++ [x])).length:=by
 obtain⟨t,ht,hr⟩:=h.rest
 cases t with
 | nil =>
  rw[List.append_nil]at ht
  subst ht
  exact⟨rfl,hx, [],by simp,fun y s h=>by cases h⟩
 | cons y s =>
  have:=hr y s rfl
  have hf:(flat fs).length=(flat want).length+((frame y).length+(flat s).length):=by rw[ht,flat_app];simp[flat]
  rw[flat_snoc,List.length_append]at hx
  have:=h.at_
  omega
theorem Cut.out{n:Nat}{fs want:List (List UInt8)}{a:Nat}(h:Cut n fs want a)(x:List UInt8)(hx:n<(flat (fs ++ [x])).length):Cut n (fs ++ [x]) want a:=by
 obtain⟨t,ht,hr⟩:=h.rest
 refine⟨h.at_,h.le,t ++ [x],by rw[ht];simp,fun y s e => ?_⟩
 cases t with
 | nil =>
  simp at e
  obtain⟨rfl,_⟩:=e
  rw[List.append_nil]at ht
  subst ht
  rw[flat_snoc,List.length_append]at hx
  have:=h.at_
  omega
 | cons z r =>
  simp at e
  obtain⟨rfl,_⟩:=e
  exact hr _ _ rfl
theorem Cut.path{n:Nat}{fs want:List (List UInt8)}{a:Nat}(h:Cut n fs want a)(hn:n≤(flat fs).length)(hy : ∀y∈fs,0<y.length∧y.length≤65536):Path ((flat fs).take n) 0 want a∧(next ((flat fs).take n) a).2.2≠0:=by
 obtain⟨t,ht,hr⟩:=h.rest
 have ha:=h.at_
 have hle:=h.le
 have hf:flat fs=flat want++flat t:=by rw[ht,flat_app]
 have hlen:((flat fs).take n).length=n:=by simp;omega
 have e1:(flat fs).take n=flat want++(flat t).take (n - a):=by rw[hf,List.take_append, ← ha,List.take_of_length_le (by omega)]
 have e2:((flat fs).take n).drop a=(flat t).take (n - a):=by rw[e1,List.drop_append, ← ha,Nat.sub_self,List.drop_of_length_le (by omega)];simp
 constructor
 ·have:=path_flat ((flat fs).take n) ((flat t).take (n - a)) want 0 (fun y hm=>hy y (by rw[ht];simp[hm])) (by omega) (by rw[List.drop_zero,e1])
  rwa[Nat.zero_add, ← ha]at this
 ·cases t with
  | nil =>
   have hna:n=a:=by rw[hf]at hn;simp[flat]at hn;simp[flat]at ha;omega
   have hgp:getp ((flat fs).take n) (a:Int)=(0,0,1):=getp_err (e:=1) (by omega) (by omega) (by rw[e2];simp[flat];rfl)
   unfold next
   rw[hgp];simp
  | cons y s =>
   have hlt:=hr y s rfl
   obtain⟨h0,h1⟩:=hy y (by rw[ht];simp)
   refine next_cut (y:=y) (k:=n - a) ?_ (by omega) (by omega) h0 h1
   rw[e2,show flat (y :: s)=frame y++flat s by simp[flat],List.take_append_of_le_length (by omega)]
end Frm
end Go.Proofs.YtdkdjofnnnljjaaGreatDoor
