/- Several texts of mine in one: GRune Vers GPl. -/
import Derived.Test.YtdkdjofnnnljjaaGreatDoorPPkMath
import Derived.Laws.RangeAny
import Derived.Test.YtdkdjofnnnljjaaGreatDoorRows
import Derived.Lib.ItoaNum
import Derived.Lib.RuneBytes
import Derived.Lib.Bytealg
import Derived.Lib.Join
import Derived.Shelf.Strings.Prefix
namespace Go.Proofs.YtdkdjofnnnljjaaGreatDoor
open Go.RowKit
set_option maxHeartbeats 1600000
set_option maxRecDepth 100000
section
namespace Rn
open Go
def ah(s:ByteArray)(j:Nat):Nat:=(s.get! j).toNat
def bS(s:ByteArray)(j:Nat):Bool:=j<s.size && ah s j / 64 == 2
theorem bT(s:ByteArray)(j:Nat):ah s j<256:=(s.get! j).toNat_lt
theorem eH(s:ByteArray)(j:Nat)(h:j<s.size):(s[j]'h).toNat=ah s j:=by
 have:=get_at s j h;unfold ah;rw[<- this];rfl
theorem j7{α:Type}{p q:Prop}[Decidable p][Decidable q]{a b c d:α}(h:p↔q)(h1:a=b)(h2:c=d):(if p then a else c)=if q then b else d:=by
 subst h1;subst h2;by_cases hp:p
 ·rw[if_pos hp,if_pos (h.1 hp)]
 ·rw[if_neg hp,if_neg (fun hq=>hp (h.2 hq))]
theorem eP(s:ByteArray)(i:Nat):Utf8.decode s i =
 if ah s i<128 then (ah s i,1)
 else if ah s i / 32=6∧bS s (i+1)=true then
  (if 128<=ah s i % 32*64+ah s (i+1) % 64 then (ah s i % 32*64+ah s (i+1) % 64,2)else (65533,1))
 else if ah s i / 16=14∧bS s (i+1)=true∧bS s (i+2)=true then
  (if 2048<=ah s i % 16*4096+ah s (i+1) % 64*64+ah s (i+2) % 64 ∧ ¬(55296<=ah s i % 16*4096+ah s (i+1) % 64*64+ah s (i+2) % 64∧ah s i % 16*4096+ah s (i+1) % 64*64+ah s (i+2) % 64<=57343)
   then (ah s i % 16*4096+ah s (i+1) % 64*64+ah s (i+2) % 64,3)else (65533,1))
 else if ah s i / 8=30∧bS s (i+1)=true∧bS s (i+2)=true∧bS s (i+3)=true then
  (if 65536<=ah s i % 8*262144+ah s (i+1) % 64*4096+ah s (i+2) % 64*64+ah s (i+3) % 64∧ah s i % 8*262144+ah s (i+1) % 64*4096+ah s (i+2) % 64*64+ah s (i+3) % 64<=1114111
   then (ah s i % 8*262144+ah s (i+1) % 64*4096+ah s (i+2) % 64*64+ah s (i+3) % 64,4)else (65533,1))
 else (65533,1):=by
 have e0:(s.get! i).toNat=ah s i:=rfl;have e1 : ∀k,(s.get! (i+k)).toNat=ah s (i+k):=fun _=>rfl
 have e2 : ∀k,(decide (i+k<s.size) && ah s (i+k) / 64 == 2)=bS s (i+k):=fun _=>rfl
 have b1:=bT s i;have b2:=bT s (i+1);have b3:=bT s (i+2);have b4:=bT s (i+3);simp only[Utf8.decode,e1,e2,Nat.add_zero,e0,Utf8.runeError];simp only[Bool.and_eq_true,beq_iff_eq,Utf8.valid,and_assoc,Bool.or_eq_true,decide_eq_true_eq,ge_iff_le];by_cases h0:ah s i<128
 ·simp only[h0,if_true]
 ·simp only[h0,if_false]
  refine j7 Iff.rfl rfl (j7 Iff.rfl (j7 ?_ rfl rfl) (j7 Iff.rfl (j7 ?_ rfl rfl) rfl))
  ·omega
  ·omega
theorem eQ(s:ByteArray)(i:Nat):1<=(Utf8.decode s i).2:=by
 rw[eP];repeat' split
 all_goals simp
theorem jH(s:ByteArray)(i:Nat)(h:i<s.size):i+(Utf8.decode s i).2<=s.size:=by
 have c1 : ∀k,bS s k=true->k<s.size:=by intro k hk;unfold bS at hk;simp at hk;exact hk.1
 rw[eP];split
 ·show i+1<=_;omega
 ·split
  ·rename_i q
   have:=c1 _ q.2;split
   ·show i+2<=_;omega
   ·show i+1<=_;omega
  ·split
   ·rename_i q
    have:=c1 _ q.2.2;split
    ·show i+3<=_;omega
    ·show i+1<=_;omega
   ·split
    ·rename_i q
     have:=c1 _ q.2.2.2;split
     ·show i+4<=_;omega
     ·show i+1<=_;omega
    ·show i+1<=_;omega
theorem ue{s:ByteArray}{j:Nat}(h:bS s j=true):j<s.size∧128<=ah s j∧ah s j<=191:=by
 unfold bS at h;simp at h;omega
theorem qb{s:ByteArray}{j:Nat}(h:j<s.size)(h1:128<=ah s j)(h2:ah s j<=191):bS s j=true:=by
 unfold bS;simp;omega
theorem CY(s:ByteArray)(i j:Nat)(h1:i<j)(h2:j<i+(Utf8.decode s i).2):128<=ah s i∧128<=ah s j:=by
 rw[eP]at h2
 have c1 : ∀k,bS s k=true->128<=ah s k:=fun k hk=>(ue hk).2.1
 repeat' split at h2
 all_goals simp_all
 all_goals first
  | omega
  | (obtain rfl | rfl | rfl:j=i+1∨j=i+2∨j=i+3:=by omega
     all_goals first | omega | (simp_all;try omega))
theorem E5(s:ByteArray)(i:Nat)(h:ah s i<128):Utf8.decode s i=(ah s i,1):=by
 rw[eP,if_pos h]
theorem Gn(s:ByteArray)(i:Nat)(h:128<=ah s i):128<=(Utf8.decode s i).1:=by
 have b1:=bT s i;rw[eP];repeat' split
 all_goals simp_all
 all_goals omega
def fv(s:ByteArray)(i c:Nat):Nat->Nat
 | 0=>c
 | k+1=>64*fv s i c k+ah s (i+(k+1)) % 64
theorem JO(s:ByteArray)(i c:Nat)(hc:c<=31)(k:Nat)(hk:k<=3):fv s i c k<=8388607:=by
 match k,hk with
 | 0,_=>simp[fv];omega
 | 1,_=>simp[fv];omega
 | 2,_=>simp[fv];omega
 | 3,_=>simp[fv];omega
def lead(b n low c:Nat):Prop :=
 (194<=b∧b<=223∧n=2∧low=128∧c=b - 192)∨(224<=b∧b<=239∧n=3∧low=2048∧c=b - 224)∨(240<=b∧b<=244∧n=4∧low=65536∧c=b - 240)
theorem Gp(s:ByteArray)(i n low c:Nat)(hl:lead (ah s i) n low c)(hc : ∀k,k+1<n->bS s (i+(k+1))=true) :
 Utf8.decode s i=if low<=fv s i c (n - 1)∧fv s i c (n - 1)<=1114111 ∧ ¬(55296<=fv s i c (n - 1)∧fv s i c (n - 1)<=57343)then (fv s i c (n - 1),n)else (65533,1):=by
 have b2:=bT s (i+1);have b3:=bT s (i+2);rw[eP];rcases hl with ⟨h1,h2,rfl,rfl,rfl⟩ | ⟨h1,h2,rfl,rfl,rfl⟩ | ⟨h1,h2,rfl,rfl,rfl⟩
 ·have k1:=hc 0 (by omega)
  rw[if_neg (by omega),if_pos ⟨by omega,k1⟩]
  simp only[fv];have e:64*(ah s i - 192)+ah s (i+(0+1)) % 64=ah s i % 32*64+ah s (i+1) % 64:=by
   show 64*(ah s i - 192)+ah s (i+1) % 64=_;omega
  rw[e];exact j7 (by omega) rfl rfl
 ·have k1:=hc 0 (by omega)
  have k2:=hc 1 (by omega)
  rw[if_neg (by omega),if_neg (by omega),if_pos ⟨by omega,k1,k2⟩]
  simp only[fv];have e:64*(64*(ah s i - 224)+ah s (i+(0+1)) % 64)+ah s (i+(1+1)) % 64=ah s i % 16*4096+ah s (i+1) % 64*64+ah s (i+2) % 64:=by
   show 64*(64*(ah s i - 224)+ah s (i+1) % 64)+ah s (i+2) % 64=_;omega
  rw[e];exact j7 (by omega) rfl rfl
 ·have k1:=hc 0 (by omega)
  have k2:=hc 1 (by omega)
  have k3:=hc 2 (by omega)
  rw[if_neg (by omega),if_neg (by omega),if_neg (by omega),if_pos ⟨by omega,k1,k2,k3⟩]
  simp only[fv];have e:64*(64*(64*(ah s i - 240)+ah s (i+(0+1)) % 64)+ah s (i+(1+1)) % 64)+ah s (i+(2+1)) % 64=ah s i % 8*262144+ah s (i+1) % 64*4096+ah s (i+2) % 64*64+ah s (i+3) % 64:=by
   show 64*(64*(64*(ah s i - 240)+ah s (i+1) % 64)+ah s (i+2) % 64)+ah s (i+3) % 64=_;omega
  rw[e];exact j7 (by omega) rfl rfl
theorem CZ(s:ByteArray)(i n low c k:Nat)(hl:lead (ah s i) n low c)(hk:k+1<n)(hc:bS s (i+(k+1))=false):Utf8.decode s i=(65533,1):=by
 rw[eP];rcases hl with ⟨h1,h2,rfl,rfl,rfl⟩ | ⟨h1,h2,rfl,rfl,rfl⟩ | ⟨h1,h2,rfl,rfl,rfl⟩
 ·obtain rfl:k=0:=by omega
  rw[if_neg (by omega),if_neg (by simp_all),if_neg (by omega),if_neg (by omega)]
 ·rw[if_neg (by omega),if_neg (by omega),if_neg ?_,if_neg (by omega)]
  obtain rfl | rfl:k=0∨k=1:=by omega
  all_goals simp_all
 ·rw[if_neg (by omega),if_neg (by omega),if_neg (by omega),if_neg ?_]
  obtain rfl | rfl | rfl:k=0∨k=1∨k=2:=by omega
  all_goals simp_all
theorem JP(s:ByteArray)(i:Nat)(h0:128<=ah s i)(h1:ah s i<194∨244<ah s i):Utf8.decode s i=(65533,1):=by
 have b1:=bT s i;have b2:=bT s (i+1);rw[eP,if_neg (by omega)]
 repeat' split
 all_goals first | rfl | omega
def size(s:ByteArray)(i:Nat):Nat × Nat:=if Utf8.decode s i=(65533,1)then (0,0)else ((Utf8.decode s i).2,(Utf8.decode s i).1)
def jI(s:ByteArray)(i:Nat):Bool:=Utf8.decode s i == (65533,1)
theorem JQ(s:ByteArray)(i:Nat)(h:ah s i<128):size s i=(1,ah s i):=by
 unfold size;rw[E5 s i h,if_neg (by simp;omega)]
theorem Gq(s:ByteArray)(i:Nat)(h0:128<=ah s i)(h1:ah s i<194∨244<ah s i):size s i=(0,0):=by
 unfold size;rw[JP s i h0 h1,if_pos rfl]
theorem fu(s:ByteArray)(i n low c k:Nat)(hl:lead (ah s i) n low c)(hk:k+1<n)(hc:bS s (i+(k+1))=false):size s i=(0,0):=by
 unfold size;rw[CZ s i n low c k hl hk hc,if_pos rfl]
theorem oP(s:ByteArray)(i n low c:Nat)(hl:lead (ah s i) n low c)(hc : ∀k,k+1<n->bS s (i+(k+1))=true) :
 size s i=if low<=fv s i c (n - 1)∧fv s i c (n - 1)<=1114111 ∧ ¬(55296<=fv s i c (n - 1)∧fv s i c (n - 1)<=57343)then (n,fv s i c (n - 1))else (0,0):=by
 unfold size;rw[Gp s i n low c hl hc];have hn:2<=n:=by rcases hl with ⟨_,_,rfl,_⟩ | ⟨_,_,rfl,_⟩ | ⟨_,_,rfl,_⟩<;>omega
 split
 ·rw[if_neg (by simp;omega)]
 ·rw[if_pos rfl]
theorem oQ(s:ByteArray)(i n low c:Nat)(hl:lead (ah s i) n low c)(h:s.size<i+n):size s i=(0,0):=by
 have hn:2<=n:=by rcases hl with ⟨_,_,rfl,_⟩ | ⟨_,_,rfl,_⟩ | ⟨_,_,rfl,_⟩<;>omega
 refine fu s i n low c (n - 2) hl (by omega) ?_
 unfold bS;simp;omega
theorem Aw(s:ByteArray)(i:Nat):(size s i).1=if jI s i then 0 else (Utf8.decode s i).2:=by
 unfold size jI;split<;>simp_all
theorem JR(s:ByteArray)(i:Nat)(h:jI s i=false):(size s i).2=(Utf8.decode s i).1:=by
 unfold size jI at *
 split<;>simp_all
theorem C0(s:ByteArray)(i:Nat)(h:(Utf8.decode s i).1=65533)(hi:i<s.size):jI s i = !(decide (3<=s.size - i) && (ah s i == 239 && ah s (i+1) == 191 && ah s (i+2) == 189)):=by
 have b0:=bT s i;have b1:=bT s (i+1);have b2:=bT s (i+2);have b3:=bT s (i+3);unfold jI;by_cases hy:3<=s.size - i∧ah s i=239∧ah s (i+1)=191∧ah s (i+2)=189
 ·have k1:bS s (i+1)=true:=qb (by omega) (by omega) (by omega)
  have k2:bS s (i+2)=true:=qb (by omega) (by omega) (by omega)
  rw[eP];simp[hy,k1,k2]
 ·have hz:(decide (3<=s.size - i) && (ah s i == 239 && ah s (i+1) == 191 && ah s (i+2) == 189))=false:=by
   cases hb:(decide (3<=s.size - i) && (ah s i == 239 && ah s (i+1) == 191 && ah s (i+2) == 189))with
   | false=>rfl
   | true=>simp at hb;omega
  rw[hz];have hd:Utf8.decode s i=(65533,1):=by
   rw[eP]at h ⊢
   have c1 : ∀k,bS s k=true->k<s.size∧128<=ah s k∧ah s k<=191:=fun k hk=>ue hk
   by_cases q0:ah s i<128
   ·rw[if_pos q0]at h;simp only at h;omega
   ·rw[if_neg q0]at h ⊢
    by_cases q1:ah s i / 32=6∧bS s (i+1)=true
    ·rw[if_pos q1]at h ⊢
     split at h
     ·simp only at h;omega
     ·rename_i q;rw[if_neg q]
    ·rw[if_neg q1]at h ⊢
     by_cases q2:ah s i / 16=14∧bS s (i+1)=true∧bS s (i+2)=true
     ·rw[if_pos q2]at h ⊢
      have w1:=c1 _ q2.2.1;have w2:=c1 _ q2.2.2;split at h
      ·simp only at h;omega
      ·rename_i q;rw[if_neg q]
     ·rw[if_neg q2]at h ⊢
      by_cases q3:ah s i / 8=30∧bS s (i+1)=true∧bS s (i+2)=true∧bS s (i+3)=true
      ·rw[if_pos q3]at h ⊢
       split at h
       ·simp only at h;omega
       ·rename_i q;rw[if_neg q]
      ·rw[if_neg q3]
  simp[hd]
end Rn
end
namespace Rn
def within(r a b:Int):Bool:=decide (a<=r) && decide (r<=b)
def upper(r:Int):Bool:=within r 65 90
def shown(r:Int):Bool:=decide (32<=r) && (r != 127)
def plain(r:Int):Bool:=within r 97 122 || upper r || within r 48 57 || (r == 45) || (r == 95) || (r == 46) || (r == 58) || (decide (161<=r) && (r != 65533))
end Rn
theorem uf(r a b:Int)(w:World):Calls Tryz.prog 235 #[.int .i32 r, .int .i32 a, .int .i32 b] w (Says w (.bool (Rn.within r a b))):=by
 by_cases h1:a<=r
 ·by_cases h2:r<=b
  ·have e:Rn.within r a b=true:=by simp[Rn.within,h1,h2]
   rw[e]
   go_enter Tryz.func235,Tryz.ntmps235
   go_wp2;go_ret;exact⟨rfl,rfl⟩
  ·have e:Rn.within r a b=false:=by simp[Rn.within];omega
   rw[e]
   go_enter Tryz.func235,Tryz.ntmps235
   go_wp2;go_ret;exact⟨rfl,rfl⟩
 ·have e:Rn.within r a b=false:=by simp[Rn.within];omega
  rw[e]
  go_enter Tryz.func235,Tryz.ntmps235
  go_wp2;go_ret;exact⟨rfl,rfl⟩
theorem Gr(r:Int)(w:World):Calls Tryz.prog 236 #[.int .i32 r] w (Says w (.bool (Rn.upper r))):=by
 go_enter Tryz.func236,Tryz.ntmps236
 go_wp2_with fail
 refine(uf _ _ _ _).mono ?_;rintro e w1 ⟨rfl,rfl⟩;go_wp2;go_ret;exact⟨rfl,rfl⟩
theorem wT(r:Int)(w:World):Calls Tryz.prog 231 #[.int .i32 r] w (Says w (.bool (Rn.shown r))):=by
 by_cases h1:32<=r
 ·have e:Rn.shown r=(r != 127):=by simp[Rn.shown,h1]
  rw[e]
  go_enter Tryz.func231,Tryz.ntmps231
  go_wp2;go_ret;refine⟨bu ?_,rfl⟩;simp[bne]
 ·have e:Rn.shown r=false:=by simp[Rn.shown];omega
  rw[e]
  go_enter Tryz.func231,Tryz.ntmps231
  go_wp2;go_ret;exact⟨rfl,rfl⟩
theorem wU(r:Int)(w:World):Calls Tryz.prog 229 #[.int .i32 r] w (Says w (.bool (Rn.plain r))):=by
 obtain⟨p1,hp1⟩ : ∃p1,Rn.within r 97 122=p1:=⟨_,rfl⟩;obtain⟨p2,hp2⟩ : ∃p2,Rn.upper r=p2:=⟨_,rfl⟩;obtain⟨p3,Tx⟩ : ∃p3,Rn.within r 48 57=p3:=⟨_,rfl⟩;have hpl:Rn.plain r=(p1 || p2 || p3 || (r == 45) || (r == 95) || (r == 46) || (r == 58) || (decide (161<=r) && (r != 65533))):=by simp only[Rn.plain,hp1,hp2,Tx]
 have HP:=aa hpl;clear hpl
 go_enter Tryz.func229,Tryz.ntmps229
 go_wp2_with (first
  | (go_at_call 235;refine(uf _ _ _ _).mono ?_;rintro e w1 ⟨rfl,rfl⟩)
  | (go_at_call 236;refine(Gr _ _).mono ?_;rintro e w1 ⟨rfl,rfl⟩))
 all_goals first
  | (exfalso;simp_all;done)
  | (go_ret;refine⟨bu ?_,rfl⟩;rw[HP.out];simp_all [bne];try omega)
namespace Rn
def letters : List UInt8 := [97,98,99,100,101,102,103,104,105,106,107,108,109,110,111,112,113,114,115,116,117,118,119,120,121,122,65,66,67,68,69,70,71,72,73,74,75,76,77,78,79,80,81,82,83,84,85,86,87,88,89,90,48,49,50,51,52,53,54,55,56,57,45,95,46,58]
theorem yA : (ByteArray.mk letters.toArray).size=66:=by rfl
theorem C1(k:Nat)(h:k<(ByteArray.mk letters.toArray).size):((ByteArray.mk letters.toArray)[k]'h).toNat=(letters.getD k 0).toNat:=by
 have hk:k<letters.length:=h;rw[List.getD_eq_getElem?_getD,List.getElem?_eq_getElem hk]
 rfl
theorem wg : ∀k,k<66->plain ((letters.getD k 0).toNat:Int)=true:=by
 have h : ∀k:Fin 66,plain ((letters.getD k.val 0).toNat:Int)=true:=by decide
 exact fun k hk=>h ⟨k,hk⟩
theorem wh : ∀n:Nat,n<161->plain (n:Int)=true -> ∃k,k<66∧(letters.getD k 0).toNat=n:=by
 have h : ∀n:Fin 161,plain (n.val:Int)=true->letters.any (fun c=>c.toNat == n.val)=true:=by decide+kernel
 intro n hn hp
 have:=h ⟨n,hn⟩ hp;obtain⟨c,hc,he⟩:=List.any_eq_true.1 this;obtain⟨k,hk,rfl⟩:=List.mem_iff_getElem.1 hc;refine⟨k,hk, ?_⟩;rw[List.getD_eq_getElem?_getD,List.getElem?_eq_getElem hk]
 simpa using he
theorem C2(r:Int)(h:161<=r):plain r=(r != 65533):=by
 have e:within r 97 122=false:=by unfold within;simp;omega
 have e2:upper r=false:=by unfold upper within;simp;omega
 have e3:within r 48 57=false:=by unfold within;simp;omega
 have f1 : ¬r=45:=by omega
 have f2 : ¬r=95:=by omega
 have f3 : ¬r=46:=by omega
 have f4 : ¬r=58:=by omega
 simp[plain,e,e2,e3,h,f1,f2,f3,f4]
theorem Gs(r:Int)(h:r<0):plain r=false:=by
 have e:within r 97 122=false:=by unfold within;simp;omega
 have e2:upper r=false:=by unfold upper within;simp;omega
 have e3:within r 48 57=false:=by unfold within;simp;omega
 have f1 : ¬r=45:=by omega
 have f2 : ¬r=95:=by omega
 have f3 : ¬r=46:=by omega
 have f4 : ¬r=58:=by omega
 have f5 : ¬ 161<=r:=by omega
 simp[plain,e,e2,e3,f1,f2,f3,f4,f5]
theorem C3(r:Int)(h : ∀j,j<66->((letters.getD j 0).toNat:Int)≠r):plain r=(decide (161<=r) && (r != 65533)):=by
 by_cases h1:161<=r
 ·rw[C2 r h1];simp[h1]
 ·by_cases h2:r<0
  ·rw[Gs r h2];simp[h1]
  ·obtain⟨n,rfl⟩ : ∃n:Nat,r=(n:Int):=⟨r.toNat,by omega⟩
   cases hp:plain (n:Int)with
   | false=>simp[h1]
   | true =>
    obtain⟨k,hk,he⟩:=wh n (by omega) hp
    exact absurd (by rw[he]) (h k hk)
end Rn
theorem qd(r:Int)(w:World):Calls Tryz.prog 200 #[.int .i64 r] w (Says w (.bool (Rn.plain r))):=by
 go_enter Tryz.func200,Tryz.ntmps200
 go_wp2;generalize hS:ByteArray.mk _=S;have M9:S=⟨Rn.letters.toArray⟩:=hS.symm.trans rfl;have hsz:S.size=66:=by rw[M9];exact Rn.yA
 have lq:Hid (∀k (h:k<S.size),(S[k]'h).toNat=(Rn.letters.getD k 0).toNat):=by rw[M9];exact fun k h=>Rn.C1 k h
 clear hS M9
 go_loop [4] (fun i => ∃k:Nat,i = .int .i64 (k:Int)∧k<=66∧Hid (∀j,j<k->((Rn.letters.getD j 0).toNat:Int)≠r)) (fun i=>66 - (intOf i).toNat)
 case atStart=>exact⟨0,rfl,by omega,fun j hj=>by omega⟩
 case round =>
  obtain⟨k,rfl,hk,HR⟩:=hrel;have hat:=lq.out k;have hpl:=Rn.wg k;have HX:Hid (∀j,j<k+1->j<k∨j=k):=by intro j hj;omega
  obtain⟨x,hx⟩ : ∃x,x=(Rn.letters.getD k 0).toNat:=⟨_,rfl⟩;have td:x<=255:=by rw[hx];have:=(Rn.letters.getD k 0).toNat_lt;omega
  rw[<- hx]at hat hpl
  have HE:=aa hx;clear hx;by_cases hlt:k<66
  ·have HP:=aa (hpl hlt)
   clear hpl;by_cases he:(x:Int)=r
   ·subst he
    go_wp2;go_ret;exact⟨bu HP.symm,rfl⟩
   ·go_wp2
    go_round
    case rel=>exact⟨k+1,by go_num,by omega,fun j hj=>(HX.out j hj).elim (HR.out j) (fun e=>by subst e;rw[<- HE.out];exact he)⟩
    case measure=>simp[intOf];omega
  ·clear hpl
   have ug:=Rn.C3 r (fun j hj=>HR.out j (by omega))
   have HF:=aa ug;clear ug;by_cases h1:161<=r
   ·go_wp2
    go_ret;refine⟨bu ?_,rfl⟩;rw[HF.out];simp[h1,bne]
   ·go_wp2
    go_ret;refine⟨bu ?_,rfl⟩;rw[HF.out];simp;omega
namespace Rn
def pre(s p:ByteArray):Bool:=decide (p.size<=s.size) && ((s.extract 0 p.size).toList == p.toList)
end Rn
theorem C4(s p:ByteArray)(w:World):Calls Tryz.prog 240 #[.string s, .string p] w (Says w (.bool (Rn.pre s p))):=by
 by_cases h:p.size<=s.size
 ·have e:Rn.pre s p=((s.extract 0 p.size).toList == p.toList):=by simp[Rn.pre,h]
  rw[e];have h' : (p.size:Int)<=(s.size:Int):=by omega
  go_enter Tryz.func240,Tryz.ntmps240
  go_wp2;go_ret;exact⟨rfl,rfl⟩
 ·have e:Rn.pre s p=false:=by simp[Rn.pre,h]
  rw[e];have h' : ¬(p.size:Int)<=(s.size:Int):=by omega
  go_enter Tryz.func240,Tryz.ntmps240
  go_wp2;go_ret;exact⟨rfl,rfl⟩
theorem uh(s p:ByteArray)(w:World):Calls Tryz.prog 239 #[.string s, .string p] w (Says w (.bool (Rn.pre s p))):=by
 go_enter Tryz.func239,Tryz.ntmps239
 go_wp2_with fail
 refine(C4 _ _ _).mono ?_;rintro e w1 ⟨rfl,rfl⟩;go_wp2;go_ret;exact⟨rfl,rfl⟩
theorem Ay(s:ByteArray)(i:Nat)(w:World)(hi:i<s.size)(h0:Rn.ah s i<128) :
 Calls Tryz.prog 199 #[.string s, .int .i64 (i:Int)] w (Says w (.tuple #[.int .i64 ((Rn.size s i).1:Int), .int .i64 ((Rn.size s i).2:Int)])):=by
 have hat : ∀h,(s[i]'h).toNat=Rn.ah s i:=fun h=>Rn.eH s i h
 have td:=Rn.bT s i;obtain⟨x,hx⟩ : ∃x,x=Rn.ah s i:=⟨_,rfl⟩;rw[<- hx]at hat td h0
 have HX:=aa hx;clear hx;have e:=Rn.JQ s i (by rw[<- HX.out];exact h0)
 rw[e, <- HX.out]
 go_enter Tryz.func199,Tryz.ntmps199
 go_wp2
 go_ret2
 exact⟨rfl,rfl⟩
theorem Gt(s:ByteArray)(i:Nat)(w:World)(hi:i<s.size)(hs:s.size<=140737488355328)(h0:194<=Rn.ah s i∧Rn.ah s i<=223) :
 Calls Tryz.prog 199 #[.string s, .int .i64 (i:Int)] w (Says w (.tuple #[.int .i64 ((Rn.size s i).1:Int), .int .i64 ((Rn.size s i).2:Int)])):=by
 have hat : ∀h,(s[i]'h).toNat=Rn.ah s i:=fun h=>Rn.eH s i h
 have td:=Rn.bT s i;obtain⟨x,hx⟩ : ∃x,x=Rn.ah s i:=⟨_,rfl⟩;rw[<- hx]at hat td h0
 have HX:=aa hx;clear hx;obtain⟨ha,hb⟩:=h0;obtain⟨c,hc⟩ : ∃c,c=x - 192:=⟨_,rfl⟩;have HL:Hid (Rn.lead (Rn.ah s i) 2 128 c):=by show Rn.lead _ _ _ _;rw[<- HX.out];exact .inl ⟨ha,hb,rfl,rfl,hc⟩
 have JS:c<=31:=by omega
 have Tc:(x:Int) - 192=(c:Int):=by omega
 clear hc;by_cases hsh:s.size<i+2
 ·rw[Rn.oQ s i 2 128 c HL.out hsh]
  have JT : (s.size:Int)<(i:Int)+2:=by omega
  go_enter Tryz.func199,Tryz.ntmps199
  go_wp2
  go_ret2
  exact⟨rfl,rfl⟩
 ·have JT : ¬(s.size:Int)<(i:Int)+2:=by omega
  go_enter Tryz.func199,Tryz.ntmps199
  go_wp2
  go_loop [9,10] (fun v k => ∃kk vv:Nat,k = .int .i64 (kk:Int)∧v = .int .i64 (vv:Int)∧1<=kk∧kk<=2∧vv<=8388607∧Hid (vv=Rn.fv s i c (kk - 1))∧Hid (∀m,m+1<kk->Rn.bS s (i+(m+1))=true)) (fun _ k=>2 - (intOf k).toNat)
  case atStart=>exact⟨1,c,rfl,rfl,by omega,by omega,by omega,rfl,fun m hm=>by omega⟩
  case round =>
   obtain⟨k,v,rfl,rfl,jb,hk,hv,HV,HC⟩:=hrel;by_cases hlt:k<2
   ·obtain⟨j,hj⟩ : ∃j,j=i+k:=⟨_,rfl⟩
    have Nd:(i:Int)+(k:Int)=(j:Int):=by omega
    have Ty:j<s.size:=by omega
    have haj : ∀h,(s[j]'h).toNat=Rn.ah s j:=fun h=>Rn.eH s j h
    have Az:=Rn.bT s j;have HJ:Hid (i+(k - 1+1)=j):=by show _=_;omega
    obtain⟨y,hy⟩ : ∃y,y=Rn.ah s j:=⟨_,rfl⟩;rw[<- hy]at haj Az
    have HY:=aa hy;clear hy;have lr:Hid (k - 1+1<2):=by show _<_;omega
    have sZ:Hid (k - 1+1=k):=by show _=_;omega
    clear hj;by_cases wO:y<128
    ·rw[Rn.fu s i 2 128 c (k - 1) HL.out lr.out (by rw[HJ.out];unfold Rn.bS;rw[<- HY.out];simp;omega)]
     go_wp2
     go_ret2
     exact⟨rfl,rfl⟩
    ·by_cases IX:191<y
     ·rw[Rn.fu s i 2 128 c (k - 1) HL.out lr.out (by rw[HJ.out];unfold Rn.bS;rw[<- HY.out];simp;omega)]
      go_wp2
      go_ret2
      exact⟨rfl,rfl⟩
     ·have HF:Hid (64*v+y - 128=Rn.fv s i c (k - 1+1)):=by
       show _=64*Rn.fv s i c (k - 1)+Rn.ah s (i+(k - 1+1)) % 64;rw[HJ.out, <- HY.out, <- HV.out];omega
      have hF:64*v+y - 128<=8388607:=by rw[HF.out];exact Rn.JO s i c JS _ (by omega)
      have ll:Hid (∀m,m+1<k+1->Rn.bS s (i+(m+1))=true):=by
       intro m hm
       by_cases zH:m+1<k
       ·exact HC.out m zH
       ·obtain rfl:m=k - 1:=by omega
        rw[HJ.out];exact Rn.qb Ty (by rw[<- HY.out];omega) (by rw[<- HY.out];omega)
      go_wp2
      go_round
      case rel=>exact⟨k+1,64*v+y - 128,by go_num,by go_num,by omega,by omega,hF,by show _=Rn.fv s i c (k+1 - 1);rw[HF.out];exact congrArg _ (by omega),ll.out⟩
      case measure=>simp[intOf];omega
   ·obtain rfl:k=2:=by omega
    have uj:=Rn.oP s i 2 128 c HL.out HC.out;rw[<- HV.out]at uj
    by_cases q:128<=v∧v<=1114111 ∧ ¬(55296<=v∧v<=57343)
    ·rw[if_pos q]at uj
     have HS:=aa uj;clear uj hlt hk jb;obtain⟨q1,q2,q3⟩:=q;by_cases q4:55296<=v
     ·have q5:57343<v:=by omega
      clear q3;go_wp2
      go_ret2
      refine⟨?_,rfl⟩;rw[HS.out];rfl
     ·clear q3
      go_wp2
      go_ret2
      refine⟨?_,rfl⟩;rw[HS.out];rfl
    ·rw[if_neg q]at uj
     have HS:=aa uj;clear uj hlt hk jb;by_cases q1:128<=v
     ·by_cases q2:v<=1114111
      ·have q3:55296<=v:=by omega
       have q4:v<=57343:=by omega
       clear q;go_wp2
       go_ret2
       refine⟨?_,rfl⟩;rw[HS.out];rfl
      ·clear q
       go_wp2
       go_ret2
       refine⟨?_,rfl⟩;rw[HS.out];rfl
     ·clear q
      go_wp2
      go_ret2
      refine⟨?_,rfl⟩;rw[HS.out];rfl
theorem Gu(s:ByteArray)(i:Nat)(w:World)(hi:i<s.size)(hs:s.size<=140737488355328)(h0:224<=Rn.ah s i∧Rn.ah s i<=239) :
 Calls Tryz.prog 199 #[.string s, .int .i64 (i:Int)] w (Says w (.tuple #[.int .i64 ((Rn.size s i).1:Int), .int .i64 ((Rn.size s i).2:Int)])):=by
 have hat : ∀h,(s[i]'h).toNat=Rn.ah s i:=fun h=>Rn.eH s i h
 have td:=Rn.bT s i;obtain⟨x,hx⟩ : ∃x,x=Rn.ah s i:=⟨_,rfl⟩;rw[<- hx]at hat td h0
 have HX:=aa hx;clear hx;obtain⟨ha,hb⟩:=h0;obtain⟨c,hc⟩ : ∃c,c=x - 224:=⟨_,rfl⟩;have HL:Hid (Rn.lead (Rn.ah s i) 3 2048 c):=by show Rn.lead _ _ _ _;rw[<- HX.out];exact .inr <| .inl ⟨ha,hb,rfl,rfl,hc⟩
 have JS:c<=31:=by omega
 have Tc:(x:Int) - 224=(c:Int):=by omega
 clear hc;by_cases hsh:s.size<i+3
 ·rw[Rn.oQ s i 3 2048 c HL.out hsh]
  have JT : (s.size:Int)<(i:Int)+3:=by omega
  go_enter Tryz.func199,Tryz.ntmps199
  go_wp2
  go_ret2
  exact⟨rfl,rfl⟩
 ·have JT : ¬(s.size:Int)<(i:Int)+3:=by omega
  go_enter Tryz.func199,Tryz.ntmps199
  go_wp2
  go_loop [9,10] (fun v k => ∃kk vv:Nat,k = .int .i64 (kk:Int)∧v = .int .i64 (vv:Int)∧1<=kk∧kk<=3∧vv<=8388607∧Hid (vv=Rn.fv s i c (kk - 1))∧Hid (∀m,m+1<kk->Rn.bS s (i+(m+1))=true)) (fun _ k=>3 - (intOf k).toNat)
  case atStart=>exact⟨1,c,rfl,rfl,by omega,by omega,by omega,rfl,fun m hm=>by omega⟩
  case round =>
   obtain⟨k,v,rfl,rfl,jb,hk,hv,HV,HC⟩:=hrel;by_cases hlt:k<3
   ·obtain⟨j,hj⟩ : ∃j,j=i+k:=⟨_,rfl⟩
    have Nd:(i:Int)+(k:Int)=(j:Int):=by omega
    have Ty:j<s.size:=by omega
    have haj : ∀h,(s[j]'h).toNat=Rn.ah s j:=fun h=>Rn.eH s j h
    have Az:=Rn.bT s j;have HJ:Hid (i+(k - 1+1)=j):=by show _=_;omega
    obtain⟨y,hy⟩ : ∃y,y=Rn.ah s j:=⟨_,rfl⟩;rw[<- hy]at haj Az
    have HY:=aa hy;clear hy;have lr:Hid (k - 1+1<3):=by show _<_;omega
    have sZ:Hid (k - 1+1=k):=by show _=_;omega
    clear hj;by_cases wO:y<128
    ·rw[Rn.fu s i 3 2048 c (k - 1) HL.out lr.out (by rw[HJ.out];unfold Rn.bS;rw[<- HY.out];simp;omega)]
     go_wp2
     go_ret2
     exact⟨rfl,rfl⟩
    ·by_cases IX:191<y
     ·rw[Rn.fu s i 3 2048 c (k - 1) HL.out lr.out (by rw[HJ.out];unfold Rn.bS;rw[<- HY.out];simp;omega)]
      go_wp2
      go_ret2
      exact⟨rfl,rfl⟩
     ·have HF:Hid (64*v+y - 128=Rn.fv s i c (k - 1+1)):=by
       show _=64*Rn.fv s i c (k - 1)+Rn.ah s (i+(k - 1+1)) % 64;rw[HJ.out, <- HY.out, <- HV.out];omega
      have hF:64*v+y - 128<=8388607:=by rw[HF.out];exact Rn.JO s i c JS _ (by omega)
      have ll:Hid (∀m,m+1<k+1->Rn.bS s (i+(m+1))=true):=by
       intro m hm
       by_cases zH:m+1<k
       ·exact HC.out m zH
       ·obtain rfl:m=k - 1:=by omega
        rw[HJ.out];exact Rn.qb Ty (by rw[<- HY.out];omega) (by rw[<- HY.out];omega)
      go_wp2
      go_round
      case rel=>exact⟨k+1,64*v+y - 128,by go_num,by go_num,by omega,by omega,hF,by show _=Rn.fv s i c (k+1 - 1);rw[HF.out];exact congrArg _ (by omega),ll.out⟩
      case measure=>simp[intOf];omega
   ·obtain rfl:k=3:=by omega
    have uj:=Rn.oP s i 3 2048 c HL.out HC.out;rw[<- HV.out]at uj
    by_cases q:2048<=v∧v<=1114111 ∧ ¬(55296<=v∧v<=57343)
    ·rw[if_pos q]at uj
     have HS:=aa uj;clear uj hlt hk jb;obtain⟨q1,q2,q3⟩:=q;by_cases q4:55296<=v
     ·have q5:57343<v:=by omega
      clear q3;go_wp2
      go_ret2
      refine⟨?_,rfl⟩;rw[HS.out];rfl
     ·clear q3
      go_wp2
      go_ret2
      refine⟨?_,rfl⟩;rw[HS.out];rfl
    ·rw[if_neg q]at uj
     have HS:=aa uj;clear uj hlt hk jb;by_cases q1:2048<=v
     ·by_cases q2:v<=1114111
      ·have q3:55296<=v:=by omega
       have q4:v<=57343:=by omega
       clear q;go_wp2
       go_ret2
       refine⟨?_,rfl⟩;rw[HS.out];rfl
      ·clear q
       go_wp2
       go_ret2
       refine⟨?_,rfl⟩;rw[HS.out];rfl
     ·clear q
      go_wp2
      go_ret2
      refine⟨?_,rfl⟩;rw[HS.out];rfl
theorem Gv(s:ByteArray)(i:Nat)(w:World)(hi:i<s.size)(hs:s.size<=140737488355328)(h0:240<=Rn.ah s i∧Rn.ah s i<=244) :
 Calls Tryz.prog 199 #[.string s, .int .i64 (i:Int)] w (Says w (.tuple #[.int .i64 ((Rn.size s i).1:Int), .int .i64 ((Rn.size s i).2:Int)])):=by
 have hat : ∀h,(s[i]'h).toNat=Rn.ah s i:=fun h=>Rn.eH s i h
 have td:=Rn.bT s i;obtain⟨x,hx⟩ : ∃x,x=Rn.ah s i:=⟨_,rfl⟩;rw[<- hx]at hat td h0
 have HX:=aa hx;clear hx;obtain⟨ha,hb⟩:=h0;obtain⟨c,hc⟩ : ∃c,c=x - 240:=⟨_,rfl⟩;obtain⟨low,Tz⟩ : ∃low,low=65536:=⟨_,rfl⟩;have HL:Hid (Rn.lead (Rn.ah s i) 4 low c):=by show Rn.lead _ _ _ _;rw[<- HX.out];exact .inr <| .inr ⟨ha,hb,rfl,Tz,hc⟩
 have l1:(low:Int)<=65536:=by omega
 have l2:(65536:Int)<=(low:Int):=by omega
 clear Tz;have JS:c<=31:=by omega
 have Tc:(x:Int) - 240=(c:Int):=by omega
 clear hc;by_cases hsh:s.size<i+4
 ·rw[Rn.oQ s i 4 low c HL.out hsh]
  have JT : (s.size:Int)<(i:Int)+4:=by omega
  go_enter Tryz.func199,Tryz.ntmps199
  go_wp2
  go_ret2
  exact⟨rfl,rfl⟩
 ·have JT : ¬(s.size:Int)<(i:Int)+4:=by omega
  go_enter Tryz.func199,Tryz.ntmps199
  go_wp2
  go_loop [9,10] (fun v k => ∃kk vv:Nat,k = .int .i64 (kk:Int)∧v = .int .i64 (vv:Int)∧1<=kk∧kk<=4∧vv<=8388607∧Hid (vv=Rn.fv s i c (kk - 1))∧Hid (∀m,m+1<kk->Rn.bS s (i+(m+1))=true)) (fun _ k=>4 - (intOf k).toNat)
  case atStart=>exact⟨1,c,rfl,rfl,by omega,by omega,by omega,rfl,fun m hm=>by omega⟩
  case round =>
   obtain⟨k,v,rfl,rfl,jb,hk,hv,HV,HC⟩:=hrel;by_cases hlt:k<4
   ·obtain⟨j,hj⟩ : ∃j,j=i+k:=⟨_,rfl⟩
    have Nd:(i:Int)+(k:Int)=(j:Int):=by omega
    have Ty:j<s.size:=by omega
    have haj : ∀h,(s[j]'h).toNat=Rn.ah s j:=fun h=>Rn.eH s j h
    have Az:=Rn.bT s j;have HJ:Hid (i+(k - 1+1)=j):=by show _=_;omega
    obtain⟨y,hy⟩ : ∃y,y=Rn.ah s j:=⟨_,rfl⟩;rw[<- hy]at haj Az
    have HY:=aa hy;clear hy;have lr:Hid (k - 1+1<4):=by show _<_;omega
    have sZ:Hid (k - 1+1=k):=by show _=_;omega
    clear hj;by_cases wO:y<128
    ·rw[Rn.fu s i 4 low c (k - 1) HL.out lr.out (by rw[HJ.out];unfold Rn.bS;rw[<- HY.out];simp;omega)]
     go_wp2
     go_ret2
     exact⟨rfl,rfl⟩
    ·by_cases IX:191<y
     ·rw[Rn.fu s i 4 low c (k - 1) HL.out lr.out (by rw[HJ.out];unfold Rn.bS;rw[<- HY.out];simp;omega)]
      go_wp2
      go_ret2
      exact⟨rfl,rfl⟩
     ·have HF:Hid (64*v+y - 128=Rn.fv s i c (k - 1+1)):=by
       show _=64*Rn.fv s i c (k - 1)+Rn.ah s (i+(k - 1+1)) % 64;rw[HJ.out, <- HY.out, <- HV.out];omega
      have hF:64*v+y - 128<=8388607:=by rw[HF.out];exact Rn.JO s i c JS _ (by omega)
      have ll:Hid (∀m,m+1<k+1->Rn.bS s (i+(m+1))=true):=by
       intro m hm
       by_cases zH:m+1<k
       ·exact HC.out m zH
       ·obtain rfl:m=k - 1:=by omega
        rw[HJ.out];exact Rn.qb Ty (by rw[<- HY.out];omega) (by rw[<- HY.out];omega)
      go_wp2
      go_round
      case rel=>exact⟨k+1,64*v+y - 128,by go_num,by go_num,by omega,by omega,hF,by show _=Rn.fv s i c (k+1 - 1);rw[HF.out];exact congrArg _ (by omega),ll.out⟩
      case measure=>simp[intOf];omega
   ·obtain rfl:k=4:=by omega
    have uj:=Rn.oP s i 4 low c HL.out HC.out;rw[<- HV.out]at uj
    by_cases q:low<=v∧v<=1114111 ∧ ¬(55296<=v∧v<=57343)
    ·rw[if_pos q]at uj
     have HS:=aa uj;clear uj hlt hk jb;obtain⟨q1', q2,q3⟩:=q;have q1:(65536:Int)<=(v:Int):=by omega
     have q4:55296<=v:=by omega
     have q5:57343<v:=by omega
     clear q3;go_wp2
     go_ret2
     refine⟨?_,rfl⟩;rw[HS.out];rfl
    ·rw[if_neg q]at uj
     have HS:=aa uj;clear uj hlt hk jb;by_cases q1' : low<=v
     ·have q2:1114111<v:=by omega
      clear q;go_wp2
      go_ret2
      refine⟨?_,rfl⟩;rw[HS.out];rfl
     ·clear q
      go_wp2
      go_ret2
      refine⟨?_,rfl⟩;rw[HS.out];rfl
theorem yB(s:ByteArray)(i:Nat)(w:World)(hi:i<s.size)(h0:128<=Rn.ah s i)(h1:Rn.ah s i<194∨244<Rn.ah s i) :
 Calls Tryz.prog 199 #[.string s, .int .i64 (i:Int)] w (Says w (.tuple #[.int .i64 ((Rn.size s i).1:Int), .int .i64 ((Rn.size s i).2:Int)])):=by
 have hat : ∀h,(s[i]'h).toNat=Rn.ah s i:=fun h=>Rn.eH s i h
 have td:=Rn.bT s i;obtain⟨x,hx⟩ : ∃x,x=Rn.ah s i:=⟨_,rfl⟩;rw[<- hx]at hat td h0 h1
 have HX:=aa hx;clear hx;rw[Rn.Gq s i (by rw[<- HX.out];omega) (by rw[<- HX.out];omega)]
 by_cases g1:x<194
 ·go_enter Tryz.func199,Tryz.ntmps199
  go_wp2
  go_ret2
  exact⟨rfl,rfl⟩
 ·have g2:244<x:=by omega
  go_enter Tryz.func199,Tryz.ntmps199
  go_wp2
  go_ret2
  exact⟨rfl,rfl⟩
theorem iF(s:ByteArray)(i:Nat)(w:World)(hi:i<s.size)(hs:s.size<=140737488355328) :
 Calls Tryz.prog 199 #[.string s, .int .i64 (i:Int)] w (Says w (.tuple #[.int .i64 ((Rn.size s i).1:Int), .int .i64 ((Rn.size s i).2:Int)])):=by
 by_cases h0:Rn.ah s i<128
 ·exact Ay s i w hi h0
 ·by_cases h2:194<=Rn.ah s i∧Rn.ah s i<=223
  ·exact Gt s i w hi hs h2
  ·by_cases h3:224<=Rn.ah s i∧Rn.ah s i<=239
   ·exact Gu s i w hi hs h3
   ·by_cases h4:240<=Rn.ah s i∧Rn.ah s i<=244
    ·exact Gv s i w hi hs h4
    ·exact yB s i w hi (by omega) (by omega)
namespace Rn
def three : ByteArray:=⟨#[239,191,189]⟩
theorem yC(s:ByteArray)(i:Nat)(h:i<s.size):s.data.toList[i]? = some (s.get! i):=by
 have:=get_at s i h;simp only[Nat.add_zero]at this
 rw[this,List.getElem?_eq_getElem (by simpa using h)]
 rfl
theorem Gw(s:ByteArray)(i:Nat)(h:i<=s.size):pre (s.extract i s.size) three=(decide (3<=s.size - i) && (ah s i == 239 && ah s (i+1) == 191 && ah s (i+2) == 189)):=by
 have e:(s.extract i s.size).size=s.size - i:=by simp[ByteArray.size_extract]
 unfold pre;rw[e];show(decide (3<=s.size - i) && _)=_;by_cases h3:3<=s.size - i
 ·have l0:=yC s i (by omega)
  have l1:=yC s (i+1) (by omega)
  have l2:=yC s (i+2) (by omega)
  have e2:((s.extract i s.size).extract 0 three.size).toList = [s.get! i,s.get! (i+1),s.get! (i+2)]:=by
   rw[ByteArray.toList_eq]
   apply List.ext_getElem?
   intro j
   have hth:three.size=3:=rfl;simp only[ByteArray.data_extract,Array.toList_extract,List.extract_eq_take_drop,hth,List.getElem?_take,List.getElem?_drop];have hsz:s.data.size=s.size:=rfl
   match j with
   | 0=>rw[if_pos (by omega),if_pos (by omega)];simpa using l0
   | 1=>rw[if_pos (by omega),if_pos (by omega)];simpa using l1
   | 2=>rw[if_pos (by omega),if_pos (by omega)];simpa using l2
   | j+3=>rw[if_neg (by omega)];simp
  rw[e2];have e3:three.toList = [239,191,189]:=ByteArray.toList_mk [239,191,189];rw[e3];simp only[h3,decide_true,Bool.true_and];have q0 : ∀(a:Nat) (c:UInt8),(s.get! a == c)=(ah s a == c.toNat):=by
   intro a c
   unfold ah;rw[Bool.eq_iff_iff];simp only[beq_iff_eq];exact UInt8.toNat_inj.symm
  simp[q0,Bool.and_assoc]
 ·simp[h3]
end Rn
section
def yD(w:World)(k:Nat)(s:ByteArray)(p:Nat):World:={ w with heap:=w.heap.setIfInBounds k (.stringIter s p) }
structure It(B:Nat)(w w' : World)(k:Nat)(s:ByteArray)(p:Nat):Prop where
 iter:w'.heap[k]? = some (.stringIter s p)
 below:Below B w w'
 base:B<=k
theorem It.lt{B:Nat}{w w' : World}{k:Nat}{s:ByteArray}{p:Nat}(h:It B w w' k s p):k<w'.heap.size:=(Array.getElem?_eq_some_iff.1 h.iter).1
theorem It.new{B:Nat}{w w' : World}(s:ByteArray)(hb:Below B w w')(hB:B<=w'.heap.size):It B w (w'.iter s 0) w'.heap.size s 0 :=
 ⟨World.iter_heap w' s 0,hb.alloc hB _,hB⟩
theorem It.set{B:Nat}{w w' : World}{k:Nat}{s:ByteArray}{p:Nat}(h:It B w w' k s p)(q:Nat):It B w (yD w' k s q) k s q:=by
 refine⟨?_,⟨h.below.os,h.below.tape,h.below.output, ?_,fun j hj => ?_⟩,h.base⟩
 ·show(w'.heap.setIfInBounds k _)[k]? = _
  rw[Array.getElem?_setIfInBounds_self_of_lt h.lt]
 ·show w.heap.size<=(w'.heap.setIfInBounds k _).size
  rw[Array.size_setIfInBounds];exact h.below.size
 ·show(w'.heap.setIfInBounds k _)[j]? = _
  rw[Array.getElem?_setIfInBounds_ne (by have:=h.base;omega)]
  exact h.below.block j hj
section
variable {P : Program}
theorem yE{w:World}{k:Nat}{s:ByteArray}{p:Nat}(hk:w.heap[k]? = some (.stringIter s p))(h:p<s.size)(ty:TypeId) :
 (Instr.next (.pointer (some ⟨k,0,none⟩)) true ty).run P w =
   .ok (.tuple #[.bool true, .int .i64 (p:Int), .int .i32 ((Utf8.decode s p).1:Int)]) (yD w k s (p+(Utf8.decode s p).2)):=by
 simp only[Instr.next,getObj,setObj,Sem.run_bind,Sem.run,hk,Result.andThen,h,if_true];simp[goInt,yD]
theorem um{w:World}{k:Nat}{s:ByteArray}{p:Nat}(hk:w.heap[k]? = some (.stringIter s p))(h : ¬p<s.size)(ty:TypeId) :
 (Instr.next (.pointer (some ⟨k,0,none⟩)) true ty).run P w = .ok (.tuple #[.bool false]) w:=by
 simp[Instr.next,getObj,Sem.run,hk,h]
end
def stands(k:Nat)(w:World):Nat:=match w.heap[k]? with | some (.stringIter _ p)=>p | _=>0
theorem It.stands{B:Nat}{w w' : World}{k:Nat}{s:ByteArray}{p:Nat}(h:It B w w' k s p):stands k w' = p:=by
 unfold Proofs.YtdkdjofnnnljjaaGreatDoor.stands;rw[h.iter]
namespace Rn
def fF(s:ByteArray):Nat->Nat->Int
 | 0,_ => -1
 | b+1,i=>if i<s.size then (if jI s i then (i:Int)else fF s b (i+(Utf8.decode s i).2))else -1
def uq(s:ByteArray)(i:Nat):Int:=fF s (s.size - i) i
def bad(s:ByteArray):Int:=fF s s.size 0
theorem AA(s:ByteArray) : ∀(b b' i:Nat),s.size - i<=b->s.size - i<=b' -> fF s b i=fF s b' i:=by
 intro b
 induction b with
 | zero =>
  intro b' i h h'
  cases b' with
  | zero=>rfl
  | succ b' => simp only[fF];rw[if_neg (by omega)]
 | succ b ih =>
  intro b' i h h'
  cases b' with
  | zero=>simp only[fF];rw[if_neg (by omega)]
  | succ b' =>
   simp only[fF];have:=eQ s i;rw[ih b' (i+(Utf8.decode s i).2) (by omega) (by omega)]
theorem AB(s:ByteArray)(i:Nat)(h:i<s.size):uq s i=if jI s i then (i:Int)else uq s (i+(Utf8.decode s i).2):=by
 unfold uq;obtain⟨b,hb⟩ : ∃b,s.size - i=b+1:=⟨s.size - i - 1,by omega⟩
 have:=eQ s i;rw[hb];simp only[fF];rw[if_pos h,AA s b (s.size - (i+(Utf8.decode s i).2)) _ (by omega) (by omega)]
theorem wV(s:ByteArray)(i:Nat)(h : ¬i<s.size):uq s i = -1:=by
 unfold uq;rw[show s.size - i=0 by omega];rfl
theorem Gx(s:ByteArray) : ∀(b i:Nat),i<=s.size -> -1<=fF s b i∧fF s b i<=(s.size:Int):=by
 intro b
 induction b with
 | zero=>intro i _;simp[fF]
 | succ b ih =>
  intro i hi
  simp only[fF];split
  ·rename_i h
   split
   ·omega
   ·exact ih _ (jH s i h)
  ·omega
def fW(p:Int->Bool)(s:ByteArray):Nat->Nat->Bool
 | 0,_=>true
 | b+1,i=>if i<s.size then p ((Utf8.decode s i).1:Int) && fW p s b (i+(Utf8.decode s i).2)else true
def mH(p:Int->Bool)(s:ByteArray)(i:Nat):Bool:=fW p s (s.size - i) i
def all(p:Int->Bool)(s:ByteArray):Bool:=fW p s s.size 0
theorem AD(p:Int->Bool)(s:ByteArray) : ∀(b b' i:Nat),s.size - i<=b->s.size - i<=b' -> fW p s b i=fW p s b' i:=by
 intro b
 induction b with
 | zero =>
  intro b' i h h'
  cases b' with
  | zero=>rfl
  | succ b' => simp only[fW];rw[if_neg (by omega)]
 | succ b ih =>
  intro b' i h h'
  cases b' with
  | zero=>simp only[fW];rw[if_neg (by omega)]
  | succ b' =>
   simp only[fW];have:=eQ s i;rw[ih b' (i+(Utf8.decode s i).2) (by omega) (by omega)]
theorem ur(p:Int->Bool)(s:ByteArray)(i:Nat)(h:i<s.size):mH p s i=(p ((Utf8.decode s i).1:Int) && mH p s (i+(Utf8.decode s i).2)):=by
 unfold mH;obtain⟨b,hb⟩ : ∃b,s.size - i=b+1:=⟨s.size - i - 1,by omega⟩
 have:=eQ s i;rw[hb];simp only[fW];rw[if_pos h,AD p s b (s.size - (i+(Utf8.decode s i).2)) _ (by omega) (by omega)]
theorem rk(p:Int->Bool)(s:ByteArray)(i:Nat)(h : ¬i<s.size):mH p s i=true:=by
 unfold mH;rw[show s.size - i=0 by omega];rfl
end Rn
end
theorem yF(s:ByteArray)(w:World)(hs:s.size<=140737488355328) :
 Calls Tryz.prog 228 #[.string s, .func (.func 229) #[] #[]] w (wW w (.bool (Rn.all Rn.plain s))):=by
 obtain⟨B,hB⟩ : ∃B,B=w.heap.size:=⟨_,rfl⟩;have h0:It w.heap.size w (w.iter s 0) B s 0:=hB ▸ It.new s (Below.refl _ w) (Nat.le_refl _)
 go_enter Tryz.func228,Tryz.ntmps228
 go_wp2;rw[<- hB];clear hB
 go_loopw [6] (fun r wr => ∃q:Nat,It w.heap.size w wr B s q∧q<=s.size∧Hid (Rn.mH Rn.plain s q=Rn.all Rn.plain s)) (fun _ wr=>s.size - stands B wr)
 case atStart=>exact⟨0,h0,by omega,rfl⟩
 case round =>
  obtain⟨q,hit,hq,HQ⟩:=hrel;by_cases hlt:q<s.size
  ·have iC:=fun ty=>yE (P:=Tryz.prog) hit.iter hlt ty
   have mI:=hit.set (q+(Utf8.decode s q).2);have hstep:=Rn.ur Rn.plain s q hlt;have fJ:=Rn.eQ s q;have hw2:=Rn.jH s q hlt;obtain⟨r,hr⟩ : ∃r,r=(Utf8.decode s q).1:=⟨_,rfl⟩;obtain⟨d,hd⟩ : ∃d,d=(Utf8.decode s q).2:=⟨_,rfl⟩;rw[<- hr, <- hd]at iC
   rw[<- hd]at mI fJ hw2
   rw[<- hr, <- hd]at hstep
   clear hr hd;obtain⟨b,hb⟩ : ∃b,b=Rn.plain (r:Int):=⟨_,rfl⟩;have HS:Hid (Rn.all Rn.plain s=(b && Rn.mH Rn.plain s (q+d))):=by show _=_;rw[<- HQ.out,hstep,hb]
   have HB:=aa hb;clear hstep hb;cases b with
   | false =>
    go_wp2_with fail
    refine(wU _ _).mono ?_;rintro e w1 ⟨rfl,rfl⟩;rw[<- HB.out];go_wp2;go_ret;exact⟨bu (by rw[HS.out];rfl),mI.below⟩
   | true =>
    go_wp2_with fail
    refine(wU _ _).mono ?_;rintro e w1 ⟨rfl,rfl⟩;rw[<- HB.out];go_wp2
    go_roundw
    case rel=>exact⟨q+d,mI,hw2,by show _=_;rw[HS.out];rfl⟩
    case measure=>rw[mI.stands,hit.stands];omega
  ·have iC:=fun ty=>um (P:=Tryz.prog) hit.iter hlt ty
   go_wp2;go_ret;exact⟨bu (by rw[<- HQ.out,Rn.rk Rn.plain s q hlt]),hit.below⟩
theorem yG(s:ByteArray)(w:World)(hs:s.size<=140737488355328) :
 Calls Tryz.prog 228 #[.string s, .func (.func 231) #[] #[]] w (wW w (.bool (Rn.all Rn.shown s))):=by
 obtain⟨B,hB⟩ : ∃B,B=w.heap.size:=⟨_,rfl⟩;have h0:It w.heap.size w (w.iter s 0) B s 0:=hB ▸ It.new s (Below.refl _ w) (Nat.le_refl _)
 go_enter Tryz.func228,Tryz.ntmps228
 go_wp2;rw[<- hB];clear hB
 go_loopw [6] (fun r wr => ∃q:Nat,It w.heap.size w wr B s q∧q<=s.size∧Hid (Rn.mH Rn.shown s q=Rn.all Rn.shown s)) (fun _ wr=>s.size - stands B wr)
 case atStart=>exact⟨0,h0,by omega,rfl⟩
 case round =>
  obtain⟨q,hit,hq,HQ⟩:=hrel;by_cases hlt:q<s.size
  ·have iC:=fun ty=>yE (P:=Tryz.prog) hit.iter hlt ty
   have mI:=hit.set (q+(Utf8.decode s q).2);have hstep:=Rn.ur Rn.shown s q hlt;have fJ:=Rn.eQ s q;have hw2:=Rn.jH s q hlt;obtain⟨r,hr⟩ : ∃r,r=(Utf8.decode s q).1:=⟨_,rfl⟩;obtain⟨d,hd⟩ : ∃d,d=(Utf8.decode s q).2:=⟨_,rfl⟩;rw[<- hr, <- hd]at iC
   rw[<- hd]at mI fJ hw2
   rw[<- hr, <- hd]at hstep
   clear hr hd;obtain⟨b,hb⟩ : ∃b,b=Rn.shown (r:Int):=⟨_,rfl⟩;have HS:Hid (Rn.all Rn.shown s=(b && Rn.mH Rn.shown s (q+d))):=by show _=_;rw[<- HQ.out,hstep,hb]
   have HB:=aa hb;clear hstep hb;cases b with
   | false =>
    go_wp2_with fail
    refine(wT _ _).mono ?_;rintro e w1 ⟨rfl,rfl⟩;rw[<- HB.out];go_wp2;go_ret;exact⟨bu (by rw[HS.out];rfl),mI.below⟩
   | true =>
    go_wp2_with fail
    refine(wT _ _).mono ?_;rintro e w1 ⟨rfl,rfl⟩;rw[<- HB.out];go_wp2
    go_roundw
    case rel=>exact⟨q+d,mI,hw2,by show _=_;rw[HS.out];rfl⟩
    case measure=>rw[mI.stands,hit.stands];omega
  ·have iC:=fun ty=>um (P:=Tryz.prog) hit.iter hlt ty
   go_wp2;go_ret;exact⟨bu (by rw[<- HQ.out,Rn.rk Rn.shown s q hlt]),hit.below⟩
theorem NB(s:ByteArray)(w:World)(hs:s.size<=140737488355328) :
 Calls Tryz.prog 237 #[.string s] w (wW w (.int .i64 (Rn.bad s))):=by
 obtain⟨B,hB⟩ : ∃B,B=w.heap.size:=⟨_,rfl⟩;have h0:It w.heap.size w (w.iter s 0) B s 0:=hB ▸ It.new s (Below.refl _ w) (Nat.le_refl _)
 go_enter Tryz.func237,Tryz.ntmps237
 go_wp2;rw[<- hB];clear hB
 go_loopw [3,4] (fun _ _ wr => ∃q:Nat,It w.heap.size w wr B s q∧q<=s.size∧Hid (Rn.uq s q=Rn.bad s)) (fun _ _ wr=>s.size - stands B wr)
 case atStart=>exact⟨0,h0,by omega,rfl⟩
 case round =>
  obtain⟨q,hit,hq,HQ⟩:=hrel;by_cases hlt:q<s.size
  ·have iC:=fun ty=>yE (P:=Tryz.prog) hit.iter hlt ty
   have mI:=hit.set (q+(Utf8.decode s q).2);have fJ:=Rn.eQ s q;have hw2:=Rn.jH s q hlt;have hst:=Rn.AB s q hlt;by_cases hr:(Utf8.decode s q).1=65533
   ·have hl:=Rn.C0 s q hr hlt
    rw[<- Rn.Gw s q hq]at hl
    rw[hr]at iC
    obtain⟨d,hd⟩ : ∃d,d=(Utf8.decode s q).2:=⟨_,rfl⟩;rw[<- hd]at iC mI fJ hw2 hst
    clear hd hr;obtain⟨b,hb⟩ : ∃b,b=Rn.pre (s.extract q s.size) Rn.three:=⟨_,rfl⟩;rw[<- hb]at hl
    rw[hl]at hst
    clear hl;have HB:=aa hb;have HS:=aa hst;clear hb hst;cases b with
    | true =>
     go_wp2_with fail
     refine(uh _ _ _).mono ?_;rintro e w1 ⟨rfl,rfl⟩;rw[show Rn.pre (s.extract q s.size) ⟨#[239,191,189]⟩=true from HB.symm]
     go_wp2
     go_roundw
     case rel=>exact⟨q+d,mI,hw2,by show _=_;rw[<- HQ.out,HS.out];rfl⟩
     case measure=>rw[mI.stands,hit.stands];omega
    | false =>
     go_wp2_with fail
     refine(uh _ _ _).mono ?_;rintro e w1 ⟨rfl,rfl⟩;rw[show Rn.pre (s.extract q s.size) ⟨#[239,191,189]⟩=false from HB.symm]
     go_wp2;go_ret;exact⟨ie (by rw[<- HQ.out,HS.out];rfl),mI.below⟩
   ·have hb:Rn.jI s q=false:=by
     unfold Rn.jI;cases he:(Utf8.decode s q == (65533,1))with
     | false=>rfl
     | true=>simp at he;exact absurd (by rw[he]) hr
    have hne:(((Utf8.decode s q).1:Int) == 65533)=false:=by simp;omega
    obtain⟨r,hr'⟩ : ∃r,r=(Utf8.decode s q).1:=⟨_,rfl⟩;obtain⟨d,hd⟩ : ∃d,d=(Utf8.decode s q).2:=⟨_,rfl⟩;rw[<- hd]at iC mI fJ hw2 hst
    rw[<- hr']at iC hne
    rw[hb]at hst
    clear hd hr hr' hb;have HS:=aa hst;clear hst;go_wp2
    go_roundw
    case rel=>exact⟨q+d,mI,hw2,by show _=_;rw[<- HQ.out,HS.out];rfl⟩
    case measure=>rw[mI.stands,hit.stands];omega
  ·have iC:=fun ty=>um (P:=Tryz.prog) hit.iter hlt ty
   go_wp2;go_ret;exact⟨ie (by rw[<- HQ.out,Rn.wV s q hlt]),hit.below⟩
theorem wX(s:ByteArray)(w:World)(hs:s.size<=140737488355328) :
 Calls Tryz.prog 230 #[.string s] w (wW w (.bool (decide (Rn.bad s<0)))):=by
 have hb:=Rn.Gx s s.size 0 (Nat.zero_le _);have hb1 : -1<=Rn.bad s:=hb.1;have hb2:Rn.bad s<=(s.size:Int):=hb.2;clear hb
 go_enter Tryz.func230,Tryz.ntmps230
 go_wp2_with fail
 refine(NB _ _ hs).mono ?_;rintro e w1 ⟨rfl,hb⟩;go_wp2;go_ret;exact⟨rfl,hb⟩
namespace Rn
def key(s:ByteArray):Bool:=decide (0<s.size) && decide (s.size<=24) && all plain s
def val(s:ByteArray):Bool:=decide (s.size<=48) && decide (bad s<0) && all shown s
end Rn
theorem NC(s:ByteArray)(w:World)(hs:s.size<=140737488355328) :
 Calls Tryz.prog 216 #[.string s] w (wW w (.bool (Rn.key s))):=by
 by_cases h0:0<s.size
 ·by_cases h1:s.size<=24
  ·have e:Hid (Rn.key s=Rn.all Rn.plain s):=by show _=_;simp[Rn.key,h0,h1]
   go_enter Tryz.func216,Tryz.ntmps216
   go_wp2_with fail
   refine(yF _ _ hs).mono ?_;rintro e w1 ⟨rfl,hb⟩;go_wp2;go_ret;refine⟨bu ?_,hb⟩;rw[e.out]
  ·have e:Hid (Rn.key s=false):=by show _=_;simp[Rn.key,h1]
   go_enter Tryz.func216,Tryz.ntmps216
   go_wp2;go_ret;exact⟨bu (by rw[e.out]),Below.refl _ _⟩
 ·have e:Hid (Rn.key s=false):=by show _=_;simp[Rn.key,h0]
  go_enter Tryz.func216,Tryz.ntmps216
  go_wp2;go_ret;exact⟨bu (by rw[e.out]),Below.refl _ _⟩
theorem ND(s:ByteArray)(w:World)(hs:s.size<=140737488355328) :
 Calls Tryz.prog 217 #[.string s] w (wW w (.bool (Rn.val s))):=by
 by_cases h1:s.size<=48
 ·obtain⟨b,hb⟩ : ∃b,b=decide (Rn.bad s<0):=⟨_,rfl⟩
  have e:Hid (Rn.val s=(b && Rn.all Rn.shown s)):=by show _=_;simp[Rn.val,h1,hb]
  have HB:=aa hb;clear hb;cases b with
  | true =>
   go_enter Tryz.func217,Tryz.ntmps217
   go_wp2_with fail
   refine(wX _ _ hs).mono ?_;rintro e w1 ⟨rfl,hb⟩;rw[<- HB.out]
   go_wp2_with fail
   refine(yG _ _ hs).mono ?_;rintro e w2 ⟨rfl,hb2⟩;go_wp2;go_ret;refine⟨bu ?_,on hb hb2⟩;rw[e.out];rfl
  | false =>
   go_enter Tryz.func217,Tryz.ntmps217
   go_wp2_with fail
   refine(wX _ _ hs).mono ?_;rintro e w1 ⟨rfl,hb⟩;rw[<- HB.out];go_wp2;go_ret;refine⟨bu ?_,hb⟩;rw[e.out];rfl
 ·have e:Hid (Rn.val s=false):=by show _=_;simp[Rn.val,h1]
  go_enter Tryz.func217,Tryz.ntmps217
  go_wp2;go_ret;exact⟨bu (by rw[e.out]),Below.refl _ _⟩
namespace Rn
theorem C5(s:ByteArray)(i:Nat)(h:jI s i=true):(Utf8.decode s i).1=65533:=by
 unfold jI at h;simp at h;rw[h]
theorem wj(s:ByteArray)(i:Nat)(h:jI s i=true):plain ((Utf8.decode s i).1:Int)=false:=by
 rw[C5 s i h];decide
theorem AE(s:ByteArray) : ∀(b i:Nat),s.size - i<=b->(fW shown s b i=true ↔ ∀j,i<=j->j<s.size->32<=ah s j∧ah s j≠127):=by
 intro b
 induction b with
 | zero=>intro i h;simp only[fW,true_iff];intro j h1 h2;omega
 | succ b ih =>
  intro i h
  simp only[fW];by_cases hi:i<s.size
  ·rw[if_pos hi,Bool.and_eq_true]
   have hw:=eQ s i;have hw2:=jH s i hi;rw[ih (i+(Utf8.decode s i).2) (by omega)]
   by_cases h128:ah s i<128
   ·rw[E5 s i h128]
    constructor
    ·rintro⟨h1,h2⟩ j Nf hj2
     by_cases e:j=i
     ·subst e
      simp[shown]at h1;omega
     ·exact h2 j (by simp only;omega) hj2
    ·intro h1
     have:=h1 i (Nat.le_refl _) hi;exact⟨by simp[shown];omega,fun j Nf hj2=>h1 j (by simp only at Nf;omega) hj2⟩
   ·have hh:=Gn s i (by omega)
    constructor
    ·rintro⟨h1,h2⟩ j Nf hj2
     by_cases e:j<i+(Utf8.decode s i).2
     ·by_cases e2:j=i
      ·subst e2;omega
      ·have:=(CY s i j (by omega) e).2;omega
     ·exact h2 j (by omega) hj2
    ·intro h1
     exact⟨by simp[shown];omega,fun j Nf hj2=>h1 j (by omega) hj2⟩
  ·rw[if_neg hi];simp only[true_iff];intro j h1 h2;omega
theorem rp(s:ByteArray):all shown s=true ↔ ∀j,j<s.size->32<=ah s j∧ah s j≠127:=by
 unfold all;rw[AE s s.size 0 (by omega)]
 exact⟨fun h j hj=>h j (Nat.zero_le _) hj,fun h j _ hj=>h j hj⟩
end Rn
theorem uu(s:ByteArray)(w:World)(hs:s.size<=140737488355328) :
 Calls Tryz.prog 201 #[.string s] w (Says w (.int .i64 (Rn.bad s))):=by
 go_enter Tryz.func201,Tryz.ntmps201
 go_wp2
 go_loop [3,4] (fun i _ => ∃q:Nat,i = .int .i64 (q:Int)∧q<=s.size∧Hid (Rn.uq s q=Rn.bad s)) (fun i _=>s.size - (intOf i).toNat)
 case atStart=>exact⟨0,rfl,by omega,rfl⟩
 case round =>
  obtain⟨q,rfl,hq,HQ⟩:=hrel;by_cases hlt:q<s.size
  ·have fJ:=Rn.eQ s q
   have hw2:=Rn.jH s q hlt;have hst:=Rn.AB s q hlt;have hf:=Rn.Aw s q;cases hb:Rn.jI s q with
   | true =>
    rw[hb]at hst hf
    have HS:=aa hst;have HF:=aa hf;clear hst hf hb
    go_wp2_with fail
    refine(iF _ _ _ hlt hs).mono ?_;rintro e w1 ⟨rfl,rfl⟩;rw[HF.out];go_wp2;go_ret;exact⟨ie (by rw[<- HQ.out,HS.out];rfl),rfl⟩
   | false =>
    rw[hb]at hst hf
    have HS:=aa hst;have HF:=aa hf;clear hst hf hb
    go_wp2_with fail
    refine(iF _ _ _ hlt hs).mono ?_;rintro e w1 ⟨rfl,rfl⟩;rw[HF.out];simp only[Bool.false_eq_true,if_false];obtain⟨d,hd⟩ : ∃d,d=(Utf8.decode s q).2:=⟨_,rfl⟩;rw[<- hd]at fJ hw2 HS ⊢
    clear hd HF;go_wp2
    go_round
    case rel=>exact⟨q+d,by go_num,hw2,by show _=_;rw[<- HQ.out,HS.out];rfl⟩
    case measure=>simp[intOf];omega
  ·go_wp2
   go_ret;exact⟨ie (by rw[<- HQ.out,Rn.wV s q hlt]),rfl⟩
theorem lB(s:ByteArray)(w:World)(hs:s.size<=140737488355328) :
 Calls Tryz.prog 175 #[.string s] w (Says w (.bool (Rn.key s))):=by
 by_cases h0:0<s.size
 ·by_cases h1:s.size<=24
  ·have E:Hid (Rn.key s=Rn.mH Rn.plain s 0):=by show _=_;simp[Rn.key,h0,h1];rfl
   go_enter Tryz.func175,Tryz.ntmps175
   go_wp2
   go_loop [3,4,5] (fun i _ _ => ∃q:Nat,i = .int .i64 (q:Int)∧q<=s.size∧Hid (Rn.mH Rn.plain s q=Rn.key s)) (fun i _ _=>s.size - (intOf i).toNat)
   case atStart=>exact⟨0,rfl,by omega,E.out.symm⟩
   case round =>
    obtain⟨q,rfl,hq,HQ⟩:=hrel;by_cases hlt:q<s.size
    ·have fJ:=Rn.eQ s q
     have hw2:=Rn.jH s q hlt;have hst:=Rn.ur Rn.plain s q hlt;have hf:=Rn.Aw s q;cases hb:Rn.jI s q with
     | true =>
      have OZ:=Rn.wj s q hb;rw[OZ]at hst
      rw[hb]at hf
      have HS:=aa hst;have HF:=aa hf;clear hst hf hb OZ
      go_wp2_with fail
      refine(iF _ _ _ hlt hs).mono ?_;rintro e w1 ⟨rfl,rfl⟩;rw[HF.out];go_wp2;go_ret;exact⟨bu (by rw[<- HQ.out,HS.out];rfl),rfl⟩
     | false =>
      have Sn:=Rn.JR s q hb;rw[hb]at hf
      have HF:=aa hf;have HN:=aa Sn;obtain⟨d,hd⟩ : ∃d,d=(Utf8.decode s q).2:=⟨_,rfl⟩;obtain⟨r,hr⟩ : ∃r,r=(Utf8.decode s q).1:=⟨_,rfl⟩;rw[<- hd]at fJ hw2 hst HF
      rw[<- hr]at hst HN
      clear hf hb Sn hd hr;obtain⟨b,hb⟩ : ∃b,b=Rn.plain (r:Int):=⟨_,rfl⟩;rw[<- hb]at hst
      have HS:=aa hst;have HB:=aa hb;clear hst hb;cases b with
      | true =>
       go_wp2_with fail
       refine(iF _ _ _ hlt hs).mono ?_;rintro e w1 ⟨rfl,rfl⟩;rw[HF.out,HN.out];simp only[Bool.false_eq_true,if_false]
       go_wp2_with fail
       refine(qd _ _).mono ?_;rintro e w1 ⟨rfl,rfl⟩;rw[<- HB.out];go_wp2
       go_round
       case rel=>exact⟨q+d,by go_num,hw2,by show _=_;rw[<- HQ.out,HS.out];rfl⟩
       case measure=>simp[intOf];omega
      | false =>
       go_wp2_with fail
       refine(iF _ _ _ hlt hs).mono ?_;rintro e w1 ⟨rfl,rfl⟩;rw[HF.out,HN.out];simp only[Bool.false_eq_true,if_false]
       go_wp2_with fail
       refine(qd _ _).mono ?_;rintro e w1 ⟨rfl,rfl⟩;rw[<- HB.out];go_wp2;go_ret;exact⟨bu (by rw[<- HQ.out,HS.out];rfl),rfl⟩
    ·go_wp2
     go_ret;exact⟨bu (by rw[<- HQ.out,Rn.rk _ s q hlt]),rfl⟩
  ·have e:Hid (Rn.key s=false):=by show _=_;simp[Rn.key,h1]
   go_enter Tryz.func175,Tryz.ntmps175
   go_wp2;go_ret;exact⟨bu (by rw[e.out]),rfl⟩
 ·have e:Hid (Rn.key s=false):=by show _=_;simp[Rn.key,h0]
  go_enter Tryz.func175,Tryz.ntmps175
  go_wp2;go_ret;exact⟨bu (by rw[e.out]),rfl⟩
theorem oU(s:ByteArray)(w:World)(hs:s.size<=140737488355328) :
 Calls Tryz.prog 176 #[.string s] w (Says w (.bool (Rn.val s))):=by
 by_cases h1:s.size<=48
 ·by_cases abL:0<=Rn.bad s
  ·have E:Hid (Rn.val s=false):=by show _=_;unfold Rn.val;simp;intro _ h;omega
   go_enter Tryz.func176,Tryz.ntmps176
   go_wp2_with fail
   refine(uu _ _ hs).mono ?_;rintro e w1 ⟨rfl,rfl⟩;go_wp2;go_ret;exact⟨bu (by rw[E.out]),rfl⟩
  ·have E:Hid (Rn.val s=Rn.all Rn.shown s):=by show _=_;unfold Rn.val;simp[h1];intro h;omega
   go_enter Tryz.func176,Tryz.ntmps176
   go_wp2_with fail
   refine(uu _ _ hs).mono ?_;rintro e w1 ⟨rfl,rfl⟩;go_wp2
   go_loop [3] (fun i => ∃q:Nat,i = .int .i64 (q:Int)∧q<=s.size∧Hid (∀j,j<q->32<=Rn.ah s j∧Rn.ah s j≠127)) (fun i=>s.size - (intOf i).toNat)
   case atStart=>exact⟨0,rfl,by omega,fun j hj=>by omega⟩
   case round =>
    obtain⟨q,rfl,hq,HQ⟩:=hrel;by_cases hlt:q<s.size
    ·have hat : ∀h,(s[q]'h).toNat=Rn.ah s q:=fun h=>Rn.eH s q h
     have td:=Rn.bT s q;obtain⟨x,hx⟩ : ∃x,x=Rn.ah s q:=⟨_,rfl⟩;rw[<- hx]at hat td
     have HX:=aa hx;clear hx;by_cases x1:x<32
     ·have EF:Hid (Rn.all Rn.shown s=false):=by
       show _=_;cases h:Rn.all Rn.shown s with
       | false=>rfl
       | true=>have:=(Rn.rp s).1 h q hlt;rw[<- HX.out]at this;omega
      go_wp2;go_ret;exact⟨bu (by rw[E.out,EF.out]),rfl⟩
     ·by_cases x2:x=127
      ·have EF:Hid (Rn.all Rn.shown s=false):=by
        show _=_;cases h:Rn.all Rn.shown s with
        | false=>rfl
        | true=>have:=(Rn.rp s).1 h q hlt;rw[<- HX.out]at this;omega
       subst x2;go_wp2;go_ret;exact⟨bu (by rw[E.out,EF.out]),rfl⟩
      ·have x3:((x:Int) == 127)=false:=by simp;omega
       have x4 : ¬(x:Int)=127:=by omega
       have HN:Hid (∀j,j<q+1->32<=Rn.ah s j∧Rn.ah s j≠127):=by
        intro j hj
        by_cases e:j=q
        ·subst e;rw[<- HX.out];omega
        ·exact HQ.out j (by omega)
       clear x2;go_wp2
       go_round
       case rel=>exact⟨q+1,by go_num,by omega,HN.out⟩
       case measure=>simp[intOf];omega
    ·have EF:Hid (Rn.all Rn.shown s=true):=by
      show _=_;rw[Rn.rp];exact fun j hj=>HQ.out j (by omega)
     go_wp2;go_ret;exact⟨bu (by rw[E.out,EF.out]),rfl⟩
 ·have e:Hid (Rn.val s=false):=by show _=_;simp[Rn.val,h1]
  go_enter Tryz.func176,Tryz.ntmps176
  go_wp2;go_ret;exact⟨bu (by rw[e.out]),rfl⟩
end Go.Proofs.YtdkdjofnnnljjaaGreatDoor

namespace Go.Proofs.YtdkdjofnnnljjaaGreatDoor
open Go.RowKit
namespace Vs
def may(v:Int):Bool:=(v == 1) || (v == 2)
def common(k:Int):Bool:=(k == 1) || (k == 2) || (k == 3) || (k == 4) || (k == 6) || (k == 7) || (k == 8)
def has(v k:Int):Bool:=((v == 2) && ((k == 5) || common k)) || ((v == 1) && common k)
def format(n:Int):Int:=if 0<n then 2 else 1
def opens(v f:Int):Int:=if may v=true∧may f=true then (if v<f then 9 else 0)else 8
theorem rq(v:Int):(may v=true∧(v=1∨v=2))∨(may v=false∧v≠1∧v≠2):=by
 by_cases h1:v=1
 ·subst h1;exact Or.inl ⟨rfl,Or.inl rfl⟩
 ·by_cases h2:v=2
  ·subst h2;exact Or.inl ⟨rfl,Or.inr rfl⟩
  ·exact Or.inr ⟨by simp[may,h1,h2],h1,h2⟩
theorem kinds(k:Int):k=1∨k=2∨k=3∨k=4∨k=5∨k=6∨k=7∨k=8∨(k<1∨8<k):=by omega
end Vs
theorem pM(v:Int)(w:World):Calls Tryz.prog 63 #[.int .i64 v] w (Says w (.bool (Vs.may v))):=by
 rcases Vs.rq v with ⟨e,rfl | rfl⟩ | ⟨e,h1,h2⟩
 all_goals
  rw[e]
  go_enter Tryz.func63,Tryz.ntmps63
  go_wp2;go_ret;exact⟨rfl,rfl⟩
theorem uv(k:Int)(w:World):Calls Tryz.prog 188 #[.int .i64 k] w (Says w (.bool (Vs.common k))):=by
 rcases Vs.kinds k with rfl | rfl | rfl | rfl | rfl | rfl | rfl | rfl | h
 all_goals try have e:Vs.common k=false:=by simp[Vs.common];omega
 all_goals first | rw[e] | skip
 all_goals
  go_enter Tryz.func188,Tryz.ntmps188
  go_wp2;go_ret;exact⟨rfl,rfl⟩
theorem NF(v k:Int)(w:World):Calls Tryz.prog 160 #[.int .i64 v, .int .i64 k] w (Says w (.bool (Vs.has v k))):=by
 rcases Vs.rq v with ⟨e,rfl | rfl⟩ | ⟨e,h1,h2⟩
 ·have e2:Vs.has 1 k=Vs.common k:=by simp[Vs.has]
  rw[e2]
  go_enter Tryz.func160,Tryz.ntmps160
  go_wp2_with fail
  refine(uv _ _).mono ?_;rintro e w1 ⟨rfl,rfl⟩;go_wp2;go_ret;exact⟨rfl,rfl⟩
 ·by_cases h5:k=5
  ·subst h5
   go_enter Tryz.func160,Tryz.ntmps160
   go_wp2;go_ret;exact⟨rfl,rfl⟩
  ·have e2:Vs.has 2 k=Vs.common k:=by simp[Vs.has,h5]
   rw[e2]
   go_enter Tryz.func160,Tryz.ntmps160
   go_wp2_with fail
   refine(uv _ _).mono ?_;rintro e w1 ⟨rfl,rfl⟩;go_wp2;go_ret;exact⟨rfl,rfl⟩
 ·have e2:Vs.has v k=false:=by simp[Vs.has,h1,h2]
  rw[e2]
  go_enter Tryz.func160,Tryz.ntmps160
  go_wp2;go_ret;exact⟨rfl,rfl⟩
theorem C6(n:Int)(w:World):Calls Tryz.prog 53 #[.int .i64 n] w (Says w (.int .i64 (Vs.format n))):=by
 by_cases h:0<n
 ·have e:Vs.format n=2:=if_pos h
  rw[e]
  go_enter Tryz.func53,Tryz.ntmps53
  go_wp2;go_ret;exact⟨rfl,rfl⟩
 ·have e:Vs.format n=1:=if_neg h
  rw[e]
  go_enter Tryz.func53,Tryz.ntmps53
  go_wp2;go_ret;exact⟨rfl,rfl⟩
theorem rj(v f:Int)(w:World):Calls Tryz.prog 34 #[.int .i64 v, .int .i64 f] w (Says w (.int .i64 (Vs.opens v f))):=by
 obtain⟨z,hz⟩ : ∃z,Vs.opens v f=z:=⟨_,rfl⟩;have HZ:=aa hz;rw[hz];clear hz;rcases Vs.rq v with ⟨ea,ha⟩ | ⟨ea,ha1,ha2⟩
 ·rcases Vs.rq f with ⟨eb,hb⟩ | ⟨eb,hb1,hb2⟩
  ·go_enter Tryz.func34,Tryz.ntmps34
   go_wp2_with fail
   refine(pM _ _).mono ?_;rintro e w1 ⟨rfl,rfl⟩;rw[ea];rcases ha with rfl | rfl<;>rcases hb with rfl | rfl
   all_goals
    go_wp2;go_ret;exact⟨by rw[<- HZ.out];rfl,rfl⟩
  ·have hz:z=8:=by rw[<- HZ.out];simp[Vs.opens,eb]
   subst hz;have b1:(f != 1)=true:=by simpa using hb1
   have b2:(f != 2)=true:=by simpa using hb2
   go_enter Tryz.func34,Tryz.ntmps34
   go_wp2_with fail
   refine(pM _ _).mono ?_;rintro e w1 ⟨rfl,rfl⟩;rw[ea];go_wp2;go_ret;exact⟨rfl,rfl⟩
 ·have hz:z=8:=by rw[<- HZ.out];simp[Vs.opens,ea]
  subst hz
  go_enter Tryz.func34,Tryz.ntmps34
  go_wp2_with fail
  refine(pM _ _).mono ?_;rintro e w1 ⟨rfl,rfl⟩;rw[ea];go_wp2;go_ret;exact⟨rfl,rfl⟩
theorem C7(v k:Int)(w:World):Calls Tryz.prog 105 #[.int .i64 v, .int .i64 k] w (Says w (.bool (Vs.has v k))):=by
 by_cases jb:k<1
 ·have e:Vs.has v k=false:=by simp[Vs.has,Vs.common];omega
  rw[e]
  go_enter Tryz.func105,Tryz.ntmps105
  go_wp2;go_ret;exact⟨rfl,rfl⟩
 by_cases fI:8<k
 ·have e:Vs.has v k=false:=by simp[Vs.has,Vs.common];omega
  rw[e]
  go_enter Tryz.func105,Tryz.ntmps105
  go_wp2;go_ret;exact⟨rfl,rfl⟩
 rcases Vs.rq v with ⟨e,rfl | rfl⟩ | ⟨e,h1,h2⟩
 ·have e:Vs.has 1 k=(k != 5):=by
   rcases Vs.kinds k with rfl | rfl | rfl | rfl | rfl | rfl | rfl | rfl | h<;>first | rfl | omega
  rw[e]
  go_enter Tryz.func105,Tryz.ntmps105
  go_wp2;go_ret;exact⟨rfl,rfl⟩
 ·have e:Vs.has 2 k=true:=by
   rcases Vs.kinds k with rfl | rfl | rfl | rfl | rfl | rfl | rfl | rfl | h<;>first | rfl | omega
  rw[e]
  go_enter Tryz.func105,Tryz.ntmps105
  go_wp2;go_ret;exact⟨rfl,rfl⟩
 ·have e:Vs.has v k=false:=by simp[Vs.has,h1,h2]
  rw[e];have b1:(v == 1)=false:=by simpa using h1
  have b2:(v == 2)=false:=by simpa using h2
  go_enter Tryz.func105,Tryz.ntmps105
  go_wp2;go_ret;exact⟨rfl,rfl⟩
end Go.Proofs.YtdkdjofnnnljjaaGreatDoor

namespace Go.Proofs.YtdkdjofnnnljjaaGreatDoor
open Go.RowKit
namespace Bl
structure dM where
 round:Int
 node:Int
 deriving DecidableEq
structure dM.Fits(b:dM):Prop where
 r0 : -9223372036854775808<=b.round
 r1:b.round<=9223372036854775807
 n0 : -9223372036854775808<=b.node
 n1:b.node<=9223372036854775807
def zero : dM:=⟨0,0⟩
def cells(b:dM):Array Value := #[.int .i64 b.round, .int .i64 b.node]
def within(n most:Int):Bool:=decide (1<=n) && decide (n<=most)
def may(b:dM):Bool:=decide (b=zero) || (within b.round 4294967296 && within b.node 9)
def less(a b:dM):Bool:=if a.round=b.round then decide (a.node<b.node)else decide (a.round<b.round)
def top(x y:dM):dM:=if less x y=true then y else x
def most(l:List dM):dM:=match l with
 | []=>zero
 | x :: r=>r.foldl top x
theorem kP(b:dM)(h:may b=true):b=zero∨(1<=b.round∧b.round<=4294967296∧1<=b.node∧b.node<=9):=by
 unfold may within at h
 simp only[Bool.or_eq_true,Bool.and_eq_true,decide_eq_true_eq]at h
 rcases h with h | h
 ·exact Or.inl h
 ·exact Or.inr ⟨h.1.1,h.1.2,h.2.1,h.2.2⟩
theorem NG(b:dM)(h:may b=true):0<=b.round∧b.round<=4294967296∧0<=b.node∧b.node<=9:=by
 rcases kP b h with rfl | h
 ·simp[zero]
 ·omega
theorem JU(a:dM):less a a=false:=by simp[less]
theorem NH(a b:dM):(less a b=true∧less b a=false∧a≠b)∨(less a b=false∧less b a=true∧a≠b)∨(less a b=false∧less b a=false∧a=b):=by
 obtain⟨r,n⟩:=a;obtain⟨r', n'⟩:=b;simp only[less,ne_eq,dM.mk.injEq];by_cases h:r=r'
 ·subst h
  simp only[if_true,true_and,decide_eq_true_eq,decide_eq_false_iff_not];omega
 ·rw[if_neg h,if_neg (fun e=>h e.symm)]
  simp only[h,false_and,not_false_eq_true,and_true,decide_eq_true_eq,decide_eq_false_iff_not,and_false,or_false];omega
theorem C8(a b c:dM)(h:less b a=false)(k:less c b=false):less c a=false:=by
 obtain⟨r,n⟩:=a;obtain⟨r', n'⟩:=b;obtain⟨r'', n''⟩:=c;simp only[less]at h k ⊢
 split at h<;>split at k<;>split<;>simp only[decide_eq_false_iff_not]at h k ⊢ <;> omega
theorem Gy(x:dM)(l:List dM)(y:dM):most (x :: (l ++ [y]))=top (most (x :: l)) y:=by
 show(l ++ [y]).foldl top x=top (l.foldl top x) y;rw[List.foldl_append];rfl
end Bl
namespace Cm
structure bW where
 kind:Int
 bD:Int
 seq:Int
 node:Int
 key:List UInt8
 old:List UInt8
 val:List UInt8
 deriving DecidableEq
inductive F where
 | bD | seq | key | old | val | node
 deriving DecidableEq
def F.num : F->Bool
 | .bD=>true | .seq=>true | .node=>true | .key=>false | .old=>false | .val=>false
def F.most : F->Int
 | .bD=>8 | .seq=>4294967296 | .node=>9 | .key=>0 | .old=>0 | .val=>0
def F.at : F->Nat
 | .bD=>1 | .seq=>2 | .key=>3 | .val=>4 | .old=>5 | .node=>6
def bW.n(c:bW):F->Int
 | .bD=>c.bD | .seq=>c.seq | .node=>c.node | .key=>0 | .old=>0 | .val=>0
def bW.s(c:bW):F->List UInt8
 | .bD => [] | .seq => [] | .node => [] | .key=>c.key | .old=>c.old | .val=>c.val
def bW.jU(c:bW)(n:Int):F->bW
 | .bD=>{ c with bD:=n } | .seq=>{ c with seq:=n } | .node=>{ c with node:=n } | .key=>c | .old=>c | .val=>c
def bW.jV(c:bW)(s:List UInt8):F->bW
 | .bD=>c | .seq=>c | .node=>c | .key=>{ c with key:=s } | .old=>{ c with old:=s } | .val=>{ c with val:=s }
structure bW.Fits(c:bW):Prop where
 k0 : -9223372036854775808<=c.kind
 k1:c.kind<=9223372036854775807
 c0 : -9223372036854775808<=c.bD
 c1:c.bD<=9223372036854775807
 q0 : -9223372036854775808<=c.seq
 q1:c.seq<=9223372036854775807
 n0 : -9223372036854775808<=c.node
 n1:c.node<=9223372036854775807
def bW.aD(c:bW)(m:Nat):Prop:=c.key.length<=m∧c.old.length<=m∧c.val.length<=m
theorem bW.Fits.n{c:bW}(h:c.Fits)(f:F) : -9223372036854775808<=c.n f∧c.n f<=9223372036854775807:=by
 obtain⟨_,_,_,_,_,_,_,_⟩:=h;cases f<;>simp[bW.n]<;>omega
theorem bW.Fits.jU{c:bW}(h:c.Fits)(f:F){n:Int}(h0 : -9223372036854775808<=n)(h1:n<=9223372036854775807):(c.jU n f).Fits:=by
 obtain⟨_,_,_,_,_,_,_,_⟩:=h;cases f<;>constructor<;>simp[bW.jU]<;>omega
theorem bW.Fits.jV{c:bW}(h:c.Fits)(f:F)(s:List UInt8):(c.jV s f).Fits:=by
 obtain⟨_,_,_,_,_,_,_,_⟩:=h;cases f<;>constructor<;>simp[bW.jV]<;>omega
theorem bW.aD.s{c:bW}{m:Nat}(h:c.aD m)(f:F):(c.s f).length<=m:=by
 obtain⟨h1,h2,h3⟩:=h;cases f<;>simp[bW.s,h1,h2,h3]
theorem bW.aD.jU{c:bW}{m:Nat}(h:c.aD m)(f:F)(n:Int):(c.jU n f).aD m:=by
 obtain⟨h1,h2,h3⟩:=h;cases f<;>exact⟨h1,h2,h3⟩
theorem bW.aD.jV{c:bW}{m:Nat}(h:c.aD m)(f:F){s:List UInt8}(hs:s.length<=m):(c.jV s f).aD m:=by
 obtain⟨h1,h2,h3⟩:=h;cases f<;>refine⟨?_, ?_, ?_⟩<;>first | exact h1 | exact h2 | exact h3 | exact hs
theorem bW.wY(c:bW)(n:Int)(f:F):(c.jU n f).kind=c.kind:=by cases f<;>rfl
theorem bW.wZ(c:bW)(s:List UInt8)(f:F):(c.jV s f).kind=c.kind:=by cases f<;>rfl
def fields(k:Int):List F :=
 if k=2 then [.bD, .seq, .key, .val]else if k=3∨k=4 then [.bD, .seq, .key]else if k=5 then [.bD, .seq, .key, .old, .val]
 else if k=7∨k=8 then [.node]else []
def cO(v k:Int):List F:=if v=1 then [.bD, .seq, .key, .val, .node]else fields k
theorem qV{k:Int}(h2:k≠2)(h3:k≠3)(h4:k≠4)(h5:k≠5)(h7:k≠7)(h8:k≠8):fields k = []:=by simp[fields,h2,h3,h4,h5,h7,h8]
theorem oV(k:Int):(fields k).length<=5:=by
 unfold fields
 repeat' split
 all_goals decide
theorem mi(v k:Int):(cO v k).length<=5:=by
 unfold cO;split
 ·decide
 ·exact oV k
theorem AF(k:Int):(fields k).Nodup:=by
 unfold fields
 repeat' split
 all_goals decide
theorem qf(v k:Int):(cO v k).Nodup:=by
 unfold cO;split
 ·decide
 ·exact AF k
def within(c:bW)(f:F):Bool := !f.num || (decide (1<=c.n f) && decide (c.n f<=f.most))
def SR(f:F)(s:List UInt8):Bool:=if f = .key then Rn.key ⟨s.toArray⟩else Rn.val ⟨s.toArray⟩
def spelt(c:bW)(f:F):Bool:=f.num || SR f (c.s f)
def oG(c:bW)(f:F):bW:=if f.num=true then c.jU 0 f else c.jV [] f
def aL(k:Int):bW:=⟨k,0,0,0, [], [], []⟩
def zero : bW:=aL 0
def alone(c:bW):Bool:=decide ((fields c.kind).foldl oG c=aL c.kind)
def known(k:Int):Bool:=decide (1<=k) && decide (k<=8)
def check(c:bW):Int :=
 if known c.kind=false then 5 else if(fields c.kind).all (within c)=false then 6 else if(fields c.kind).all (spelt c)=false then 7 else if alone c=false then 3 else 0
def owned(k:Int):Bool:=decide (2<=k) && decide (k<=5)
def cI(k:Int):Bool:=(k == 7) || (k == 8)
def gW(k:Int):Bool:=(k == 2) || (k == 5)
def nA(v:Int)(c:bW):Int:=if Vs.may v=false then 8 else if check c≠0 then check c else if Vs.has v c.kind=false then 8 else 0
def gB(c:bW)(f:F):List UInt8:=if f.num=true then enc (c.n f).toNat else Pk.text (c.s f)
def bytes(v:Int)(c:bW):List UInt8:=enc c.kind.toNat++(cO v c.kind).flatMap (gB c)
def I2 : Int:=9223372036854775807
def dD(b:List UInt8)(p:Nat)(er:Int):Int × Int × Int:=if er=0 then Pk.num b p I2 else (0,(p:Int),er)
def rr(b:List UInt8)(p:Nat)(er:Int):List UInt8 × Int × Int:=if er=0 then Pk.txt b p I2 else ([],(p:Int),er)
def cz(b:List UInt8)(t:bW × Nat × Int)(f:F):bW × Nat × Int :=
 if f.num=true then (t.1.jU (dD b t.2.1 t.2.2).1 f,(dD b t.2.1 t.2.2).2.1.toNat,(dD b t.2.1 t.2.2).2.2)
 else (t.1.jV (rr b t.2.1 t.2.2).1 f,(rr b t.2.1 t.2.2).2.1.toNat,(rr b t.2.1 t.2.2).2.2)
def get(v:Int)(b:List UInt8)(p:Nat)(er:Int):bW × Nat × Int :=
 (cO v (dD b p er).1).foldl (cz b) (aL (dD b p er).1,(dD b p er).2.1.toNat,(dD b p er).2.2)
def done(b:List UInt8)(p:Nat)(er:Int):Int:=if er≠0 then er else if p<b.length then 3 else 0
theorem dr(b:List UInt8)(p:Nat)(er:Int) :
 (∃e:Int,e≠0∧dD b p er=(0,(p:Int),e)) ∨
 (∃n q:Nat,er=0∧p<q∧q<=b.length∧n<=9223372036854775807∧dD b p er=((n:Int),(q:Int),0)∧b.take q=b.take p++enc n):=by
 unfold dD;by_cases he:er=0
 ·rw[if_pos he]
  rcases oW b p with ⟨e,he,hg⟩ | ⟨p', n,c,hp,hc,h0,hn,hg,ht⟩
  ·left;exact⟨e,he,by unfold Pk.num;rw[hg];simp[he]⟩
  ·right
   obtain rfl:p=p' := by omega
   refine⟨n,p+c,he,by omega,hc,hn, ?_, ?_⟩
   ·unfold Pk.num
    rw[hg,if_neg (by simp),if_neg (by unfold I2;simp;omega)]
   ·rw[<- ht,List.take_add]
 ·rw[if_neg he];left;exact⟨er,he,rfl⟩
theorem lC(b:List UInt8)(p:Nat)(er:Int)(hp:p<=b.length) :
 (∃(e:Int) (q:Nat),e≠0∧q<=b.length∧rr b p er=([],(q:Int),e)) ∨
 (∃(s:List UInt8) (q:Nat),er=0∧p<q∧q<=b.length∧s.length<=b.length∧rr b p er=(s,(q:Int),0)∧b.take q=b.take p++Pk.text s):=by
 unfold rr;by_cases he:er=0
 ·rw[if_pos he]
  rcases Pk.nE b p I2 hp with ⟨e,q,he,hq,_,hg⟩ | ⟨n,q,hc,hq,hg⟩
  ·left;exact⟨e,q,he,hq,hg⟩
  ·right
   have hl:((b.drop q).take n).length=n:=by simp;omega
   refine⟨(b.drop q).take n,q+n,he, ?_,hq,by rw[hl];omega,hg, ?_⟩
   all_goals
    rcases Pk.nG b p I2 with ⟨e,he,_,h2⟩ | ⟨n2,q2,_,_,_,_,h2⟩ | ⟨n2,q2,h1,_,h2⟩
    ·rw[h2]at hc;simp at hc;omega
    ·rw[h2]at hc;simp at hc
    ·rw[h2]at hc
     simp at hc
     obtain⟨rfl,rfl⟩:n2=n∧q2=q:=by omega
     have h3:=dr b p 0;unfold dD at h3
     rw[if_pos rfl,h1]at h3
     rcases h3 with ⟨e,he,h3⟩ | ⟨n3,q3,_,h4,h5,_,h3,h6⟩
     ·simp at h3;omega
     ·simp at h3
      obtain⟨rfl,rfl⟩:n2=n3∧q2=q3:=by omega
      first
       | omega
       | (rw[List.take_add,h6,Pk.text,hl,List.append_assoc])
 ·rw[if_neg he];left;exact⟨er,p,he,hp,rfl⟩
end Cm
structure En.bz where
 index:Int
 aF:Bl.dM
 cmd:Cm.bW
deriving DecidableEq
namespace En
def zero : bz:=⟨0,Bl.zero,Cm.zero⟩
def cells(e:bz):Array Value := #[.int .i64 e.index, .int .i64 e.aF.round, .int .i64 e.aF.node, .int .i64 e.cmd.kind, .int .i64 e.cmd.bD, .int .i64 e.cmd.seq, .string ⟨e.cmd.key.toArray⟩, .string ⟨e.cmd.val.toArray⟩, .string ⟨e.cmd.old.toArray⟩, .int .i64 e.cmd.node]
def bO(e:bz):Bool:=decide (1<=e.index) && decide (e.index<=4294967296) && Bl.may e.aF
def one(b:Int)(e:bz):Int:=if bO e=false then 6 else if Cm.check e.cmd≠0 then Cm.check e.cmd else if e.index<=b then 12 else 0
def check : Int->List bz->Int
 | _, []=>0
 | b,e :: r=>if one b e≠0 then one b e else check e.index r
theorem nH{α:Type}{l:List α}{k:Nat}{e:α}(h:l[k]? = some e):l.drop k=e :: l.drop (k+1):=by
 obtain⟨hk,rfl⟩:=List.getElem?_eq_some_iff.1 h;exact List.drop_eq_getElem_cons hk
theorem C9{l:List bz}{k:Nat}{e:bz}(h:l[k]? = some e)(b:Int):check b (l.drop k)=if one b e≠0 then one b e else check e.index (l.drop (k+1)):=by rw[nH h];rfl
def eD(l:List bz):Prop:=l.Pairwise fun a b=>a.index<b.index
instance (l : List bz):Decidable (eD l):=inferInstanceAs (Decidable (l.Pairwise fun a b=>a.index<b.index))
def below(l:List bz)(x:Int):Nat:=l.countP fun e=>decide (e.index<x)
def found(l:List bz)(x:Int):Bool:=(l[below l x]?).any fun e=>decide (e.index=x)
def upto(l:List bz)(x:Int):Nat:=below l x+(if found l x then 1 else 0)
def pos(l:List bz)(x:Int):Int:=if found l x then (below l x:Int)else -1
def find(l:List bz)(x:Int):bz:=if found l x then (l[below l x]?).getD zero else zero
def put(l:List bz)(e:bz):List bz:=l.take (below l e.index) ++ [e]++l.drop (upto l e.index)
theorem jJ(l:List bz)(x:Int):below l x<=l.length:=List.countP_le_length
theorem jK{a:bz}{x:Int}(r:List bz)(h:a.index<x):below (a :: r) x=below r x+1:=by
 unfold below;rw[List.countP_cons_of_pos (by simpa using h)]
theorem dJ{a:bz}{x:Int}{r:List bz}(hp:eD (a :: r))(h : ¬a.index<x):below (a :: r) x=0:=by
 unfold below;rw[List.countP_cons_of_neg (by simpa using h),List.countP_eq_zero]
 intro e he
 have:=(List.pairwise_cons.1 hp).1 e he;simp;omega
theorem Da{a:bz}{x:Int}(r:List bz)(h:a.index<x):found (a :: r) x=found r x:=by
 unfold found;rw[jK r h,List.getElem?_cons_succ]
theorem uw{a:bz}{x:Int}{r:List bz}(hp:eD (a :: r))(h : ¬a.index<x):found (a :: r) x=decide (a.index=x):=by
 unfold found;rw[dJ hp h];simp
theorem Gz{a:bz}{x:Int}(r:List bz)(h:a.index<x):upto (a :: r) x=upto r x+1:=by
 unfold upto;rw[jK r h,Da r h];omega
theorem ru{a:bz}{x:Int}{r:List bz}(hp:eD (a :: r))(h:a.index=x):upto (a :: r) x=1:=by
 unfold upto;rw[dJ hp (by omega),uw hp (by omega),decide_eq_true h]
 rfl
theorem ry{a:bz}{x:Int}{r:List bz}(hp:eD (a :: r))(h:x<a.index):upto (a :: r) x=0:=by
 unfold upto;rw[dJ hp (by omega),uw hp (by omega),decide_eq_false (by omega)]
 rfl
theorem nI : ∀(l:List bz) (x:Int),eD l -> ∀(k:Nat) (e:bz),l[k]? = some e->(e.index<x↔k<below l x)
 | [],x,_,k,e,h=>by simp at h
 | a :: r,x,hp,k,e,h=>by
  obtain⟨h1,h2⟩:=List.pairwise_cons.1 hp;by_cases ha:a.index<x
  ·rw[jK r ha]
   cases k with
   | zero=>simp at h;subst h;exact⟨fun _=>by omega,fun _=>ha⟩
   | succ k=>rw[nI r x h2 k e (by simpa using h)];omega
  ·rw[dJ hp ha]
   refine⟨fun hc => ?_,fun h=>by omega⟩
   cases k with
   | zero=>simp at h;subst h;omega
   | succ k=>have:=h1 e (List.mem_of_getElem? (show r[k]? = some e by simpa using h));omega
theorem yH(l:List bz)(x:Int):upto l x<=l.length:=by
 have hb:=jJ l x;unfold upto;cases hf:found l x with
 | false=>simpa using hb
 | true =>
  unfold found at hf
  cases hk:l[below l x]? with
  | none=>rw[hk]at hf;simp at hf
  | some e=>have:=(List.getElem?_eq_some_iff.1 hk).1;simp;omega
theorem ux(l:List bz)(x:Int):below l x<=upto l x:=by unfold upto;omega
theorem NI{l:List bz}(hp:eD l){i j:Nat}{a b:bz}(h:i<j)(ha:l[i]? = some a)(hb:l[j]? = some b):a.index<b.index:=by
 obtain⟨h1,rfl⟩:=List.getElem?_eq_some_iff.1 ha;obtain⟨h2,rfl⟩:=List.getElem?_eq_some_iff.1 hb;exact List.pairwise_iff_getElem.1 hp i j h1 h2 h
theorem zP{l:List bz}(hp:eD l){k:Nat}{e:bz}(h:l[k]? = some e):found l e.index=true∧below l e.index=k:=by
 have hb:below l e.index=k:=by
  have h1 : ¬k<below l e.index:=fun hk=>by have:=(nI l e.index hp k e h).2 hk;omega
  rcases Nat.lt_or_ge (below l e.index) k with hlt | hge
  ·have hk:=(List.getElem?_eq_some_iff.1 h).1
   obtain⟨a,ha⟩ : ∃a,l[below l e.index]? = some a:=⟨_,List.getElem?_eq_getElem (by omega)⟩
   have h2:=NI hp hlt ha h;have h3:=(nI l e.index hp _ a ha).1 h2;omega
  ·omega
 refine⟨?_,hb⟩;unfold found;rw[hb,h];simp
theorem AG{l:List bz}{x:Int}(h:found l x=true) : ∃e,l[below l x]? = some e∧e.index=x:=by
 unfold found at h
 cases hk:l[below l x]? with
 | none=>rw[hk]at h;simp at h
 | some e=>rw[hk]at h;exact⟨e,rfl,by simpa using h⟩
theorem FM{l:List bz}{x:Int}(h : ∀(k:Nat) (e:bz),l[k]? = some e->e.index≠x):found l x=false:=by
 cases hf:found l x with
 | false=>rfl
 | true=>obtain⟨e,he,hx⟩:=AG hf;exact absurd hx (h _ e he)
def ahead(e:bz)(s:List bz × Bool)(a:bz):List bz × Bool:=if s.2=false∧e.index<=a.index then (s.1 ++ [e],true)else s
def dQ(e:bz)(s:List bz × Bool)(a:bz):List bz × Bool:=if a.index≠e.index then ((ahead e s a).1 ++ [a],(ahead e s a).2)else ahead e s a
def GA(e:bz)(s:List bz × Bool):List bz:=if s.2=true then s.1 else s.1 ++ [e]
def oX(l:List bz)(e:bz):List bz:=GA e (l.foldl (dQ e) ([],false))
theorem oY(e:bz) : ∀(l:List bz) (out:List bz),(∀a∈l,e.index<a.index)->l.foldl (dQ e) (out,true)=(out++l,true)
 | [],out,_=>by simp
 | a :: r,out,h=>by
  have ha:=h a (by simp)
  rw[List.foldl_cons];have:dQ e (out,true) a=(out ++ [a],true):=by
   unfold dQ ahead;rw[if_pos (by omega)]
   simp
  rw[this,oY e r _ fun b hb=>h b (List.mem_cons_of_mem _ hb)]
  simp
theorem kQ{a e:bz}(r:List bz)(h:a.index<e.index):put (a :: r) e=a :: put r e:=by
 unfold put;rw[jK r h,Gz r h]
 rfl
theorem xe(e:bz) : ∀(l:List bz) (out:List bz),eD l->GA e (l.foldl (dQ e) (out,false))=out++put l e
 | [],out,_=>by simp[GA,put]
 | a :: r,out,hp=>by
  obtain⟨h1,h2⟩:=List.pairwise_cons.1 hp;rw[List.foldl_cons];by_cases ha:a.index<e.index
  ·have:dQ e (out,false) a=(out ++ [a],false):=by
    unfold dQ ahead;rw[if_pos (by omega),if_neg (by simp;omega)]
   rw[this,xe e r _ h2,kQ r ha];simp
  ·by_cases hx:a.index=e.index
   ·have:dQ e (out,false) a=(out ++ [e],true):=by
     unfold dQ ahead;rw[if_neg (by simpa using hx),if_pos (by simp;omega)]
    rw[this,oY e r _ fun b hb=>by have:=h1 b hb;omega]
    unfold GA put;rw[ru hp hx,dJ hp ha];simp
   ·have:dQ e (out,false) a=(out ++ [e] ++ [a],true):=by
     unfold dQ ahead;rw[if_pos hx,if_pos (by simp;omega)]
    rw[this,oY e r _ fun b hb=>by have:=h1 b hb;omega]
    unfold GA put;rw[ry hp (by omega),dJ hp ha]
    simp
theorem nJ(l:List bz)(e:bz)(hp:eD l):oX l e=put l e:=by
 have:=xe e l [] hp
 simpa[oX] using this
theorem qg : ∀(l:List bz) (e:bz),eD l->eD (put l e)
 | [],e,_=>by show List.Pairwise _ [e];simp
 | a :: r,e,hp=>by
  obtain⟨h1,h2⟩:=List.pairwise_cons.1 hp;by_cases ha:a.index<e.index
  ·rw[kQ r ha]
   refine List.pairwise_cons.2 ⟨fun b hb => ?_,qg r e h2⟩
   unfold put at hb
   rw[List.mem_append,List.mem_append]at hb
   rcases hb with (hb | hb) | hb
   ·exact h1 b (List.mem_of_mem_take hb)
   ·simp at hb;subst hb;exact ha
   ·exact h1 b (List.mem_of_mem_drop hb)
  ·have hr:eD (e :: r):=List.pairwise_cons.2 ⟨fun b hb=>by have:=h1 b hb;omega,h2⟩
   by_cases hx:a.index=e.index
   ·have:put (a :: r) e=e :: r:=by unfold put;rw[ru hp hx,dJ hp ha];rfl
    rw[this];exact hr
   ·have:put (a :: r) e=e :: a :: r:=by unfold put;rw[ry hp (by omega),dJ hp ha];rfl
    rw[this];refine List.pairwise_cons.2 ⟨fun b hb => ?_,hp⟩
    rcases List.mem_cons.1 hb with rfl | hb
    ·omega
    ·have:=h1 b hb;omega
theorem E6(l:List bz)(e:bz):(put l e).length<=l.length+1:=by
 have h1:=jJ l e.index;have h2:=yH l e.index;have h3:=ux l e.index;unfold put;simp;omega
theorem JV{l:List bz}{x:Int}{e:bz}(h:found l x=true)(he:l[below l x]? = some e):find l x=e:=by unfold find;rw[if_pos h,he];rfl
theorem NJ{l:List bz}{x:Int}(h:found l x=false):find l x=zero:=by unfold find;rw[h];rfl
end En
namespace Cm
def bW.Pos(c:bW):Prop:=0<=c.kind∧0<=c.bD∧0<=c.seq∧0<=c.node
theorem bW.Pos.n{c:bW}(h:c.Pos)(f:F):0<=c.n f:=by
 obtain⟨_,_,_,_⟩:=h;cases f<;>simp[bW.n]<;>omega
def copy(c a:bW)(f:F):bW:=if f.num=true then a.jU (c.n f) f else a.jV (c.s f) f
def restrict(v:Int)(c:bW):bW:=(cO v c.kind).foldl (copy c) (aL c.kind)
theorem Db(c a:bW)(hp:c.Pos)(hf:c.Fits){m:Nat}(hs:c.aD m)(hm:m<=9223372036854775807)(pre post:List UInt8)(f:F) :
 cz (pre++(gB c f++post)) (a,pre.length,0) f=(copy c a f,(pre++gB c f).length,0):=by
 unfold cz copy gB;cases h:f.num with
 | true =>
  rw[if_pos rfl,if_pos rfl,if_pos rfl];have h0:=hp.n f;have h1:=(hf.n f).2;have hn:=Pk.yI pre post (N:=(c.n f).toNat) (most:=I2) (by omega) (by unfold I2;omega)
  have e:dD (pre++(enc (c.n f).toNat++post)) pre.length 0=(((c.n f).toNat:Int),((pre.length+(enc (c.n f).toNat).length:Nat):Int),0):=by unfold dD;rw[if_pos rfl];exact hn
  dsimp only;rw[e];simp only[Int.toNat_natCast,List.length_append,Prod.mk.injEq,and_true];rw[Int.toNat_of_nonneg h0]
 | false =>
  rw[if_neg (by simp),if_neg (by simp),if_neg (by simp)]
  have h1:=hs.s f;have hn:=Pk.AH pre post (s:=c.s f) (most:=I2) (by omega) (by unfold I2;omega)
  have e:rr (pre++(Pk.text (c.s f)++post)) pre.length 0=(c.s f,((pre.length+(Pk.text (c.s f)).length:Nat):Int),0):=by unfold rr;rw[if_pos rfl];exact hn
  dsimp only;rw[e];simp only[Int.toNat_natCast,List.length_append]
theorem GB(c:bW)(hp:c.Pos)(hf:c.Fits){m:Nat}(hs:c.aD m)(hm:m<=9223372036854775807)(b:List UInt8) : ∀(fs:List F) (a:bW) (pre post:List UInt8),b=pre++(fs.flatMap (gB c)++post) ->
 fs.foldl (cz b) (a,pre.length,0)=(fs.foldl (copy c) a,(pre++fs.flatMap (gB c)).length,0):=by
 intro fs
 induction fs with
 | nil=>intro a pre post _;simp
 | cons f fs ih =>
  intro a pre post hb
  rw[List.foldl_cons,List.foldl_cons];have h1:cz b (a,pre.length,0) f=(copy c a f,(pre++gB c f).length,0):=by
   rw[hb,List.flatMap_cons,List.append_assoc];exact Db c a hp hf hs hm pre _ f
  rw[h1,ih (copy c a f) (pre++gB c f) post (by rw[hb];simp)]
  simp
theorem wk(c:bW)(h:c.old = []):restrict 1 c=c:=by
 obtain⟨k,cl,sq,nd,ky,od,vl⟩:=c;dsimp only at h
 subst h
 rfl
theorem uy(v:Int)(hv:v≠1)(c:bW)(h:alone c=true):restrict v c=c:=by
 obtain⟨k,cl,sq,nd,ky,od,vl⟩:=c;have h' := of_decide_eq_true h;unfold restrict cO;rw[if_neg hv];dsimp only at h' ⊢
 rcases Vs.kinds k with rfl | rfl | rfl | rfl | rfl | rfl | rfl | rfl | hk
 rotate_right
 ·have hf:fields k = []:=qV (by omega) (by omega) (by omega) (by omega) (by omega) (by omega)
  rw[hf]at h' ⊢
  exact h'.symm
 all_goals
  simp[fields,oG,F.num,bW.jU,bW.jV,aL]at h'
  simp[fields,copy,F.num,bW.jU,bW.jV,bW.n,bW.s,aL,h']
theorem mj{c:bW}(h:check c=0):known c.kind=true∧alone c=true:=by
 unfold check at h
 cases hk:known c.kind with
 | false=>rw[if_pos hk]at h;omega
 | true =>
  rw[if_neg (by rw[hk];simp)]at h
  split at h
  ·omega
  ·split at h
   ·omega
   ·split at h
    ·omega
    ·rename_i ha
     exact⟨rfl,by simpa using ha⟩
theorem wK{c:bW}(h:check c=0):c.Pos:=by
 obtain⟨hk,ha⟩:=mj h;unfold check at h
 rw[hk,if_neg (by simp)]at h
 by_cases h6:(fields c.kind).all (within c)=false
 ·rw[if_pos h6]at h;omega
 ·have hw:(fields c.kind).all (within c)=true:=by simpa using h6
  have h' := of_decide_eq_true ha;clear h ha h6;obtain⟨k,cl,sq,nd,ky,od,vl⟩:=c;dsimp only at hk hw h'
  rcases Vs.kinds k with rfl | rfl | rfl | rfl | rfl | rfl | rfl | rfl | h
  rotate_right
  ·simp[known]at hk;omega
  all_goals
   simp[fields,oG,F.num,bW.jU,bW.jV,aL]at h'
   simp[fields,within,F.num,F.most,bW.n]at hw
   refine⟨?_, ?_, ?_, ?_⟩<;>dsimp only<;>first | omega | grind
theorem Dc{v:Int}{c:bW}(h:nA v c=0):Vs.may v=true∧check c=0∧Vs.has v c.kind=true:=by
 unfold nA at h
 by_cases h1:Vs.may v=false
 ·rw[if_pos h1]at h;omega
 ·rw[if_neg h1]at h
  by_cases h2:check c=0
  ·rw[if_neg (by simpa using h2)]at h
   by_cases h3:Vs.has v c.kind=false
   ·rw[if_pos h3]at h;omega
   ·exact⟨by simpa using h1,h2,by simpa using h3⟩
  ·rw[if_pos h2]at h;omega
theorem sg(v:Int)(c:bW)(h:nA v c=0):restrict v c=c:=by
 obtain⟨_,hc,hh⟩:=Dc h;obtain⟨hk,ha⟩:=mj hc;by_cases hv:v=1
 ·subst hv
  apply wk
  have h' := of_decide_eq_true ha;clear h hc ha;obtain⟨k,cl,sq,nd,ky,od,vl⟩:=c;dsimp only at hk hh h' ⊢
  rcases Vs.kinds k with rfl | rfl | rfl | rfl | rfl | rfl | rfl | rfl | h
  rotate_right
  ·simp[known]at hk;omega
  all_goals first | (simp[Vs.has,Vs.common]at hh;done) | skip
  all_goals
   simp[fields,oG,F.num,bW.jU,bW.jV,aL]at h'
   simp[h']
 ·exact uy v hv c ha
theorem tN(b:List UInt8):done b b.length 0=0:=by unfold done;simp
theorem AJ(b:List UInt8)(t:bW × Nat × Int)(f g:F)(h:g≠f):(cz b t f).1.n g=t.1.n g∧(cz b t f).1.s g=t.1.s g:=by
 unfold cz;split
 ·dsimp only
  cases f<;>cases g<;>first | exact⟨rfl,rfl⟩ | exact absurd rfl h
 ·dsimp only
  cases f<;>cases g<;>first | exact⟨rfl,rfl⟩ | exact absurd rfl h
theorem Dd(b:List UInt8) : ∀(fs:List F) (t:bW × Nat × Int) (g:F),g∉fs->(fs.foldl (cz b) t).1.n g=t.1.n g∧(fs.foldl (cz b) t).1.s g=t.1.s g:=by
 intro fs
 induction fs with
 | nil=>intro t g _;exact⟨rfl,rfl⟩
 | cons f fs ih =>
  intro t g hg
  have h1:=ih (cz b t f) g (fun h=>hg (List.mem_cons_of_mem _ h))
  have h2:=AJ b t f g (fun h=>hg (by rw[h];simp))
  rw[List.foldl_cons,h1.1,h1.2,h2.1,h2.2];exact⟨rfl,rfl⟩
theorem De(b:List UInt8)(t:bW × Nat × Int)(f:F):(cz b t f).1.kind=t.1.kind:=by
 unfold cz;split
 ·exact bW.wY _ _ _
 ·exact bW.wZ _ _ _
theorem Df(b:List UInt8) : ∀(fs:List F) (t:bW × Nat × Int),(fs.foldl (cz b) t).1.kind=t.1.kind:=by
 intro fs
 induction fs with
 | nil=>intro t;rfl
 | cons f fs ih=>intro t;rw[List.foldl_cons,ih,De]
theorem GC(c d:bW)(f:F)(h:c.n f=d.n f∧c.s f=d.s f):gB c f=gB d f:=by unfold gB;rw[h.1,h.2]
theorem JW(b:List UInt8)(c:bW)(p:Nat)(er:Int)(f:F)(hp:p<=b.length)(h:(cz b (c,p,er) f).2.2=0) :
 er=0∧(cz b (c,p,er) f).2.1<=b.length∧b.take (cz b (c,p,er) f).2.1=b.take p++gB (cz b (c,p,er) f).1 f:=by
 unfold cz at h ⊢
 cases hn:f.num with
 | true =>
  rw[hn,if_pos rfl]at h
  rw[if_pos rfl];dsimp only at h ⊢
  rcases dr b p er with ⟨e,he,hr⟩ | ⟨n,q,h0,_,hq,_,hr,ht⟩
  ·rw[hr]at h;exact absurd h he
  ·rw[hr]
   simp only[Int.toNat_natCast];refine⟨h0,hq, ?_⟩;rw[ht];unfold gB;rw[if_pos hn];cases f<;>first | rfl | cases hn
 | false =>
  rw[hn,if_neg (by simp)]at h
  rw[if_neg (by simp)]
  dsimp only at h ⊢
  rcases lC b p er hp with ⟨e,q,he,_,hr⟩ | ⟨s,q,h0,_,hq,_,hr,ht⟩
  ·rw[hr]at h;exact absurd h he
  ·rw[hr]
   simp only[Int.toNat_natCast];refine⟨h0,hq, ?_⟩;rw[ht];unfold gB;rw[if_neg (by rw[hn];simp)]
   cases f<;>first | rfl | cases hn
theorem xf(b:List UInt8)(c:bW)(p:Nat)(er:Int)(f:F)(hp:p<=b.length):(cz b (c,p,er) f).2.1<=b.length:=by
 unfold cz;split
 ·dsimp only
  rcases dr b p er with ⟨e,_,hr⟩ | ⟨n,q,_,_,hq,_,hr,_⟩
  ·rw[hr];simpa using hp
  ·rw[hr];simpa using hq
 ·dsimp only
  rcases lC b p er hp with ⟨e,q,_,hq,hr⟩ | ⟨s,q,_,_,hq,_,hr,_⟩
  ·rw[hr];simpa using hq
  ·rw[hr];simpa using hq
theorem uz(b:List UInt8) : ∀(fs:List F) (t:bW × Nat × Int),fs.Nodup->t.2.1<=b.length->(fs.foldl (cz b) t).2.2=0 ->
 t.2.2=0∧(fs.foldl (cz b) t).2.1<=b.length∧b.take (fs.foldl (cz b) t).2.1=b.take t.2.1++fs.flatMap (gB (fs.foldl (cz b) t).1):=by
 intro fs
 induction fs with
 | nil=>intro t _ hp h;exact⟨h,hp,by simp⟩
 | cons f fs ih =>
  intro t hn hp h
  obtain⟨c,p,er⟩:=t;have Sq := List.nodup_cons.1 hn;rw[List.foldl_cons]at h ⊢
  obtain⟨h1,h2,h3⟩:=ih (cz b (c,p,er) f) Sq.2 (xf b c p er f hp) h;obtain⟨h4,_,h6⟩:=JW b c p er f hp h1;refine⟨h4,h2, ?_⟩;rw[h3,h6,List.flatMap_cons,List.append_assoc,GC _ _ f (Dd b fs (cz b (c,p,er) f) f Sq.1)]
end Cm
namespace Cm
theorem qh(pre post:List UInt8){n:Nat}(h:n<=9223372036854775807):dD (pre++(enc n++post)) pre.length 0=((n:Int),(((pre++enc n).length:Nat):Int),0):=by
 have:=Pk.yI pre post (N:=n) (most:=I2) h (by unfold I2;omega)
 unfold dD;rw[if_pos rfl,this,List.length_append]
theorem get_at(v:Int)(c:bW)(hp:c.Pos)(hf:c.Fits){m:Nat}(hs:c.aD m)(hm:m<=9223372036854775807)(pre post:List UInt8) :
 get v (pre++(bytes v c++post)) pre.length 0=(restrict v c,(pre++bytes v c).length,0):=by
 have h1:=hf.k1;have h0:=hp.1;have hk:=qh pre ((cO v c.kind).flatMap (gB c)++post) (n:=c.kind.toNat) (by omega)
 have e:pre++(bytes v c++post)=pre++(enc c.kind.toNat++((cO v c.kind).flatMap (gB c)++post)):=by simp[bytes]
 unfold get;rw[e,hk,Int.toNat_of_nonneg h0];simp only[Int.toNat_natCast];rw[GB c hp hf hs hm _ (cO v c.kind) (aL c.kind) (pre++enc c.kind.toNat) post (by simp)]
 unfold restrict bytes;rw[List.append_assoc]
theorem yg(v:Int)(b:List UInt8)(p:Nat)(er:Int)(h:(get v b p er).2.2=0)(hp:p<=b.length) :
 er=0∧(get v b p er).2.1<=b.length∧b.take (get v b p er).2.1=b.take p++bytes v (get v b p er).1:=by
 unfold get at h ⊢
 rcases dr b p er with ⟨e,he,hr⟩ | ⟨n,q,h0,_,hq,_,hr,ht⟩
 ·rw[hr]at h
  have:=(uz b _ _ (qf v 0) (by simpa using hp) h).1
  exact absurd this he
 ·rw[hr]at h ⊢
  simp only[Int.toNat_natCast]at h ⊢
  obtain⟨_,h5,h6⟩:=uz b _ _ (qf v (n:Int)) hq h;refine⟨h0,h5, ?_⟩;rw[h6];dsimp only;rw[ht,List.append_assoc];unfold bytes;rw[Df]
  rfl
theorem E7(b:List UInt8) : ∀(fs:List F) (t:bW × Nat × Int),t.2.1<=b.length->(fs.foldl (cz b) t).2.1<=b.length:=by
 intro fs
 induction fs with
 | nil=>intro t h;exact h
 | cons f fs ih=>intro t h;exact ih _ (xf b t.1 t.2.1 t.2.2 f h)
theorem Qo(v:Int)(b:List UInt8)(p:Nat)(er:Int)(hp:p<=b.length):(get v b p er).2.1<=b.length:=by
 unfold get;rcases dr b p er with ⟨e,_,hr⟩ | ⟨n,q,_,_,hq,_,hr,_⟩
 ·rw[hr];exact E7 b _ _ (by simpa using hp)
 ·rw[hr];exact E7 b _ _ (by simpa using hq)
theorem E8(b:List UInt8)(p:Nat)(er:Int)(hp:p<=b.length):(dD b p er).2.1.toNat<=b.length:=by
 rcases dr b p er with ⟨e,_,hr⟩ | ⟨n,q,_,_,hq,_,hr,_⟩
 ·rw[hr];simpa using hp
 ·rw[hr];simpa using hq
theorem yJ(b:List UInt8)(p:Nat)(er:Int)(h:(dD b p er).2.2=0):er=0∧0<=(dD b p er).1∧(dD b p er).1<=9223372036854775807∧(dD b p er).2.1.toNat<=b.length∧b.take (dD b p er).2.1.toNat=b.take p++enc (dD b p er).1.toNat:=by
 rcases dr b p er with ⟨e,he,hr⟩ | ⟨n,q,h0,_,hq,hn,hr,ht⟩
 ·rw[hr]at h;exact absurd h he
 ·rw[hr]
  simp only[Int.toNat_natCast];exact⟨h0,by omega,by omega,hq,ht⟩
end Cm
namespace En
end En
namespace Ms
def within(n lo hi:Int):Bool:=decide (lo<=n) && decide (n<=hi)
def owned(b:Bl.dM):Bool:=Bl.may b && decide (b≠Bl.zero)
def bZ(l:List Int):List UInt8:=l.flatMap fun n=>enc n.toNat
def aj(b:List UInt8):Nat->List Int × Nat × Int
 | 0=>([],0,0)
 | k+1=>((aj b k).1 ++ [(Cm.dD b (aj b k).2.1 (aj b k).2.2).1],(Cm.dD b (aj b k).2.1 (aj b k).2.2).2.1.toNat,(Cm.dD b (aj b k).2.1 (aj b k).2.2).2.2)
def nth(l:List Int)(i:Nat):Int:=l.getD i 0
def raw(b:List UInt8)(p:Nat)(er:Int):List UInt8 × Int × Int:=if er=0 then Pk.txt b p 32768 else ([],(p:Int),er)
theorem jL(l m:List Int):bZ (l++m)=bZ l++bZ m:=by simp[bZ]
theorem lD(n:Int):bZ [n]=enc n.toNat:=by simp[bZ]
theorem oJ(l:List Int)(h : ∀x∈l,x<=9223372036854775807):(bZ l).length<=9*l.length:=by
 induction l with
 | nil=>simp[bZ]
 | cons x r ih =>
  have h1:=aA (n:=x.toNat) (by have:=h x (by simp);omega)
  have h2:=ih fun y hy=>h y (by simp[hy])
  show((enc x.toNat)++bZ r).length<=_;rw[List.length_append,List.length_cons];omega
theorem zX(l:List Int)(hl : ∀x∈l,0<=x∧x<=9223372036854775807)(b post:List UInt8)(hb:b=bZ l++post) :
 ∀k,k<=l.length->aj b k=(l.take k,(bZ (l.take k)).length,0)
 | 0,_=>by simp[aj,bZ]
 | k+1,hk=>by
  have ih:=zX l hl b post hb k (by omega)
  obtain⟨x,hx⟩ : ∃x,l[k]? = some x:=⟨_,List.getElem?_eq_getElem (by omega)⟩
  obtain⟨h0,h1⟩:=hl x (List.mem_of_getElem? hx);have ht:l.take (k+1)=l.take k ++ [x]:=by rw[List.take_add_one,hx];rfl
  have e:b=bZ (l.take k)++(enc x.toNat++(bZ (l.drop (k+1))++post)):=by
   rw[hb]
   conv=>lhs;rw[<- List.take_append_drop (k+1) l,ht]
   rw[jL,jL,lD];simp
  have hr:=Cm.qh (bZ (l.take k)) (bZ (l.drop (k+1))++post) (n:=x.toNat) (by omega)
  rw[<- e]at hr
  unfold aj;rw[ih];dsimp only;rw[hr,ht,jL,lD,Int.toNat_of_nonneg h0];simp;omega
theorem pN(b:List UInt8) : ∀k,(aj b k).2.1<=b.length
 | 0=>Nat.zero_le _
 | k+1=>Cm.E8 b _ _ (pN b k)
theorem fB(b:List UInt8) : ∀k,(aj b k).1.length=k
 | 0=>rfl
 | k+1=>by unfold aj;simp[fB b k]
theorem mJ(b:List UInt8)(p:Nat)(er:Int):0<=(Cm.dD b p er).1∧(Cm.dD b p er).1<=9223372036854775807:=by
 rcases Cm.dr b p er with ⟨e,_,hr⟩ | ⟨n,q,_,_,_,hb,hr,_⟩
 ·rw[hr];simp
 ·rw[hr];simp;omega
theorem wL(b:List UInt8) : ∀k,∀x∈(aj b k).1,0<=x∧x<=9223372036854775807
 | 0,x,h=>by simp[aj]at h
 | k+1,x,h=>by
  unfold aj at h
  dsimp only at h
  rcases List.mem_append.1 h with h | h
  ·exact wL b k x h
  ·rw[List.mem_singleton]at h
   subst h;exact mJ _ _ _
theorem pO(b:List UInt8) : ∀k,(aj b k).2.2=0->b.take (aj b k).2.1=bZ (aj b k).1
 | 0,_=>by simp[aj,bZ]
 | k+1,h=>by
  obtain⟨h1,_,_,_,h5⟩:=Cm.yJ b _ _ (show(Cm.dD b (aj b k).2.1 (aj b k).2.2).2.2=0 from h)
  have ih:=pO b k h1;show b.take (Cm.dD b (aj b k).2.1 (aj b k).2.2).2.1.toNat=bZ ((aj b k).1 ++ [_]);rw[jL,lD,h5,ih]
theorem jn(b:List UInt8)(p:Nat)(er:Int)(hp:p<=b.length) :
 (∃(e:Int) (q:Nat),e≠0∧q<=b.length∧raw b p er=([],(q:Int),e)) ∨
 (∃(s:List UInt8) (q:Nat),er=0∧q<=b.length∧s.length<=b.length∧raw b p er=(s,(q:Int),0)∧b.take q=b.take p++Pk.text s):=by
 unfold raw;by_cases he:er=0
 ·rw[if_pos he]
  rcases Pk.nE b p 32768 hp with ⟨e,q,he,hq,_,hg⟩ | ⟨n,q,hc,hq,hg⟩
  ·left;exact⟨e,q,he,hq,hg⟩
  ·right
   have hl:((b.drop q).take n).length=n:=by simp;omega
   refine⟨(b.drop q).take n,q+n,he,hq,by rw[hl];omega,hg, ?_⟩
   rcases Pk.nG b p 32768 with ⟨e,he,_,h2⟩ | ⟨n2,q2,_,_,_,_,h2⟩ | ⟨n2,q2,h1,_,h2⟩
   ·rw[h2]at hc;simp at hc;omega
   ·rw[h2]at hc;simp at hc
   ·rw[h2]at hc
    simp at hc
    obtain⟨rfl,rfl⟩:n2=n∧q2=q:=by omega
    rcases Pk.rz b p 32768 with ⟨e,h,_,hg2⟩ | ⟨n3,q3,_,_,_,_,_,hg2⟩ | ⟨n3,q3,NK,_,Ng,Sl,_,hg2⟩
    ·rw[hg2]at h1;simp at h1;omega
    ·rw[hg2]at h1;simp at h1
    ·rw[hg2]at h1
     simp at h1
     obtain⟨rfl,rfl⟩:n3=n2∧q3=q2:=by omega
     have h3:=Cm.yJ b p 0;unfold Cm.dD Pk.num at h3
     rw[if_pos rfl,NK,if_neg (by simp),if_neg (by unfold Cm.I2;simp;omega)]at h3
     have h4:=(h3 rfl).2.2.2.2;simp only[Int.toNat_natCast]at h4
     rw[List.take_add,h4,Pk.text,hl,List.append_assoc]
 ·rw[if_neg he];left;exact⟨er,p,he,hp,rfl⟩
theorem Jj(pre post:List UInt8){s:List UInt8}(hs:s.length<=32768):raw (pre++(Pk.text s++post)) pre.length 0=(s,(((pre++Pk.text s).length:Nat):Int),0):=by
 unfold raw;rw[if_pos rfl,Pk.AH pre post (by omega) (by omega),List.length_append]
end Ms
end Go.Proofs.YtdkdjofnnnljjaaGreatDoor
