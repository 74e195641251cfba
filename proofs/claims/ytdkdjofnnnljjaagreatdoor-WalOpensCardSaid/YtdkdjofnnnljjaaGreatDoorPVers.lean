/- Several texts of mine in one: GRune GQm Vers. -/
import Derived.Test.YtdkdjofnnnljjaaGreatDoorPMem
import Derived.Laws.RangeAny
import Derived.Test.YtdkdjofnnnljjaaGreatDoorRows
import Derived.Test.YtdkdjofnnnljjaaGreatDoorGMb
import Derived.Lib.RuneBytes
import Derived.Lib.Bytealg
import Derived.Lib.Join
import Derived.Shelf.Strings.Prefix
namespace Go.Proofs.YtdkdjofnnnljjaaGreatDoor
open Go.RowKit
set_option maxHeartbeats 800000
set_option maxRecDepth 4000
section
namespace Rn
open Go
def byteAt(s:ByteArray)(j:Nat):Nat:=(s.get! j).toNat
def contAt(s:ByteArray)(j:Nat):Bool:=j<s.size && byteAt s j / 64 == 2
theorem byteAt_lt(s:ByteArray)(j:Nat):byteAt s j<256:=(s.get! j).toNat_lt
theorem ite_iff{α:Type}{p q:Prop}[Decidable p][Decidable q]{a b c d:α}(h:p↔q)(h1:a=b)(h2:c=d):(if p then a else c)=if q then b else d:=by
 subst h1;subst h2
 by_cases hp:p
 ·rw[if_pos hp,if_pos (h.1 hp)]
 ·rw[if_neg hp,if_neg (fun hq=>hp (h.2 hq))]
theorem decode_eq(s:ByteArray)(i:Nat):Utf8.decode s i =
 if byteAt s i<128 then (byteAt s i,1)
 else if byteAt s i / 32=6∧contAt s (i+1)=true then
  (if 128≤byteAt s i % 32*64+byteAt s (i+1) % 64 then (byteAt s i % 32*64+byteAt s (i+1) % 64,2)else (65533,1))
 else if byteAt s i / 16=14∧contAt s (i+1)=true∧contAt s (i+2)=true then
  (if 2048≤byteAt s i % 16*4096+byteAt s (i+1) % 64*64+byteAt s (i+2) % 64 ∧ ¬(55296≤byteAt s i % 16*4096+byteAt s (i+1) % 64*64+byteAt s (i+2) % 64∧byteAt s i % 16*4096+byteAt s (i+1) % 64*64+byteAt s (i+2) % 64≤57343)
   then (byteAt s i % 16*4096+byteAt s (i+1) % 64*64+byteAt s (i+2) % 64,3)else (65533,1))
 else if byteAt s i / 8=30∧contAt s (i+1)=true∧contAt s (i+2)=true∧contAt s (i+3)=true then
  (if 65536≤byteAt s i % 8*262144+byteAt s (i+1) % 64*4096+byteAt s (i+2) % 64*64+byteAt s (i+3) % 64∧byteAt s i % 8*262144+byteAt s (i+1) % 64*4096+byteAt s (i+2) % 64*64+byteAt s (i+3) % 64≤1114111
   then (byteAt s i % 8*262144+byteAt s (i+1) % 64*4096+byteAt s (i+2) % 64*64+byteAt s (i+3) % 64,4)else (65533,1))
 else (65533,1):=by
 have e0:(s.get! i).toNat=byteAt s i:=rfl
 have e1 : ∀k,(s.get! (i+k)).toNat=byteAt s (i+k):=fun _=>rfl
 have e2 : ∀k,(decide (i+k<s.size) && byteAt s (i+k) / 64 == 2)=contAt s (i+k):=fun _=>rfl
 have b1:=byteAt_lt s i
 have b2:=byteAt_lt s (i+1)
 have b3:=byteAt_lt s (i+2)
 have b4:=byteAt_lt s (i+3)
 simp only[Utf8.decode,e1,e2,Nat.add_zero,e0,Utf8.runeError]
 simp only[Bool.and_eq_true,beq_iff_eq,Utf8.valid,and_assoc,Bool.or_eq_true,decide_eq_true_eq,ge_iff_le]
 by_cases h0:byteAt s i<128
 ·simp only[h0,if_true]
 ·simp only[h0,if_false]
  refine ite_iff Iff.rfl rfl (ite_iff Iff.rfl (ite_iff ?_ rfl rfl) (ite_iff Iff.rfl (ite_iff ?_ rfl rfl) rfl))
  ·omega
  ·omega
theorem width_pos(s:ByteArray)(i:Nat):1≤(Utf8.decode s i).2:=by
 rw[decode_eq];repeat' split
 all_goals simp
theorem width_le(s:ByteArray)(i:Nat)(h:i<s.size):i+(Utf8.decode s i).2≤s.size:=by
 have c1 : ∀k,contAt s k=true→k<s.size:=by intro k hk;unfold contAt at hk;simp at hk;exact hk.1
 rw[decode_eq]
 split
 ·show i+1≤_;omega
 ·split
  ·rename_i q
   have:=c1 _ q.2
   split
   ·show i+2≤_;omega
   ·show i+1≤_;omega
  ·split
   ·rename_i q
    have:=c1 _ q.2.2
    split
    ·show i+3≤_;omega
    ·show i+1≤_;omega
   ·split
    ·rename_i q
     have:=c1 _ q.2.2.2
     split
     ·show i+4≤_;omega
     ·show i+1≤_;omega
    ·show i+1≤_;omega
theorem cont_range{s:ByteArray}{j:Nat}(h:contAt s j=true):j<s.size∧128≤byteAt s j∧byteAt s j≤191:=by
 unfold contAt at h;simp at h;omega
theorem cont_of{s:ByteArray}{j:Nat}(h:j<s.size)(h1:128≤byteAt s j)(h2:byteAt s j≤191):contAt s j=true:=by
 unfold contAt;simp;omega
def fv(s:ByteArray)(i c:Nat):Nat→Nat
 | 0=>c
 | k+1=>64*fv s i c k+byteAt s (i+(k+1)) % 64
def size(s:ByteArray)(i:Nat):Nat × Nat:=if Utf8.decode s i=(65533,1)then (0,0)else ((Utf8.decode s i).2,(Utf8.decode s i).1)
def isBad(s:ByteArray)(i:Nat):Bool:=Utf8.decode s i == (65533,1)
theorem lost_three(s:ByteArray)(i:Nat)(h:(Utf8.decode s i).1=65533)(hi:i<s.size):isBad s i = !(decide (3≤s.size - i) && (byteAt s i == 239 && byteAt s (i+1) == 191 && byteAt s (i+2) == 189)):=by
 have b0:=byteAt_lt s i
 have b1:=byteAt_lt s (i+1)
 have b2:=byteAt_lt s (i+2)
 have b3:=byteAt_lt s (i+3)
 unfold isBad
 by_cases hy:3≤s.size - i∧byteAt s i=239∧byteAt s (i+1)=191∧byteAt s (i+2)=189
 ·have k1:contAt s (i+1)=true:=cont_of (by omega) (by omega) (by omega)
  have k2:contAt s (i+2)=true:=cont_of (by omega) (by omega) (by omega)
  rw[decode_eq]
  simp[hy,k1,k2]
 ·have hz:(decide (3≤s.size - i) && (byteAt s i == 239 && byteAt s (i+1) == 191 && byteAt s (i+2) == 189))=false:=by
   cases hb:(decide (3≤s.size - i) && (byteAt s i == 239 && byteAt s (i+1) == 191 && byteAt s (i+2) == 189))with
   | false=>rfl
   | true=>simp at hb;omega
  rw[hz]
  have hd:Utf8.decode s i=(65533,1):=by
   rw[decode_eq]at h ⊢
   have c1 : ∀k,contAt s k=true→k<s.size∧128≤byteAt s k∧byteAt s k≤191:=fun k hk=>cont_range hk
   by_cases q0:byteAt s i<128
   ·rw[if_pos q0]at h;simp only at h;omega
   ·rw[if_neg q0]at h ⊢
    by_cases q1:byteAt s i / 32=6∧contAt s (i+1)=true
    ·rw[if_pos q1]at h ⊢
     split at h
     ·simp only at h;omega
     ·rename_i q;rw[if_neg q]
    ·rw[if_neg q1]at h ⊢
     by_cases q2:byteAt s i / 16=14∧contAt s (i+1)=true∧contAt s (i+2)=true
     ·rw[if_pos q2]at h ⊢
      have w1:=c1 _ q2.2.1
      have w2:=c1 _ q2.2.2
      split at h
      ·simp only at h;omega
      ·rename_i q;rw[if_neg q]
     ·rw[if_neg q2]at h ⊢
      by_cases q3:byteAt s i / 8=30∧contAt s (i+1)=true∧contAt s (i+2)=true∧contAt s (i+3)=true
      ·rw[if_pos q3]at h ⊢
       split at h
       ·simp only at h;omega
       ·rename_i q;rw[if_neg q]
      ·rw[if_neg q3]
  simp[hd]
end Rn
end
namespace Rn
def within(r a b:Int):Bool:=decide (a≤r) && decide (r≤b)
def upper(r:Int):Bool:=within r 65 90
def shown(r:Int):Bool:=decide (32≤r) && (r != 127)
def plain(r:Int):Bool:=within r 97 122 || upper r || within r 48 57 || (r == 45) || (r == 95) || (r == 46) || (r == 58) || (decide (161≤r) && (r != 65533))
end Rn
theorem within_any(r a b:Int)(w:World):Calls Tryz.prog 235 #[.int .i32 r, .int .i32 a, .int .i32 b] w (Says w (.bool (Rn.within r a b))):=by
 by_cases h1:a≤r
 ·by_cases h2:r≤b
  ·have e:Rn.within r a b=true:=by simp[Rn.within,h1,h2]
   rw[e]
   go_enter Tryz.func235,Tryz.ntmps235
   go_wp2
   go_ret
   exact⟨rfl,rfl⟩
  ·have e:Rn.within r a b=false:=by simp[Rn.within];omega
   rw[e]
   go_enter Tryz.func235,Tryz.ntmps235
   go_wp2
   go_ret
   exact⟨rfl,rfl⟩
 ·have e:Rn.within r a b=false:=by simp[Rn.within];omega
  rw[e]
  go_enter Tryz.func235,Tryz.ntmps235
  go_wp2
  go_ret
  exact⟨rfl,rfl⟩
theorem upper_any(r:Int)(w:World):Calls Tryz.prog 236 #[.int .i32 r] w (Says w (.bool (Rn.upper r))):=by
 go_enter Tryz.func236,Tryz.ntmps236
 go_wp2_with fail
 refine(within_any _ _ _ _).mono ?_
 rintro e w1 ⟨rfl,rfl⟩
 go_wp2
 go_ret
 exact⟨rfl,rfl⟩
theorem shown_any(r:Int)(w:World):Calls Tryz.prog 231 #[.int .i32 r] w (Says w (.bool (Rn.shown r))):=by
 by_cases h1:32≤r
 ·have e:Rn.shown r=(r != 127):=by simp[Rn.shown,h1]
  rw[e]
  go_enter Tryz.func231,Tryz.ntmps231
  go_wp2
  go_ret
  refine⟨ret_bool ?_,rfl⟩
  simp[bne]
 ·have e:Rn.shown r=false:=by simp[Rn.shown];omega
  rw[e]
  go_enter Tryz.func231,Tryz.ntmps231
  go_wp2
  go_ret
  exact⟨rfl,rfl⟩
theorem plain_any(r:Int)(w:World):Calls Tryz.prog 229 #[.int .i32 r] w (Says w (.bool (Rn.plain r))):=by
 obtain⟨p1,hp1⟩ : ∃p1,Rn.within r 97 122=p1:=⟨_,rfl⟩
 obtain⟨p2,hp2⟩ : ∃p2,Rn.upper r=p2:=⟨_,rfl⟩
 obtain⟨p3,hp3⟩ : ∃p3,Rn.within r 48 57=p3:=⟨_,rfl⟩
 have hpl:Rn.plain r=(p1 || p2 || p3 || (r == 45) || (r == 95) || (r == 46) || (r == 58) || (decide (161≤r) && (r != 65533))):=by simp only[Rn.plain,hp1,hp2,hp3]
 have HP:=Lib.hid hpl;clear hpl
 go_enter Tryz.func229,Tryz.ntmps229
 go_wp2_with (first
  | (go_at_call 235;refine(within_any _ _ _ _).mono ?_;rintro e w1 ⟨rfl,rfl⟩)
  | (go_at_call 236;refine(upper_any _ _).mono ?_;rintro e w1 ⟨rfl,rfl⟩))
 all_goals first
  | (exfalso;simp_all;done)
  | (go_ret;refine⟨ret_bool ?_,rfl⟩;rw[HP.out];simp_all [bne];try omega)
namespace Rn
end Rn
namespace Rn
def pre(s p:ByteArray):Bool:=decide (p.size≤s.size) && ((s.extract 0 p.size).toList == p.toList)
end Rn
theorem hasPre_any(s p:ByteArray)(w:World):Calls Tryz.prog 240 #[.string s, .string p] w (Says w (.bool (Rn.pre s p))):=by
 by_cases h:p.size≤s.size
 ·have e:Rn.pre s p=((s.extract 0 p.size).toList == p.toList):=by simp[Rn.pre,h]
  rw[e]
  have h' : (p.size:Int)≤(s.size:Int):=by omega
  go_enter Tryz.func240,Tryz.ntmps240
  go_wp2
  go_ret
  exact⟨rfl,rfl⟩
 ·have e:Rn.pre s p=false:=by simp[Rn.pre,h]
  rw[e]
  have h' : ¬(p.size:Int)≤(s.size:Int):=by omega
  go_enter Tryz.func240,Tryz.ntmps240
  go_wp2
  go_ret
  exact⟨rfl,rfl⟩
theorem prefix_any(s p:ByteArray)(w:World):Calls Tryz.prog 239 #[.string s, .string p] w (Says w (.bool (Rn.pre s p))):=by
 go_enter Tryz.func239,Tryz.ntmps239
 go_wp2_with fail
 refine(hasPre_any _ _ _).mono ?_
 rintro e w1 ⟨rfl,rfl⟩
 go_wp2
 go_ret
 exact⟨rfl,rfl⟩
namespace Rn
def three : ByteArray:=⟨#[239,191,189]⟩
theorem list_at(s:ByteArray)(i:Nat)(h:i<s.size):s.data.toList[i]? = some (s.get! i):=by
 have:=get_at s i h
 simp only[Nat.add_zero]at this
 rw[this,List.getElem?_eq_getElem (by simpa using h)]
 rfl
theorem pre_three(s:ByteArray)(i:Nat)(h:i≤s.size):pre (s.extract i s.size) three=(decide (3≤s.size - i) && (byteAt s i == 239 && byteAt s (i+1) == 191 && byteAt s (i+2) == 189)):=by
 have e:(s.extract i s.size).size=s.size - i:=by simp[ByteArray.size_extract]
 unfold pre
 rw[e]
 show(decide (3≤s.size - i) && _)=_
 by_cases h3:3≤s.size - i
 ·have l0:=list_at s i (by omega)
  have l1:=list_at s (i+1) (by omega)
  have l2:=list_at s (i+2) (by omega)
  have e2:((s.extract i s.size).extract 0 three.size).toList = [s.get! i,s.get! (i+1),s.get! (i+2)]:=by
   rw[ByteArray.toList_eq]
   apply List.ext_getElem?
   intro j
   have hth:three.size=3:=rfl
   simp only[ByteArray.data_extract,Array.toList_extract,List.extract_eq_take_drop,hth,List.getElem?_take,List.getElem?_drop]
   have hsz:s.data.size=s.size:=rfl
   match j with
   | 0=>rw[if_pos (by omega),if_pos (by omega)];simpa using l0
   | 1=>rw[if_pos (by omega),if_pos (by omega)];simpa using l1
   | 2=>rw[if_pos (by omega),if_pos (by omega)];simpa using l2
   | j+3=>rw[if_neg (by omega)];simp
  rw[e2]
  have e3:three.toList = [239,191,189]:=ByteArray.toList_mk [239,191,189]
  rw[e3]
  simp only[h3,decide_true,Bool.true_and]
  have q0 : ∀(a:Nat) (c:UInt8),(s.get! a == c)=(byteAt s a == c.toNat):=by
   intro a c
   unfold byteAt
   rw[Bool.eq_iff_iff]
   simp only[beq_iff_eq]
   exact UInt8.toNat_inj.symm
  simp[q0,Bool.and_assoc]
 ·simp[h3]
end Rn
section
def iterSet(w:World)(k:Nat)(s:ByteArray)(p:Nat):World:={ w with heap:=w.heap.setIfInBounds k (.stringIter s p) }
structure It(B:Nat)(w w' : World)(k:Nat)(s:ByteArray)(p:Nat):Prop where
 iter:w'.heap[k]? = some (.stringIter s p)
 below:Below B w w'
 base:B≤k
theorem It.lt{B:Nat}{w w' : World}{k:Nat}{s:ByteArray}{p:Nat}(h:It B w w' k s p):k<w'.heap.size:=(Array.getElem?_eq_some_iff.1 h.iter).1
theorem It.new{B:Nat}{w w' : World}(s:ByteArray)(hb:Below B w w')(hB:B≤w'.heap.size):It B w (w'.iter s 0) w'.heap.size s 0 :=
 ⟨World.iter_heap w' s 0,hb.alloc hB _,hB⟩
theorem It.set{B:Nat}{w w' : World}{k:Nat}{s:ByteArray}{p:Nat}(h:It B w w' k s p)(q:Nat):It B w (iterSet w' k s q) k s q:=by
 refine⟨?_,⟨h.below.os,h.below.tape,h.below.output, ?_,fun j hj => ?_⟩,h.base⟩
 ·show(w'.heap.setIfInBounds k _)[k]? = _
  rw[Array.getElem?_setIfInBounds_self_of_lt h.lt]
 ·show w.heap.size≤(w'.heap.setIfInBounds k _).size
  rw[Array.size_setIfInBounds];exact h.below.size
 ·show(w'.heap.setIfInBounds k _)[j]? = _
  rw[Array.getElem?_setIfInBounds_ne (by have:=h.base;omega)]
  exact h.below.block j hj
theorem It.on{B:Nat}{w w' w'' : World}{k:Nat}{s:ByteArray}{p:Nat}(h:It B w w' k s p)(hb:Below w'.heap.size w' w''):It B w w'' k s p :=
 ⟨(hb.block k h.lt).trans h.iter,h.below.trans (hb.mono (by have:=h.base;have:=h.lt;omega)),h.base⟩
theorem It.drew{B:Nat}{w w' : World}{k:Nat}{s:ByteArray}{p:Nat}(h:It B w w' k s p)(n:Nat):It B w (w'.drewN n) k s p:=h.on (drawn w' n)
section
variable {P : Program}
theorem next_at{w:World}{k:Nat}{s:ByteArray}{p:Nat}(hk:w.heap[k]? = some (.stringIter s p))(h:p<s.size)(ty:TypeId) :
 (Instr.next (.pointer (some ⟨k,0,none⟩)) true ty).run P w =
   .ok (.tuple #[.bool true, .int .i64 (p:Int), .int .i32 ((Utf8.decode s p).1:Int)]) (iterSet w k s (p+(Utf8.decode s p).2)):=by
 simp only[Instr.next,getObj,setObj,Sem.run_bind,Sem.run,hk,Result.andThen,h,if_true]
 simp[goInt,iterSet]
theorem next_end{w:World}{k:Nat}{s:ByteArray}{p:Nat}(hk:w.heap[k]? = some (.stringIter s p))(h : ¬p<s.size)(ty:TypeId) :
 (Instr.next (.pointer (some ⟨k,0,none⟩)) true ty).run P w = .ok (.tuple #[.bool false]) w:=by
 simp[Instr.next,getObj,Sem.run,hk,h]
end
def stands(k:Nat)(w:World):Nat:=match w.heap[k]? with | some (.stringIter _ p)=>p | _=>0
theorem It.stands{B:Nat}{w w' : World}{k:Nat}{s:ByteArray}{p:Nat}(h:It B w w' k s p):stands k w' = p:=by
 unfold Proofs.YtdkdjofnnnljjaaGreatDoor.stands;rw[h.iter]
def Made(w:World)(g:Nat)(E:TypeId)(l:List UInt8):Prop :=
 ∃(cs:Array Value) (f:Nat),w.heap[g]? = some (.cells cs E (f,f+1))∧l.length≤f ∧ ∀(j:Nat) (c:UInt8),l[j]? = some c→cs[j]? = some (Value.int .u8 (c.toNat:Int))
theorem Made.cell{w:World}{g:Nat}{E:TypeId}{l:List UInt8}(h:Made w g E l)(j:Nat)(c:UInt8)(hj:l[j]? = some c):w.cell? ⟨g,j,none⟩=some (.int .u8 (c.toNat:Int)):=by
 obtain⟨cs,f,h1,_,h3⟩:=h
 simp[World.cell?,h1,h3 j c hj]
theorem Made.free{w:World}{g:Nat}{E:TypeId}{l:List UInt8}(h:Made w g E l)(j:Nat)(hj:j<l.length):w.frozen? ⟨g,j,none⟩=false:=by
 obtain⟨cs,f,h1,h2,_⟩:=h
 simp[World.frozen?,h1]
 omega
theorem Made.lt{w:World}{g:Nat}{E:TypeId}{l:List UInt8}(h:Made w g E l):g<w.heap.size:=by
 obtain⟨cs,f,h1,_⟩:=h
 exact(Array.getElem?_eq_some_iff.1 h1).1
theorem Made.store{w:World}{g:Nat}{E:TypeId}{l:List UInt8}(h:Made w g E l)(j:Nat)(c:UInt8)(x:Int)(hx:x=(c.toNat:Int)):Made (w.setCell ⟨g,j,none⟩ (.int .u8 x)) g E (l.set j c):=by
 subst hx
 obtain⟨cs,f,h1,h2,h3⟩:=h
 refine⟨cs.setIfInBounds j (.int .u8 (c.toNat:Int)),f, ?_,by simpa using h2,fun i d hd => ?_⟩
 ·obtain⟨hlt,hk⟩:=Array.getElem?_eq_some_iff.1 h1
  show(w.heap.modify g _)[g]? = _
  rw[Array.getElem?_eq_getElem (by rw[Array.size_modify];exact hlt),Array.getElem_modify_self,hk]
  rfl
 ·rw[List.getElem?_set]at hd
  by_cases e:j=i
  ·subst e
   rw[if_pos rfl]at hd
   split at hd
   ·rename_i hj
    have:=h3 j _ (List.getElem?_eq_getElem hj)
    have hjc:=(Array.getElem?_eq_some_iff.1 this).1
    simp only[Option.some.injEq]at hd
    subst hd
    rw[Array.getElem?_setIfInBounds_self_of_lt hjc]
   ·cases hd
  ·rw[if_neg e]at hd
   rw[Array.getElem?_setIfInBounds_ne e]
   exact h3 i d hd
theorem Made.same{w w' : World}{g:Nat}{E:TypeId}{l:List UInt8}(h:Made w g E l)(he:w'.heap[g]? = w.heap[g]?):Made w' g E l:=by
 obtain⟨cs,f,h1,h2,h3⟩:=h
 exact⟨cs,f,he.trans h1,h2,h3⟩
theorem Made.reads{w:World}{g:Nat}{E:TypeId}{l:List UInt8}(h:Made w g E l)(cap:Nat)(h1:l.length≤cap)(h2:cap≤maxLen):Reads w (.slice (some ⟨g,0,none⟩) l.length cap) l:=by
 refine⟨_,cap,rfl,h1,h2,(fun h=>by cases h),fun x hx j u hu => ?_⟩
 cases hx
 simp only[cellsOf,List.getElem?_map]at hu
 cases hc:l[j]? with
 | none=>rw[hc]at hu;cases hu
 | some c =>
  rw[hc]at hu
  cases hu
  rw[Addr.add_lit,Nat.zero_add]
  exact h.cell j c hc
theorem It.store{B:Nat}{w w' : World}{k:Nat}{s:ByteArray}{p:Nat}(h:It B w w' k s p)(g j:Nat)(v:Value)(hg:B≤g)(hk:g≠k):It B w (w'.setCell ⟨g,j,none⟩ v) k s p :=
 ⟨(Below.heap_setCell _ _ _ k (by simpa using fun e=>hk e.symm)).trans h.iter,
  ⟨h.below.os,h.below.tape,h.below.output,by show w.heap.size≤(w'.heap.modify g _).size;rw[Array.size_modify];exact h.below.size,fun i hi=>(Below.heap_setCell _ _ _ i (by simp;omega)).trans (h.below.block i hi)⟩,h.base⟩
namespace Rn
def badFrom(s:ByteArray):Nat→Nat→Int
 | 0,_ => -1
 | b+1,i=>if i<s.size then (if isBad s i then (i:Int)else badFrom s b (i+(Utf8.decode s i).2))else -1
def badAt(s:ByteArray)(i:Nat):Int:=badFrom s (s.size - i) i
def bad(s:ByteArray):Int:=badFrom s s.size 0
theorem badFrom_any(s:ByteArray) : ∀(b b' i:Nat),s.size - i≤b→s.size - i≤b' → badFrom s b i=badFrom s b' i:=by
 intro b
 induction b with
 | zero =>
  intro b' i h h'
  cases b' with
  | zero=>rfl
  | succ b' => simp only[badFrom];rw[if_neg (by omega)]
 | succ b ih =>
  intro b' i h h'
  cases b' with
  | zero=>simp only[badFrom];rw[if_neg (by omega)]
  | succ b' =>
   simp only[badFrom]
   have:=width_pos s i
   rw[ih b' (i+(Utf8.decode s i).2) (by omega) (by omega)]
theorem badAt_eq(s:ByteArray)(i:Nat)(h:i<s.size):badAt s i=if isBad s i then (i:Int)else badAt s (i+(Utf8.decode s i).2):=by
 unfold badAt
 obtain⟨b,hb⟩ : ∃b,s.size - i=b+1:=⟨s.size - i - 1,by omega⟩
 have:=width_pos s i
 rw[hb]
 simp only[badFrom]
 rw[if_pos h,badFrom_any s b (s.size - (i+(Utf8.decode s i).2)) _ (by omega) (by omega)]
theorem badAt_end(s:ByteArray)(i:Nat)(h : ¬i<s.size):badAt s i = -1:=by
 unfold badAt;rw[show s.size - i=0 by omega];rfl
theorem bad_range(s:ByteArray) : ∀(b i:Nat),i≤s.size → -1≤badFrom s b i∧badFrom s b i≤(s.size:Int):=by
 intro b
 induction b with
 | zero=>intro i _;simp[badFrom]
 | succ b ih =>
  intro i hi
  simp only[badFrom]
  split
  ·rename_i h
   split
   ·omega
   ·exact ih _ (width_le s i h)
  ·omega
def allFrom(p:Int→Bool)(s:ByteArray):Nat→Nat→Bool
 | 0,_=>true
 | b+1,i=>if i<s.size then p ((Utf8.decode s i).1:Int) && allFrom p s b (i+(Utf8.decode s i).2)else true
def allAt(p:Int→Bool)(s:ByteArray)(i:Nat):Bool:=allFrom p s (s.size - i) i
def all(p:Int→Bool)(s:ByteArray):Bool:=allFrom p s s.size 0
theorem allFrom_any(p:Int→Bool)(s:ByteArray) : ∀(b b' i:Nat),s.size - i≤b→s.size - i≤b' → allFrom p s b i=allFrom p s b' i:=by
 intro b
 induction b with
 | zero =>
  intro b' i h h'
  cases b' with
  | zero=>rfl
  | succ b' => simp only[allFrom];rw[if_neg (by omega)]
 | succ b ih =>
  intro b' i h h'
  cases b' with
  | zero=>simp only[allFrom];rw[if_neg (by omega)]
  | succ b' =>
   simp only[allFrom]
   have:=width_pos s i
   rw[ih b' (i+(Utf8.decode s i).2) (by omega) (by omega)]
theorem allAt_eq(p:Int→Bool)(s:ByteArray)(i:Nat)(h:i<s.size):allAt p s i=(p ((Utf8.decode s i).1:Int) && allAt p s (i+(Utf8.decode s i).2)):=by
 unfold allAt
 obtain⟨b,hb⟩ : ∃b,s.size - i=b+1:=⟨s.size - i - 1,by omega⟩
 have:=width_pos s i
 rw[hb]
 simp only[allFrom]
 rw[if_pos h,allFrom_any p s b (s.size - (i+(Utf8.decode s i).2)) _ (by omega) (by omega)]
theorem allAt_end(p:Int→Bool)(s:ByteArray)(i:Nat)(h : ¬i<s.size):allAt p s i=true:=by
 unfold allAt;rw[show s.size - i=0 by omega];rfl
def steps(s:ByteArray):Nat→Nat→Nat × Nat
 | 0,i=>(i,0)
 | n+1,i=>if i<s.size then ((steps s n (i+(Utf8.decode s i).2)).1,(steps s n (i+(Utf8.decode s i).2)).2+1)else (i,0)
def count(s:ByteArray):Nat:=(steps s s.size 0).2
def cut(s:ByteArray)(n:Int):ByteArray:=s.extract 0 (steps s n.toNat 0).1
end Rn
end
theorem allPlain_any(s:ByteArray)(w:World)(hs:s.size≤140737488355328) :
 Calls Tryz.prog 228 #[.string s, .func (.func 229) #[] #[]] w (Finds w (.bool (Rn.all Rn.plain s))):=by
 obtain⟨B,hB⟩ : ∃B,B=w.heap.size:=⟨_,rfl⟩
 have h0:It w.heap.size w (w.iter s 0) B s 0:=hB ▸ It.new s (Below.refl _ w) (Nat.le_refl _)
 go_enter Tryz.func228,Tryz.ntmps228
 go_wp2
 rw[← hB]
 clear hB
 go_loopw [6] (fun r wr => ∃q:Nat,It w.heap.size w wr B s q∧q≤s.size∧Hid (Rn.allAt Rn.plain s q=Rn.all Rn.plain s)) (fun _ wr=>s.size - stands B wr)
 case atStart=>exact⟨0,h0,by omega,rfl⟩
 case round =>
  obtain⟨q,hit,hq,HQ⟩:=hrel
  by_cases hlt:q<s.size
  ·have hnx:=fun ty=>next_at (P:=Tryz.prog) hit.iter hlt ty
   have hit2:=hit.set (q+(Utf8.decode s q).2)
   have hstep:=Rn.allAt_eq Rn.plain s q hlt
   have hw1:=Rn.width_pos s q
   have hw2:=Rn.width_le s q hlt
   obtain⟨r,hr⟩ : ∃r,r=(Utf8.decode s q).1:=⟨_,rfl⟩
   obtain⟨d,hd⟩ : ∃d,d=(Utf8.decode s q).2:=⟨_,rfl⟩
   rw[← hr, ← hd]at hnx
   rw[← hd]at hit2 hw1 hw2
   rw[← hr, ← hd]at hstep
   clear hr hd
   obtain⟨b,hb⟩ : ∃b,b=Rn.plain (r:Int):=⟨_,rfl⟩
   have HS:Hid (Rn.all Rn.plain s=(b && Rn.allAt Rn.plain s (q+d))):=by show _=_;rw[← HQ.out,hstep,hb]
   have HB:=Lib.hid hb
   clear hstep hb
   cases b with
   | false =>
    go_wp2_with fail
    refine(plain_any _ _).mono ?_
    rintro e w1 ⟨rfl,rfl⟩
    rw[← HB.out]
    go_wp2
    go_ret
    exact⟨ret_bool (by rw[HS.out];rfl),hit2.below⟩
   | true =>
    go_wp2_with fail
    refine(plain_any _ _).mono ?_
    rintro e w1 ⟨rfl,rfl⟩
    rw[← HB.out]
    go_wp2
    go_roundw
    case rel=>exact⟨q+d,hit2,hw2,by show _=_;rw[HS.out];rfl⟩
    case measure=>rw[hit2.stands,hit.stands];omega
  ·have hnx:=fun ty=>next_end (P:=Tryz.prog) hit.iter hlt ty
   go_wp2
   go_ret
   exact⟨ret_bool (by rw[← HQ.out,Rn.allAt_end Rn.plain s q hlt]),hit.below⟩
theorem allShown_any(s:ByteArray)(w:World)(hs:s.size≤140737488355328) :
 Calls Tryz.prog 228 #[.string s, .func (.func 231) #[] #[]] w (Finds w (.bool (Rn.all Rn.shown s))):=by
 obtain⟨B,hB⟩ : ∃B,B=w.heap.size:=⟨_,rfl⟩
 have h0:It w.heap.size w (w.iter s 0) B s 0:=hB ▸ It.new s (Below.refl _ w) (Nat.le_refl _)
 go_enter Tryz.func228,Tryz.ntmps228
 go_wp2
 rw[← hB]
 clear hB
 go_loopw [6] (fun r wr => ∃q:Nat,It w.heap.size w wr B s q∧q≤s.size∧Hid (Rn.allAt Rn.shown s q=Rn.all Rn.shown s)) (fun _ wr=>s.size - stands B wr)
 case atStart=>exact⟨0,h0,by omega,rfl⟩
 case round =>
  obtain⟨q,hit,hq,HQ⟩:=hrel
  by_cases hlt:q<s.size
  ·have hnx:=fun ty=>next_at (P:=Tryz.prog) hit.iter hlt ty
   have hit2:=hit.set (q+(Utf8.decode s q).2)
   have hstep:=Rn.allAt_eq Rn.shown s q hlt
   have hw1:=Rn.width_pos s q
   have hw2:=Rn.width_le s q hlt
   obtain⟨r,hr⟩ : ∃r,r=(Utf8.decode s q).1:=⟨_,rfl⟩
   obtain⟨d,hd⟩ : ∃d,d=(Utf8.decode s q).2:=⟨_,rfl⟩
   rw[← hr, ← hd]at hnx
   rw[← hd]at hit2 hw1 hw2
   rw[← hr, ← hd]at hstep
   clear hr hd
   obtain⟨b,hb⟩ : ∃b,b=Rn.shown (r:Int):=⟨_,rfl⟩
   have HS:Hid (Rn.all Rn.shown s=(b && Rn.allAt Rn.shown s (q+d))):=by show _=_;rw[← HQ.out,hstep,hb]
   have HB:=Lib.hid hb
   clear hstep hb
   cases b with
   | false =>
    go_wp2_with fail
    refine(shown_any _ _).mono ?_
    rintro e w1 ⟨rfl,rfl⟩
    rw[← HB.out]
    go_wp2
    go_ret
    exact⟨ret_bool (by rw[HS.out];rfl),hit2.below⟩
   | true =>
    go_wp2_with fail
    refine(shown_any _ _).mono ?_
    rintro e w1 ⟨rfl,rfl⟩
    rw[← HB.out]
    go_wp2
    go_roundw
    case rel=>exact⟨q+d,hit2,hw2,by show _=_;rw[HS.out];rfl⟩
    case measure=>rw[hit2.stands,hit.stands];omega
  ·have hnx:=fun ty=>next_end (P:=Tryz.prog) hit.iter hlt ty
   go_wp2
   go_ret
   exact⟨ret_bool (by rw[← HQ.out,Rn.allAt_end Rn.shown s q hlt]),hit.below⟩
theorem bad_any(s:ByteArray)(w:World)(hs:s.size≤140737488355328) :
 Calls Tryz.prog 237 #[.string s] w (Finds w (.int .i64 (Rn.bad s))):=by
 obtain⟨B,hB⟩ : ∃B,B=w.heap.size:=⟨_,rfl⟩
 have h0:It w.heap.size w (w.iter s 0) B s 0:=hB ▸ It.new s (Below.refl _ w) (Nat.le_refl _)
 go_enter Tryz.func237,Tryz.ntmps237
 go_wp2
 rw[← hB]
 clear hB
 go_loopw [3,4] (fun _ _ wr => ∃q:Nat,It w.heap.size w wr B s q∧q≤s.size∧Hid (Rn.badAt s q=Rn.bad s)) (fun _ _ wr=>s.size - stands B wr)
 case atStart=>exact⟨0,h0,by omega,rfl⟩
 case round =>
  obtain⟨q,hit,hq,HQ⟩:=hrel
  by_cases hlt:q<s.size
  ·have hnx:=fun ty=>next_at (P:=Tryz.prog) hit.iter hlt ty
   have hit2:=hit.set (q+(Utf8.decode s q).2)
   have hw1:=Rn.width_pos s q
   have hw2:=Rn.width_le s q hlt
   have hst:=Rn.badAt_eq s q hlt
   by_cases hr:(Utf8.decode s q).1=65533
   ·have hl:=Rn.lost_three s q hr hlt
    rw[← Rn.pre_three s q hq]at hl
    rw[hr]at hnx
    obtain⟨d,hd⟩ : ∃d,d=(Utf8.decode s q).2:=⟨_,rfl⟩
    rw[← hd]at hnx hit2 hw1 hw2 hst
    clear hd hr
    obtain⟨b,hb⟩ : ∃b,b=Rn.pre (s.extract q s.size) Rn.three:=⟨_,rfl⟩
    rw[← hb]at hl
    rw[hl]at hst
    clear hl
    have HB:=Lib.hid hb
    have HS:=Lib.hid hst
    clear hb hst
    cases b with
    | true =>
     go_wp2_with fail
     refine(prefix_any _ _ _).mono ?_
     rintro e w1 ⟨rfl,rfl⟩
     rw[show Rn.pre (s.extract q s.size) ⟨#[239,191,189]⟩=true from HB.out.symm]
     go_wp2
     go_roundw
     case rel=>exact⟨q+d,hit2,hw2,by show _=_;rw[← HQ.out,HS.out];rfl⟩
     case measure=>rw[hit2.stands,hit.stands];omega
    | false =>
     go_wp2_with fail
     refine(prefix_any _ _ _).mono ?_
     rintro e w1 ⟨rfl,rfl⟩
     rw[show Rn.pre (s.extract q s.size) ⟨#[239,191,189]⟩=false from HB.out.symm]
     go_wp2
     go_ret
     exact⟨ret_int (by rw[← HQ.out,HS.out];rfl),hit2.below⟩
   ·have hb:Rn.isBad s q=false:=by
     unfold Rn.isBad
     cases he:(Utf8.decode s q == (65533,1))with
     | false=>rfl
     | true=>simp at he;exact absurd (by rw[he]) hr
    have hne:(((Utf8.decode s q).1:Int) == 65533)=false:=by simp;omega
    obtain⟨r,hr'⟩ : ∃r,r=(Utf8.decode s q).1:=⟨_,rfl⟩
    obtain⟨d,hd⟩ : ∃d,d=(Utf8.decode s q).2:=⟨_,rfl⟩
    rw[← hd]at hnx hit2 hw1 hw2 hst
    rw[← hr']at hnx hne
    rw[hb]at hst
    clear hd hr hr' hb
    have HS:=Lib.hid hst
    clear hst
    go_wp2
    go_roundw
    case rel=>exact⟨q+d,hit2,hw2,by show _=_;rw[← HQ.out,HS.out];rfl⟩
    case measure=>rw[hit2.stands,hit.stands];omega
  ·have hnx:=fun ty=>next_end (P:=Tryz.prog) hit.iter hlt ty
   go_wp2
   go_ret
   exact⟨ret_int (by rw[← HQ.out,Rn.badAt_end s q hlt]),hit.below⟩
theorem whole_any(s:ByteArray)(w:World)(hs:s.size≤140737488355328) :
 Calls Tryz.prog 230 #[.string s] w (Finds w (.bool (decide (Rn.bad s<0)))):=by
 have hb:=Rn.bad_range s s.size 0 (Nat.zero_le _)
 have hb1 : -1≤Rn.bad s:=hb.1
 have hb2:Rn.bad s≤(s.size:Int):=hb.2
 clear hb
 go_enter Tryz.func230,Tryz.ntmps230
 go_wp2_with fail
 refine(bad_any _ _ hs).mono ?_
 rintro e w1 ⟨rfl,hb⟩
 go_wp2
 go_ret
 exact⟨rfl,hb⟩
namespace Rn
def key(s:ByteArray):Bool:=decide (0<s.size) && decide (s.size≤24) && all plain s
def val(s:ByteArray):Bool:=decide (s.size≤48) && decide (bad s<0) && all shown s
end Rn
theorem key_any(s:ByteArray)(w:World)(hs:s.size≤140737488355328) :
 Calls Tryz.prog 216 #[.string s] w (Finds w (.bool (Rn.key s))):=by
 by_cases h0:0<s.size
 ·by_cases h1:s.size≤24
  ·have e:Hid (Rn.key s=Rn.all Rn.plain s):=by show _=_;simp[Rn.key,h0,h1]
   go_enter Tryz.func216,Tryz.ntmps216
   go_wp2_with fail
   refine(allPlain_any _ _ hs).mono ?_
   rintro e w1 ⟨rfl,hb⟩
   go_wp2
   go_ret
   refine⟨ret_bool ?_,hb⟩
   rw[e.out]
  ·have e:Hid (Rn.key s=false):=by show _=_;simp[Rn.key,h1]
   go_enter Tryz.func216,Tryz.ntmps216
   go_wp2
   go_ret
   exact⟨ret_bool (by rw[e.out]),Below.refl _ _⟩
 ·have e:Hid (Rn.key s=false):=by show _=_;simp[Rn.key,h0]
  go_enter Tryz.func216,Tryz.ntmps216
  go_wp2
  go_ret
  exact⟨ret_bool (by rw[e.out]),Below.refl _ _⟩
theorem val_any(s:ByteArray)(w:World)(hs:s.size≤140737488355328) :
 Calls Tryz.prog 217 #[.string s] w (Finds w (.bool (Rn.val s))):=by
 by_cases h1:s.size≤48
 ·obtain⟨b,hb⟩ : ∃b,b=decide (Rn.bad s<0):=⟨_,rfl⟩
  have e:Hid (Rn.val s=(b && Rn.all Rn.shown s)):=by show _=_;simp[Rn.val,h1,hb]
  have HB:=Lib.hid hb;clear hb
  cases b with
  | true =>
   go_enter Tryz.func217,Tryz.ntmps217
   go_wp2_with fail
   refine(whole_any _ _ hs).mono ?_
   rintro e w1 ⟨rfl,hb⟩
   rw[← HB.out]
   go_wp2_with fail
   refine(allShown_any _ _ hs).mono ?_
   rintro e w2 ⟨rfl,hb2⟩
   go_wp2
   go_ret
   refine⟨ret_bool ?_,on hb hb2⟩
   rw[e.out];rfl
  | false =>
   go_enter Tryz.func217,Tryz.ntmps217
   go_wp2_with fail
   refine(whole_any _ _ hs).mono ?_
   rintro e w1 ⟨rfl,hb⟩
   rw[← HB.out]
   go_wp2
   go_ret
   refine⟨ret_bool ?_,hb⟩
   rw[e.out];rfl
 ·have e:Hid (Rn.val s=false):=by show _=_;simp[Rn.val,h1]
  go_enter Tryz.func217,Tryz.ntmps217
  go_wp2
  go_ret
  exact⟨ret_bool (by rw[e.out]),Below.refl _ _⟩
end Go.Proofs.YtdkdjofnnnljjaaGreatDoor

namespace Go.Proofs.YtdkdjofnnnljjaaGreatDoor
open Go.RowKit
section
namespace Qt
open Go Rn
def hex(n:Nat):UInt8:=if n<10 then UInt8.ofNat (48+n)else UInt8.ofNat (87+n)
def esc(c:UInt8):List UInt8 := [92,120,hex (c.toNat / 16),hex (c.toNat % 16)]
def piece(s:ByteArray)(i:Nat):List UInt8 :=
 if(Utf8.decode s i).1=34∨(Utf8.decode s i).1=92 then [92,s.get! i]
 else if(Utf8.decode s i).1<32∨(Utf8.decode s i).1=127∨isBad s i=true then esc (s.get! i)
 else (s.data.toList.drop i).take (Utf8.decode s i).2
def bodyFrom(s:ByteArray):Nat→Nat→List UInt8
 | 0,_ => []
 | b+1,i=>if i<s.size then piece s i++bodyFrom s b (i+(Utf8.decode s i).2)else []
def bodyAt(s:ByteArray)(i:Nat):List UInt8:=bodyFrom s (s.size - i) i
def quote(s:ByteArray):List UInt8:=34 :: bodyAt s 0 ++ [34]
end Qt
namespace Qt
open Go Rn
def digits : List UInt8 := [48,49,50,51,52,53,54,55,56,57,97,98,99,100,101,102]
def hv(c:UInt8):Nat:=(Lib.indexByte digits c % 256).toNat
def mix(a b:UInt8):UInt8:=UInt8.ofNat (((hv a*16) % 256) ||| hv b)
def plFrom(s:ByteArray):Nat→Nat→Nat→List UInt8→List UInt8
 | 0,_,_,out=>out
 | b+1,i,k,out=>if i<s.size then
  (if(k=0∧(Utf8.decode s i).1=92)∨(k=1∧(Utf8.decode s i).1=120)∨k=2 then plFrom s b (i+(Utf8.decode s i).2) (k+1) out
   else if k=3 then plFrom s b (i+(Utf8.decode s i).2) 0 (out ++ [mix (s.get! (i - 1)) (s.get! i)])
   else plFrom s b (i+(Utf8.decode s i).2) 0 (out++Lib.encodeRune ((Utf8.decode s i).1:Int)))
  else out
def plAt(s:ByteArray)(i k:Nat)(out:List UInt8):List UInt8:=plFrom s (s.size - i) i k out
def pl(s:ByteArray):List UInt8:=plAt s 0 0 []
def val(c:UInt8):Int:=if 48≤c.toNat∧c.toNat≤57 then (c.toNat:Int) - 48 else if 97≤c.toNat∧c.toNat≤102 then (c.toNat:Int) - 97+10 else -1
def two(a b:UInt8):UInt8:=UInt8.ofNat (16*val a+val b).toNat
def prFrom(s:ByteArray)(e:Nat):Nat→Nat→List UInt8→Option (List UInt8)
 | 0,_,out=>some out
 | b+1,i,out=>if i<e then
  (if byteAt s i≠92 then prFrom s e b (i+1) (out ++ [s.get! i])
   else if i+1<e∧(byteAt s (i+1)=34∨byteAt s (i+1)=92)then prFrom s e b (i+2) (out ++ [s.get! (i+1)])
   else if e≤i+3∨byteAt s (i+1)≠120∨val (s.get! (i+2))<0∨val (s.get! (i+3))<0 then none
   else prFrom s e b (i+4) (out ++ [two (s.get! (i+2)) (s.get! (i+3))]))
  else some out
def prAt(s:ByteArray)(e i:Nat)(out:List UInt8):Option (List UInt8):=prFrom s e (e - i) i out
end Qt
namespace Qt
open Go Rn
theorem back(l:List UInt8):(ByteArray.mk l.toArray).data.toList=l:=by simp
def rd(s:ByteArray):Option (List UInt8):=if s.size<2 then none else prAt s (s.size - 1) 1 []
def trimmed(s:ByteArray):List UInt8:=Lib.trimPrefix (Lib.trimSuffix s.data.toList [34]) [34]
def got(s:ByteArray):List UInt8:=pl ⟨(trimmed s).toArray⟩
def unq(s:ByteArray):Option (List UInt8):=if quote ⟨(got s).toArray⟩=s.data.toList then some (got s)else none
end Qt
namespace Qt
open Go Rn
def sp : List UInt8→List UInt8→Bool→Bool→List (List UInt8)→List (List UInt8)
 | [],cur,_,_,l=>l ++ [cur]
 | c :: r,cur,qd,es,l =>
  if es=true then sp r (cur ++ [c]) qd false l
  else if c.toNat=92 then sp r (cur ++ [c]) qd qd l
  else if c.toNat=34∧(qd=true∨cur = [])then sp r (cur ++ [c]) (!qd) es l
  else if c.toNat=32∧qd=false then sp r [] qd es (l ++ [cur])
  else sp r (cur ++ [c]) qd es l
def split(s:List UInt8):List (List UInt8):=sp s [] false false []
def bare(l:List UInt8):Bool:=l.all fun c=>decide (32<c.toNat)
def word(s:ByteArray):Bool:=if s.size=0 then false else if byteAt s 0=34 then (unq s).isSome else bare s.data.toList
end Qt
end
end Go.Proofs.YtdkdjofnnnljjaaGreatDoor

namespace Go.Proofs.YtdkdjofnnnljjaaGreatDoor
open Go.RowKit
namespace Vs
def may(v:Int):Bool:=(v == 1) || (v == 2)
def least(a b:Int):Int:=if may a=true∧may b=true then (if a≤b then a else b)else 0
def common(k:Int):Bool:=(k == 1) || (k == 2) || (k == 3) || (k == 4) || (k == 6) || (k == 7) || (k == 8)
def has(v k:Int):Bool:=((v == 2) && ((k == 5) || common k)) || ((v == 1) && common k)
def format(n:Int):Int:=if 0<n then 2 else 1
def opens(v f:Int):Int:=if may v=true∧may f=true then (if v<f then 9 else 0)else 8
theorem may_or(v:Int):(may v=true∧(v=1∨v=2))∨(may v=false∧v≠1∧v≠2):=by
 by_cases h1:v=1
 ·subst h1;exact Or.inl ⟨rfl,Or.inl rfl⟩
 ·by_cases h2:v=2
  ·subst h2;exact Or.inl ⟨rfl,Or.inr rfl⟩
  ·exact Or.inr ⟨by simp[may,h1,h2],h1,h2⟩
theorem kinds(k:Int):k=1∨k=2∨k=3∨k=4∨k=5∨k=6∨k=7∨k=8∨(k<1∨8<k):=by omega
end Vs
theorem may_any(v:Int)(w:World):Calls Tryz.prog 63 #[.int .i64 v] w (Says w (.bool (Vs.may v))):=by
 rcases Vs.may_or v with ⟨e,rfl | rfl⟩ | ⟨e,h1,h2⟩
 all_goals
  rw[e]
  go_enter Tryz.func63,Tryz.ntmps63
  go_wp2
  go_ret
  exact⟨rfl,rfl⟩
theorem common_any(k:Int)(w:World):Calls Tryz.prog 188 #[.int .i64 k] w (Says w (.bool (Vs.common k))):=by
 rcases Vs.kinds k with rfl | rfl | rfl | rfl | rfl | rfl | rfl | rfl | h
 all_goals try have e:Vs.common k=false:=by simp[Vs.common];omega
 all_goals first | rw[e] | skip
 all_goals
  go_enter Tryz.func188,Tryz.ntmps188
  go_wp2
  go_ret
  exact⟨rfl,rfl⟩
theorem has_any(v k:Int)(w:World):Calls Tryz.prog 160 #[.int .i64 v, .int .i64 k] w (Says w (.bool (Vs.has v k))):=by
 rcases Vs.may_or v with ⟨e,rfl | rfl⟩ | ⟨e,h1,h2⟩
 ·have e2:Vs.has 1 k=Vs.common k:=by simp[Vs.has]
  rw[e2]
  go_enter Tryz.func160,Tryz.ntmps160
  go_wp2_with fail
  refine(common_any _ _).mono ?_
  rintro e w1 ⟨rfl,rfl⟩
  go_wp2
  go_ret
  exact⟨rfl,rfl⟩
 ·by_cases h5:k=5
  ·subst h5
   go_enter Tryz.func160,Tryz.ntmps160
   go_wp2
   go_ret
   exact⟨rfl,rfl⟩
  ·have e2:Vs.has 2 k=Vs.common k:=by simp[Vs.has,h5]
   rw[e2]
   go_enter Tryz.func160,Tryz.ntmps160
   go_wp2_with fail
   refine(common_any _ _).mono ?_
   rintro e w1 ⟨rfl,rfl⟩
   go_wp2
   go_ret
   exact⟨rfl,rfl⟩
 ·have e2:Vs.has v k=false:=by simp[Vs.has,h1,h2]
  rw[e2]
  go_enter Tryz.func160,Tryz.ntmps160
  go_wp2
  go_ret
  exact⟨rfl,rfl⟩
theorem format_any(n:Int)(w:World):Calls Tryz.prog 53 #[.int .i64 n] w (Says w (.int .i64 (Vs.format n))):=by
 by_cases h:0<n
 ·have e:Vs.format n=2:=if_pos h
  rw[e]
  go_enter Tryz.func53,Tryz.ntmps53
  go_wp2
  go_ret
  exact⟨rfl,rfl⟩
 ·have e:Vs.format n=1:=if_neg h
  rw[e]
  go_enter Tryz.func53,Tryz.ntmps53
  go_wp2
  go_ret
  exact⟨rfl,rfl⟩
theorem opens_any(v f:Int)(w:World):Calls Tryz.prog 34 #[.int .i64 v, .int .i64 f] w (Says w (.int .i64 (Vs.opens v f))):=by
 obtain⟨z,hz⟩ : ∃z,Vs.opens v f=z:=⟨_,rfl⟩
 have HZ:=Lib.hid hz
 rw[hz]
 clear hz
 rcases Vs.may_or v with ⟨ea,ha⟩ | ⟨ea,ha1,ha2⟩
 ·rcases Vs.may_or f with ⟨eb,hb⟩ | ⟨eb,hb1,hb2⟩
  ·go_enter Tryz.func34,Tryz.ntmps34
   go_wp2_with fail
   refine(may_any _ _).mono ?_
   rintro e w1 ⟨rfl,rfl⟩
   rw[ea]
   rcases ha with rfl | rfl<;>rcases hb with rfl | rfl
   all_goals
    go_wp2
    go_ret
    exact⟨by rw[← HZ.out];rfl,rfl⟩
  ·have hz:z=8:=by rw[← HZ.out];simp[Vs.opens,eb]
   subst hz
   have b1:(f != 1)=true:=by simpa using hb1
   have b2:(f != 2)=true:=by simpa using hb2
   go_enter Tryz.func34,Tryz.ntmps34
   go_wp2_with fail
   refine(may_any _ _).mono ?_
   rintro e w1 ⟨rfl,rfl⟩
   rw[ea]
   go_wp2
   go_ret
   exact⟨rfl,rfl⟩
 ·have hz:z=8:=by rw[← HZ.out];simp[Vs.opens,ea]
  subst hz
  go_enter Tryz.func34,Tryz.ntmps34
  go_wp2_with fail
  refine(may_any _ _).mono ?_
  rintro e w1 ⟨rfl,rfl⟩
  rw[ea]
  go_wp2
  go_ret
  exact⟨rfl,rfl⟩
theorem refOpens_any(v f:Int)(w:World):Calls Tryz.prog 59 #[.int .i64 v, .int .i64 f] w (Says w (.int .i64 (Vs.opens v f))):=by
 obtain⟨z,hz⟩ : ∃z,Vs.opens v f=z:=⟨_,rfl⟩
 have HZ:=Lib.hid hz
 rw[hz]
 clear hz
 rcases Vs.may_or v with ⟨ea,ha⟩ | ⟨ea,ha1,ha2⟩
 ·rcases Vs.may_or f with ⟨eb,hb⟩ | ⟨eb,hb1,hb2⟩
  ·rcases ha with rfl | rfl<;>rcases hb with rfl | rfl
   all_goals
    go_enter Tryz.func59,Tryz.ntmps59
    go_wp2
    go_ret
    exact⟨by rw[← HZ.out];rfl,rfl⟩
  ·have hz:z=8:=by rw[← HZ.out];simp[Vs.opens,eb]
   subst hz
   rcases(by omega:f<1∨2<f)with h | h<;>rcases ha with rfl | rfl
   all_goals
    go_enter Tryz.func59,Tryz.ntmps59
    go_wp2
    go_ret
    exact⟨rfl,rfl⟩
 ·have hz:z=8:=by rw[← HZ.out];simp[Vs.opens,ea]
  subst hz
  rcases(by omega:v<1∨2<v)with h | h
  all_goals
   go_enter Tryz.func59,Tryz.ntmps59
   go_wp2
   go_ret
   exact⟨rfl,rfl⟩
end Go.Proofs.YtdkdjofnnnljjaaGreatDoor
