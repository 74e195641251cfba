/- Several texts of mine in one: GQm Vers. -/
import Derived.Test.YtdkdjofnnnljjaaGreatDoorGRune
import Derived.Lib.RuneBytes
import Derived.Lib.Bytealg
import Derived.Lib.Join
import Derived.Shelf.Strings.Prefix
import Derived.Test.YtdkdjofnnnljjaaGreatDoorRows
import Derived.Test.YtdkdjofnnnljjaaGreatDoorGMb
namespace Go.Proofs.YtdkdjofnnnljjaaGreatDoor
open Go.RowKit
section
namespace Qt
open Go Rn
def hex(n:Nat):UInt8:=if n<10 then UInt8.ofNat (48+n)else UInt8.ofNat (87+n)
def esc(c:UInt8):List UInt8 := [92,120,hex (c.toNat / 16),hex (c.toNat % 16)]
def piece(s:ByteArray)(i:Nat):List UInt8 :=
 if(Utf8.decode s i).1=34∨(Utf8.decode s i).1=92 then [92,s.get! i]
 else if(Utf8.decode s i).1<32∨(Utf8.decode s i).1=127∨isBad s i=true then esc (s.get! i)
 else (s.data.toList.drop i).take (Utf8.decode s i).2
def bodyFrom(s:ByteArray):Nat→Nat→List UInt8
 | 0,_ => []
 | b+1,i=>if i<s.size then piece s i++bodyFrom s b (i+(Utf8.decode s i).2)else []
def bodyAt(s:ByteArray)(i:Nat):List UInt8:=bodyFrom s (s.size - i) i
def quote(s:ByteArray):List UInt8:=34 :: bodyAt s 0 ++ [34]
end Qt
namespace Qt
open Go Rn
def digits : List UInt8 := [48,49,50,51,52,53,54,55,56,57,97,98,99,100,101,102]
def hv(c:UInt8):Nat:=(Lib.indexByte digits c % 256).toNat
def mix(a b:UInt8):UInt8:=UInt8.ofNat (((hv a*16) % 256) ||| hv b)
def plFrom(s:ByteArray):Nat→Nat→Nat→List UInt8→List UInt8
 | 0,_,_,out=>out
 | b+1,i,k,out=>if i<s.size then
  (if(k=0∧(Utf8.decode s i).1=92)∨(k=1∧(Utf8.decode s i).1=120)∨k=2 then plFrom s b (i+(Utf8.decode s i).2) (k+1) out
   else if k=3 then plFrom s b (i+(Utf8.decode s i).2) 0 (out ++ [mix (s.get! (i - 1)) (s.get! i)])
   else plFrom s b (i+(Utf8.decode s i).2) 0 (out++Lib.encodeRune ((Utf8.decode s i).1:Int)))
  else out
def plAt(s:ByteArray)(i k:Nat)(out:List UInt8):List UInt8:=plFrom s (s.size - i) i k out
def pl(s:ByteArray):List UInt8:=plAt s 0 0 []
def val(c:UInt8):Int:=if 48≤c.toNat∧c.toNat≤57 then (c.toNat:Int) - 48 else if 97≤c.toNat∧c.toNat≤102 then (c.toNat:Int) - 97+10 else -1
def two(a b:UInt8):UInt8:=UInt8.ofNat (16*val a+val b).toNat
def prFrom(s:ByteArray)(e:Nat):Nat→Nat→List UInt8→Option (List UInt8)
 | 0,_,out=>some out
 | b+1,i,out=>if i<e then
  (if byteAt s i≠92 then prFrom s e b (i+1) (out ++ [s.get! i])
   else if i+1<e∧(byteAt s (i+1)=34∨byteAt s (i+1)=92)then prFrom s e b (i+2) (out ++ [s.get! (i+1)])
   else if e≤i+3∨byteAt s (i+1)≠120∨val (s.get! (i+2))<0∨val (s.get! (i+3))<0 then none
   else prFrom s e b (i+4) (out ++ [two (s.get! (i+2)) (s.get! (i+3))]))
  else some out
def prAt(s:ByteArray)(e i:Nat)(out:List UInt8):Option (List UInt8):=prFrom s e (e - i) i out
end Qt
namespace Qt
open Go Rn
theorem back(l:List UInt8):(ByteArray.mk l.toArray).data.toList=l:=by simp
def rd(s:ByteArray):Option (List UInt8):=if s.size<2 then none else prAt s (s.size - 1) 1 []
def trimmed(s:ByteArray):List UInt8:=Lib.trimPrefix (Lib.trimSuffix s.data.toList [34]) [34]
def got(s:ByteArray):List UInt8:=pl ⟨(trimmed s).toArray⟩
def unq(s:ByteArray):Option (List UInt8):=if quote ⟨(got s).toArray⟩=s.data.toList then some (got s)else none
end Qt
namespace Qt
open Go Rn
def sp : List UInt8→List UInt8→Bool→Bool→List (List UInt8)→List (List UInt8)
 | [],cur,_,_,l=>l ++ [cur]
 | c :: r,cur,qd,es,l =>
  if es=true then sp r (cur ++ [c]) qd false l
  else if c.toNat=92 then sp r (cur ++ [c]) qd qd l
  else if c.toNat=34∧(qd=true∨cur = [])then sp r (cur ++ [c]) (!qd) es l
  else if c.toNat=32∧qd=false then sp r [] qd es (l ++ [cur])
  else sp r (cur ++ [c]) qd es l
def split(s:List UInt8):List (List UInt8):=sp s [] false false []
def bare(l:List UInt8):Bool:=l.all fun c=>decide (32<c.toNat)
def word(s:ByteArray):Bool:=if s.size=0 then false else if byteAt s 0=34 then (unq s).isSome else bare s.data.toList
end Qt
end
end Go.Proofs.YtdkdjofnnnljjaaGreatDoor

namespace Go.Proofs.YtdkdjofnnnljjaaGreatDoor
open Go.RowKit
namespace Vs
def may(v:Int):Bool:=(v == 1) || (v == 2)
def least(a b:Int):Int:=if may a=true∧may b=true then (if a≤b then a else b)else 0
def common(k:Int):Bool:=(k == 1) || (k == 2) || (k == 3) || (k == 4) || (k == 6) || (k == 7) || (k == 8)
def has(v k:Int):Bool:=((v == 2) && ((k == 5) || common k)) || ((v == 1) && common k)
def format(n:Int):Int:=if 0<n then 2 else 1
def opens(v f:Int):Int:=if may v=true∧may f=true then (if v<f then 9 else 0)else 8
theorem may_or(v:Int):(may v=true∧(v=1∨v=2))∨(may v=false∧v≠1∧v≠2):=by
 by_cases h1:v=1
 ·subst h1;exact Or.inl ⟨rfl,Or.inl rfl⟩
 ·by_cases h2:v=2
  ·subst h2;exact Or.inl ⟨rfl,Or.inr rfl⟩
  ·exact Or.inr ⟨by simp[may,h1,h2],h1,h2⟩
theorem kinds(k:Int):k=1∨k=2∨k=3∨k=4∨k=5∨k=6∨k=7∨k=8∨(k<1∨8<k):=by omega
end Vs
theorem may_any(v:Int)(w:World):Calls Tryz.prog 63 #[.int .i64 v] w (Says w (.bool (Vs.may v))):=by
 rcases Vs.may_or v with ⟨e,rfl | rfl⟩ | ⟨e,h1,h2⟩
 all_goals
  rw[e]
  go_enter Tryz.func63,Tryz.ntmps63
  go_wp2
  go_ret
  exact⟨rfl,rfl⟩
theorem common_any(k:Int)(w:World):Calls Tryz.prog 188 #[.int .i64 k] w (Says w (.bool (Vs.common k))):=by
 rcases Vs.kinds k with rfl | rfl | rfl | rfl | rfl | rfl | rfl | rfl | h
 all_goals try have e:Vs.common k=false:=by simp[Vs.common];omega
 all_goals first | rw[e] | skip
 all_goals
  go_enter Tryz.func188,Tryz.ntmps188
  go_wp2
  go_ret
  exact⟨rfl,rfl⟩
theorem has_any(v k:Int)(w:World):Calls Tryz.prog 160 #[.int .i64 v, .int .i64 k] w (Says w (.bool (Vs.has v k))):=by
 rcases Vs.may_or v with ⟨e,rfl | rfl⟩ | ⟨e,h1,h2⟩
 ·have e2:Vs.has 1 k=Vs.common k:=by simp[Vs.has]
  rw[e2]
  go_enter Tryz.func160,Tryz.ntmps160
  go_wp2_with fail
  refine(common_any _ _).mono ?_
  rintro e w1 ⟨rfl,rfl⟩
  go_wp2
  go_ret
  exact⟨rfl,rfl⟩
 ·by_cases h5:k=5
  ·subst h5
   go_enter Tryz.func160,Tryz.ntmps160
   go_wp2
   go_ret
   exact⟨rfl,rfl⟩
  ·have e2:Vs.has 2 k=Vs.common k:=by simp[Vs.has,h5]
   rw[e2]
   go_enter Tryz.func160,Tryz.ntmps160
   go_wp2_with fail
   refine(common_any _ _).mono ?_
   rintro e w1 ⟨rfl,rfl⟩
   go_wp2
   go_ret
   exact⟨rfl,rfl⟩
 ·have e2:Vs.has v k=false:=by simp[Vs.has,h1,h2]
  rw[e2]
  go_enter Tryz.func160,Tryz.ntmps160
  go_wp2
  go_ret
  exact⟨rfl,rfl⟩
theorem format_any(n:Int)(w:World):Calls Tryz.prog 53 #[.int .i64 n] w (Says w (.int .i64 (Vs.format n))):=by
 by_cases h:0<n
 ·have e:Vs.format n=2:=if_pos h
  rw[e]
  go_enter Tryz.func53,Tryz.ntmps53
  go_wp2
  go_ret
  exact⟨rfl,rfl⟩
 ·have e:Vs.format n=1:=if_neg h
  rw[e]
  go_enter Tryz.func53,Tryz.ntmps53
  go_wp2
  go_ret
  exact⟨rfl,rfl⟩
theorem opens_any(v f:Int)(w:World):Calls Tryz.prog 34 #[.int .i64 v, .int .i64 f] w (Says w (.int .i64 (Vs.opens v f))):=by
 obtain⟨z,hz⟩ : ∃z,Vs.opens v f=z:=⟨_,rfl⟩
 have HZ:=Lib.hid hz
 rw[hz]
 clear hz
 rcases Vs.may_or v with ⟨ea,ha⟩ | ⟨ea,ha1,ha2⟩
 ·rcases Vs.may_or f with ⟨eb,hb⟩ | ⟨eb,hb1,hb2⟩
  ·go_enter Tryz.func34,Tryz.ntmps34
   go_wp2_with fail
   refine(may_any _ _).mono ?_
   rintro e w1 ⟨rfl,rfl⟩
   rw[ea]
   rcases ha with rfl | rfl<;>rcases hb with rfl | rfl
   all_goals
    go_wp2
    go_ret
    exact⟨by rw[← HZ.out];rfl,rfl⟩
  ·have hz:z=8:=by rw[← HZ.out];simp[Vs.opens,eb]
   subst hz
   have b1:(f != 1)=true:=by simpa using hb1
   have b2:(f != 2)=true:=by simpa using hb2
   go_enter Tryz.func34,Tryz.ntmps34
   go_wp2_with fail
   refine(may_any _ _).mono ?_
   rintro e w1 ⟨rfl,rfl⟩
   rw[ea]
   go_wp2
   go_ret
   exact⟨rfl,rfl⟩
 ·have hz:z=8:=by rw[← HZ.out];simp[Vs.opens,ea]
  subst hz
  go_enter Tryz.func34,Tryz.ntmps34
  go_wp2_with fail
  refine(may_any _ _).mono ?_
  rintro e w1 ⟨rfl,rfl⟩
  rw[ea]
  go_wp2
  go_ret
  exact⟨rfl,rfl⟩
end Go.Proofs.YtdkdjofnnnljjaaGreatDoor
