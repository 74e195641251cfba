/- Several texts of mine in one: GNum PkMath. -/
import Derived.WalkKit
import Derived.Test.YtdkdjofnnnljjaaGreatDoorRows
import Derived.Test.YtdkdjofnnnljjaaGreatDoorPMem
import Derived.Deep.QuietTactic
import Derived.BigQuiet
namespace Go.Proofs.YtdkdjofnnnljjaaGreatDoor
open Go.RowKit
set_option maxHeartbeats 800000
set_option maxRecDepth 4000
def enc(n:Nat):List UInt8:=if n<128 then [UInt8.ofNat n]else UInt8.ofNat (128+n % 128) :: enc (n / 128)
termination_by n
decreasing_by omega
theorem enc_lt{n:Nat}(h:n<128):enc n = [UInt8.ofNat n]:=by rw[enc,if_pos h]
theorem enc_ge{n:Nat}(h:128≤n):enc n=UInt8.ofNat (128+n % 128) :: enc (n / 128):=by rw[enc,if_neg (by omega)]
theorem enc_pos(n:Nat):0<(enc n).length:=by
 by_cases h:n<128
 ·rw[enc_lt h];simp
 ·rw[enc_ge (by omega)];simp
theorem enc_len(k:Nat) : ∀n,n<128 ^ (k+1)→(enc n).length≤k+1:=by
 induction k with
 | zero=>intro n h;rw[enc_lt (by simpa using h)];simp
 | succ k ih =>
  intro n h
  by_cases h1:n<128
  ·rw[enc_lt h1];simp
  ·rw[enc_ge (by omega)]
   have:=ih (n / 128) (by rw[Nat.pow_succ]at h;exact Nat.div_lt_of_lt_mul (by omega))
   simp;omega
theorem enc_nine{n:Nat}(h:n≤9223372036854775807):(enc n).length≤9:=enc_len 8 n (by omega)
theorem low{n:Nat}(h:n<128):(UInt8.ofNat n).toNat=n:=by rw[UInt8.toNat_ofNat'];omega
theorem high(n:Nat):(UInt8.ofNat (128+n % 128)).toNat=128+n % 128:=by rw[UInt8.toNat_ofNat'];omega
def getv(k acc:Nat):List UInt8→Nat × Nat × Nat
 | []=>(0,0,1)
 | c :: r=>if k=9∨(0<k∧c.toNat=0)then (0,0,3)else if c.toNat<128 then (acc+c.toNat*128 ^ k,k+1,0)else getv (k+1) (acc+(c.toNat - 128)*128 ^ k) r
theorem getv_enc(post:List UInt8) : ∀(n k acc:Nat),(0<k→0<n)→k+(enc n).length≤9→getv k acc (enc n++post)=(acc+n*128 ^ k,k+(enc n).length,0):=by
 intro n
 induction n using Nat.strongRecOn with
 | ind n ih =>
  intro k acc h0 h9
  by_cases h:n<128
  ·rw[enc_lt h]at h9 ⊢
   have e:=low h
   simp at h9
   simp only[List.cons_append,List.nil_append,getv,e]
   rw[if_neg (by omega),if_pos h];simp
  ·rw[enc_ge (by omega)]at h9 ⊢
   have e:=high n
   simp at h9
   have:=enc_pos (n / 128)
   simp only[List.cons_append,getv,e]
   rw[if_neg (by omega),if_neg (by omega),ih (n / 128) (by omega) (k+1) _ (by omega) (by omega)]
   simp only[List.length_cons,Prod.mk.injEq]
   refine⟨?_,by omega,trivial⟩
   have hd:n=n % 128+128*(n / 128):=by omega
   rw[show 128+n % 128 - 128=n % 128 by omega,Nat.pow_succ]
   have:n*128 ^ k=(n % 128)*128 ^ k+n / 128*(128 ^ k*128):=by
    conv=>lhs;rw[hd]
    rw[Nat.add_mul,Nat.mul_comm (128 ^ k) 128, ← Nat.mul_assoc,Nat.mul_comm 128 (n / 128)]
   omega
theorem getv_bound : ∀(l:List UInt8) (k acc:Nat),acc<128 ^ k→k≤9→(getv k acc l).1<128 ^ 9:=by
 intro l
 induction l with
 | nil=>intro k acc _ _;simp[getv]
 | cons c r ih =>
  intro k acc ha hk
  have hc:c.toNat<256:=c.toNat_lt
  unfold getv
  split
  ·simp
  ·rename_i h1
   have hk9:k<9:=by omega
   split
   ·rename_i h2
    show acc+c.toNat*128 ^ k<128 ^ 9
    have h3:acc+c.toNat*128 ^ k<128 ^ (k+1):=by
     rw[Nat.pow_succ]
     have:c.toNat*128 ^ k≤127*128 ^ k:=Nat.mul_le_mul_right _ (by omega)
     omega
    exact Nat.lt_of_lt_of_le h3 (Nat.pow_le_pow_right (by omega) (by omega))
   ·rename_i h2
    refine ih _ _ ?_ (by omega)
    rw[Nat.pow_succ]
    have:(c.toNat - 128)*128 ^ k≤127*128 ^ k:=Nat.mul_le_mul_right _ (by omega)
    omega
theorem getv_count : ∀(l:List UInt8) (k acc:Nat),(getv k acc l).2.1≤k+l.length:=by
 intro l
 induction l with
 | nil=>intro k acc;simp[getv]
 | cons c r ih =>
  intro k acc
  unfold getv
  split
  ·simp
  ·split
   ·simp
   ·have:=ih (k+1) (acc+(c.toNat - 128)*128 ^ k)
    simp;omega
theorem or128 : ∀x:Fin 256,x.val ||| 128=128+x.val % 128:=by decide+kernel
theorem more_byte(m:Nat)(x:Int)(h:x=IntKind.u8.wrap (m:Int)):bits .or .u8 x 128=((UInt8.ofNat (128+m % 128)).toNat:Int):=by
 subst h
 rw[IntKind.wrap_u8,u8_or _ _ (by omega) (by omega) (by omega) (by omega),high]
 have h:=or128 ⟨m % 256,by omega⟩
 rw[show((m:Int) % 256).toNat=m % 256 by omega]
 show((m % 256 ||| 128:Nat):Int)=_
 simp only at h
 rw[h]
 omega
theorem wraps_i64(n:Int)(h₀:0≤n)(h₁:n<2 ^ 63):IntKind.i64.wrap n=n:=by rw[IntKind.wrap_i64];omega
theorem pow7(k:Nat):2 ^ (7*k)=128 ^ k:=by rw[Nat.pow_mul]
theorem or_group(acc k d:Nat)(x:Int)(hx:x=(d:Int))(ha:acc<128 ^ k)(hk:k≤8)(hd:d<128) :
 bits .or .i64 (acc:Int) (RowKit.wrap64 (x*2 ^ (7*k)))=((acc+d*128 ^ k:Nat):Int):=by
 subst hx
 have h9:128 ^ (k+1)≤128 ^ 9:=Nat.pow_le_pow_right (by omega) (by omega)
 rw[Nat.pow_succ]at h9
 have h1:d*128 ^ k≤127*128 ^ k:=Nat.mul_le_mul_right _ (by omega)
 have e:((d:Int)*2 ^ (7*k))=((d*128 ^ k:Nat):Int):=by
  rw[← pow7];simp
 rw[e,IntWalk.wrap64_in _ ⟨by omega,by omega⟩]
 rw[(bits_nat .i64 63 (by decide) wraps_i64 acc (d*128 ^ k) (by omega) (by omega)).2]
 rw[← pow7]at ha ⊢
 rw[Nat.or_comm,Nat.mul_comm d, ← Nat.two_pow_add_eq_or_of_lt ha d,Nat.add_comm]
theorem getv_nine{acc:Nat}{c:UInt8}{r:List UInt8}:getv 9 acc (c :: r)=(0,0,3):=by simp[getv]
theorem getv_zero{k acc:Nat}{c:UInt8}{r:List UInt8}(h:0<k)(hc:c.toNat=0):getv k acc (c :: r)=(0,0,3):=by rw[getv,if_pos (Or.inr ⟨h,hc⟩)]
theorem getv_last{k acc:Nat}{c:UInt8}{r:List UInt8}(h9:k≠9)(h:k=0∨0<c.toNat)(hc:c.toNat<128):getv k acc (c :: r)=(acc+c.toNat*128 ^ k,k+1,0):=by
 rw[getv,if_neg (by omega),if_pos hc]
theorem getv_more{k acc:Nat}{c:UInt8}{r:List UInt8}(h9:k≠9)(hc : ¬c.toNat<128):getv k acc (c :: r)=getv (k+1) (acc+(c.toNat - 128)*128 ^ k) r:=by
 rw[getv,if_neg (by omega),if_neg hc]
theorem acc_more{k acc d:Nat}(h:acc<128 ^ k)(hd:d<128):acc+d*128 ^ k<128 ^ (k+1):=by
 rw[Nat.pow_succ]
 have:d*128 ^ k≤127*128 ^ k:=Nat.mul_le_mul_right _ (by omega)
 omega
theorem drop_at{α:Type}{l:List α}{j:Nat}{c:α}(h:l[j]? = some c):l.drop j=c :: l.drop (j+1):=by
 obtain⟨hj,rfl⟩:=List.getElem?_eq_some_iff.1 h
 exact List.drop_eq_getElem_cons hj
theorem len_any(n:Nat)(w:World)(h1:n≤9223372036854775807) :
 Calls Tryz.prog 138 #[.int .i64 (n:Int)] w fun e w' => e = .returned (.int .i64 ((enc n).length:Int))∧w=w' := by
 have h9:=enc_nine h1
 go_enter Tryz.func138,Tryz.ntmps138
 go_wp2
 go_loop [0,3] (fun x s => ∃m k:Nat,x = .int .i64 (m:Int)∧s = .int .i64 (k:Int)∧m≤n∧k+(enc m).length=(enc n).length+1) (fun x _=>(intOf x).toNat)
 case atStart=>exact⟨n,1,rfl,rfl,by omega,by omega⟩
 case round =>
  obtain⟨m,k,rfl,rfl,hm,hk⟩:=hrel
  have hp:=enc_pos m
  have hk9:k≤9:=by omega
  have HK:=Lib.hid hk;clear hk hp h9
  by_cases hlt:m<128
  ·go_wp2
   go_ret
   have h:=HK.out
   rw[enc_lt hlt]at h
   simp at h
   exact⟨ret_int (by omega),rfl⟩
  ·have hs:=HK.out
   rw[enc_ge (by omega)]at hs
   simp at hs
   have HS:=Lib.hid hs;clear hs
   go_wp2
   go_round
   case rel=>exact⟨m / 128,k+1,by go_num,by go_num,by omega,by have:=HS.out;omega⟩
   case measure=>simp[intOf];omega
theorem len_is(n:Int)(w:World)(N k:Nat)(hn:n=(N:Int))(h1:n≤9223372036854775807)(hk:Hid (k=(enc N).length)) :
 Calls Tryz.prog 138 #[.int .i64 n] w fun e w' => e = .returned (.int .i64 (k:Int))∧w=w' := by
 subst hn
 rw[hk.out]
 exact len_any N w (by omega)
theorem info_u8 : (Tryz.prog.info? 5).map (fun i=>(i.zero,i.size,i.bytes))=some (some (.int .u8 0),1,1):=by kernel_rfl
theorem put_any(v:Value)(l:List UInt8)(n:Int)(w:World)(hr:Reads w v l)(hlen:l.length≤140737488351232)(h0 : -9223372036854775808≤n)(h1:n≤9223372036854775807) :
 Calls Tryz.prog 95 #[v, .int .i64 n] w (Makes w 5 (l++enc n.toNat)):=by
 obtain⟨N,hN⟩ : ∃N:Nat,N=n.toNat:=⟨_,rfl⟩
 have hN9:N≤9223372036854775807:=by omega
 obtain⟨k,hk⟩ : ∃k:Nat,k=(enc N).length:=⟨_,rfl⟩
 have hk9:k≤9:=by rw[hk];exact enc_nine hN9
 have HK:Hid (k=(enc N).length):=hk
 clear hk
 obtain⟨ao,cap,rfl⟩:=hr.shape
 rw[← hN]
 rcases(show n<0∧N≤0∨0≤n∧n=(N:Int) by omega)with ⟨hn,hn0⟩ | ⟨hn,rfl⟩
 all_goals
  clear hN
  go_enter Tryz.func95,Tryz.ntmps95
  go_wp2_with (first
   | (go_at_call 138;refine(len_is _ _ _ k (by first | rfl | omega) (by omega) HK).mono ?_;rintro e w' ⟨rfl,rfl⟩)
   | (at_make;refine make_bytes rfl _ _ 30 5 rfl Tryz.underlying30 info_u8 w.heap.size l.length (l.length+k) _ _ _ _ rfl rfl rfl (by omega) (by omega) (by omega) w (Below.refl _ _) (Nat.le_refl _) ?_;intro w1 ho1 hb1)
   | (with_reducible show wpList _ _ _ _ _ _;refine copy_bytes rfl (.tmp 16) (.tmp 17) 30 30 5 rfl Tryz.underlying30 info_u8 w.heap.size _ l w.heap.size l.length (l.length+k) (.slice ao l.length cap) rfl rfl ho1 (hr.below hb1) (by simp) w hb1 (Nat.le_refl _) ?_;intro w2 ho2 hb2 _))
  have ho3:Owns w2 w.heap.size 5 (.slice (some ⟨w.heap.size,0,none⟩) l.length (l.length+k)) l:=by simpa using ho2
  clear ho1 ho2 hb1
  simp only[goInt,Act.put,List.setIfInBounds_toArray,List.set_cons_succ,List.set_cons_zero]
  go_loopw [1,5] (fun x v wr => ∃(m:Nat) (pre:List UInt8),x = .int .i64 (m:Int)∧Owns wr w.heap.size 5 v (l++pre)∧m≤9223372036854775807∧Hid (pre++enc m=enc N)∧Below w.heap.size w wr) (fun x _ _=>(intOf x).toNat)
  case atStart=>exact⟨N, [],by go_num,by simpa using ho3,hN9,rfl,hb2⟩
  case round =>
   clear ho3 hb2
   obtain⟨m,pre,rfl,hown,hm,HE,hb⟩:=hrel
   have hl9:pre.length≤9:=by have:=congrArg List.length HE.out;simp at this;have:=HK.out;omega
   have hsz:=hb.size
   by_cases hlt:m<128
   ·go_wp2_with (at_builtin;refine append_bytes rfl _ _ 30 5 rfl Tryz.underlying30 info_u8 w.heap.size (l++pre) [UInt8.ofNat m] _ _ rfl rfl (hown.alloc _) (Reads.one _ _ _ _ (by rw[low hlt])) (by simp;omega) w (hb.alloc (by omega) _) (Nat.le_refl _) ?_;intro v' w' ho hb' hg)
    go_ret
    exact⟨v', rfl,by have:=HE.out;rw[enc_lt hlt]at this;rw[← this, ← List.append_assoc];exact ho,hb'⟩
   ·go_wp2_with (at_builtin;refine append_bytes rfl _ _ 30 5 rfl Tryz.underlying30 info_u8 w.heap.size (l++pre) [UInt8.ofNat (128+m % 128)] _ _ rfl rfl (hown.alloc _) (Reads.one _ _ _ _ (more_byte _ _ (by first | rfl | simp[IntKind.wrap_u8]))) (by simp;omega) w (hb.alloc (by omega) _) (Nat.le_refl _) ?_;intro v' w' ho hb' hg)
    go_roundw
    case rel=>exact⟨m / 128,pre ++ [_],by go_num,by rw[← List.append_assoc];exact ho,by omega,by have:=HE.out;rw[enc_ge (by omega)]at this;show _=_;simpa using this,hb'⟩
    case measure=>simp[intOf];omega
def Tells(w:World)(v:Value)(e:Ending)(w' : World):Prop:=e = .returned v ∧ ∃n,w' = w.drewN n
theorem take_next{l m:List UInt8}{i:Nat}{c d:UInt8}(h:l.take i=m.take i)(hl:l[i]? = some c)(hm:m[i]? = some d)(hcd:c=d):l.take (i+1)=m.take (i+1):=by
 rw[List.take_add_one,List.take_add_one,hl,hm,h,hcd]
theorem same_any(v u:Value)(l m:List UInt8)(w:World)(hv:Reads w v l)(hu:Reads w u m) :
 Calls Tryz.prog 54 #[v,u] w (Tells w (.bool (l == m))):=by
 by_cases hlen:l.length=m.length
 ·by_cases h0:l.length=0
  ·obtain rfl:l = []:=List.eq_nil_of_length_eq_zero h0
   obtain rfl:m = []:=List.eq_nil_of_length_eq_zero (by omega)
   obtain⟨ao,cap,rfl⟩:=hv.shape
   obtain⟨bo,dap,rfl⟩:=hu.shape
   clear hv hu hlen h0
   go_enter Tryz.func54,Tryz.ntmps54
   go_wp2
   refine wp_loop_rounds 1 ?_
   rw[rounds_succ]
   go_wp2
   go_ret
   exact⟨rfl,0,rfl⟩
  ·obtain⟨ao,cap,rfl⟩:=hv.shape
   obtain⟨bo,dap,rfl⟩:=hu.shape
   have hl:=hv.len
   have hm:=hu.len
   obtain⟨b,off,rfl,hc⟩:=hv.place (by omega)
   obtain⟨b', off', rfl,hd⟩:=hu.place (by omega)
   obtain⟨n,hn⟩ : ∃n,n=l.length:=⟨_,rfl⟩
   have hn' : m.length=n:=by omega
   rw[← hn,hn']
   have hn9:n≤9223372036854775807:=by omega
   have HN:=Lib.hid hn;have HM:=Lib.hid hn'
   have HC:=Lib.hid hc;have HD:=Lib.hid hd
   clear hl hm hn hn' hlen hc hd
   go_enter Tryz.func54,Tryz.ntmps54
   go_wp2
   go_loopw [5] (fun x wr => ∃i:Nat,x = .int .i64 (i:Int)∧i≤n∧Hid (l.take i=m.take i) ∧ ∃q,wr=w.drewN q) (fun x _=>n - (intOf x).toNat)
   case atStart=>exact⟨0,rfl,by omega,rfl,0,rfl⟩
   case round =>
    obtain⟨i,rfl,hi,HE,q,rfl⟩:=hrel
    by_cases hlt:i<n
    ·obtain⟨c,hlc⟩ : ∃c,l[i]? = some c:=⟨_,List.getElem?_eq_getElem (by have:=HN.out;omega)⟩
     obtain⟨d,hmd⟩ : ∃d,m[i]? = some d:=⟨_,List.getElem?_eq_getElem (by have:=HM.out;omega)⟩
     have hc:=HC.out i c hlc
     have hd:=HD.out i d hmd
     have HLC:=Lib.hid hlc;have HMD:=Lib.hid hmd
     clear hlc hmd
     go_wp2
     go_quiet (fail)
     by_cases hcd:c=d
     ·subst hcd
      go_wp2
      go_roundw
      case rel=>exact⟨i+1,by go_num,by omega,take_next HE.out HLC.out HMD.out rfl,_,rfl⟩
      case measure=>simp[intOf];omega
     ·have hne:((c.toNat:Int) != (d.toNat:Int))=true:=by simp;exact fun h=>hcd (UInt8.toNat_inj.1 (by omega))
      go_wp2
      go_ret
      exact⟨ret_bool (by simp;exact fun h=>hcd (by have h1:=HLC.out;have h2:=HMD.out;rw[h,h2]at h1;simpa using h1.symm)),_,World.drewN_drewN _ _ _⟩
    ·go_wp2
     go_ret
     exact⟨ret_bool (by simp;have h:=HE.out;rwa[List.take_of_length_le (by have:=HN.out;omega),List.take_of_length_le (by have:=HM.out;omega)]at h),_,rfl⟩
 ·obtain⟨ao,cap,rfl⟩:=hv.shape
  obtain⟨bo,dap,rfl⟩:=hu.shape
  have h1:((l.length:Int) == (m.length:Int))=false:=by simp;omega
  have h2:((l.length:Int) != (m.length:Int))=true:=by simp;omega
  go_enter Tryz.func54,Tryz.ntmps54
  go_wp2
  go_ret
  exact⟨ret_bool (by simp;exact fun h=>hlen (by rw[h])),0,rfl⟩
def getp(l:List UInt8)(pl:Int):Int × Int × Int :=
 if pl<0∨(l.length:Int)<pl then (0,0,6)else
  let r:=getv 0 0 (l.drop pl.toNat)
  if r.2.2=0 then (r.1,pl+r.2.1,0)else (0,0,r.2.2)
def Three(w:World)(r:Int × Int × Int)(e:Ending)(w' : World):Prop:=e = .returned (.tuple #[.int .i64 r.1, .int .i64 r.2.1, .int .i64 r.2.2])∧w=w'
theorem getp_ok{l:List UInt8}{p n c:Nat}(hp:p≤l.length)(h:getv 0 0 (l.drop p)=(n,c,0)):getp l p=((n:Int),(p:Int)+(c:Int),0):=by
 unfold getp
 rw[if_neg (by omega),Int.toNat_natCast,h]
 simp
theorem getp_err{l:List UInt8}{p e:Nat}(hp:p≤l.length)(he:e≠0)(h:getv 0 0 (l.drop p)=(0,0,e)):getp l p=(0,0,(e:Int)):=by
 unfold getp
 rw[if_neg (by omega),Int.toNat_natCast,h]
 simp[he]
theorem three{a b c:Int}{r:Int × Int × Int}(h:r=(a,b,c)):Ending.returned (.tuple #[.int .i64 a, .int .i64 b, .int .i64 c]) = .returned (.tuple #[.int .i64 r.1, .int .i64 r.2.1, .int .i64 r.2.2]):=by rw[h]
theorem get_in(v:Value)(l:List UInt8)(p:Nat)(w:World)(hv:Reads w v l)(hp:p<l.length) :
 Calls Tryz.prog 148 #[v, .int .i64 (p:Int)] w (Three w (getp l p)):=by
 obtain⟨ao,cap,rfl⟩:=hv.shape
 have hl:=hv.len
 obtain⟨b,off,rfl,hc⟩:=hv.place (by omega)
 obtain⟨n,hn⟩ : ∃n,n=l.length:=⟨_,rfl⟩
 rw[← hn]
 have hpn:p<n:=by omega
 have hnc:n≤cap:=by omega
 have hc9:cap≤9223372036854775807:=by omega
 have hpc : ¬cap=p:=by omega
 have HN:=Lib.hid hn
 have HC:=Lib.hid hc
 have hb1:decide ((p:Int)<0)=false:=by simp
 have hb2:decide (n<p)=false:=by simp;omega
 clear hl hn hc hp
 go_enter Tryz.func148,Tryz.ntmps148
 go_wp2
 go_step3
 go_wp2
 go_step3
 go_wp2
 go_loop [24,7,9] (fun x y z=>z = .int .i64 1 ∧ ∃k acc:Nat,x = .int .i64 (k:Int)∧y = .int .i64 (acc:Int)∧k≤n - p∧k≤9∧Hid (acc<128 ^ k)∧Hid (getv k acc (l.drop (p+k))=getv 0 0 (l.drop p))) (fun x _ _=>n - (intOf x).toNat)
 case atStart=>exact⟨rfl,0,0,rfl,rfl,by omega,by omega,show 0<128 ^ 0 by simp,rfl⟩
 case round =>
  obtain⟨rfl,k,acc,rfl,rfl,hk,hk9,HA,HE⟩:=hrel
  by_cases hlt:k<n - p
  ·obtain⟨c,hlc⟩ : ∃c,l[p+k]? = some c:=⟨_,List.getElem?_eq_getElem (by have:=HN.out;omega)⟩
   have hc:=HC.out (p+k) c hlc
   rw[← Nat.add_assoc]at hc
   have HLC:=Lib.hid hlc;clear hlc
   have hc256:=c.toNat_lt
   by_cases h9:k=9
   ·subst h9
    go_wp2
    go_ret3
    exact⟨three (getp_err (e:=3) (by have:=HN.out;omega) (by omega) (by rw[← HE.out,drop_at HLC.out,getv_nine])),rfl⟩
   ·by_cases hz:0<k∧c.toNat=0
    ·obtain⟨hz1,hz2⟩:=hz
     go_wp2
     go_ret3
     exact⟨three (getp_err (e:=3) (by have:=HN.out;omega) (by omega) (by rw[← HE.out,drop_at HLC.out,getv_zero hz1 hz2])),rfl⟩
    ·by_cases h128:c.toNat<128
     ·have hz' : k=0∨0<c.toNat:=by omega
      have hor:=or_group acc k c.toNat c.toNat rfl HA.out (by omega) h128
      obtain⟨r,hr⟩ : ∃r:Nat,r=acc+c.toNat*128 ^ k:=⟨_,rfl⟩
      rw[← hr]at hor
      have HR:=Lib.hid hr
      clear hz hr
      go_wp2
      all_goals
       go_ret3
       exact⟨three (by rw[getp_ok (n:=r) (c:=k+1) (by have:=HN.out;omega) (by rw[← HE.out,drop_at HLC.out,getv_last h9 hz' h128,HR.out])];simp;omega),rfl⟩
     ·have hor:=or_group acc k (c.toNat - 128) ((c.toNat:Int) - 128) (by omega) HA.out (by omega) (by omega)
      obtain⟨r,hr⟩ : ∃r:Nat,r=acc+(c.toNat - 128)*128 ^ k:=⟨_,rfl⟩
      rw[← hr]at hor
      have HR:=Lib.hid hr
      clear hz hr
      go_wp2
      all_goals
       go_round
       case rel =>
        refine⟨rfl,k+1,r,by go_num,by go_num,by omega,by omega, ?_, ?_⟩
        ·show r<_;rw[HR.out];exact acc_more HA.out (by omega)
        ·show getv _ _ _=_;rw[← HE.out,drop_at HLC.out,getv_more h9 h128,HR.out,Nat.add_assoc]
       case measure=>simp[intOf];omega
  ·go_wp2
   go_ret3
   exact⟨three (getp_err (e:=1) (by have:=HN.out;omega) (by omega) (by rw[← HE.out,List.drop_eq_nil_of_le (by have:=HN.out;omega)];rfl)),rfl⟩
theorem get_end(v:Value)(l:List UInt8)(w:World)(hv:Reads w v l) :
 Calls Tryz.prog 148 #[v, .int .i64 (l.length:Int)] w (Three w (getp l l.length)):=by
 obtain⟨ao,cap,rfl⟩:=hv.shape
 have hl:=hv.len
 have hr:getp l l.length=(0,0,1):=getp_err (e:=1) (Nat.le_refl _) (by omega) (by rw[List.drop_eq_nil_of_le (Nat.le_refl _)];rfl)
 rw[hr]
 obtain⟨n,hn⟩ : ∃n,n=l.length:=⟨_,rfl⟩
 rw[← hn]
 have hnc:n≤cap:=by omega
 have hc9:cap≤9223372036854775807:=by omega
 have hb1:decide ((n:Int)<0)=false:=by simp
 have hnil:=hl.2.2.2
 clear hl hr hn hv
 cases ao with
 | none =>
  obtain rfl:cap=0:=hnil rfl
  obtain rfl:n=0:=by omega
  go_enter Tryz.func148,Tryz.ntmps148
  go_wp2
  go_step3
  go_wp2
  go_step3
  go_wp2
  refine wp_loop_rounds 1 ?_
  rw[rounds_succ]
  go_wp2
  go_ret3
  exact⟨rfl,rfl⟩
 | some x =>
  by_cases hcn:cap=n
  all_goals
   go_enter Tryz.func148,Tryz.ntmps148
   go_wp2
   go_step3
   go_wp2
   go_step3
   go_wp2
   refine wp_loop_rounds 1 ?_
   rw[rounds_succ]
   go_wp2
   go_ret3
   exact⟨rfl,rfl⟩
theorem get_out(v:Value)(l:List UInt8)(pl:Int)(w:World)(hv:Reads w v l)(h:pl<0∨(l.length:Int)<pl) :
 Calls Tryz.prog 148 #[v, .int .i64 pl] w (Three w (getp l pl)):=by
 obtain⟨ao,cap,rfl⟩:=hv.shape
 have hr:getp l pl=(0,0,6):=by unfold getp;rw[if_pos h]
 rw[hr]
 obtain⟨n,hn⟩ : ∃n,n=l.length:=⟨_,rfl⟩
 rw[← hn]at h ⊢
 clear hr hn hv
 by_cases h1:pl<0
 ·clear h
  go_enter Tryz.func148,Tryz.ntmps148
  go_wp2
  go_step3
  go_wp2
  go_ret3
  exact⟨rfl,rfl⟩
 ·have h2:(n:Int)<pl:=by omega
  clear h
  go_enter Tryz.func148,Tryz.ntmps148
  go_wp2
  go_step3
  go_wp2
  go_ret3
  exact⟨rfl,rfl⟩
theorem get_any(v:Value)(l:List UInt8)(pl:Int)(w:World)(hv:Reads w v l) :
 Calls Tryz.prog 148 #[v, .int .i64 pl] w (Three w (getp l pl)):=by
 by_cases h:pl<0∨(l.length:Int)<pl
 ·exact get_out v l pl w hv h
 ·obtain⟨p,rfl⟩:=Int.eq_ofNat_of_zero_le (show 0≤pl by omega)
  by_cases hp:p=l.length
  ·subst hp;exact get_end v l w hv
  ·exact get_in v l p w hv (by omega)
theorem get_is(v:Value)(l:List UInt8)(pl:Int)(w:World)(a b c:Int)(hv:Reads w v l)(h:Hid (getp l pl=(a,b,c))) :
 Calls Tryz.prog 148 #[v, .int .i64 pl] w fun e w' => e = .returned (.tuple #[.int .i64 a, .int .i64 b, .int .i64 c])∧w=w' := by
 have hg:=get_any v l pl w hv
 rw[h.out]at hg
 exact hg
theorem getv_canon : ∀(l:List UInt8) (k acc n c:Nat),getv k acc l=(n,c,0) → ∃m,n=acc+m*128 ^ k∧c=k+(enc m).length∧l.take (enc m).length=enc m∧(0<k→0<m):=by
 intro l
 induction l with
 | nil=>intro k acc n c h;simp[getv]at h
 | cons b r ih =>
  intro k acc n c h
  have hb:=b.toNat_lt
  unfold getv at h
  split at h
  ·simp at h
  ·rename_i h1
   split at h
   ·rename_i h2
    simp only[Prod.mk.injEq]at h
    refine⟨b.toNat,h.1.symm, ?_, ?_,by omega⟩
    ·rw[enc_lt h2];simp;omega
    ·rw[enc_lt h2];simp
   ·rename_i h2
    obtain⟨m,e1,e2,e3,e4⟩:=ih _ _ _ _ h
    have hm:=e4 (by omega)
    refine⟨b.toNat - 128+128*m, ?_, ?_, ?_,by omega⟩
    ·rw[e1,Nat.pow_succ,Nat.add_mul,Nat.mul_comm 128 m,Nat.mul_assoc m 128,Nat.mul_comm 128 (128 ^ k)];omega
    ·rw[enc_ge (by omega),show(b.toNat - 128+128*m) / 128=m by omega,e2];simp;omega
    ·rw[enc_ge (by omega),show(b.toNat - 128+128*m) / 128=m by omega]
     simp only[List.length_cons,List.take_succ_cons,e3,List.cons.injEq,and_true]
     apply UInt8.toNat_inj.1
     rw[high];omega
theorem getp_cases(l:List UInt8)(pl:Int) :
 (∃e:Int,e≠0∧getp l pl=(0,0,e)) ∨
 (∃p n c:Nat,pl=(p:Int)∧p+c≤l.length∧0<c∧n≤9223372036854775807∧getp l pl=((n:Int),((p+c:Nat):Int),0)∧(l.drop p).take c=enc n):=by
 unfold getp
 by_cases h:pl<0∨(l.length:Int)<pl
 ·rw[if_pos h];exact .inl ⟨6,by omega,rfl⟩
 ·rw[if_neg h]
  obtain⟨p,rfl⟩:=Int.eq_ofNat_of_zero_le (show 0≤pl by omega)
  have hp:p≤l.length:=by omega
  simp only[Int.toNat_natCast]
  obtain⟨r,hr⟩ : ∃r,r=getv 0 0 (l.drop p):=⟨_,rfl⟩
  rw[← hr]
  by_cases h0:r.2.2=0
  ·right
   rw[if_pos h0]
   obtain⟨n,c,e⟩:=r
   simp only at h0
   subst h0
   obtain⟨m,e1,e2,e3,_⟩:=getv_canon _ _ _ _ _ hr.symm
   have hb:=getv_bound (l.drop p) 0 0 (by simp) (by omega)
   have hk:=getv_count (l.drop p) 0 0
   rw[← hr]at hb hk
   simp at e1 e2
   subst e1
   have:=enc_pos n
   refine⟨p,n,c,rfl, ?_,by omega,by simp at hb;omega,by simp,by rw[e2];exact e3⟩
   simp at hk;omega
  ·rw[if_neg h0]
   exact .inl ⟨_,by omega,rfl⟩
end Go.Proofs.YtdkdjofnnnljjaaGreatDoor

namespace Go.Proofs.YtdkdjofnnnljjaaGreatDoor
open Go.RowKit
structure Fld where
 kind:Int
 n:Int
 s:List UInt8
 is:Bool
def Fld.cells(f:Fld):List Value := [.int .i64 f.kind, .int .i64 f.n, .string ⟨f.s.toArray⟩, .bool f.is]
structure Fld.Fits(f:Fld):Prop where
 k0 : -9223372036854775808≤f.kind
 k1:f.kind≤9223372036854775807
 n0 : -9223372036854775808≤f.n
 n1:f.n≤9223372036854775807
 s1:f.s.length≤9223372036854775807
namespace Pk
def text(s:List UInt8):List UInt8:=enc s.length++s
def flag(b:Bool):List UInt8 := [if b then 1 else 0]
def one(f:Fld):List UInt8:=if f.kind=1 then enc f.n.toNat else if f.kind=2 then text f.s else if f.kind=3 then flag f.is else []
def all(l:List Fld):List UInt8:=l.flatMap one
theorem all_nil : all [] = []:=rfl
theorem all_snoc(l:List Fld)(f:Fld):all (l ++ [f])=all l++one f:=by simp[all]
theorem all_cons(f:Fld)(l:List Fld):all (f :: l)=one f++all l:=by simp[all]
def num(b:List UInt8)(p most:Int):Int × Int × Int:=if(getp b p).2.2≠0 then (0,p,(getp b p).2.2)else if most<(getp b p).1 then (0,p,2)else getp b p
def cnt(b:List UInt8)(p most:Int):Int × Int × Int:=if(num b p most).2.2=0∧(b.length:Int) - (num b p most).2.1<(num b p most).1 then (0,(num b p most).2.1,1)else num b p most
def txt(b:List UInt8)(p most:Int):List UInt8 × Int × Int :=
 if(cnt b p most).2.2≠0 then ([],(cnt b p most).2.1,(cnt b p most).2.2)else ((b.drop (cnt b p most).2.1.toNat).take (cnt b p most).1.toNat,(cnt b p most).2.1+(cnt b p most).1,0)
def flg(b:List UInt8)(p:Int):Bool × Int × Int:=match b[p.toNat]? with
 | none=>(false,p,1)
 | some c=>if 1<c.toNat then (false,p+1,3)else (c.toNat == 1,p+1,0)
theorem num_cases(b:List UInt8)(p:Nat)(most:Int) :
 (∃e:Int,e≠0∧getp b p=(0,0,e)∧num b p most=(0,(p:Int),e)) ∨
 (∃n q:Nat,getp b p=((n:Int),(q:Int),0)∧p<q∧q≤b.length∧n≤9223372036854775807∧most<(n:Int)∧num b p most=(0,(p:Int),2)) ∨
 (∃n q:Nat,getp b p=((n:Int),(q:Int),0)∧p<q∧q≤b.length∧n≤9223372036854775807∧(n:Int)≤most∧num b p most=((n:Int),(q:Int),0)):=by
 rcases getp_cases b p with ⟨e,he,hg⟩ | ⟨p', n,c,hp,hc,h0,hn,hg,_⟩
 ·left;exact⟨e,he,hg,by unfold num;rw[hg];simp[he]⟩
 ·right
  obtain rfl:p=p' := by omega
  by_cases hm:most<(n:Int)
  ·left;exact⟨n,p+c,hg,by omega,hc,hn,hm,by unfold num;rw[hg];simp[hm]⟩
  ·right;exact⟨n,p+c,hg,by omega,hc,hn,by omega,by unfold num;rw[hg];simp[hm]⟩
theorem cnt_cases(b:List UInt8)(p:Nat)(most:Int) :
 (∃e:Int,e≠0∧num b p most=(0,(p:Int),e)∧cnt b p most=(0,(p:Int),e)) ∨
 (∃n q:Nat,num b p most=((n:Int),(q:Int),0)∧q≤b.length∧n≤9223372036854775807∧(b.length:Int) - q<n∧cnt b p most=(0,(q:Int),1)) ∨
 (∃n q:Nat,num b p most=((n:Int),(q:Int),0)∧q+n≤b.length∧cnt b p most=((n:Int),(q:Int),0)):=by
 rcases num_cases b p most with ⟨e,he,_,hg⟩ | ⟨n,q,_,_,_,_,_,hg⟩ | ⟨n,q,_,_,hq,hn,_,hg⟩
 ·left;exact⟨e,he,hg,by unfold cnt;rw[hg];simp[he]⟩
 ·left;exact⟨2,by omega,hg,by unfold cnt;rw[hg];simp⟩
 ·right
  by_cases h:(b.length:Int) - q<n
  ·left;exact⟨n,q,hg,hq,hn,h,by unfold cnt;rw[hg];simp[h]⟩
  ·right;exact⟨n,q,hg,by omega,by unfold cnt;rw[hg];simp[h]⟩
theorem txt_cases(b:List UInt8)(p:Nat)(most:Int)(hp:p≤b.length) :
 (∃(e:Int) (q:Nat),e≠0∧q≤b.length∧cnt b p most=(0,(q:Int),e)∧txt b p most=([],(q:Int),e)) ∨
 (∃n q:Nat,cnt b p most=((n:Int),(q:Int),0)∧q+n≤b.length∧txt b p most=((b.drop q).take n,((q+n:Nat):Int),0)):=by
 rcases cnt_cases b p most with ⟨e,he,_,hg⟩ | ⟨n,q,_,hq,_,_,hg⟩ | ⟨n,q,_,hq,hg⟩
 ·left;exact⟨e,p,he,hp,hg,by unfold txt;rw[hg];simp[he]⟩
 ·left;exact⟨1,q,by omega,hq,hg,by unfold txt;rw[hg];simp⟩
 ·right;exact⟨n,q,hg,hq,by unfold txt;rw[hg];simp⟩
theorem flg_end(b:List UInt8):flg b (b.length:Nat)=(false,((b.length:Nat):Int),1):=by simp[flg]
theorem flg_at{b:List UInt8}{p:Nat}{c:UInt8}(h:b[p]? = some c):flg b p=if 1<c.toNat then (false,((p+1:Nat):Int),3)else (c.toNat == 1,((p+1:Nat):Int),0):=by
 unfold flg
 rw[Int.toNat_natCast,h]
 simp
def zero : Fld:=⟨0,0, [],false⟩
def read(b:List UInt8)(p k most:Int):Fld × Int × Int :=
 if k=3 then (if(flg b p).2.2≠0 then (zero,0,(flg b p).2.2)else (⟨3,0, [],(flg b p).1⟩,(flg b p).2.1,0))
 else if k=1 then (if(num b p most).2.2≠0 then (zero,0,(num b p most).2.2)else (⟨1,(num b p most).1, [],false⟩,(num b p most).2.1,0))
 else if k=4 then (if(cnt b p most).2.2≠0 then (zero,0,(cnt b p most).2.2)else (⟨4,(cnt b p most).1, [],false⟩,(cnt b p most).2.1,0))
 else (if(txt b p most).2.2≠0 then (zero,0,(txt b p most).2.2)else (⟨2,0,(txt b p most).1,false⟩,(txt b p most).2.1,0))
theorem getp_enc(pre post:List UInt8){N:Nat}(hN:N≤9223372036854775807):getp (pre++(enc N++post)) (pre.length:Nat)=((N:Int),((pre.length+(enc N).length:Nat):Int),0):=by
 have h:=getv_enc post N 0 0 (by omega) (by have:=enc_nine hN;omega)
 rw[getp_ok (n:=N) (c:=(enc N).length) (by simp) (by rw[List.drop_left,h];simp)]
 simp
theorem num_enc(pre post:List UInt8){N:Nat}{most:Int}(hN:N≤9223372036854775807)(hm:(N:Int)≤most) :
 num (pre++(enc N++post)) (pre.length:Nat) most=((N:Int),((pre.length+(enc N).length:Nat):Int),0):=by
 unfold num
 rw[getp_enc pre post hN]
 simp;omega
theorem txt_text(pre post:List UInt8){s:List UInt8}{most:Int}(hN:s.length≤9223372036854775807)(hm:(s.length:Int)≤most) :
 txt (pre++(text s++post)) (pre.length:Nat) most=(s,((pre.length+(text s).length:Nat):Int),0):=by
 have hn:num (pre++(text s++post)) (pre.length:Nat) most=((s.length:Int),((pre.length+(enc s.length).length:Nat):Int),0):=by
  rw[show text s++post=enc s.length++(s++post) by simp[text]]
  exact num_enc pre (s++post) hN hm
 have hc:cnt (pre++(text s++post)) (pre.length:Nat) most=((s.length:Int),((pre.length+(enc s.length).length:Nat):Int),0):=by
  unfold cnt
  rw[hn,if_neg]
  simp[text];omega
 unfold txt
 rw[hc]
 simp only[ne_eq,not_true,if_false,Int.toNat_natCast,Prod.mk.injEq]
 refine⟨?_,by simp[text];omega,trivial⟩
 have e:pre++(text s++post)=(pre++enc s.length)++(s++post):=by simp[text]
 rw[e,show pre.length+(enc s.length).length=(pre++enc s.length).length by simp,List.drop_left,List.take_left]
theorem flg_flag(pre post:List UInt8)(x:Bool):flg (pre++(flag x++post)) (pre.length:Nat)=(x,((pre.length+1:Nat):Int),0):=by
 rw[flg_at (c:=if x then 1 else 0) (by simp[flag])]
 cases x<;>simp
end Pk
end Go.Proofs.YtdkdjofnnnljjaaGreatDoor
