/- Several texts of mine in one: GMa GEr GMc GMp GMg CmFew. -/
import Derived.Test.YtdkdjofnnnljjaaGreatDoorGPl
import Derived.Test.YtdkdjofnnnljjaaGreatDoorPEnChk
import Derived.Test.YtdkdjofnnnljjaaGreatDoorGMb
import Derived.Test.YtdkdjofnnnljjaaGreatDoorPCmdChk
import Derived.Test.YtdkdjofnnnljjaaGreatDoorGRune
import Derived.Deep.QuietTactic
import Derived.BigQuiet
import Derived.Test.YtdkdjofnnnljjaaGreatDoorPVers
import Derived.Test.YtdkdjofnnnljjaaGreatDoorPPkMath
import Derived.Test.YtdkdjofnnnljjaaGreatDoorGCw
import Derived.BigRegion
namespace Go.Proofs.YtdkdjofnnnljjaaGreatDoor
open Go.RowKit
def FieldsIn(w:World):Prop:=w.var? Tryz.prog "changeover/msgone.fields"=some (Ms.tab.map fun n=>Value.int .i64 n).toArray
theorem FieldsIn.below{w w' : World}(h:FieldsIn w)(hb:Below w.heap.size w w'):FieldsIn w' := var_below h hb
end Go.Proofs.YtdkdjofnnnljjaaGreatDoor

namespace Go.Proofs.YtdkdjofnnnljjaaGreatDoor
open Go.RowKit
set_option maxHeartbeats 3200000
set_option maxRecDepth 4000
def En.long(e:En.Ent):Bool:=decide (200<e.cmd.key.length) || (decide (200<e.cmd.val.length) || decide (200<e.cmd.old.length))
def En.large(l:List En.Ent):Bool:=(l.take 40).any En.long || decide (40<l.length)
theorem En.small{l:List En.Ent}(h:En.large l=false):l.length≤40 ∧ ∀e∈l,e.cmd.Short 200:=by
 unfold En.large at h
 rw[Bool.or_eq_false_iff]at h
 have h40:l.length≤40:=by have:=of_decide_eq_false h.2;omega
 refine⟨h40,fun e he => ?_⟩
 have:=List.any_eq_false.1 h.1 e (by rw[List.take_of_length_le h40];exact he)
 unfold En.long at this
 simp at this
 exact⟨this.1,this.2.2,this.2.1⟩
theorem sameE_any(v u:Value)(l m:List En.Ent)(w:World)(hv:ReadsE w v l)(hu:ReadsE w u m) :
 Calls Tryz.prog 55 #[v,u] w (Looks w (.bool (decide (l=m)))):=by
 obtain⟨ao,cap,rfl,hc1,hc2⟩:=ReadsE.shape hv
 obtain⟨bo,bcap,rfl,hd1,hd2⟩:=ReadsE.shape hu
 have HP:=Lib.hid (fun h=>ReadsE.places hv h)
 have HQ:=Lib.hid (fun h=>ReadsE.places hu h)
 obtain⟨r,hr⟩ : ∃r,r=decide (l=m):=⟨_,rfl⟩
 rw[← hr]
 have HR:=Lib.hid hr
 obtain⟨n,hnn⟩ : ∃n,n=l.length:=⟨_,rfl⟩
 obtain⟨p,hpp⟩ : ∃p,p=m.length:=⟨_,rfl⟩
 rw[← hnn]at hc1 ⊢
 rw[← hpp]at hd1 ⊢
 have HN:=Lib.hid hnn
 have HM:=Lib.hid hpp
 have hnb:n<9223372036854775808:=by omega
 have hpb:p<9223372036854775808:=by omega
 clear hv hu hnn hpp hr
 by_cases hnp:n=p
 ·subst hnp
  have hne:((n:Int) != (n:Int))=false:=by simp
  go_enter Tryz.func55,Tryz.ntmps55
  go_wp2
  go_loopw [5] (fun i wr => ∃k:Nat,i = .int .i64 (k:Int)∧k≤n∧Hid (l.take k=m.take k)∧Below w.heap.size w wr) (fun i _=>n - (intOf i).toNat)
  case atStart=>exact⟨0,rfl,by omega,by show _=_;simp,Below.refl _ _⟩
  case round =>
   obtain⟨k,rfl,hk,HI,hB⟩:=hrel
   have HB:=Lib.hid hB
   clear hB
   by_cases hlt:k<n
   ·obtain⟨a,ha⟩ : ∃e,l[k]? = some e:=⟨_,List.getElem?_eq_getElem (by have:=HN.out;omega)⟩
    obtain⟨b,hb⟩ : ∃e,m[k]? = some e:=⟨_,List.getElem?_eq_getElem (by have:=HM.out;omega)⟩
    obtain⟨g,off,rfl,hgl,hcell⟩:=HP.out (by have:=HN.out;omega)
    obtain⟨h,oof,rfl,hhl,hdell⟩:=HQ.out (by have:=HM.out;omega)
    obtain⟨c0,c1,c2,c3,c4,c5,c6,c7,c8,c9⟩:=hcell wr HB.out k a ha
    obtain⟨d0,d1,d2,d3,d4,d5,d6,d7,d8,d9⟩:=hdell wr HB.out k b hb
    have HA:=Lib.hid ha;have HBB:=Lib.hid hb
    have hgd:=guard_ent
    have hneq:=fun W=>run_neq_ent W a b
    obtain⟨t,ht⟩ : ∃t,t=decide (a=b):=⟨_,rfl⟩
    rw[← ht]at hneq
    have HT:=Lib.hid ht
    dsimp only [En.cells]at hneq
    clear hcell hdell ha hb ht
    cases t with
    | true =>
     have HZ:Hid (l.take (k+1)=m.take (k+1)):=by
      show _=_
      rw[List.take_add_one,List.take_add_one,HA.out,HBB.out,HI.out,of_decide_eq_true HT.out.symm]
     simp only[Bool.not_true]at hneq
     go_wp2
     go_quiet (fail)
     all_goals
      go_wp2
      go_roundw
      case rel=>exact⟨k+1,by go_num,by omega,HZ.out,HB.out.trans ((drawn wr _).mono HB.out.size)⟩
      case measure=>simp[intOf];omega
    | false =>
     have HZ:Hid (r=false):=by
      show _=_
      rw[HR.out]
      refine decide_eq_false fun h => ?_
      have h1:=HA.out
      rw[h,HBB.out]at h1
      exact of_decide_eq_false HT.out.symm (Option.some.inj h1).symm
     simp only[Bool.not_false]at hneq
     go_wp2
     go_quiet (fail)
     all_goals
      go_wp2
      go_ret
      exact⟨by rw[HZ.out];rfl,HB.out.trans ((drawn wr _).mono HB.out.size)⟩
   ·have HZ:Hid (r=true):=by
     show _=_
     rw[HR.out]
     refine decide_eq_true ?_
     have:=HI.out
     rwa[List.take_of_length_le (by have:=HN.out;omega),List.take_of_length_le (by have:=HM.out;omega)]at this
    go_wp2
    go_ret
    exact⟨by rw[HZ.out];rfl,HB.out⟩
 ·have hne:((n:Int) != (p:Int))=true:=by simp;omega
  have HZ:Hid (r=false):=by
   show _=_
   rw[HR.out]
   exact decide_eq_false fun h=>hnp (by rw[HN.out,HM.out,h])
  go_enter Tryz.func55,Tryz.ntmps55
  go_wp2
  go_ret
  exact⟨by rw[HZ.out];rfl,Below.refl _ _⟩
end Go.Proofs.YtdkdjofnnnljjaaGreatDoor

namespace Go.Proofs.YtdkdjofnnnljjaaGreatDoor
open Go.RowKit
set_option maxHeartbeats 400000
set_option maxRecDepth 4000
theorem equalB_any(v u:Value)(l m:List UInt8)(w:World)(hv:Reads w v l)(hu:Reads w u m) :
 Calls Tryz.prog 149 #[v,u] w (Looks w (.bool (l == m))):=by
 obtain⟨ao,cap,rfl⟩:=hv.shape
 obtain⟨ao2,cap2,rfl⟩:=hu.shape
 have c1:=run_string_of (P:=Tryz.prog) l Tryz.underlying30 Tryz.underlying5 Tryz.underlying9 hv
 have c2:=run_string_of (P:=Tryz.prog) m Tryz.underlying30 Tryz.underlying5 Tryz.underlying9 hu
 go_enter Tryz.func149,Tryz.ntmps149
 go_wp2
 go_ret
 exact⟨ret_bool rfl,Below.refl _ _⟩
end Go.Proofs.YtdkdjofnnnljjaaGreatDoor

namespace Go.Proofs.YtdkdjofnnnljjaaGreatDoor
open Go.RowKit
set_option maxHeartbeats 1600000
set_option maxRecDepth 4000
theorem cput_at(v:Int)(c:Cm.Cmd)(w:World)(B o:Nat)(u:Value)(pre:List UInt8)(hm:Vs.may v=true)(hw:Wrt w B o u pre)(hpre:pre.length≤35184372088832)(hB:B≤w.heap.size)(hf:c.Fits)(hs:c.Short 1000) :
 Calls Tryz.prog 129 #[.pointer (some ⟨o,0,none⟩), .int .i64 v, .agg (Cm.cells c)] w (PutGot w B o (pre++Cm.bytes v c)):=by
 have ho:=hw.lies.lt
 have hs2:c.Short 1048576:=⟨by have:=hs.1;omega,by have:=hs.2.1;omega,by have:=hs.2.2;omega⟩
 obtain⟨w1,e1,hl1,hB1,hz1⟩:=box_cmd w c
 have hk:w1.cell? ⟨w.heap.size,0,none⟩=some (.int .i64 c.kind):=hl1.cell 0 _ rfl
 have HL1:=Lib.hid hl1;have HB1:=Lib.hid hB1;have HZ1:=Lib.hid hz1
 have HW1:=Lib.hid (hw.grown hB1)
 clear hl1 hB1 hz1 hw
 go_enter Tryz.func129,Tryz.ntmps129
 go_wp2_with fail
 refine(may_any v _).mono ?_
 rintro e w2 ⟨rfl,rfl⟩
 rw[hm]
 go_wp2_with fail
 refine(wnum_any c.kind _ B o u pre HW1.out (Nat.le_trans hB HB1.out.size) (by omega) hf.k0 hf.k1).mono ?_
 rintro e w2 ⟨rfl,u2,hw2,hg2⟩
 have hp2:=Spares.of_grew HW1.out hg2
 have hb2:=HW1.out.below hg2 (Nat.le_trans hB HB1.out.size)
 have hl2:Cmds w2 w.heap.size c:=hp2 _ _ _ (by omega) (by decide) HL1.out
 have hk2:w2.cell? ⟨w.heap.size,0,none⟩=some (.int .i64 c.kind):=hl2.cell 0 _ rfl
 obtain⟨K0,hK0⟩ : ∃K0,K0=pre++enc c.kind.toNat:=⟨_,rfl⟩
 rw[← hK0]at hw2
 have HK0:=Lib.hid hK0
 have HB2:=Lib.hid ((HB1.out.mono hB).trans hb2)
 have HP2:=Lib.hid ((Spares.of_below (o:=o) HB1.out).trans hp2)
 have HW2:=Lib.hid hw2
 have HL2:=Lib.hid hl2
 have hz2:w.heap.size+1≤w2.heap.size:=by have:=hb2.size;have:=HZ1.out;omega
 clear hp2 hb2 hl2 hw2 hg2 hK0
 go_wp2_with fail
 refine(encoded_any v w.heap.size c.kind _ hk2).mono ?_
 rintro e w3 ⟨r,rfl,hr,hB3⟩
 obtain⟨ao,rfl⟩:=hr.shape
 have hn:=Cm.encoded_len v c.kind
 have HBY:Hid (pre++Cm.bytes v c=K0++(Cm.encoded v c.kind).flatMap (Cm.fenc c)):=by show _=_;rw[HK0.out];simp[Cm.bytes]
 obtain⟨fs,hfs⟩ : ∃fs,fs=Cm.encoded v c.kind:=⟨_,rfl⟩
 rw[← hfs]at hr hn ⊢
 have HFS:=Lib.hid hfs
 have HR:=Lib.hid hr
 have HL3:=Lib.hid (HL2.out.below hB3 HL2.out.lt)
 have HW3:=Lib.hid (HW2.out.grown hB3)
 have HB3:=Lib.hid (HB2.out.trans (hB3.mono (Nat.le_trans hB HB2.out.size)))
 have HP3:=Lib.hid (HP2.out.trans (Spares.of_below (o:=o) hB3))
 have H9:Hid (K0.length≤35184372088841):=by show _≤_;rw[HK0.out,List.length_append];have:=enc_nine (n:=c.kind.toNat) (by have:=hf.k1;omega);omega
 have HFL:=Lib.hid (Cm.flat_len c hf hs)
 clear hr hfs hB3 hk hk2
 go_wp2
 go_loopw [7,18] (fun _ i wr => ∃(k:Nat) (u' : Value),i = .int .i64 (k:Int)∧k≤fs.length∧Hid (Below B w wr)∧Hid (Wrt wr B o u' (K0++(fs.take k).flatMap (Cm.fenc c)))∧Hid (Cmds wr w.heap.size c)∧Hid (FRow wr w2.heap.size (.slice ao fs.length fs.length) w.heap.size fs)∧Hid (Spares o w wr)) (fun _ i _=>fs.length - (intOf i).toNat)
 case atStart =>
  refine⟨0,u2,rfl,by omega,HB3, ?_,HL3,HR,HP3⟩
  show Wrt _ _ _ _ _
  rw[List.take_zero,List.flatMap_nil,List.append_nil]
  exact HW3.out
 case round =>
  obtain⟨k,u', rfl,hk,HB,HW,HL,HF,HP⟩:=hrel
  by_cases hlt:k<fs.length
  ·have hlt' : (k:Int)<(fs.length:Int):=by omega
   obtain⟨f,hff⟩ : ∃f,fs[k]? = some f:=⟨_,List.getElem?_eq_getElem hlt⟩
   obtain⟨g,rfl,hcell⟩:=HF.out.cell hff
   have HFK:=Lib.hid hff
   have hlen:(K0++(fs.take k).flatMap (Cm.fenc c)).length≤70368744177664:=by
    have:=HFL.out (fs.take k)
    have:=H9.out
    rw[List.length_append]
    rw[List.length_take]at *
    omega
   clear hff
   go_wp2_with fail
   refine(fput_any w.heap.size c f _ B o u' _ HW.out (Nat.le_trans hB HB.out.size) hlen HL.out hf hs2).mono ?_
   rintro e w4 ⟨rfl,u4,hw4,hp4,hb4⟩
   have HL4:=Lib.hid (hp4 _ _ _ (by omega) (by decide) HL.out)
   have HF4:=Lib.hid (HF.out.spares hp4 (by omega))
   have HP4:=Lib.hid (HP.out.trans hp4)
   have HB4:=Lib.hid (HB.out.trans hb4)
   have HW4:=Lib.hid hw4
   clear hw4 hp4 hb4 hlen
   go_wp2
   go_roundw
   case rel =>
    refine⟨k+1,u4,by go_num,by omega,HB4, ?_,HL4,HF4,HP4⟩
    show Wrt _ _ _ _ _
    have:=HW4.out
    rw[List.take_add_one,HFK.out,List.flatMap_append,Option.toList_some,List.flatMap_singleton, ← List.append_assoc]
    exact this
   case measure=>simp[intOf];omega
  ·have hlt' : ¬(k:Int)<(fs.length:Int):=by omega
   have hw5:=HW.out
   rw[List.take_of_length_le (by omega),HFS.out, ← HBY.out]at hw5
   have HW5:=Lib.hid hw5
   clear hw5
   go_wp2
   go_end0
   exact⟨rfl,u', HW5.out,HP.out,HB.out⟩
theorem wraw_out(u:Value)(s:List UInt8)(w:World)(B o:Nat)(v:Value)(l:List UInt8)(hw:Wrt w B o v l)(hB:B≤w.heap.size)(hlen:l.length≤70368744177664)(hs:s.length≤1048576)(hu : ∀W,Below B w W→Reads W u s) :
 Calls Tryz.prog 130 #[.pointer (some ⟨o,0,none⟩),u] w fun e w' => e = .returned (.tuple #[]) ∧ ∃v', Wrt w' B o v' (l++Pk.text s)∧Below B w w' := by
 have h9:=enc_nine (n:=s.length) (by omega)
 obtain⟨uo,uc,rfl⟩:=(hu w (Below.refl _ _)).shape
 have HU:=Lib.hid hu
 clear hu
 go_enter Tryz.func130,Tryz.ntmps130
 go_wp2_with fail
 refine(wnum_any (s.length:Int) _ B o v l hw hB (by omega) (by omega) (by omega)).mono ?_
 rintro e1 w1 ⟨rfl,v1,hw1,hg1⟩
 rw[Int.toNat_natCast]at hw1
 have hB1:=hw.below hg1 hB
 have hu1:=HU.out _ hB1
 have hc1:=hw1.lies.cell 0 v1 rfl
 go_wp2_with (at_builtin;refine append_bytes rfl _ _ 30 5 rfl Tryz.underlying30 info_u8 B (l++enc s.length) s v1 _ rfl rfl hw1.owns hu1 (by simp;omega) w1 (Below.refl _ _) (by have:=hB1.size;omega) ?_;intro v2 w2 ho2 hb2 hg2;obtain⟨ao2,cap2,rfl⟩:=ho2.reads.shape;have hl2:=hw1.lies.kept hg2 (hw1.lies.not_row (by decide) hw1.owns);have hc2:=hl2.cell 0 v1 rfl;have hf2:=hl2.free 0)
 have hp:=hw1.put (by decide) ho2 hg2
 have hq:=hB1.trans (hw1.below hp.2 (by have:=hB1.size;omega))
 go_end0
 simp only[List.length_append,Nat.add_assoc]at hp hq
 exact⟨rfl,_,by unfold Pk.text;rw[← List.append_assoc];exact hp.1,hq⟩
abbrev Ptrs(w:World)(h g:Nat):Prop:=Lies w h 168 #[.pointer (some ⟨g,0,none⟩), .pointer (some ⟨g,1,none⟩), .pointer (some ⟨g,2,none⟩), .pointer (some ⟨g,3,none⟩), .pointer (some ⟨g,4,none⟩), .pointer (some ⟨g,5,none⟩), .pointer (some ⟨g,6,none⟩)]
theorem Ptrs.at{w:World}{h g:Nat}(hp:Ptrs w h g)(k:Nat)(hk:k<7):w.cell? ⟨h,k,none⟩=some (.pointer (some ⟨g,k,none⟩)):=by
 have:k=0∨k=1∨k=2∨k=3∨k=4∨k=5∨k=6:=by omega
 rcases this with rfl | rfl | rfl | rfl | rfl | rfl | rfl<;>exact hp.cell _ _ rfl
end Go.Proofs.YtdkdjofnnnljjaaGreatDoor

namespace Go.Proofs.YtdkdjofnnnljjaaGreatDoor
open Go.RowKit
set_option maxHeartbeats 1600000
set_option maxRecDepth 4000
theorem Cm.get_inv_at(v:Int)(b:List UInt8)(p:Nat)(er:Int)(hp:p≤b.length):(Cm.get v b p er).2.1≤b.length∧(Cm.get v b p er).1.Short b.length∧(Cm.get v b p er).1.Fits:=by
 unfold Cm.get
 have hS : ∀n,(Cm.bareOf n).Short b.length:=fun n=>⟨by simp[Cm.bareOf],by simp[Cm.bareOf],by simp[Cm.bareOf]⟩
 rcases Cm.rnum_cases b p er with ⟨e,_,hn⟩ | ⟨n,q,_,_,hq,hb,hn,_⟩
 ·rw[hn]
  exact Cm.fold_inv b _ _ (by simpa using hp) (hS _) (by constructor<;>simp[Cm.bareOf])
 ·rw[hn]
  exact Cm.fold_inv b _ _ (by simpa using hq) (hS _) (by constructor<;>simp[Cm.bareOf]<;>omega)
theorem En.get1_inv(v:Int)(b:List UInt8)(p:Nat)(er:Int)(hp:p≤b.length):(En.get1 v b p er).1.cmd.Short b.length∧(En.get1 v b p er).1.Fits:=by
 have l3:=Cm.rnum_le b _ (Cm.rnum b (Cm.rnum b p er).2.1.toNat (Cm.rnum b p er).2.2).2.2 (Cm.rnum_le b _ (Cm.rnum b p er).2.2 (Cm.rnum_le b p er hp))
 have l4:=Cm.rnum_le b _ (Cm.rnum b (Cm.rnum b (Cm.rnum b p er).2.1.toNat (Cm.rnum b p er).2.2).2.1.toNat (Cm.rnum b (Cm.rnum b p er).2.1.toNat (Cm.rnum b p er).2.2).2.2).2.2 l3
 obtain⟨_,h2,h3⟩:=Cm.get_inv_at v b _ (Cm.rnum b (Cm.rnum b (Cm.rnum b p er).2.1.toNat (Cm.rnum b p er).2.2).2.1.toNat (Cm.rnum b (Cm.rnum b p er).2.1.toNat (Cm.rnum b p er).2.2).2.2).2.2 l3
 have n1:=Ms.rnum_num b p er
 have n2:=Ms.rnum_num b (Cm.rnum b p er).2.1.toNat (Cm.rnum b p er).2.2
 have n3:=Ms.rnum_num b (Cm.rnum b (Cm.rnum b p er).2.1.toNat (Cm.rnum b p er).2.2).2.1.toNat (Cm.rnum b (Cm.rnum b p er).2.1.toNat (Cm.rnum b p er).2.2).2.2
 refine⟨h2,⟨?_, ?_,⟨?_, ?_, ?_, ?_⟩,h3⟩⟩<;>(dsimp only [En.get1];omega)
theorem En.gets_inv(v:Int)(b:List UInt8)(p:Nat)(er:Int)(hp:p≤b.length) : ∀k,∀e∈(En.gets v b p er k).1,e.cmd.Short b.length∧e.Fits
 | 0,e,h=>by simp[En.gets]at h
 | k+1,e,h=>by
  unfold En.gets at h
  dsimp only at h
  rcases List.mem_append.1 h with h | h
  ·exact En.gets_inv v b p er hp k e h
  ·rw[List.mem_singleton]at h
   subst h
   exact En.get1_inv v b _ _ (En.gets_le v b p er hp k)
theorem En.get_inv(v:Int)(b:List UInt8)(p:Nat)(er:Int)(hp:p≤b.length):(∀e∈(En.get v b p er).1,e.cmd.Short b.length∧e.Fits)∧(En.get v b p er).1.length≤256:=by
 unfold En.get
 rcases En.count_cases b p er hp with ⟨e,q,_,hq,h⟩ | ⟨n,q,_,hq,hn,h,_⟩
 ·rw[h]
  dsimp only
  split
  ·exact⟨En.gets_inv v b _ _ (by simpa using hq) _,by simp[En.gets]⟩
  ·exact⟨fun e he=>by simp at he,by simp⟩
 ·rw[h]
  dsimp only
  split
  ·exact⟨En.gets_inv v b _ _ (by simpa using hq) _,by rw[En.gets_len];simpa using hn⟩
  ·exact⟨fun e he=>by simp at he,by simp⟩
theorem Ms.get_inv(b:List UInt8):(Ms.get b).1.Fits∧(∀e∈(Ms.get b).1.ents,e.cmd.Short b.length)∧(Ms.get b).1.ents.length≤256∧(Ms.get b).1.img.length≤b.length:=by
 obtain⟨h1,h2⟩:=En.get_inv 1 b (Ms.rnums b 7).2.1 (Ms.rnums b 7).2.2 (Ms.rnums_le b 7)
 refine⟨⟨fun x hx => ?_,fun e he=>(h1 e he).2⟩,fun e he=>(h1 e he).1,h2, ?_⟩
 ·have hn7:Ms.nums (Ms.get b).1=(Ms.rnums b 7).1:=Ms.seven (Ms.rnums_len b 7)
  rw[hn7]at hx
  have:=Ms.rnums_num b 7 x hx
  omega
 ·rcases Ms.raw_cases b (Ms.gotE b).2.1 (Ms.gotE b).2.2 (En.get_le 1 b _ _ (Ms.rnums_le b 7))with ⟨e,q,_,_,hr⟩ | ⟨s,q,_,_,hs,hr,_⟩
  ·show(Ms.raw b (Ms.gotE b).2.1 (Ms.gotE b).2.2).1.length≤_
   rw[hr];simp
  ·show(Ms.raw b (Ms.gotE b).2.1 (Ms.gotE b).2.2).1.length≤_
   rw[hr];exact hs
theorem Cm.check_short{c:Cm.Cmd}(h:Cm.check c=0):c.Short 48:=by
 obtain⟨hk,ha⟩:=Cm.check_ok h
 unfold Cm.check at h
 rw[hk,if_neg (by simp)]at h
 by_cases h6:(Cm.fields c.kind).all (Cm.within c)=false
 ·rw[if_pos h6]at h;omega
 rw[if_neg h6]at h
 by_cases h7:(Cm.fields c.kind).all (Cm.spelt c)=false
 ·rw[if_pos h7]at h;omega
 have hw:(Cm.fields c.kind).all (Cm.spelt c)=true:=by simpa using h7
 have h' := of_decide_eq_true ha
 have hkey : ∀s:List UInt8,Rn.key ⟨s.toArray⟩=true→s.length≤48:=fun s hs=>by
  unfold Rn.key at hs
  simp only[Bool.and_eq_true,decide_eq_true_eq]at hs
  have:=hs.1.2
  rw[str_size]at this
  omega
 have hval : ∀s:List UInt8,Rn.val ⟨s.toArray⟩=true→s.length≤48:=fun s hs=>by
  unfold Rn.val at hs
  simp only[Bool.and_eq_true,decide_eq_true_eq]at hs
  have:=hs.1.1
  rwa[str_size]at this
 clear h ha h6 h7
 obtain⟨k,cl,sq,nd,ky,od,vl⟩:=c
 dsimp only at hk hw h'
 rcases Vs.kinds k with rfl | rfl | rfl | rfl | rfl | rfl | rfl | rfl | h
 rotate_right
 ·simp[Cm.known]at hk;omega
 all_goals
  simp[Cm.fields,Cm.wipe,Cm.F.num,Cm.Cmd.setN,Cm.Cmd.setS,Cm.bareOf]at h'
  simp[Cm.fields,Cm.spelt,Cm.F.num,Cm.okS,Cm.Cmd.s]at hw
  refine⟨?_, ?_, ?_⟩<;>dsimp only<;>first | (rw[h'.1];simp;done) | (rw[h'.2];simp;done) | (rw[h'.2.1];simp;done) | (rw[h'.2.2];simp;done) | exact hkey _ hw | exact hkey _ hw.1 | exact hkey _ hw.2 | exact hval _ hw.2 | exact hval _ hw.1 | exact hval _ hw.2.1 | exact hval _ hw.2.2 | grind
theorem Short.up{c:Cm.Cmd}{a b:Nat}(h:c.Short a)(hab:a≤b):c.Short b:=⟨Nat.le_trans h.1 hab,Nat.le_trans h.2.1 hab,Nat.le_trans h.2.2 hab⟩
def SavesO(o:Nat)(w w' : World):Prop := ∀(k:Nat) (T:TypeId) (vs:Array Value),k≠o→Lies w k T vs→Lies w' k T vs
theorem SavesO.refl(o:Nat)(w:World):SavesO o w w:=fun _ _ _ _ h=>h
theorem SavesO.trans{o:Nat}{a b c:World}(h:SavesO o a b)(k:SavesO o b c):SavesO o a c:=fun j T vs h1 h2=>k j T vs h1 (h j T vs h1 h2)
theorem SavesO.of_below{o:Nat}{w w' : World}(h:Below w.heap.size w w'):SavesO o w w' := fun _ _ _ _ hl=>hl.below h hl.lt
theorem SavesO.of_grown{o:Nat}{w w' : World}(h:w.grownBy w' (some o)):SavesO o w w' := fun _ _ _ h1 hl=>hl.kept h (by intro e;cases e;exact h1 rfl)
theorem cgetS_any(v:Int)(w:World)(B o:Nat)(u:Value)(s:List UInt8)(p:Nat)(er:Int)(hm:Vs.may v=true)(hr:Rdr w B o u s p er)(hB:B≤w.heap.size) :
 Calls Tryz.prog 177 #[.pointer (some ⟨o,0,none⟩), .int .i64 v] w (fun e' w' => CGot w B o u s (Cm.get v s p er) e' w' ∧ SavesO o w w'):=by
 have ho:=hr.lies.lt
 obtain⟨n,q,e,hq,hx,hn0,hn1⟩:=Cm.rnum_res s p er
 have HQ:=Lib.hid hq
 obtain⟨w1,e1,hl1,hB1,hz1⟩:=box_cmd w Cm.zero
 have HG:Hid (Cm.get v s p er=(Cm.encoded v n).foldl (Cm.gstep s) (Cm.bareOf n,q,e)):=by
  show _=_
  unfold Cm.get
  rw[hq]
  simp
 dsimp only [Cm.cells,Cm.zero,Cm.bareOf]at e1
 have HS1:=Lib.hid (SavesO.of_below (o:=o) hB1)
 have HL1:=Lib.hid hl1;have HB1:=Lib.hid (hB1.mono hB);have HZ1:=Lib.hid hz1
 have HR1:=Lib.hid (hr.kept hB1)
 clear hl1 hB1 hz1 hr hq
 go_enter Tryz.func177,Tryz.ntmps177
 go_wp2_with fail
 refine(may_any v _).mono ?_
 rintro e w2 ⟨rfl,rfl⟩
 rw[hm]
 go_wp2_with fail
 refine(rnumber_any _ B o u s p er n q e HR1.out hx HQ).mono ?_
 rintro e2 w2 ⟨rfl,hr2,hg2⟩
 have hb2:=HB1.out.grown hg2 (Nat.le_trans hB HB1.out.size) (by rintro k hk;cases hk;exact hr2.base)
 have hl2:Cmds w2 w.heap.size Cm.zero:=HL1.out.kept hg2 (by simp;omega)
 have hz2:w.heap.size+1≤w2.heap.size:=by have:=hg2.size;have:=HZ1.out;omega
 have HS2:=Lib.hid (HS1.out.trans (SavesO.of_grown hg2))
 have HB2:=Lib.hid hb2;have HL2:=Lib.hid hl2;have HR2:=Lib.hid hr2
 clear hr2 hg2 hb2 hl2
 go_wp2_with (refine store_cmd (by rfl) _ _ (by rfl) w2.heap.size Cm.zero (Cm.bareOf n) (by rfl) (by rfl) (Lies.new _ _ _) ?_;intro w3 hl3 hg3)
 have hB3:Below w2.heap.size w2 w3:=((Below.refl _ w2).alloc (Nat.le_refl _) _).grown hg3 (by simp) (by rintro j hj;cases hj;exact Nat.le_refl _)
 have hk3:w3.cell? ⟨w2.heap.size,0,none⟩=some (.int .i64 n):=hl3.cell 0 _ rfl
 have hz4:w2.heap.size<w3.heap.size:=hl3.lt
 have HS3:=Lib.hid (HS2.out.trans (SavesO.of_below (o:=o) hB3))
 have HL3:=Lib.hid hl3;have HB3:=Lib.hid (HB2.out.trans (hB3.mono (Nat.le_trans hB HB2.out.size)))
 have HR3:=Lib.hid (HR2.out.kept hB3)
 have HK3:=Lib.hid (HL2.out.below hB3 HL2.out.lt)
 clear hl3 hB3 hg3
 go_wp2_with fail
 refine(encoded_any v w2.heap.size n _ hk3).mono ?_
 rintro e4 w4 ⟨r,rfl,hr,hB4⟩
 obtain⟨ao,rfl⟩:=hr.shape
 have hn:=Cm.encoded_len v n
 obtain⟨fs,hfs⟩ : ∃fs,fs=Cm.encoded v n:=⟨_,rfl⟩
 rw[← hfs]at hr hn ⊢
 have HFS:=Lib.hid hfs
 have HF4:=Lib.hid hr
 have HL4:=Lib.hid (HL3.out.below hB4 HL3.out.lt)
 have HR4:=Lib.hid (HR3.out.kept hB4)
 have HK4:=Lib.hid (HK3.out.below hB4 HK3.out.lt)
 have HS4:=Lib.hid (HS3.out.trans (SavesO.of_below (o:=o) hB4))
 have HB4:=Lib.hid (HB3.out.trans (hB4.mono (Nat.le_trans hB HB3.out.size)))
 clear hr hfs hB4 hk3
 go_wp2
 go_loopw [7,18] (fun _ i wr => ∃(k:Nat) (t:Cm.Cmd × Nat × Int),i = .int .i64 (k:Int)∧k≤fs.length∧Hid (Below B w wr)∧Hid (t=(fs.take k).foldl (Cm.gstep s) (Cm.bareOf n,q,e))∧Hid (Rdr wr B o u s t.2.1 t.2.2)∧Hid (Cmds wr w2.heap.size t.1)∧Hid (FRow wr w3.heap.size (.slice ao fs.length fs.length) w2.heap.size fs)∧Hid (Cmds wr w.heap.size Cm.zero)∧Hid (SavesO o w wr)) (fun _ i _=>fs.length - (intOf i).toNat)
 case atStart=>exact⟨0,(Cm.bareOf n,q,e),rfl,by omega,HB4,rfl,HR4,HL4,HF4,HK4,HS4⟩
 case round =>
  obtain⟨k,t,rfl,hk,HB,HT,HR,HL,HF,HK,HS⟩:=hrel
  by_cases hlt:k<fs.length
  ·have hlt' : (k:Int)<(fs.length:Int):=by omega
   obtain⟨f,hff⟩ : ∃f,fs[k]? = some f:=⟨_,List.getElem?_eq_getElem hlt⟩
   obtain⟨g,rfl,hcell⟩:=HF.out.cell hff
   have HFK:=Lib.hid hff
   clear hff
   go_wp2_with fail
   refine(fget_any w2.heap.size t f _ B o u s HR.out HL.out (by omega) (by omega)).mono ?_
   rintro e5 w5 ⟨rfl,hl5,hr5,hs5,hb5⟩
   have HL5:=Lib.hid hl5
   have HR5:=Lib.hid hr5
   have HF5:=Lib.hid (HF.out.saves hs5 (by omega) (by omega))
   have HK5:=Lib.hid (hs5 _ _ _ (by omega) (by omega) HK.out)
   have HB5:=Lib.hid (HB.out.trans hb5)
   have HS5:Hid (SavesO o w w5):=fun k T vs h1 h2=>hs5 k T vs h1 (by have:=h2.lt;omega) (HS.out k T vs h1 h2)
   clear hl5 hr5 hs5 hb5
   go_wp2
   go_roundw
   case rel =>
    refine⟨k+1,Cm.gstep s t f,by go_num,by omega,HB5, ?_,HR5,HL5,HF5,HK5,HS5⟩
    show _=_
    rw[List.take_add_one,HFK.out,List.foldl_append, ← HT.out]
    rfl
   case measure=>simp[intOf];omega
  ·have hlt' : ¬(k:Int)<(fs.length:Int):=by omega
   have ht:=HT.out
   rw[List.take_of_length_le (by omega),HFS.out, ← HG.out]at ht
   have HT2:=Lib.hid ht
   clear ht
   have p0:wr.cell? ⟨w2.heap.size,0,none⟩=some (.int .i64 t.1.kind):=HL.out.cell 0 _ rfl
   have p1:wr.cell? ⟨w2.heap.size,1,none⟩=some (.int .i64 t.1.client):=HL.out.cell 1 _ rfl
   have p2:wr.cell? ⟨w2.heap.size,2,none⟩=some (.int .i64 t.1.seq):=HL.out.cell 2 _ rfl
   have p3:wr.cell? ⟨w2.heap.size,3,none⟩=some (.string ⟨t.1.key.toArray⟩):=HL.out.cell 3 _ rfl
   have p4:wr.cell? ⟨w2.heap.size,4,none⟩=some (.string ⟨t.1.val.toArray⟩):=HL.out.cell 4 _ rfl
   have p5:wr.cell? ⟨w2.heap.size,5,none⟩=some (.string ⟨t.1.old.toArray⟩):=HL.out.cell 5 _ rfl
   have p6:wr.cell? ⟨w2.heap.size,6,none⟩=some (.int .i64 t.1.node):=HL.out.cell 6 _ rfl
   go_wp2_with (first
    | (refine store_cmd (by rfl) _ _ (by rfl) w.heap.size Cm.zero t.1 (by rfl) (by rfl) HK.out ?_;intro w6 hl6 hg6))
   refine ret_cmd1 rfl rfl hl6 rfl ?_
   rw[← HT2.out]
   exact⟨⟨rfl,HR.out.beside' hg6 (by omega) (fun h=>HK.out.not_row (by decide) HR.out.owns h.symm),HB.out.grown hg6 (Nat.le_trans hB HB.out.size) (by rintro j hj;cases hj;exact hB)⟩,
    fun k T vs h1 h2=>(HS.out k T vs h1 h2).kept hg6 (by have:=h2.lt;simp;omega)⟩
theorem eget_end{w0 w v w' : World}{B o b:Nat}{u:Value}{s:List UInt8}{q:Nat}{e:Int}{T:TypeId}{vs' : Array Value}(hT:T≠5)(hB:B≤w0.heap.size)(hb:w0.heap.size≤b)(ho:o<w0.heap.size)
 (HB:Below B w0 w) (HS:SavesO o w0 w) (hr:Rdr v B o u s q e) (hg:w.grownBy v (some o)) (vs:Array Value) (hl:Lies w b T vs) (_hl' : Lies w' b T vs') (hg' : v.grownBy w' (some b)) :
 Rdr w' B o u s q e∧Below B w0 w' ∧ SavesO o w0 w' ∧ (∀k T' us,k≠o→k≠b→Lies w k T' us→Lies w' k T' us):=by
 have hbo:b≠o:=by omega
 have hlv:Lies v b T vs:=hl.kept hg (by simp;omega)
 refine⟨hr.beside' hg' hbo (fun h=>hlv.not_row hT hr.owns h.symm), ?_, ?_, ?_⟩
 ·exact(HB.grown hg (Nat.le_trans hB HB.size) (by rintro x hx;cases hx;exact hr.base)).grown hg' (Nat.le_trans hB (Nat.le_trans HB.size hg.size)) (by rintro x hx;cases hx;omega)
 ·intro k T' us h1 h2
  exact((HS k T' us h1 h2).kept hg (by simp;omega)).kept hg' (by have:=h2.lt;simp;omega)
 ·intro k T' us h1 h2 h3
  exact(h3.kept hg (by simp;omega)).kept hg' (by simp;omega)
abbrev RowE(w:World)(g:Nat)(l:List En.Ent):Prop:=Lies w g 129 (flatR (l.map En.cells)).toArray
def ListE(o:Nat)(w:World)(v:Value)(l:List En.Ent):Prop:=(v = .slice none 0 0∧l = []) ∨ ∃g,g≠o∧v = .slice (some ⟨g,0,none⟩) l.length l.length∧l.length≤1048576∧RowE w g l
theorem ListE.one{o:Nat}{w:World}{v:Value}{l:List En.Ent}(h:ListE o w v l):v.oneCell' = true:=by
 rcases h with ⟨rfl,_⟩ | ⟨g,_,rfl,_,_⟩<;>rfl
theorem ListE.kept{o b:Nat}{w w' : World}{v:Value}{l:List En.Ent}{T:TypeId}{vs:Array Value}(h:ListE o w v l)(hl:Lies w b T vs)(hT:T≠129)(hg:w.grownBy w' (some b)):ListE o w' v l:=by
 rcases h with h | ⟨g,hgo,hv,hm,hr⟩
 ·exact .inl h
 ·refine .inr ⟨g,hgo,hv,hm,Lies.kept hr hg ?_⟩
  intro e
  obtain rfl:g=b:=by simpa using e
  have h' : Lies w g T vs:=hl
  unfold RowE Lies at hr
  unfold Lies at h'
  rw[hr]at h'
  simp only[Option.some.injEq,Obj.cells.injEq]at h'
  exact hT h'.2.1.symm
theorem Ms.rnums_succ(b:List UInt8)(k:Nat):Ms.rnums b (k+1)=((Ms.rnums b k).1 ++ [(Cm.rnum b (Ms.rnums b k).2.1 (Ms.rnums b k).2.2).1],(Cm.rnum b (Ms.rnums b k).2.1 (Ms.rnums b k).2.2).2.1.toNat,(Cm.rnum b (Ms.rnums b k).2.1 (Ms.rnums b k).2.2).2.2):=rfl
theorem ListE.slice{o:Nat}{w:World}{v:Value}{l:List En.Ent}(h:ListE o w v l) : ∃ao n c,v = .slice ao n c:=by
 rcases h with ⟨rfl,_⟩ | ⟨g,_,rfl,_,_⟩<;>exact⟨_,_,_,rfl⟩
end Go.Proofs.YtdkdjofnnnljjaaGreatDoor

namespace Go.Proofs.YtdkdjofnnnljjaaGreatDoor
open Go.RowKit
theorem Cm.bytes_few(v:Int)(c:Cm.Cmd)(hf:c.Fits)(hs:c.Short 48):(Cm.bytes v c).length≤198:=by
 have a4:=enc_nine (n:=c.kind.toNat) (by have:=hf.k1;omega)
 have a5:=enc_nine (n:=c.client.toNat) (by have:=hf.c1;omega)
 have a6:=enc_nine (n:=c.seq.toNat) (by have:=hf.q1;omega)
 have a7:=enc_nine (n:=c.node.toNat) (by have:=hf.n1;omega)
 have a8:=enc_nine (n:=c.key.length) (by have:=hs.1;omega)
 have a9:=enc_nine (n:=c.val.length) (by have:=hs.2.2;omega)
 have a10:=enc_nine (n:=c.old.length) (by have:=hs.2.1;omega)
 have c1:=hs.1
 have c2:=hs.2.1
 have c3:=hs.2.2
 have h:((Cm.encoded v c.kind).flatMap (Cm.fenc c)).length≤189:=by
  unfold Cm.encoded
  by_cases h1:v=1
  ·rw[if_pos h1]
   simp[Cm.fenc,Cm.F.num,Cm.Cmd.n,Cm.Cmd.s,Pk.text]
   omega
  ·rw[if_neg h1]
   rcases Vs.kinds c.kind with q | q | q | q | q | q | q | q | q
   rotate_right
   ·rw[Cm.fields_no (by omega) (by omega) (by omega) (by omega) (by omega) (by omega)];simp
   all_goals
    rw[q]
    simp[Cm.fields,Cm.fenc,Cm.F.num,Cm.Cmd.n,Cm.Cmd.s,Pk.text]<;>omega
 unfold Cm.bytes
 rw[List.length_append]
 omega
end Go.Proofs.YtdkdjofnnnljjaaGreatDoor
