/- Several texts of mine in one: GEw GHb DkMap. -/
import Derived.Test.YtdkdjofnnnljjaaGreatDoorGEf
import Derived.Deep.QuietTactic
import Derived.BigQuiet
import Derived.Test.YtdkdjofnnnljjaaGreatDoorPGMp
import Derived.Test.YtdkdjofnnnljjaaGreatDoorGMb
import Derived.Test.YtdkdjofnnnljjaaGreatDoorPMsCame
import Derived.Test.YtdkdjofnnnljjaaGreatDoorReCame
import Derived.Test.YtdkdjofnnnljjaaGreatDoorPDkList
import Derived.Test.YtdkdjofnnnljjaaGreatDoorPDkMath
import Derived.Test.YtdkdjofnnnljjaaGreatDoorRows
import Derived.Test.YtdkdjofnnnljjaaGreatDoorPMem
import Derived.Test.YtdkdjofnnnljjaaGreatDoorShelf
import Derived.Maps.OwnSet
import Derived.Maps.OwnOps
import Derived.Deep.RegionHeld
import Derived.Sort.AtCall
namespace Go.Proofs.YtdkdjofnnnljjaaGreatDoor
open Go.RowKit
theorem En.w1(s:List En.Ent)(e a:En.Ent)(h:a.index=e.index):En.wstep e (s,true) a=(s,true):=by unfold En.wstep En.ahead;simp[h]
theorem En.w2(s:List En.Ent)(e a:En.Ent)(h : ¬a.index=e.index):En.wstep e (s,true) a=(s ++ [a],true):=by unfold En.wstep En.ahead;simp[h]
theorem En.w3(s:List En.Ent)(e a:En.Ent)(h:a.index=e.index):En.wstep e (s,false) a=(s ++ [e],true):=by unfold En.wstep En.ahead;simp[h]
theorem En.w4(s:List En.Ent)(e a:En.Ent)(h1:e.index≤a.index)(h : ¬a.index=e.index):En.wstep e (s,false) a=(s ++ [e] ++ [a],true):=by unfold En.wstep En.ahead;simp[h,h1]
theorem En.w5(s:List En.Ent)(e a:En.Ent)(h1 : ¬e.index≤a.index):En.wstep e (s,false) a=(s ++ [a],false):=by unfold En.wstep En.ahead;rw[if_pos (by omega),if_neg (fun h=>h1 h.2)]
end Go.Proofs.YtdkdjofnnnljjaaGreatDoor

namespace Go.Proofs.YtdkdjofnnnljjaaGreatDoor
open Go.RowKit
set_option maxHeartbeats 1600000
set_option maxRecDepth 20000
section
abbrev RecsP(p:Nat→TypeId→Prop)(w:World)(v:Value)(l:List Re.Rec):Prop:=ListP 12 Re.cells Re.Rec.img p w v l
theorem cellR_first(a:Re.Rec)(u:Value) : ∃v,(Re.cells a u)[0]? = some v:=⟨_,rfl⟩
theorem cellR_ok(a:Re.Rec)(u:Value):(Re.cells a u).size=12∧(u.oneCell' = true→(Re.cells a u).all (·.oneCell')=true):=⟨rfl,fun h=>by simp[Re.cells,h];repeat' (first | rfl | constructor)⟩
section
variable {H : Type} {enc : TypeId × Value → H} {w : World} {b0 base : Nat} {held : Bool}
theorem came_recs{v:Value}{d:DataW H}{p:List MemPlace}(hv:Value.okWide Tryz.prog w .any b0 61 v)(h:DataW.Trod enc Tryz.prog w base (fun _=>true) held 61 v d p) :
 ∃l:List Re.Rec,RecsP (fun k _=>k<w.heap.size) w v l ∧ ∀x∈l,x.Fits∧x.cmd.Short 9223372036854775807:=by
 obtain⟨l,hr,hf⟩:=came_rows (fun a:Re.Rec × Value=>Re.cells a.1 a.2) (fun a=>Reads w a.2 a.1.img∧a.1.Fits∧a.1.cmd.Short 9223372036854775807) Tryz.underlying61 (by kernel_rfl) (fun m cs y hm=>by
  obtain⟨a,vi,h1,h2⟩:=el_rec m cs y hm
  exact⟨(a,vi),h1,h2⟩) hv h
 refine⟨l.map (·.1),⟨l,rfl,RowP.of_reads hr (by omega) (rowsOf_sized cellR_ok fun q hq => ?_) (fun b t hb=>hb),fun q hq=>ReadsP.of_reads (hf q hq).1 (fun b t hb=>hb)⟩,fun x hx => ?_⟩
 ·obtain⟨ao,c,e⟩:=(hf q hq).1.shape
  rw[e]
  rfl
 ·obtain⟨q,hq,rfl⟩:=List.mem_map.1 hx
  exact(hf q hq).2
end
def LargishR(w:World)(l:List Re.Rec)(e:Ending)(w' : World):Prop := ∃b:Bool,e = .returned (.bool b)∧Below w.heap.size w w' ∧ (b=false→l.length≤40 ∧ ∀x∈l,Re.large x=false∧x.img.length≤300)
theorem largeH_any{p:Nat→TypeId→Prop}(v:Value)(l:List Re.Rec)(w:World)(hv:RecsP p w v l)(hs : ∀x∈l,x.cmd.Short 9223372036854775807):Calls Tryz.prog 24 #[v] w (LargishR w l):=by
 obtain⟨ao,cap,rfl,hc1,hc2⟩:=ListP.shape hv
 have HP:=Lib.hid (fun h=>ListP.places hv cellR_first h)
 obtain⟨n,hn⟩ : ∃n,n=l.length:=⟨_,rfl⟩
 rw[← hn]at hc1 HP ⊢
 have HN:=Lib.hid hn;have HS:=Lib.hid hs
 have hnb:n<9223372036854775808:=by omega
 clear hv hn hs
 go_enter Tryz.func24,Tryz.ntmps24
 go_wp2
 go_loopw [3] (fun i wr => ∃k:Nat,i = .int .i64 (k:Int)∧k≤n∧Hid (∀c∈l.take k,Re.large c=false∧c.img.length≤300)∧Hid (k≤40)∧Hid (Below w.heap.size w wr)) (fun i _=>n - (intOf i).toNat)
 case atStart=>exact⟨0,rfl,by omega,by show ∀c∈_,_;simp,by show 0≤40;omega,Below.refl _ _⟩
 case round =>
  obtain⟨k,rfl,hk,HI,HK,HB⟩:=hrel
  by_cases hlt:k<n
  ·have d1:decide (k<n)=true:=decide_eq_true hlt
   by_cases h40:k<40
   ·have d2:decide ((k:Int)<40)=true:=decide_eq_true (by omega)
    have h40' : (k:Int)<40:=by omega
    obtain⟨c,hcl⟩ : ∃c,l[k]? = some c:=⟨_,List.getElem?_eq_getElem (by have:=HN.out;omega)⟩
    obtain⟨g,off,rfl,_,hc⟩:=HP.out (by have:=HN.out;omega)
    obtain⟨u,hu,hcell⟩:=hc k c hcl
    obtain⟨uo,uc,rfl⟩:=hu.1.shape
    have hcw:=hcell wr HB.out
    have m0:wr.cell? ⟨g,off+k*12,none⟩=some (.int .i64 c.kind):=hcw 0 _ rfl
    have m1:wr.cell? ⟨g,off+k*12+1,none⟩=some (.int .i64 c.bal.round):=hcw 1 _ rfl
    have m2:wr.cell? ⟨g,off+k*12+2,none⟩=some (.int .i64 c.bal.node):=hcw 2 _ rfl
    have m3:wr.cell? ⟨g,off+k*12+3,none⟩=some (.int .i64 c.index):=hcw 3 _ rfl
    have m4:wr.cell? ⟨g,off+k*12+4,none⟩=some (.int .i64 c.cmd.kind):=hcw 4 _ rfl
    have m5:wr.cell? ⟨g,off+k*12+5,none⟩=some (.int .i64 c.cmd.client):=hcw 5 _ rfl
    have m6:wr.cell? ⟨g,off+k*12+6,none⟩=some (.int .i64 c.cmd.seq):=hcw 6 _ rfl
    have m7:wr.cell? ⟨g,off+k*12+7,none⟩=some (.string ⟨c.cmd.key.toArray⟩):=hcw 7 _ rfl
    have m8:wr.cell? ⟨g,off+k*12+8,none⟩=some (.string ⟨c.cmd.val.toArray⟩):=hcw 8 _ rfl
    have m9:wr.cell? ⟨g,off+k*12+9,none⟩=some (.string ⟨c.cmd.old.toArray⟩):=hcw 9 _ rfl
    have m10:wr.cell? ⟨g,off+k*12+10,none⟩=some (.int .i64 c.cmd.node):=hcw 10 _ rfl
    have m11:wr.cell? ⟨g,off+k*12+11,none⟩=some (.slice uo c.img.length uc):=hcw 11 _ rfl
    have hlr:=largeRe_any c (.slice uo c.img.length uc) wr (hu.1.below HB.out) (HS.out c (List.mem_of_getElem? hcl))
    have HCL:=Lib.hid hcl;have HC:=Lib.hid hcell
    clear hc hcl hcell hu hcw
    go_wp2_with fail
    refine hlr.mono ?_
    rintro e w2 ⟨rfl,hb2⟩
    have HB2:=Lib.hid (HB.out.trans (hb2.mono HB.out.size))
    clear hlr hb2 m0 m1 m2 m3 m4 m5 m6 m7 m8 m9 m10 m11
    have m11:w2.cell? ⟨g,off+k*12+11,none⟩=some (.slice uo c.img.length uc):=HC.out w2 HB2.out 11 _ rfl
    obtain⟨m,hm⟩ : ∃m,m=c.img.length:=⟨_,rfl⟩
    rw[← hm]at m11
    obtain⟨t,ht⟩ : ∃t,t=Re.large c:=⟨_,rfl⟩
    rw[← ht]
    have HM:=Lib.hid hm;have HT:=Lib.hid ht
    clear hm ht HC
    cases t with
    | true =>
     go_wp2
     go_ret
     exact⟨true,rfl,HB2.out,fun h=>by cases h⟩
    | false =>
     by_cases hb:300<m
     ·go_wp2
      go_ret
      exact⟨true,rfl,HB2.out,fun h=>by cases h⟩
     ·have HI2:Hid (∀c∈l.take (k+1),Re.large c=false∧c.img.length≤300):=by
       intro d hd
       rw[List.take_add_one,HCL.out]at hd
       rcases List.mem_append.1 hd with hd | hd
       ·exact HI.out d hd
       ·simp at hd;subst hd;exact⟨HT.out.symm,by have:=HM.out;omega⟩
      go_wp2
      go_roundw
      case rel=>exact⟨k+1,by go_num,by omega,HI2.out,by show k+1≤40;omega,HB2⟩
      case measure=>simp[intOf];omega
   ·have d2:decide ((k:Int)<40)=false:=decide_eq_false (by omega)
    have h40' : ¬(k:Int)<40:=by omega
    have hb:40<n:=by have:=HK.out;omega
    go_wp2
    go_ret
    exact⟨true,by simp;omega,HB.out,fun h=>by cases h⟩
  ·obtain rfl:k=n:=by omega
   have hb : ¬ 40<k:=by have:=HK.out;omega
   go_wp2
   go_ret
   refine⟨false,by simp;omega,HB.out,fun _=>⟨by have:=HN.out;omega,fun c hc=>HI.out c ?_⟩⟩
   rw[List.take_of_length_le (by have:=HN.out;omega)]
   exact hc
end
theorem Hd.two_len(b:Int)(s:List En.Ent × List En.Ent)(x:Re.Rec):(Hd.two b s x).1.length≤s.1.length+1∧(Hd.two b s x).2.length≤s.2.length+1:=by
 have h1:=En.put_len s.1 (Hd.ent x)
 have h2:=En.put_len s.2 (Hd.ent x)
 unfold Hd.two
 split
 ·exact⟨by omega,by omega⟩
 ·split
  ·exact⟨h1,by show s.2.length≤_;omega⟩
  ·split
   ·exact⟨by omega,by omega⟩
   ·exact⟨by show s.1.length≤_;omega,h2⟩
theorem Hd.take_snoc{l:List Re.Rec}{k:Nat}{x:Re.Rec}(h:l[k]? = some x):l.take (k+1)=l.take k ++ [x]:=by rw[List.take_add_one,h];rfl
theorem load_rec_at{ops:Array Oper}{rest:List Oper}{op:Oper}{a:Act}{w:World}{Q:Exit→Act→World→Prop}(hgd:op.guard=none)(x:Operand)(ho:op.op = .load 42 x)
 (g o:Nat) (r:Re.Rec) (vi:Value) (hx:a.eval x = .pointer (some ⟨g,o,none⟩)) (hl : ∀j v,(Re.cells r vi)[j]? = some v→w.cell? ⟨g,o+j,none⟩=some v)
 (h:wpList Tryz.prog ops Q rest (a.put op.dst (.agg (Re.cells r vi))) w):wpList Tryz.prog ops Q (op :: rest) a w :=
 wpList_load_mid hgd _ x ho g o hx (Re.cells r vi).toList _ (fun j v hv=>hl j v (by simpa using hv)) Tryz.underlying42 rfl (by kernel_rfl) h
abbrev Nil : Value := .slice none 0 0
theorem box_zero(w:World)(T:TypeId) : ∃w1,w.alloc (.cells #[.int .i64 0, .int .i64 0, .int .i64 0, .slice none 0 0, .slice none 0 0, .slice none 0 0] T)=w1∧SixAt w1 w.heap.size T Bl.zero 0 Nil Nil Nil∧Below w.heap.size w w1∧w1.heap.size=w.heap.size+1 :=
 ⟨_,rfl,⟨Lies.new w _ _,⟨_,_,_,rfl⟩,⟨_,_,_,rfl⟩,⟨_,_,_,rfl⟩⟩,(Below.refl _ w).alloc (Nat.le_refl _) _,by simp⟩
end Go.Proofs.YtdkdjofnnnljjaaGreatDoor

namespace Go.Proofs.YtdkdjofnnnljjaaGreatDoor
open Go.RowKit
set_option maxHeartbeats 1000000
section
open Go.RowKit Go.Maps Go.Shelf
def heldR(v:Value):Option (DataW Value × List MemPlace):=some (.held v, [])
def datOf(us:List (Int × Value)):DataW Value := .map (us.map fun u=>(Lit.int .i64 u.1,DataW.held u.2))
structure MapAt(w:World)(b:Nat)(us:List (Int × Value)):Prop where
 own:w.ownsMap Tryz.prog 3 heldR b us.length (datOf us)
 asc:Dk.Asc us
theorem keyed_int : Keyed Tryz.prog 3:=int_keyed Tryz.underlying3
theorem key_int{n:Int}(h0 : -9223372036854775808≤n)(h1:n≤9223372036854775807):keyOf Tryz.prog 3 (.int .i64 n)=some (.int .i64 n) :=
 keyOf_int_mk Tryz.underlying3 (by simp[Lit.wf,IntKind.min,IntKind.max,IntKind.signed,IntKind.bits];omega)
theorem ownsMap_exact{H:Type}{w:World}{P:Program}{k:TypeId}{R:Value→Option (DataW H × List MemPlace)}{b n:Nat}{D:DataW H}(h:w.ownsMap P k R b n D):w.ownsMap P k R b (Maps.size D) D:=by
 obtain⟨es,clock,hb,F,hs,hD⟩:=h
 refine⟨es,clock,hb,F, ?_,hD⟩
 rw[hD]
 show es.size≤((es.toList.map (WideElems.rg P k R)).foldr DataW.insert []).length
 rw[length_read]
 exact Nat.le_refl _
theorem size_dat(us:List (Int × Value)):Maps.size (datOf us)=us.length:=by
 show(us.map _).length=_
 rw[List.length_map]
theorem insert_dat(n:Int)(v:Value) : ∀us:List (Int × Value),DataW.insert (Lit.int .i64 n,DataW.held v) (us.map fun u=>(Lit.int .i64 u.1,DataW.held u.2))=(Dk.ins n v us).map fun u=>(Lit.int .i64 u.1,DataW.held u.2)
 | []=>rfl
 | u :: r=>by
  unfold Dk.ins
  rw[List.map_cons]
  unfold DataW.insert
  by_cases h:n<u.1
  ·rw[if_pos h,if_pos (by simpa[Lit.before] using h)]
   rfl
  ·rw[if_neg h,if_neg (by simpa[Lit.before] using h),insert_dat n v r]
   rfl
theorem filter_dat(n:Int)(us:List (Int × Value)):(us.map fun u=>(Lit.int .i64 u.1,DataW.held u.2)).filter (ChangeMaps.notKey (.int .i64 n))=(Dk.del us n).map fun u=>(Lit.int .i64 u.1,DataW.held u.2):=by
 unfold Dk.del
 rw[List.filter_map]
 congr 1
 refine List.filter_congr fun u _ => ?_
 show(!(Lit.int .i64 u.1).sameKey (.int .i64 n))=(u.1 != n)
 by_cases h:u.1=n<;>simp[Lit.sameKey,h]
theorem put_dat(us:List (Int × Value))(n:Int)(v:Value):(datOf us).put (.int .i64 n) (.held v)=datOf (Dk.put us n v):=by
 unfold datOf Dk.put
 rw[DataW.put_eq]
 unfold ChangeMaps.putKey
 rw[filter_dat,insert_dat]
theorem del_dat(us:List (Int × Value))(n:Int):(datOf us).del (.int .i64 n)=datOf (Dk.del us n):=by
 unfold datOf
 rw[DataW.del_eq]
 unfold ChangeMaps.delKey
 rw[filter_dat]
theorem has_dat(n:Int) : ∀us:List (Int × Value),Maps.has (datOf us) (.int .i64 n)=(Dk.get us n).isSome
 | []=>rfl
 | u :: r=>by
  have ih:=has_dat n r
  unfold datOf at ih ⊢
  rw[Maps.has_eq]at ih ⊢
  rw[List.map_cons,List.any_cons,ih]
  show _=(if u.1=n then some u.2 else Dk.get r n).isSome
  by_cases h:u.1=n
  ·rw[if_pos h];simp[Lit.sameKey,h]
  ·rw[if_neg h];simp[Lit.sameKey,h]
theorem at_dat(n:Int)(z:Value) : ∀us:List (Int × Value),(datOf us).atKey (.int .i64 n) (.held z) = .held ((Dk.get us n).getD z)
 | []=>rfl
 | u :: r=>by
  have ih:=at_dat n z r
  unfold datOf DataW.atKey at ih ⊢
  show _=DataW.held ((if u.1=n then some u.2 else Dk.get r n).getD z)
  simp only[List.map_cons,List.find?_cons]at ih ⊢
  by_cases h:u.1=n
  ·rw[if_pos h];simp[Lit.sameKey,h]
  ·rw[if_neg h]
   have e:(Lit.int .i64 u.1).sameKey (.int .i64 n)=false:=by simp[Lit.sameKey,h]
   rw[e]
   exact ih
theorem MapAt.of_block{w w' : World}{b:Nat}{us:List (Int × Value)}(h:MapAt w b us)(hb:w'.heap[b]? = w.heap[b]?):MapAt w' b us:=by
 obtain⟨⟨es,clock,h1,rest⟩,ha⟩:=h
 exact⟨⟨es,clock,hb.trans h1,rest⟩,ha⟩
theorem MapAt.lt{w:World}{b:Nat}{us:List (Int × Value)}(h:MapAt w b us):b<w.heap.size:=h.own.lt
theorem MapAt.kept{w w' : World}{row:Option Nat}{b:Nat}{us:List (Int × Value)}(h:MapAt w b us)(hg:w.grownBy w' row)(hne:some b≠row):MapAt w' b us:=h.of_block (hg.block b h.lt hne)
theorem MapAt.below{w w' : World}{b B:Nat}{us:List (Int × Value)}(h:MapAt w b us)(hb:Below B w w')(hlt:b<B):MapAt w' b us:=h.of_block (hb.block b hlt)
theorem MapAt.alloc{w:World}{b:Nat}{us:List (Int × Value)}(h:MapAt w b us)(o:Obj):MapAt (w.alloc o) b us:=h.kept (World.grownBy_alloc w o none) (by simp)
theorem MapAt.drew{w:World}{b:Nat}{us:List (Int × Value)}(h:MapAt w b us):MapAt w.drew b us:=⟨h.own.drew,h.asc⟩
theorem MapAt.no_cells{w:World}{b:Nat}{us:List (Int × Value)}(h:MapAt w b us){cs:Array Value}{t:TypeId}{fr:Nat × Nat}(hc:w.heap[b]? = some (.cells cs t fr)):False:=by
 obtain⟨⟨es,clock,h1,_⟩,_⟩:=h
 rw[h1]at hc
 cases hc
theorem MapAt.new(w:World):MapAt (w.alloc (.map #[] 0)) w.heap.size []:=⟨World.ownsMap_made w _ _ _,Dk.Asc.nil⟩
theorem zero_bytes(w:World):(zeroValue 30).run Tryz.prog w = .ok (.slice none 0 0) w:=Tryz.zeroValue30 w
theorem MapAt.look{w:World}{b:Nat}{us:List (Int × Value)}(h:MapAt w b us){n:Int}(h0 : -9223372036854775808≤n)(h1:n≤9223372036854775807) :
 (Instr.lookup 74 (.map (some b)) (.int .i64 n) true).run Tryz.prog w = .ok (.tuple #[(Dk.get us n).getD (.slice none 0 0), .bool (Dk.get us n).isSome]) w:=by
 obtain⟨v,ps,hrun,hv⟩:=h.own.look_ok keyed_int Tryz.underlying74 (zero_bytes w) (zd := .held (.slice none 0 0)) (zp := []) rfl (key_int h0 h1)
 rw[at_dat]at hv
 rw[has_dat]at hrun
 simp only[heldR,Option.some.injEq,Prod.mk.injEq,DataW.held.injEq]at hv
 rw[hrun,hv.1]
theorem MapAt.see{w:World}{b:Nat}{us:List (Int × Value)}(h:MapAt w b us){n:Int}(h0 : -9223372036854775808≤n)(h1:n≤9223372036854775807) :
 (Instr.lookup 74 (.map (some b)) (.int .i64 n) false).run Tryz.prog w = .ok ((Dk.get us n).getD (.slice none 0 0)) w:=by
 obtain⟨v,ps,hrun,hv⟩:=h.own.lookup keyed_int Tryz.underlying74 (zero_bytes w) (zd := .held (.slice none 0 0)) (zp := []) rfl (key_int h0 h1)
 rw[at_dat]at hv
 simp only[heldR,Option.some.injEq,Prod.mk.injEq,DataW.held.injEq]at hv
 rw[hrun,hv.1]
theorem MapAt.store{w:World}{b:Nat}{us:List (Int × Value)}(h:MapAt w b us){n:Int}(h0 : -9223372036854775808≤n)(h1:n≤9223372036854775807)(hl:us.length<4611686018427387904)(v:Value) :
 ∃w', (Instr.mapUpdate 74 (.map (some b)) (.int .i64 n) v).run Tryz.prog w = .ok () w' ∧ MapAt w' b (Dk.put us n v)∧w.grownBy w' (some b):=by
 obtain⟨w', hrun,hown,hg⟩:=h.own.update keyed_int Tryz.underlying74 (by unfold maxLen;omega) (key_int h0 h1) (val:=v) (d := .held v) (ps := []) rfl
 rw[put_dat]at hown
 have:=ownsMap_exact hown
 rw[size_dat]at this
 exact⟨w', hrun,⟨this,Dk.asc_put h.asc⟩,hg⟩
theorem MapAt.strike{w:World}{b:Nat}{us:List (Int × Value)}(h:MapAt w b us){n:Int}(h0 : -9223372036854775808≤n)(h1:n≤9223372036854775807)(ty:TypeId) :
 ∃w', (Builtin.delete_ #[74,3] ty #[.map (some b), .int .i64 n]).run Tryz.prog w = .ok (.tuple #[]) w' ∧ MapAt w' b (Dk.del us n)∧w.grownBy w' (some b):=by
 obtain⟨w', hrun,hown,hg⟩:=h.own.drop keyed_int Tryz.underlying74 (key_int h0 h1) ty
 rw[del_dat]at hown
 have:=ownsMap_exact hown
 rw[size_dat]at this
 exact⟨w', hrun,⟨this,Dk.asc_del h.asc⟩,hg.grown⟩
theorem op_mapUpdate{w:World}{o:Oper}{a:Act}{K:Act→World→Prop}{Q:Exit→Act→World→Prop}(m x v:Operand)(ho:o.op=Op.mapUpdate 74 m x v)(b:Nat)(us:List (Int × Value))(n:Int)(u:Value)
 (hm:a.eval m = .map (some b)) (hx:a.eval x = .int .i64 n) (hu:a.eval v=u) (h:MapAt w b us) (h0 : -9223372036854775808≤n) (h1:n≤9223372036854775807) (hl:us.length<4611686018427387904)
 (hK : ∀w', MapAt w' b (Dk.put us n u)→w.grownBy w' (some b)→K (a.put o.dst undef) w'):Oper.wp Tryz.prog o a w K Q:=by
 obtain⟨w', hrun,hm', hg⟩:=h.store h0 h1 hl u
 unfold Oper.wp
 simp[execOp,ho,hm,hx,hu,hrun,Result.andThen]
 exact hK _ hm' hg
theorem ready_mapUpdate{md:Region.Mode}{ops:Array Oper}{Q:Exit→Act→World→Prop}{S:World→Prop}{fuel:Nat}{listed:Array Bool}{a:Act}{w:World}(i:Nat)(m x v:Operand){o:Oper}(ho:ops[i]? = some o)(hgd:o.guard=none)(hop:o.op=Op.mapUpdate 74 m x v)
 (b:Nat) (us:List (Int × Value)) (n:Int) (u:Value) (hm:a.eval m = .map (some b)) (hx:a.eval x = .int .i64 n) (hu:a.eval v=u) (h:MapAt w b us) (h0 : -9223372036854775808≤n) (h1:n≤9223372036854775807) (hl:us.length<4611686018427387904)
 (hK : ∀w', MapAt w' b (Dk.put us n u)→w.grownBy w' (some b)→S w' ∧ (S w' → wpAnyH Tryz.prog md ops Q S fuel (listed.setIfInBounds i true) (a.put o.dst undef) w')):AllReadyH Tryz.prog md ops Q S fuel listed a w [i]:=by
 obtain⟨w', hrun,hm', hg⟩:=h.store h0 h1 hl u
 refine AllReadyH.cons ho (fun K hS => ?_) AllReadyH.nil
 rw[if_pos (by simp[Region.wanted,hgd])]
 unfold Oper.wp
 simp[execOp,hop,hm,hx,hu,hrun,Result.andThen]
 exact hS.out _ _ (hK w' hm' hg).1 (hK w' hm' hg).2
theorem step_mapUpdate{w:World}{ops:Array Oper}{rest:List Oper}{o:Oper}{a:Act}{Q:Exit→Act→World→Prop}(hg:o.guard=none)(m x v:Operand)(ho:o.op=Op.mapUpdate 74 m x v)(b:Nat)(us:List (Int × Value))(n:Int)(u:Value)
 (hm:a.eval m = .map (some b)) (hx:a.eval x = .int .i64 n) (hu:a.eval v=u) (h:MapAt w b us) (h0 : -9223372036854775808≤n) (h1:n≤9223372036854775807) (hl:us.length<4611686018427387904)
 (hK : ∀w', MapAt w' b (Dk.put us n u)→w.grownBy w' (some b)→wpList Tryz.prog ops Q rest (a.put o.dst undef) w'):wpList Tryz.prog ops Q (o :: rest) a w :=
 wpList_plain hg fun _ hK' => op_mapUpdate m x v ho b us n u hm hx hu h h0 h1 hl fun w' h2 h3=>hK' _ _ (hK w' h2 h3)
theorem step_delete{w:World}{ops:Array Oper}{rest:List Oper}{o:Oper}{a:Act}{Q:Exit→Act→World→Prop}(hg:o.guard=none)(m x:Operand)(ho:o.op=Op.call { callee:=Callee.builtin Builtin.delete,args := #[m,x],argTypes := #[74,3] })(b:Nat)(us:List (Int × Value))(n:Int)
 (hm:a.eval m = .map (some b)) (hx:a.eval x = .int .i64 n) (h:MapAt w b us) (h0 : -9223372036854775808≤n) (h1:n≤9223372036854775807)
 (hK : ∀w', MapAt w' b (Dk.del us n)→w.grownBy w' (some b)→wpList Tryz.prog ops Q rest (a.put o.dst (.tuple #[])) w'):wpList Tryz.prog ops Q (o :: rest) a w:=by
 refine wpList_plain hg fun K hK' => ?_
 obtain⟨w', hrun,hm', hgr⟩:=h.strike h0 h1 o.type
 unfold Oper.wp
 simp[execOp,ho,resolve,invoke,builtin,hm,hx,hrun,Result.andThen]
 exact hK' _ _ (hK w' hm' hgr)
def MapOr(w:World)(mv:Value)(us:List (Int × Value)):Prop:=(mv = .map none∧us = []) ∨ ∃b,mv = .map (some b)∧MapAt w b us
theorem sorts_in(m:Nat):AnyZI.SortsIn Tryz.prog Tryz.sortedI_ren Fence.wide m :=
 ⟨fun blk off cap ss W hH hblk hsz=>callsIn_wide.2 (AnyM.slices_Sort_int Tryz.sortI blk off cap ss W hH hblk hsz),fun p cap W=>callsIn_wide.2 (AnyM.slices_Sort_int_none Tryz.sortI p cap W)⟩
theorem keys_any(mv:Option Nat)(W:World):CallsIn Fence.wide 5 Tryz.prog 119 #[.map mv] W fun e w' => e = .returned (.func (.func 157) #[] #[.pointer (some ⟨W.heap.size,0,none⟩)])∧w' = W.alloc (.cells #[.map mv] 74) :=
 AnyZI.keys_in Tryz.keysI Fence.wide 5 trivial rfl mv W
theorem sort_asc{us:List (Int × Value)}(h:Dk.Asc us){ss:List Int}(hp:ss.Perm (intKeys (datOf us))):ss.mergeSort (fun x y=>decide (x≤y))=us.map (·.1):=by
 have e:intKeys (datOf us)=us.map (·.1):=by
  show((us.map _).map _:List Int)=_
  rw[List.map_map]
  rfl
 rw[e]at hp
 rw[show(ss.mergeSort fun x y=>decide (x≤y))=ss.mergeSort leI from rfl,mergeSort_of_perm_i hp]
 refine List.mergeSort_of_pairwise (List.pairwise_map.2 (h.imp ?_))
 intro a b hab
 simp only[leI,decide_eq_true_eq]
 omega
theorem sorted_any(mv:Option Nat)(us:List (Int × Value))(w:World)(h:MapOr w (.map mv) us)(hl:us.length≤17592186044416) :
 CallsIn Fence.wide 5 Tryz.prog 118 #[.func (.func 157) #[] #[.pointer (some ⟨w.heap.size,0,none⟩)]] (w.alloc (.cells #[.map mv] 74)) fun e w' =>
  ∃v,e = .returned v∧w'.ownsRow (w.alloc (.cells #[.map mv] 74)).heap.size 3 1 v us.length ((us.map (·.1)).map encZ)∧Below (w.alloc (.cells #[.map mv] 74)).heap.size (w.alloc (.cells #[.map mv] 74)) w' := by
 rcases h with ⟨e,rfl⟩ | ⟨b,e,hm⟩
 ·simp only[Value.map.injEq]at e
  subst e
  have hseq:SeqGives Fence.wide 2 Tryz.prog 157 #[.pointer (some ⟨w.heap.size,0,none⟩)] encZ (fun ss:List Int=>ss = []) 0 (w.alloc (.cells #[.map none] 74)) :=
   AnyZI.keys_gives_nil (ρ:=Tryz.keysI_ren) { Tryz.keysI with } Fence.wide _ trivial rfl w.heap.size _ (by simp) (by simp)
  have cS:=AnyZI.sorted_in Tryz.sortedI Fence.wide 5 trivial trivial trivial trivial rfl (by omega) (sorts_in _) (enters_of Tryz.func156 (by kernel_rfl) rfl) 157 #[.pointer (some ⟨w.heap.size,0,none⟩)] trivial (enters_of Tryz.func157 (by kernel_rfl) rfl) _ 0 (Nat.zero_le _) (by omega) _ hseq
  change CallsIn _ _ Tryz.prog 118 _ _ _ at cS
  refine cS.mono ?_
  rintro e w' ⟨v,ss,rfl,rfl,hrow,_,hb⟩
  rw[List.mergeSort_nil]at hrow
  exact⟨v,rfl,hrow,hb⟩
 ·simp only[Value.map.injEq]at e
  subst e
  have hbl:=hm.lt
  have hseq:SeqGives Fence.wide 2 Tryz.prog 157 #[.pointer (some ⟨w.heap.size,0,none⟩)] encZ (fun ss=>ss.Perm (intKeys (datOf us))) (Maps.size (datOf us)) (w.alloc (.cells #[.map (some b)] 74)) :=
   AnyZI.keys_gives (ρ:=Tryz.keysI_ren) { Tryz.keysI with } Fence.wide _ trivial rfl (by omega) w.heap.size b us.length (datOf us) _ (by simp) (by simp) (hm.alloc _).own
  have cS:=AnyZI.sorted_in Tryz.sortedI Fence.wide 5 trivial trivial trivial trivial rfl (by omega) (sorts_in _) (enters_of Tryz.func156 (by kernel_rfl) rfl) 157 #[.pointer (some ⟨w.heap.size,0,none⟩)] trivial (enters_of Tryz.func157 (by kernel_rfl) rfl) _ _ (by rw[size_dat];unfold maxLen;omega) (by rw[size_dat];omega) _ hseq
  change CallsIn _ _ Tryz.prog 118 _ _ _ at cS
  refine cS.mono ?_
  rintro e w' ⟨v,ss,rfl,hp,hrow,_,hb⟩
  rw[sort_asc hm.asc hp]at hrow
  have hlen:ss.length=us.length:=by
   rw[hp.length_eq]
   show((us.map _).map _:List Int).length=_
   simp
  rw[hlen]at hrow
  exact⟨v,rfl,hrow,hb⟩
end
end Go.Proofs.YtdkdjofnnnljjaaGreatDoor
