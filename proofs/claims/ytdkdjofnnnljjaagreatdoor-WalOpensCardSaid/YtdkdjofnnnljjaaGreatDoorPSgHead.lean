/- Several texts of mine in one: HdRefC GHd SgHead. -/
import Derived.Test.YtdkdjofnnnljjaaGreatDoorPMsCame
import Derived.Test.YtdkdjofnnnljjaaGreatDoorPEnMem
import Derived.Test.YtdkdjofnnnljjaaGreatDoorPGBm
import Derived.Test.YtdkdjofnnnljjaaGreatDoorGHc
import Derived.Test.YtdkdjofnnnljjaaGreatDoorGRf
import Derived.Test.YtdkdjofnnnljjaaGreatDoorPGMp
import Derived.Test.YtdkdjofnnnljjaaGreatDoorPSgMem
import Derived.Test.YtdkdjofnnnljjaaGreatDoorPDkMath
import Derived.Test.YtdkdjofnnnljjaaGreatDoorGRu
import Derived.Test.YtdkdjofnnnljjaaGreatDoorGFt
import Derived.Test.YtdkdjofnnnljjaaGreatDoorHdMake
namespace Go.Proofs.YtdkdjofnnnljjaaGreatDoor
open Go.RowKit
theorem Hd.take_ok{P:En.Ent→Prop}{l:List En.Ent}{k:Nat}{e:En.Ent}(he:l[k]? = some e)(h : ∀d∈l.take k,P d)(hp:P e) : ∀d∈l.take (k+1),P d:=by
 intro d hd
 rw[List.take_add_one,he]at hd
 rcases List.mem_append.1 hd with hd | hd
 ·exact h d hd
 ·simp at hd;subst hd;exact hp
end Go.Proofs.YtdkdjofnnnljjaaGreatDoor

namespace Go.Proofs.YtdkdjofnnnljjaaGreatDoor
open Go.RowKit
set_option maxHeartbeats 1600000
set_option maxRecDepth 4000
def Hd.pic(b:Int)(l:List UInt8):Re.Rec:=⟨4,Bl.zero,b,Cm.zero,l⟩
def Hd.imgOk(b:Int)(l:List UInt8):Bool:=(decide (b=0) && decide (l.length=0)) || decide (Re.check (Hd.pic b l)=0)
def Hd.first(b:Int)(l:List En.Ent):Bool:=match l with
 | []=>true
 | e :: _=>decide (b<e.index)
def Hd.above(b:Int)(l:List En.Ent):Bool:=decide (En.check 0 l=0) && Hd.first b l
theorem Hd.imgOk_iff(b:Int)(l:List UInt8):Hd.imgOk b l=true↔(0≤b∧b≤4294967296)∧l.length≤32768∧(0<b↔l ≠ []):=by
 unfold Hd.imgOk
 rw[Bool.or_eq_true,Bool.and_eq_true,decide_eq_true_eq,decide_eq_true_eq,decide_eq_true_eq,Hd.check_fine]
 constructor
 ·rintro(⟨rfl,h⟩ | f)
  ·have:l = []:=List.eq_nil_of_length_eq_zero h
   subst this
   simp
  ·have h1:=f.index rfl
   have h2:=f.img rfl
   have h3:1≤b∧b≤4294967296:=h1
   exact⟨⟨by omega,h3.2⟩,h2.2,⟨fun _=>h2.1,fun _=>by omega⟩⟩
 ·rintro⟨h1,h2,h3⟩
  by_cases hb:0<b
  ·right
   refine⟨⟨by show(1:Int)≤4;omega,by show(4:Int)≤4;omega⟩,fun h => ?_,fun _=>⟨by show 1≤b;omega,h1.2⟩,fun _=>⟨h3.1 hb,h2⟩,fun h => ?_,rfl⟩
   ·simp[Hd.pic,Re.hb]at h
   ·simp[Hd.pic,Re.hc]at h
  ·left
   have:l = []:=Decidable.byContradiction fun h=>hb (h3.2 h)
   subst this
   exact⟨by omega,rfl⟩
theorem Hd.above_iff(b:Int)(l:List En.Ent):Hd.above b l=true↔En.check 0 l=0 ∧ ∀e∈l,b<e.index:=by
 unfold Hd.above
 rw[Bool.and_eq_true,decide_eq_true_eq]
 constructor
 ·rintro⟨h1,h2⟩
  refine⟨h1, ?_⟩
  have ha:=((En.check_iff _ _).1 h1).1
  cases l with
  | nil=>intro e he;simp at he
  | cons a r =>
   have h3:b<a.index:=by simpa[Hd.first] using h2
   intro e he
   rcases List.mem_cons.1 he with rfl | he
   ·exact h3
   ·have:=(List.pairwise_cons.1 ha).1 e he;omega
 ·rintro⟨h1,h2⟩
  refine⟨h1, ?_⟩
  cases l with
  | nil=>rfl
  | cons a r=>simpa[Hd.first] using h2 a (by simp)
def Hd.pokA(h:Hd.Hard)(e:En.Ent):Prop:=e.bal≠Bl.zero∧Bl.less h.prom e.bal=false
theorem Hd.valid_iff(h:Hd.Hard):Hd.Valid h↔Bl.may h.prom=true∧Hd.imgOk h.base h.img=true∧Hd.above h.base h.acc=true∧Hd.above h.base h.chs=true∧(∀e∈h.acc,Hd.pokA h e) ∧ ∀e∈h.chs,e.bal=Bl.zero:=by
 have hm : ∀l:List En.Ent,En.check 0 l=0 → ∀e∈l,Bl.may e.bal=true:=fun l hl e he=>by
  have:=(((En.check_iff _ _).1 hl).2 e he).1
  simp only[En.ranged,Bool.and_eq_true]at this
  exact this.2
 rw[Hd.imgOk_iff,Hd.above_iff,Hd.above_iff]
 constructor
 ·intro v
  refine⟨v.prom,⟨v.base,v.img,v.both⟩,⟨v.acc,fun e he=>(v.accs e he).1⟩,⟨v.chs,fun e he=>(v.chss e he).1⟩,fun e he=>⟨(Hd.round_pos (hm _ v.acc e he)).2 (v.accs e he).2.1,(v.accs e he).2.2⟩,fun e he => ?_⟩
  exact Decidable.byContradiction fun h5=>(Hd.round_pos (hm _ v.chs e he)).1 h5 (v.chss e he).2
 ·rintro⟨h1,⟨h2,h3,h4⟩,⟨h5,h6⟩,⟨h7,h8⟩,h9,h10⟩
  exact⟨h1,h2,h3,h4,h5,h7,fun e he=>⟨h6 e he,(Hd.round_pos (hm _ h5 e he)).1 (h9 e he).1,(h9 e he).2⟩,fun e he=>⟨h8 e he,by rw[h10 e he];rfl⟩⟩
theorem isImage_any(b:Int)(vi:Value)(l:List UInt8)(w:World)(hW:WordsIn w)(hv:Reads w vi l) :
 Calls Tryz.prog 121 #[.int .i64 b,vi] w (Looks w (.bool (Hd.imgOk b l))):=by
 have HW:=Lib.hid hW
 have HV:=Lib.hid hv
 have hcall:=image_any b vi l w hv
 obtain⟨io,ic,rfl⟩:=hv.shape
 obtain⟨y,hy⟩ : ∃y,y=Re.check (Hd.pic b l):=⟨_,rfl⟩
 have HCHK:Hid (∀W,Below w.heap.size w W→Calls Tryz.prog 97 #[.agg (Re.cells (Hd.pic b l) (.slice io l.length ic))] W (Looks W (.int .i64 y))):=by
  intro W hb
  rw[hy]
  exact checkRe_any (Hd.pic b l) _ W (HW.out.below hb) (HV.out.below hb) ⟨by simp[Hd.pic,Cm.zero,Cm.bareOf],by simp[Hd.pic,Cm.zero,Cm.bareOf],by simp[Hd.pic,Cm.zero,Cm.bareOf]⟩
 have hok:Hd.imgOk b l=((decide (b=0) && decide (l.length=0)) || decide (y=0)):=by unfold Hd.imgOk;rw[hy]
 rw[hok]
 obtain⟨n,hn⟩ : ∃n,n=l.length:=⟨_,rfl⟩
 rw[← hn]at hcall HCHK ⊢
 clear hok hy hn hv hW
 go_enter Tryz.func121,Tryz.ntmps121
 by_cases hb:b=0
 ·subst hb
  by_cases h0:n=0
  ·have h01:((n:Int) == 0)=true:=by simp;omega
   subst h0
   go_wp2
   go_ret
   exact⟨by simp,Below.refl _ _⟩
  ·have h01:((n:Int) == 0)=false:=by simp;omega
   go_wp2_with fail
   refine hcall.mono ?_
   rintro e w2 ⟨rfl,hb2⟩
   have HB2:=Lib.hid hb2
   clear hcall hb2
   go_wp2_with fail
   refine(HCHK.out w2 HB2.out).mono ?_
   rintro e w3 ⟨rfl,hb3⟩
   have HB3:=Lib.hid (HB2.out.trans (hb3.mono HB2.out.size))
   clear hb3
   by_cases hy:y=0
   ·have hy1:(y == 0)=true:=by simpa using hy
    go_wp2
    go_ret
    exact⟨by simp[h0,hy],HB3.out⟩
   ·have hy1:(y == 0)=false:=by simpa using hy
    go_wp2
    go_ret
    exact⟨by simp[h0,hy],HB3.out⟩
 ·have hb1:(b == 0)=false:=by simpa using hb
  go_wp2_with fail
  refine hcall.mono ?_
  rintro e w2 ⟨rfl,hb2⟩
  have HB2:=Lib.hid hb2
  clear hcall hb2
  go_wp2_with fail
  refine(HCHK.out w2 HB2.out).mono ?_
  rintro e w3 ⟨rfl,hb3⟩
  have HB3:=Lib.hid (HB2.out.trans (hb3.mono HB2.out.size))
  clear hb3
  by_cases hy:y=0
  ·have hy1:(y == 0)=true:=by simpa using hy
   go_wp2
   go_ret
   exact⟨by simp[hb,hy],HB3.out⟩
  ·have hy1:(y == 0)=false:=by simpa using hy
   go_wp2
   go_ret
   exact⟨by simp[hb,hy],HB3.out⟩
theorem areAbove_any(b:Int)(v:Value)(l:List En.Ent)(w:World)(hW:WordsIn w)(hv:ReadsE w v l)(hs : ∀e∈l,e.cmd.Short 140737488355328) :
 Calls Tryz.prog 122 #[.int .i64 b,v] w (Looks w (.bool (Hd.above b l))):=by
 have hcall:=checkE_any v l w hv hW hs
 obtain⟨ao,cap,rfl,hc1,hc2⟩:=ReadsE.shape hv
 obtain⟨y,hy⟩ : ∃y,y=En.check 0 l:=⟨_,rfl⟩
 rw[← hy]at hcall
 have HOK:Hid (Hd.above b l=(decide (y=0) && Hd.first b l)):=by show _=_;unfold Hd.above;rw[← hy]
 have HP:=Lib.hid (fun h=>ReadsE.places hv h)
 obtain⟨n,hn⟩ : ∃n,n=l.length:=⟨_,rfl⟩
 rw[← hn]at hcall hc1 HP ⊢
 have HN:=Lib.hid hn
 clear hv hW hs hy hn
 go_enter Tryz.func122,Tryz.ntmps122
 go_wp2_with fail
 refine hcall.mono ?_
 rintro e w2 ⟨rfl,hb2⟩
 have HB2:=Lib.hid hb2
 clear hcall hb2
 by_cases hy:y=0
 ·have hy1:(y == 0)=true:=by simpa using hy
  cases l with
  | nil =>
   have h0:n=0:=HN.out
   subst h0
   have HZ:Hid (Hd.above b []=true):=by show _=_;rw[HOK.out];simp[hy,Hd.first]
   go_wp2
   go_ret
   exact⟨by rw[HZ.out];rfl,HB2.out⟩
  | cons a r =>
   have hn0:0<n:=by rw[HN.out];simp
   have h01:((n:Int) == 0)=false:=by simp;omega
   obtain⟨g,off,rfl,_,hcell⟩:=HP.out hn0
   have c0:w2.cell? ⟨g,off,none⟩=some (.int .i64 a.index):=by have:=(hcell w2 HB2.out 0 a rfl).c0;simpa using this
   obtain⟨t,ht⟩ : ∃t,t=decide (b<a.index):=⟨_,rfl⟩
   have HZ:Hid (Hd.above b (a :: r)=t):=by show _=_;rw[HOK.out,ht];simp[hy,Hd.first]
   have ht2:=ht.symm
   clear hcell ht
   go_wp2
   go_ret
   exact⟨by rw[HZ.out];first | rfl | simp[ht2],HB2.out⟩
 ·have hy1:(y == 0)=false:=by simpa using hy
  have HZ:Hid (Hd.above b l=false):=by show _=_;rw[HOK.out];simp[hy]
  go_wp2
  go_ret
  exact⟨by rw[HZ.out];rfl,HB2.out⟩
theorem hardCheck_any(b:Bool)(h:Hd.Hard)(vi va vc:Value)(w:World)(hW:WordsIn w)(hr:HardR w h vi va vc)(hb:b=true↔Hd.Valid h)(ha : ∀e∈h.acc,e.cmd.Short 140737488355328)(hc : ∀e∈h.chs,e.cmd.Short 140737488355328) :
 Calls Tryz.prog 85 #[.agg (Hd.cells h vi va vc)] w (Looks w (.int .i64 (if b=true then 0 else 3))):=by
 obtain⟨io,ic,rfl⟩:=hr.img.shape
 obtain⟨ao,ac,rfl,ha1,ha2⟩:=ReadsE.shape hr.acc
 obtain⟨co,cc,rfl,hc1,hc2⟩:=ReadsE.shape hr.chs
 obtain⟨w1,e1,hl1,hB1,_⟩:=box_hard w h (.slice io h.img.length ic) (.slice ao h.acc.length ac) (.slice co h.chs.length cc)
 have HR:=Lib.hid (hr.below hB1);have HB:=Lib.hid hB1;have HL:=Lib.hid hl1;have HA:=Lib.hid ha;have HC:=Lib.hid hc
 have HW:=Lib.hid (hW.below hB1)
 have HV:Hid (b=true↔_):=hb.trans (Hd.valid_iff h)
 have HPA:=Lib.hid (fun x=>ReadsE.places (hr.below hB1).acc x)
 have HPC:=Lib.hid (fun x=>ReadsE.places (hr.below hB1).chs x)
 obtain⟨n,hn⟩ : ∃n,n=h.img.length:=⟨_,rfl⟩
 obtain⟨na,hna⟩ : ∃n,n=h.acc.length:=⟨_,rfl⟩
 obtain⟨nc,hnc⟩ : ∃n,n=h.chs.length:=⟨_,rfl⟩
 rw[← hn, ← hna, ← hnc]at HR HL e1
 rw[← hna]at HPA ha1
 rw[← hnc]at HPC hc1
 rw[← hn, ← hna, ← hnc]
 have HNA:=Lib.hid hna;have HNC:=Lib.hid hnc
 have hnab:na<9223372036854775808:=by omega
 have hncb:nc<9223372036854775808:=by omega
 have c0:w1.cell? ⟨w.heap.size,0,none⟩=some (.int .i64 h.prom.round):=HL.out.cell 0 _ rfl
 have c1:w1.cell? ⟨w.heap.size,1,none⟩=some (.int .i64 h.prom.node):=HL.out.cell 1 _ rfl
 obtain⟨rv,hrv⟩ : ∃rv:Int,rv=(if b=true then 0 else 3):=⟨_,rfl⟩
 rw[← hrv]
 have HBAD:Hid (∀W,Below w1.heap.size w1 W → ¬(Bl.may h.prom=true∧Hd.imgOk h.base h.img=true∧Hd.above h.base h.acc=true∧Hd.above h.base h.chs=true∧(∀e∈h.acc,Hd.pokA h e) ∧ ∀e∈h.chs,e.bal=Bl.zero)→Looks w (.int .i64 rv) (.returned (.int .i64 3)) W):=by
  intro W hW hx
  refine⟨?_,HB.out.trans (hW.mono HB.out.size)⟩
  rw[hrv]
  cases b
  ·rfl
  ·exact absurd (HV.out.1 rfl) hx
 have HRV:Hid (b=true→rv=0):=fun hb=>by rw[hrv,if_pos hb]
 clear hn hna hnc hr hl1 hB1 ha hc hb ha2 hc2 hW hrv
 have hgd:=guard_bal
 go_enter Tryz.func85,Tryz.ntmps85
 go_wp2_with fail
 refine(bmay_any h.prom _).mono ?_
 rintro e w2 ⟨rfl,hb2⟩
 have HB2:=Lib.hid hb2
 clear c0 c1 hb2
 have c2:w2.cell? ⟨w.heap.size,2,none⟩=some (.int .i64 h.base):=(HL.out.below HB2.out HL.out.lt).cell 2 _ rfl
 have c3:w2.cell? ⟨w.heap.size,3,none⟩=some (.slice io n ic):=(HL.out.below HB2.out HL.out.lt).cell 3 _ rfl
 obtain⟨t,ht⟩ : ∃t,t=Bl.may h.prom:=⟨_,rfl⟩
 rw[← ht]
 have HT:=Lib.hid ht
 clear ht
 cases t with
 | false =>
  go_wp2
  go_ret
  exact HBAD.out _ HB2.out fun v=>by have:=v.1;rw[← HT.out]at this;cases this
 | true =>
  go_wp2_with fail
  refine(isImage_any h.base (.slice io n ic) h.img w2 (HW.out.below HB2.out) (HR.out.img.below HB2.out)).mono ?_
  rintro e w3 ⟨rfl,hb3⟩
  have HB3:=Lib.hid (HB2.out.trans (hb3.mono HB2.out.size))
  clear hb3 c2 c3
  have c2:w3.cell? ⟨w.heap.size,2,none⟩=some (.int .i64 h.base):=(HL.out.below HB3.out HL.out.lt).cell 2 _ rfl
  have c4:w3.cell? ⟨w.heap.size,4,none⟩=some (.slice ao na ac):=(HL.out.below HB3.out HL.out.lt).cell 4 _ rfl
  obtain⟨t,ht⟩ : ∃t,t=Hd.imgOk h.base h.img:=⟨_,rfl⟩
  rw[← ht]
  have HI:=Lib.hid ht
  clear ht
  cases t with
  | false =>
   go_wp2
   go_ret
   exact HBAD.out _ HB3.out fun v=>by have:=v.2.1;rw[← HI.out]at this;cases this
  | true =>
   go_wp2_with fail
   refine(areAbove_any h.base (.slice ao na ac) h.acc w3 (HW.out.below HB3.out) (HR.out.acc.below HB3.out) HA.out).mono ?_
   rintro e w4 ⟨rfl,hb4⟩
   have HB4:=Lib.hid (HB3.out.trans (hb4.mono HB3.out.size))
   clear hb4 c2 c4
   have c2:w4.cell? ⟨w.heap.size,2,none⟩=some (.int .i64 h.base):=(HL.out.below HB4.out HL.out.lt).cell 2 _ rfl
   have c5:w4.cell? ⟨w.heap.size,5,none⟩=some (.slice co nc cc):=(HL.out.below HB4.out HL.out.lt).cell 5 _ rfl
   obtain⟨t,ht⟩ : ∃t,t=Hd.above h.base h.acc:=⟨_,rfl⟩
   rw[← ht]
   have HAA:=Lib.hid ht
   clear ht
   cases t with
   | false =>
    go_wp2
    go_ret
    exact HBAD.out _ HB4.out fun v=>by have:=v.2.2.1;rw[← HAA.out]at this;cases this
   | true =>
    go_wp2_with fail
    refine(areAbove_any h.base (.slice co nc cc) h.chs w4 (HW.out.below HB4.out) (HR.out.chs.below HB4.out) HC.out).mono ?_
    rintro e w5 ⟨rfl,hb5⟩
    have HB5:=Lib.hid (HB4.out.trans (hb5.mono HB4.out.size))
    clear hb5 c2 c5
    have c4:w5.cell? ⟨w.heap.size,4,none⟩=some (.slice ao na ac):=(HL.out.below HB5.out HL.out.lt).cell 4 _ rfl
    obtain⟨t,ht⟩ : ∃t,t=Hd.above h.base h.chs:=⟨_,rfl⟩
    rw[← ht]
    have HAC:=Lib.hid ht
    clear ht
    cases t with
    | false =>
     go_wp2
     go_ret
     exact HBAD.out _ HB5.out fun v=>by have:=v.2.2.2.1;rw[← HAC.out]at this;cases this
    | true =>
     go_wp2
     clear c4
     go_loopw [38] (fun i wr => ∃k:Nat,i = .int .i64 (k:Int)∧k≤na∧Hid (∀e∈h.acc.take k,Hd.pokA h e)∧Hid (Below w1.heap.size w1 wr)) (fun i _=>na - (intOf i).toNat)
     case atStart=>exact⟨0,rfl,by omega,by show ∀c∈_,_;simp,HB5⟩
     case round =>
      obtain⟨k,rfl,hk,HJ,HB6⟩:=hrel
      by_cases hlt:k<na
      ·obtain⟨a,ha⟩ : ∃a,h.acc[k]? = some a:=⟨_,List.getElem?_eq_getElem (by have:=HNA.out;omega)⟩
       obtain⟨g,off,rfl,hgl,hcell⟩:=HPA.out (by have:=HNA.out;omega)
       have HCELL:Hid (∀W,Below w1.heap.size w1 W→EntAt W g (off+k*10) a):=fun W hW=>hcell W hW k a ha
       have HAT:=Lib.hid ha
       clear hcell ha
       have heq:=fun W=>run_eql_bal W a.bal Bl.zero
       obtain⟨t,ht⟩ : ∃t,t=decide (a.bal=Bl.zero):=⟨_,rfl⟩
       rw[← ht]at heq
       have HTT:=Lib.hid ht
       dsimp only [Bl.cells,Bl.zero]at heq
       clear ht
       cases t with
       | true =>
        go_wp2_with (first
         | (refine load_ent rfl _ rfl g (off+k*10) a rfl (HCELL.out wr HB6.out) ?_)
         | (refine store_ent rfl _ _ rfl wr.heap.size En.zero a rfl rfl (Lies.new _ _ _) ?_;intro w7 hl7 hg7;have HB7:Hid (Below w1.heap.size w1 w7):=HB6.out.trans ((fresh_below hg7).mono HB6.out.size);obtain⟨_,d1,d2,_⟩:=Ents.ten hl7;clear hl7 hg7))
        go_ret
        exact HBAD.out _ HB7.out fun v=>(v.2.2.2.2.1 a (List.mem_of_getElem? HAT.out)).1 (by have:=HTT.out;simpa using this.symm)
       | false =>
        go_wp2_with (first
         | (refine load_ent rfl _ rfl g (off+k*10) a rfl (HCELL.out wr HB6.out) ?_)
         | (refine store_ent rfl _ _ rfl wr.heap.size En.zero a rfl rfl (Lies.new _ _ _) ?_;intro w7 hl7 hg7;have HB7:Hid (Below w1.heap.size w1 w7):=HB6.out.trans ((fresh_below hg7).mono HB6.out.size);obtain⟨_,d1,d2,_⟩:=Ents.ten hl7;have c0:w7.cell? ⟨w.heap.size,0,none⟩=some (.int .i64 h.prom.round):=(HL.out.below HB7.out HL.out.lt).cell 0 _ rfl;have c1:w7.cell? ⟨w.heap.size,1,none⟩=some (.int .i64 h.prom.node):=(HL.out.below HB7.out HL.out.lt).cell 1 _ rfl;clear hl7 hg7))
        refine(bless_any h.prom a.bal _).mono ?_
        rintro e w8 ⟨rfl,hb8⟩
        have HB8:=Lib.hid (HB7.out.trans (hb8.mono HB7.out.size))
        obtain⟨t,ht⟩ : ∃t,t=Bl.less h.prom a.bal:=⟨_,rfl⟩
        rw[← ht]
        have HLS:=Lib.hid ht
        clear hb8 c0 c1 d1 d2 ht
        cases t with
        | true =>
         go_wp2
         go_ret
         exact HBAD.out _ HB8.out fun v=>by have:=(v.2.2.2.2.1 a (List.mem_of_getElem? HAT.out)).2;rw[← HLS.out]at this;cases this
        | false =>
         have HJ2:Hid (∀e∈h.acc.take (k+1),Hd.pokA h e):=Hd.take_ok HAT.out HJ.out ⟨by have:=HTT.out;simpa using this.symm,HLS.out.symm⟩
         go_wp2
         go_roundw
         case rel=>exact⟨k+1,by go_num,by omega,HJ2.out,HB8⟩
         case measure=>simp[intOf];omega
      ·obtain rfl:k=na:=by omega
       have HACC:Hid (∀e∈h.acc,Hd.pokA h e):=by
        intro e he
        refine HJ.out e ?_
        rw[List.take_of_length_le (by have:=HNA.out;omega)]
        exact he
       have c5:wr.cell? ⟨w.heap.size,5,none⟩=some (.slice co nc cc):=(HL.out.below HB6.out HL.out.lt).cell 5 _ rfl
       clear HJ
       go_wp2
       clear c5
       obtain⟨wv,hwv⟩ : ∃wv,wv=wr:=⟨_,rfl⟩
       rw[← hwv]
       have HB7:Hid (Below w1.heap.size w1 wv):=by rw[hwv];exact HB6
       clear hwv HB6
       go_loopw [57] (fun i wr => ∃k:Nat,i = .int .i64 (k:Int)∧k≤nc∧Hid (∀e∈h.chs.take k,e.bal=Bl.zero)∧Hid (Below w1.heap.size w1 wr)) (fun i _=>nc - (intOf i).toNat)
       case atStart=>exact⟨0,rfl,by omega,by show ∀c∈_,_;simp,HB7⟩
       case round =>
        obtain⟨j,rfl,hj,HJ,HB8⟩:=hrel
        by_cases hlj:j<nc
        ·obtain⟨a,ha⟩ : ∃a,h.chs[j]? = some a:=⟨_,List.getElem?_eq_getElem (by have:=HNC.out;omega)⟩
         obtain⟨g,off,rfl,hgl,hcell⟩:=HPC.out (by have:=HNC.out;omega)
         have HCELL:Hid (∀W,Below w1.heap.size w1 W→EntAt W g (off+j*10) a):=fun W hW=>hcell W hW j a ha
         have HAT:=Lib.hid ha
         clear hcell ha
         have hneq:=fun W=>run_neq_bal W a.bal Bl.zero
         obtain⟨t,ht⟩ : ∃t,t=decide (a.bal=Bl.zero):=⟨_,rfl⟩
         rw[← ht]at hneq
         have HTT:=Lib.hid ht
         dsimp only [Bl.cells,Bl.zero]at hneq
         clear ht
         cases t with
         | false =>
          go_wp2_with (first
           | (refine load_ent rfl _ rfl g (off+j*10) a rfl (HCELL.out wr HB8.out) ?_)
           | (refine store_ent rfl _ _ rfl wr.heap.size En.zero a rfl rfl (Lies.new _ _ _) ?_;intro w9 hl9 hg9;have HB9:Hid (Below w1.heap.size w1 w9):=HB8.out.trans ((fresh_below hg9).mono HB8.out.size);obtain⟨_,d1,d2,_⟩:=Ents.ten hl9;clear hl9 hg9))
          go_ret
          exact HBAD.out _ HB9.out fun v=>by
           have:=v.2.2.2.2.2 a (List.mem_of_getElem? HAT.out)
           have h2:=HTT.out
           rw[this]at h2
           simp at h2
         | true =>
          go_wp2_with (first
           | (refine load_ent rfl _ rfl g (off+j*10) a rfl (HCELL.out wr HB8.out) ?_)
           | (refine store_ent rfl _ _ rfl wr.heap.size En.zero a rfl rfl (Lies.new _ _ _) ?_;intro w9 hl9 hg9;have HB9:Hid (Below w1.heap.size w1 w9):=HB8.out.trans ((fresh_below hg9).mono HB8.out.size);obtain⟨_,d1,d2,_⟩:=Ents.ten hl9;clear hl9 hg9))
          have HJ2:Hid (∀e∈h.chs.take (j+1),e.bal=Bl.zero):=Hd.take_ok HAT.out HJ.out (by have:=HTT.out;simpa using this.symm)
          go_roundw
          case rel=>exact⟨j+1,by go_num,by omega,HJ2.out,HB9⟩
          case measure=>simp[intOf];omega
        ·obtain rfl:j=nc:=by omega
         have HZ:Hid (b=true):=by
          refine HV.out.2 ⟨HT.out.symm,HI.out.symm,HAA.out.symm,HAC.out.symm,HACC.out,fun e he=>HJ.out e ?_⟩
          rw[List.take_of_length_le (by have:=HNC.out;omega)]
          exact he
         go_wp2
         go_ret
         exact⟨by rw[HRV.out HZ.out];rfl,HB.out.trans (HB8.out.mono HB.out.size)⟩
end Go.Proofs.YtdkdjofnnnljjaaGreatDoor

namespace Go.Proofs.YtdkdjofnnnljjaaGreatDoor
open Go.RowKit
set_option maxHeartbeats 3200000
set_option maxRecDepth 8000
theorem checkFormat_any(f:Int)(w:World):Calls Tryz.prog 84 #[.int .i64 f] w (Says w (.int .i64 (Vs.opens 2 f))):=by
 have hc:=opens_any 2 f w
 obtain⟨z,hz⟩ : ∃z,z=Vs.opens 2 f:=⟨_,rfl⟩
 rw[← hz]at hc ⊢
 have HC:=Lib.hid hc
 clear hc hz
 go_enter Tryz.func84,Tryz.ntmps84
 go_wp2_with fail
 refine HC.out.mono ?_
 rintro e w1 ⟨rfl,rfl⟩
 go_wp2
 go_ret
 exact⟨rfl,rfl⟩
def SgMade(w:World)(r:List UInt8 × Int)(e:Ending)(w' : World):Prop :=
 ∃u,e = .returned (.tuple #[u, .int .i64 r.2])∧Owns w' w.heap.size 5 u r.1∧Below w.heap.size w w'
theorem firstSg_any(f:Int)(hf:f=1∨f=2)(n:Nat)(w:World)(hT:CrcTab w)(hn:n≤9223372036854775807) :
 Calls Tryz.prog 87 #[.int .i64 f, .int .i64 (n:Int)] w (SgMade w (Frm.frame (Sg.first f n),0)):=by
 obtain⟨w1,e1,hw1,hB1⟩ : ∃w1,w.alloc (.cells #[.slice none 0 0] 163)=w1∧Wrt w1 w.heap.size w.heap.size (.slice none 0 0) []∧Below w.heap.size w w1 :=
  ⟨_,rfl,Wr.fresh _ _ _ _ (Nat.le_refl _),(Below.refl _ _).alloc (Nat.le_refl _) _⟩
 have HW1:=Lib.hid hw1;have HB1:=Lib.hid hB1
 have HT:=Lib.hid (fun W (h:Below w.heap.size w W)=>hT.below h)
 have hf0:1≤f:=by omega
 have hf1:f≤2:=by omega
 have l1:=enc_nine (n:=f.toNat) (by omega)
 have l2:=enc_nine (n:=n) hn
 have p1:=enc_pos f.toNat
 have HL:Hid (0<(Sg.first f n).length∧(Sg.first f n).length≤18):=by
  show _∧_
  unfold Sg.first
  rw[List.length_append]
  omega
 have HL1:=Lib.hid l1
 have HN:=Lib.hid hn
 clear hw1 hB1 hT hf l1 l2 p1 hn
 go_enter Tryz.func87,Tryz.ntmps87
 go_wp2_with fail
 refine(wnum_any f _ w.heap.size w.heap.size _ [] HW1.out HB1.out.size (by simp) (by omega) (by omega)).mono ?_
 rintro e2 w2 ⟨rfl,v2,hw2,hg2⟩
 rw[List.nil_append]at hw2
 have HW2:=Lib.hid hw2
 have HB2:Hid (Below w.heap.size w w2):=HB1.out.trans (HW1.out.below hg2 HB1.out.size)
 clear hw2 hg2
 go_wp2_with fail
 refine(wnum_any (n:Int) _ w.heap.size w.heap.size v2 (enc f.toNat) HW2.out HB2.out.size (by have:=HL1.out;omega) (by omega) (by have:=HN.out;omega)).mono ?_
 rw[Int.toNat_natCast]
 rintro e3 w3 ⟨rfl,v3,hw3,hg3⟩
 have HW3:=Lib.hid hw3
 have HB3:Hid (Below w.heap.size w w3):=HB2.out.trans (HW2.out.below hg3 HB2.out.size)
 clear hw3 hg3
 go_wp2_with fail
 refine(wbytes_any _ w.heap.size w.heap.size v3 (Sg.first f n) HW3.out (by have:=HL.out.2;omega)).mono ?_
 rintro e4 w4 ⟨v4,rfl,ho4,hb4⟩
 have HO4:=Lib.hid ho4.reads
 have HB4:Hid (Below w.heap.size w w4):=HB3.out.trans (hb4.mono HB3.out.size)
 clear ho4 hb4
 go_wp2_with fail
 refine(add_ok (.slice none 0 0) v4 [] (Sg.first f n) _ (Reads.empty _) HO4.out (HT.out _ HB4.out) (by have:=HL.out.1;omega) (by have:=HL.out.2;omega) (by simp)).mono ?_
 rw[List.nil_append]
 rintro e5 w5 ⟨x,rfl,ho5,hb5⟩
 go_wp2
 go_ret2
 exact⟨x,rfl,ho5.mono HB4.out.size,HB4.out.trans (hb5.mono HB4.out.size)⟩
def Sg.add(f:Int)(x:Re.Rec):List UInt8 × Int:=if(Rt.put f x).2≠0 then ([],(Rt.put f x).2)else (Frm.frame (Rt.bytesIn f x),0)
theorem Sg.put_ok{f:Int}{x:Re.Rec}(h:(Rt.put f x).2=0):(f=1∨f=2)∧Re.olderIn f x=0∧Rt.put f x=(Rt.bytesIn f x,0):=by
 unfold Rt.put at h ⊢
 by_cases hf:f=1∨f=2
 ·rw[if_pos hf]at h ⊢
  by_cases ho:Re.olderIn f x=0
  ·rw[if_neg (by simpa using ho)]
   exact⟨hf,ho,rfl⟩
  ·rw[if_pos ho]at h
   exact absurd h ho
 ·rw[if_neg hf]at h
  exact absurd h (by decide)
theorem addSg_any(f:Int)(x:Re.Rec)(vi:Value)(w:World)(hT:CrcTab w)(hW:WordsIn w)(hi:Reads w vi x.img)(hx:x.Fits)(hs:x.cmd.Short 1000)(hk:x.img.length≤100000) :
 Calls Tryz.prog 39 #[.int .i64 f, .agg (Re.cells x vi)] w (SgMade w (Sg.add f x)):=by
 obtain⟨w1,e1,hl1,hB1,hz1⟩:=box_rec w x vi
 have HM1:=Lib.hid hl1;have HB1:=Lib.hid hB1
 have HP:=Lib.hid (putRt_any f x vi w1 (hW.below hB1) (hi.below hB1) hx hs hk)
 have HT:=Lib.hid (fun W (h:Below w.heap.size w W)=>hT.below h)
 have HX:=Lib.hid hx
 clear hl1 hB1 hz1 hT hW hi hx hs hk
 obtain⟨r,hr⟩ : ∃r,r=Sg.add f x:=⟨_,rfl⟩
 rw[← hr]
 unfold Sg.add at hr
 have hpk:=fun h=>Sg.put_ok (f:=f) (x:=x) h
 obtain⟨q,hq⟩ : ∃q,q=Rt.put f x:=⟨_,rfl⟩
 rw[← hq]at HP hr hpk
 have HR:=Lib.hid hr;have HPK:=Lib.hid hpk
 clear hr hq hpk
 go_enter Tryz.func39,Tryz.ntmps39
 go_wp2_with (first
  | (refine load_rec rfl _ rfl w.heap.size x vi rfl HM1.out ?_)
  | fail)
 refine HP.out.mono ?_
 rintro e2 w2 ⟨hb2,u,rfl,hu⟩
 have HB2:Hid (Below w.heap.size w w2):=HB1.out.trans (hb2.mono HB1.out.size)
 have HU:=Lib.hid hu
 obtain⟨uo,uc,rfl⟩:=hu.shape
 obtain⟨z,hz⟩ : ∃z,z=q.2:=⟨_,rfl⟩
 rw[← hz]at HR HPK ⊢
 clear hb2 hu
 by_cases h0:z=0
 ·obtain⟨hf,ho,he⟩:=HPK.out h0
  have HR2:Hid (r=(Frm.frame (Rt.bytesIn f x),0)):=HR.out.trans (if_neg (by simpa using h0))
  obtain⟨_,hb,_⟩:=Sg.body_len ho HX.out
  rw[he]at HU ⊢
  dsimp only at HU ⊢
  have HBL:=Lib.hid hb
  subst h0
  obtain⟨un,hun⟩ : ∃un,un=(Rt.bytesIn f x).length:=⟨_,rfl⟩
  rw[← hun]at HU ⊢
  clear hf ho he hb hz hun
  go_wp2_with fail
  refine(add_ok (.slice none 0 0) (.slice uo un uc) [] (Rt.bytesIn f x) _ (Reads.empty _) HU.out (HT.out _ HB2.out) HBL.out.1 HBL.out.2 (by simp)).mono ?_
  rw[List.nil_append]
  rintro e3 w3 ⟨y,rfl,ho3,hb3⟩
  go_wp2
  go_ret2
  rw[HR2.out]
  exact⟨y,rfl,ho3.mono HB2.out.size,HB2.out.trans (hb3.mono HB2.out.size)⟩
 ·have hne:(z != 0)=true:=by simpa using h0
  have HR2:Hid (r=([],z)):=HR.out.trans (if_pos h0)
  clear h0 HPK HR hz
  go_wp2
  go_ret2
  rw[HR2.out]
  exact⟨_,rfl,Owns.empty _ _ _,HB2.out⟩
def Sg.head(b:Bool)(f:Int)(h:Hd.Hard):List UInt8 × Int :=
 if Vs.opens 2 f≠0 then ([],Vs.opens 2 f)else if b=false then ([],3)else if Sg.hasAll f (Hd.recs h)≠0 then ([],Sg.hasAll f (Hd.recs h))else (Sg.file f h [],0)
theorem headSg_any(b:Bool)(f:Int)(h:Hd.Hard)(vi va vc:Value)(w:World)(hT:CrcTab w)(hW:WordsIn w)(hr:HardR w h vi va vc)(hb:b=true↔Hd.Valid h)(hfew:h.Few)(hrl:(Hd.recs h).length≤1000)
 (ha : ∀e∈h.acc,e.cmd.Short 140737488355328) (hc : ∀e∈h.chs,e.cmd.Short 140737488355328) (hx : ∀x∈Hd.recs h,x.Fits∧x.cmd.Short 1000∧x.img.length≤100000) :
 Calls Tryz.prog 65 #[.int .i64 f, .agg (Hd.cells h vi va vc)] w (SgMade w (Sg.head b f h)):=by
 obtain⟨w1,e1,hx1,hB1,hs1⟩:=box_six w 33 h vi va vc hr
 have HX1:=Lib.hid hx1;have HB1:=Lib.hid hB1
 have HR1:=Lib.hid (hr.below hB1)
 have HT:=Lib.hid (fun W (h:Below w.heap.size w W)=>hT.below h)
 have HW:=Lib.hid (fun W (h:Below w.heap.size w W)=>hW.below h)
 have HBV:=Lib.hid hb;have HFEW:=Lib.hid hfew;have HA:=Lib.hid ha;have HC:=Lib.hid hc;have HXX:=Lib.hid hx;have HRL:=Lib.hid hrl
 have hcf:=checkFormat_any f w1
 obtain⟨r,hr'⟩ : ∃r,r=Sg.head b f h:=⟨_,rfl⟩
 rw[← hr']
 unfold Sg.head at hr'
 obtain⟨z,hz⟩ : ∃z,z=Vs.opens 2 f:=⟨_,rfl⟩
 rw[← hz]at hcf hr'
 have HZ:Hid (z=0→f=1∨f=2):=fun h0=>by
  rw[h0,Vs.opens_two]at hz
  by_cases h1:f=1∨f=2
  ·exact h1
  ·rw[if_neg h1]at hz;omega
 have HCF:=Lib.hid hcf;have HR:=Lib.hid hr'
 clear hx1 hB1 hs1 hr hT hW hb hfew ha hc hx hrl hcf hr' hz
 go_enter Tryz.func65,Tryz.ntmps65
 go_wp2_with fail
 refine HCF.out.mono ?_
 rintro e2 w2 ⟨rfl,rfl⟩
 by_cases h0:z=0
 ·have hf:=HZ.out h0
  have HF:=Lib.hid hf
  have hr2:=HR.out.trans (if_neg (by simpa using h0))
  subst h0
  have HR2:=Lib.hid hr2
  clear hf hr2 HR HCF HZ
  go_wp2_with (refine load_hard rfl _ rfl rfl HX1.out ?_)
  refine(hardCheck_any b h vi va vc w1 (HW.out _ HB1.out) HR1.out HBV.out HA.out HC.out).mono ?_
  rintro e w3 ⟨rfl,hb3⟩
  have HB3:=Lib.hid (HB1.out.trans (hb3.mono HB1.out.size))
  have HX3:=Lib.hid (HX1.out.below hb3 HX1.out.lies.lt)
  have HR3:=Lib.hid (HR1.out.below hb3)
  clear hb3
  cases b with
  | false =>
   have HR4:Hid (r=([],3)):=HR2.out.trans (if_pos rfl)
   rw[if_neg (by simp)]
   go_wp2
   go_ret2
   rw[HR4.out]
   exact⟨_,rfl,Owns.empty _ _ _,HB3.out⟩
  | true =>
   have HR4:=Lib.hid (HR2.out.trans (if_neg (by simp)))
   rw[if_pos rfl]
   go_wp2_with (refine load_hard rfl _ rfl rfl HX3.out ?_)
   refine(records_any h vi va vc w3 HR3.out HFEW.out).mono ?_
   rintro e w4 ⟨v4,rfl,hl4,hb4⟩
   have HB4:=Lib.hid (HB3.out.trans (hb4.mono HB3.out.size))
   obtain⟨L,hL⟩ : ∃L,L=Hd.recs h:=⟨_,rfl⟩
   have HLL:=Lib.hid hL
   rw[← hL]at hl4 HR4 HXX HRL
   obtain⟨lo,lc,hvl,hc1,hc2⟩:=ListP.shape hl4
   obtain⟨N,hN⟩ : ∃N,N=L.length:=⟨_,rfl⟩
   rw[← hN]at hvl hc1
   subst hvl
   have HNN:=Lib.hid hN
   have hN1:N≤1000:=by have:=HRL.out;omega
   have HP:=Lib.hid (fun h=>ListP.places hl4 cellR_first h)
   clear hl4 hb4 hL hN HX3 HR3 HR2
   go_wp2_with fail
   refine(firstSg_any f HF.out N w4 (HT.out _ HB4.out) (by omega)).mono ?_
   rintro e w5 ⟨v5,rfl,ho5,hb5⟩
   have HO5:Hid (Owns w5 w4.heap.size 5 v5 (Frm.flat (Sg.first f N :: (L.take 0).map (Rt.bytesIn f)))):=by
    show Owns _ _ _ _ _
    simpa[Frm.flat] using ho5
   have HB5:Hid (Below w4.heap.size w4 w5):=hb5
   obtain⟨vo,vc5,hv5⟩:=ho5.reads.shape
   obtain⟨vn,hvn⟩ : ∃vn,vn=(Frm.frame (Sg.first f N)).length:=⟨_,rfl⟩
   rw[← hvn]at hv5
   subst hv5
   clear ho5 hb5 hvn
   go_wp2
   go_loopw [9,39] (fun y i wr => ∃k:Nat,i = .int .i64 (k:Int)∧k≤N∧Hid (∀c∈L.take k,Re.olderIn f c=0)∧Hid (Owns wr w4.heap.size 5 y (Frm.flat (Sg.first f N :: (L.take k).map (Rt.bytesIn f))))∧Hid (Below w4.heap.size w4 wr)) (fun _ i _=>N - (intOf i).toNat)
   case atStart=>exact⟨0,rfl,by omega,by show ∀c∈_,_;simp,HO5.out,HB5.out⟩
   case round =>
    obtain⟨k,rfl,hk,HI,HY,HB⟩:=hrel
    obtain⟨yo,yc,hyy⟩:=HY.out.reads.shape
    obtain⟨yn,hyn⟩ : ∃m,m=(Frm.flat (Sg.first f N :: (L.take k).map (Rt.bytesIn f))).length:=⟨_,rfl⟩
    rw[← hyn]at hyy
    clear hyn
    subst hyy
    have HBW:Hid (Below w.heap.size w wr):=HB4.out.trans (HB.out.mono HB4.out.size)
    by_cases hlt:k<N
    ·obtain⟨x,hxl⟩ : ∃x,L[k]? = some x:=⟨_,List.getElem?_eq_getElem (by have:=HNN.out;omega)⟩
     obtain⟨g,off,rfl,_,hc⟩:=HP.out (by have:=HNN.out;omega)
     obtain⟨u,hu,hcell⟩:=hc k x hxl
     obtain⟨uo,uc,rfl⟩:=hu.1.shape
     have HU:=Lib.hid (fun W (h:Below w4.heap.size w4 W)=>hu.1.below h)
     have HXO:=Lib.hid (HXX.out x (List.mem_of_getElem? hxl))
     have HXL:=Lib.hid hxl
     have HCELL:Hid (∀j v,(Re.cells x (.slice uo x.img.length uc))[j]? = some v→wr.cell? ⟨g,off+k*12+j,none⟩=some v):=fun j v hj=>by rw[Nat.add_assoc];exact hcell wr HB.out j v hj
     clear hc hu hcell hxl
     go_wp2_with (first
      | (refine load_rec_at rfl _ rfl g (off+k*12) x (.slice uo x.img.length uc) rfl HCELL.out ?_)
      | (refine store_rec rfl _ _ rfl wr.heap.size Re.zero Nil x (.slice uo x.img.length uc) rfl rfl rfl (Lies.new _ _ _) ?_;intro w6 hl6 hg6;have HL6:=Lib.hid hl6;have HB6:Hid (Below wr.heap.size wr w6):=fresh_below hg6;clear hl6 hg6)
      | (refine load_rec rfl _ rfl wr.heap.size x (.slice uo x.img.length uc) rfl HL6.out ?_)
      | fail)
     have HBX:Hid (Below w4.heap.size w4 w6):=HB.out.trans (HB6.out.mono HB.out.size)
     have HBXW:Hid (Below w.heap.size w w6):=HB4.out.trans (HBX.out.mono HB4.out.size)
     refine(addSg_any f x (.slice uo x.img.length uc) w6 (HT.out _ HBXW.out) (HW.out _ HBXW.out) (HU.out _ HBX.out) HXO.out.1 HXO.out.2.1 HXO.out.2.2).mono ?_
     rintro e w7 ⟨u7,rfl,ho7,hb7⟩
     have HB7:Hid (Below w4.heap.size w4 w7):=HBX.out.trans (hb7.mono HBX.out.size)
     have HY7:=Lib.hid (HY.out.keep (HB6.out.trans (hb7.mono HB6.out.size)) (Nat.le_refl _))
     have HO7:=Lib.hid ho7
     clear ho7 hb7 HCELL HL6
     obtain⟨q,hq⟩ : ∃q,q=(Rt.put f x).2:=⟨_,rfl⟩
     have HQ:=Lib.hid hq
     by_cases h0:q=0
     ·have HAD:Hid (Sg.add f x=(Frm.frame (Rt.bytesIn f x),0)):=by show _=_;unfold Sg.add;rw[← hq,if_neg (by simpa using h0)]
      obtain⟨_,hold,_⟩:=Sg.put_ok (f:=f) (x:=x) (by rw[← hq];exact h0)
      rw[HAD.out]at HO7 ⊢
      dsimp only at HO7 ⊢
      have HI2:Hid (∀d∈L.take (k+1),Re.olderIn f d=0):=by
       intro d hd
       rw[List.take_add_one,HXL.out]at hd
       rcases List.mem_append.1 hd with hd | hd
       ·exact HI.out d hd
       ·simp at hd;subst hd;exact hold
      have HTK:Hid (Frm.flat (Sg.first f N :: (L.take k).map (Rt.bytesIn f))++Frm.frame (Rt.bytesIn f x)=Frm.flat (Sg.first f N :: (L.take (k+1)).map (Rt.bytesIn f))):=by show _=_;rw[List.take_add_one,HXL.out];simp[Frm.flat]
      have HFL:Hid ((Frm.flat (Sg.first f N :: (L.take k).map (Rt.bytesIn f))).length+(Frm.frame (Rt.bytesIn f x)).length≤140737488355328):=by
       have h1:=Sg.flat_len (f:=f) (Sg.first f N) (L.take k) (fun c hc=>(Sg.body_len (HI.out c hc) (HXX.out c (List.mem_of_mem_take hc)).1).1)
       have h2:(L.take k).length≤L.length:=List.length_take_le' _ _
       have h3:=Frm.frame_len (Sg.first f N)
       have h4:=Frm.frame_len (Rt.bytesIn f x)
       have h6:=(Sg.body_len hold HXO.out.1).2.1.2
       have h5:=enc_nine (n:=(Rt.bytesIn f x).length) (by omega)
       have hff:=HF.out
       have h7:=enc_nine (n:=f.toNat) (by omega)
       have h8:=enc_nine (n:=N) (by omega)
       have h9:(Sg.first f N).length=(enc f.toNat).length+(enc N).length:=by simp[Sg.first]
       have h10:=enc_nine (n:=(Sg.first f N).length) (by omega)
       have:=HNN.out
       show _≤_
       omega
      clear hold hq HQ h0
      go_wp2_with (at_builtin;refine append_bytes rfl _ _ 30 5 rfl Tryz.underlying30 info_u8 w4.heap.size _ (Frm.frame (Rt.bytesIn f x)) (.slice yo yn yc) u7 rfl rfl HY7.out HO7.out.reads HFL.out w4 HB7.out (Nat.le_refl _) ?_;intro v8 w8 ho8 hb8 hg8;have HO8:=Lib.hid ho8;have HB8:Hid (Below w4.heap.size w4 w8):=hb8;clear ho8 hb8 hg8)
      rw[HTK.out]at HO8
      go_roundw
      case rel=>exact⟨k+1,by go_num,by omega,HI2.out,HO8.out,HB8.out⟩
      case measure=>simp[intOf];omega
     ·have hne:(q != 0)=true:=by simpa using h0
      have hold:Re.olderIn f x=q:=by
       rw[hq]
       unfold Rt.put
       rw[if_pos HF.out]
       by_cases ho:Re.olderIn f x=0
       ·exfalso
        apply h0
        rw[hq]
        unfold Rt.put
        rw[if_pos HF.out,if_neg (by simpa using ho)]
       ·rw[if_pos ho]
      have hall:Sg.hasAll f L=q:=(Sg.hasAll_step HI.out HXL.out (by rw[hold];exact h0)).trans hold
      have HR5:Hid (r=([],q)):=by
       have h1:=HR4.out
       rw[hall,if_pos h0]at h1
       exact h1
      have HAD:Hid (Sg.add f x=([],q)):=by show _=_;unfold Sg.add;rw[← hq,if_pos h0]
      rw[HAD.out]at HO7 ⊢
      dsimp only at HO7 ⊢
      obtain⟨ao,ac,hsh⟩:=HO7.out.reads.shape
      subst hsh
      clear hold hall hq HQ h0 HR4
      go_wp2
      go_ret2
      rw[HR5.out]
      exact⟨_,rfl,Owns.empty _ _ _,HB4.out.trans (HB7.out.mono HB4.out.size)⟩
    ·obtain rfl:k=N:=by omega
     have hall:Sg.hasAll f L=0:=(Sg.hasAll_iff L).2 fun c hc=>HI.out c (by rw[List.take_of_length_le (by have:=HNN.out;omega)];exact hc)
     have HR5:Hid (r=(Sg.file f h [],0)):=by
      have h1:=HR4.out
      rw[hall,if_neg (by simp)]at h1
      exact h1
     have HFIN:Hid (Owns wr w4.heap.size 5 (.slice yo yn yc) (Sg.file f h [])):=by
      have h1:=HY.out
      rw[List.take_of_length_le (by have:=HNN.out;omega)]at h1
      show Owns _ _ _ _ _
      unfold Sg.file Sg.bodies
      rw[List.append_nil, ← HLL.out, ← HNN.out]
      exact h1
     clear hall HR4
     go_wp2
     go_ret2
     rw[HR5.out]
     exact⟨_,rfl,HFIN.out.mono HB4.out.size,HBW.out⟩
 ·have hne:(z != 0)=true:=by simpa using h0
  have HR2:Hid (r=([],z)):=HR.out.trans (if_pos h0)
  clear h0 HR HCF HZ
  go_wp2
  go_ret2
  rw[HR2.out]
  exact⟨_,rfl,Owns.empty _ _ _,HB1.out⟩
end Go.Proofs.YtdkdjofnnnljjaaGreatDoor
