/- Several texts of mine in one: GQw CmdChk. -/
import Derived.Test.YtdkdjofnnnljjaaGreatDoorPVers
import Derived.Test.YtdkdjofnnnljjaaGreatDoorPGRd
import Derived.Test.YtdkdjofnnnljjaaGreatDoorShelf
import Derived.Laws.BitsAllLaws
import Derived.WalkLawsBesides
import Derived.SliceStrings
import Derived.Maps.AppendAt
import Derived.Test.YtdkdjofnnnljjaaGreatDoorGCa
import Derived.Deep.MidRow
namespace Go.Proofs.YtdkdjofnnnljjaaGreatDoor
open Go.RowKit
theorem Qt.enc_len(r:Nat):(Lib.encodeRune (r:Int)).length≤4:=by
 unfold Lib.encodeRune
 rw[List.length_map]
 exact(Lib.encodeRuneZ_length _).2
namespace Qt
def told(s:ByteArray):Value:=match unq s with
 | some o => .tuple #[.string ⟨o.toArray⟩, .int .i64 0]
 | none => .tuple #[.string ⟨#[]⟩, .int .i64 3]
end Qt
namespace Qt
def above(r:Int):Bool:=decide (32<r)
theorem empty_eq(s:ByteArray):s.toList.isEmpty=decide (s.size=0):=by
 rw[ByteArray.toList_eq,Bool.eq_iff_iff,List.isEmpty_iff_length_eq_zero,decide_eq_true_eq]
 exact Iff.rfl
end Qt
section
def ReadsS(w:World)(v:Value)(ls:List ByteArray):Prop :=
 ∃(ao:Option Addr) (cap:Nat),v = .slice ao ls.length cap∧ls.length≤cap∧cap≤maxLen∧(ao=none→cap=0) ∧ ∀x,ao=some x → ∀j s,ls[j]? = some s→w.cell? (x.add j)=some (.string s)
def OwnsS(w:World)(base:Nat)(E:TypeId)(v:Value)(ls:List ByteArray):Prop:=w.ownsRow base E 1 v ls.length (ls.map Value.string)
theorem OwnsS.empty(w:World)(base:Nat)(E:TypeId):OwnsS w base E (.slice none 0 0) []:=World.ownsRow_nil _ _ _ _
theorem OwnsS.reads{w:World}{base:Nat}{E:TypeId}{v:Value}{ls:List ByteArray}(h:OwnsS w base E v ls):ReadsS w v ls:=by
 rcases h.2 with ⟨rfl,h0⟩ | ⟨g,cap,cur,rfl,hb,hg,hc,hm,_,_⟩
 ·exact⟨none,0,by rw[h0],by omega,by simp[maxLen],fun _=>rfl,(fun x hx=>by cases hx)⟩
 ·refine⟨_,cap,rfl,hc,hm,(fun h=>by cases h),fun x hx j s hs => ?_⟩
  cases hx
  exact World.ownsRow.cells h (g:=g) rfl j _ (by rw[List.getElem?_map,hs];rfl)
theorem ReadsS.below{w w' : World}{v:Value}{ls:List ByteArray}(h:ReadsS w v ls)(hb:Below w.heap.size w w'):ReadsS w' v ls:=by
 obtain⟨ao,cap,rfl,h1,h2,h3,h4⟩:=h
 refine⟨ao,cap,rfl,h1,h2,h3,fun x hx j u hu => ?_⟩
 have hc:=h4 x hx j u hu
 rw[← hc]
 exact hb.cell (World.block_lt_of_cell? w _ hc)
theorem ReadsS.shape{w:World}{v:Value}{ls:List ByteArray}(h:ReadsS w v ls) : ∃ao cap,v = .slice ao ls.length cap:=by
 obtain⟨ao,cap,rfl,_⟩:=h;exact⟨ao,cap,rfl⟩
theorem ReadsS.place{w:World}{ao:Option Addr}{n cap:Nat}{ls:List ByteArray}(h:ReadsS w (.slice ao n cap) ls)(hl:0<ls.length) :
 ∃b off,ao=some ⟨b,off,none⟩∧n=ls.length∧ls.length≤cap∧cap≤maxLen∧b<w.heap.size ∧ ∀j s,ls[j]? = some s→w.cell? ⟨b,off+j,none⟩=some (.string s):=by
 obtain⟨ao', cap', hv,h1,h2,h3,h4⟩:=h
 simp only[Value.slice.injEq]at hv
 obtain⟨rfl,rfl,rfl⟩:=hv
 cases ao with
 | none=>exact absurd (h3 rfl) (by omega)
 | some x =>
  obtain⟨b,off,spot⟩:=x
  have hc:=h4 _ rfl 0 _ (List.getElem?_eq_getElem hl)
  have hspot:spot=none:=by simpa[Addr.add] using World.cell?_spot hc
  subst hspot
  refine⟨b,off,rfl,rfl,h1,h2, ?_,fun j c hj => ?_⟩
  ·have:=World.block_lt_of_cell? w _ hc
   rwa[Addr.add_lit]at this
  ·have:=h4 _ rfl j _ hj
   rwa[Addr.add_lit]at this
namespace Qt
open Rn
end Qt
end
namespace Qt
def words(s:ByteArray):List (List UInt8):=if s.size=0 then []else split s.data.toList
end Qt
end Go.Proofs.YtdkdjofnnnljjaaGreatDoor

namespace Go.Proofs.YtdkdjofnnnljjaaGreatDoor
open Go.RowKit
set_option maxHeartbeats 1600000
set_option maxRecDepth 4000
theorem guard_cmd : Tryz.prog.eqGuardType Tryz.prog.depth 40=false:=by kernel_rfl
theorem run_eql_cmd(w:World)(c d:Cm.Cmd):(binOp .eql 40 (.agg (Cm.cells c)) (.agg (Cm.cells d))).run Tryz.prog w = .ok (.bool (decide (c=d))) w:=by
 have hu:=Tryz.underlying40
 obtain⟨k,cl,sq,nd,ky,od,vl⟩:=c
 obtain⟨k', cl', sq', nd', ky', od', vl'⟩:=d
 dsimp only [Cm.cells]
 go_simp
 repeat' split
 all_goals simp_all
theorem box_cmd(w:World)(c:Cm.Cmd) : ∃w1,w.alloc (.cells (Cm.cells c) 40)=w1∧Cmds w1 w.heap.size c∧Below w.heap.size w w1∧w1.heap.size=w.heap.size+1 :=
 ⟨_,rfl,Lies.new w _ _,(Below.refl _ w).alloc (Nat.le_refl _) _,by simp⟩
theorem Cm.foldl_kind(fs:List Cm.F) : ∀c:Cm.Cmd,(fs.foldl Cm.wipe c).kind=c.kind:=by
 induction fs with
 | nil=>intro c;rfl
 | cons f fs ih =>
  intro c
  rw[List.foldl_cons,ih]
  unfold Cm.wipe
  split
  ·exact Cm.Cmd.setN_kind _ _ _
  ·exact Cm.Cmd.setS_kind _ _ _
theorem alone_any(c:Cm.Cmd)(w:World):Calls Tryz.prog 197 #[.agg (Cm.cells c)] w (Looks w (.bool (Cm.alone c))):=by
 obtain⟨w1,e1,hl1,hB1,hz1⟩:=box_cmd w c
 have hk:=hl1.cell 0 _ rfl
 have HL1:=Lib.hid hl1;have HB1:=Lib.hid hB1;have HZ1:=Lib.hid hz1
 clear hl1 hB1 hz1
 go_enter Tryz.func197,Tryz.ntmps197
 go_wp2_with fail
 refine(fields_any w.heap.size c.kind _ hk).mono ?_
 rintro e w2 ⟨v,rfl,hr,hB2⟩
 obtain⟨ao,rfl⟩:=hr.shape
 have hn:=Cm.fields_len c.kind
 obtain⟨fs,hfs⟩ : ∃fs,fs=Cm.fields c.kind:=⟨_,rfl⟩
 rw[← hfs]at hr hn ⊢
 have HFS:=Lib.hid hfs
 have HR:=Lib.hid hr
 have HL2:=Lib.hid (HL1.out.below hB2 HL1.out.lt)
 have HB2:=Lib.hid (HB1.out.trans (hB2.mono HB1.out.size))
 clear hr hfs hB2 hk
 go_wp2
 go_loopw [4,7] (fun _ i wr => ∃(k:Nat) (d:Cm.Cmd),i = .int .i64 (k:Int)∧k≤fs.length∧Below w.heap.size w wr∧Hid (d=(fs.take k).foldl Cm.wipe c)∧Hid (Cmds wr w.heap.size d)∧Hid (FRow wr (w.heap.size+1) (.slice ao fs.length fs.length) w.heap.size fs)) (fun _ i _=>fs.length - (intOf i).toNat)
 case atStart =>
  refine⟨0,c,rfl,by omega,HB2.out,rfl,HL2.out, ?_⟩
  show FRow _ _ _ _ _
  rw[← HZ1.out];exact HR.out
 case round =>
  obtain⟨k,d,rfl,hk,hb,HD,HL,HF⟩:=hrel
  by_cases hlt:k<fs.length
  ·have hlt' : (k:Int)<(fs.length:Int):=by omega
   obtain⟨f,hf⟩ : ∃f,fs[k]? = some f:=⟨_,List.getElem?_eq_getElem hlt⟩
   obtain⟨g,rfl,hcell⟩:=HF.out.cell hf
   have HFK:=Lib.hid hf
   clear hf
   go_wp2_with fail
   refine(fwipe_any w.heap.size d f _ HL.out).mono ?_
   rintro e w2 ⟨rfl,hl2,hg2⟩
   have hb2:=hb.grown hg2 (Nat.le_trans (Nat.le_refl _) hb.size) (by rintro j hj;cases hj;exact Nat.le_refl _)
   have HL3:=Lib.hid hl2
   have HF3:=Lib.hid (HF.out.kept hg2 (by intro j hj e;cases e;omega))
   clear hl2 hg2
   go_wp2
   go_roundw
   case rel =>
    refine⟨k+1,Cm.wipe d f,by go_num,by omega,hb2, ?_,HL3,HF3⟩
    show _=_
    rw[List.take_add_one,HFK.out,List.foldl_append, ← HD.out]
    rfl
   case measure=>simp[intOf];omega
  ·have hlt' : ¬(k:Int)<(fs.length:Int):=by omega
   have hd:Hid (Cm.alone c=decide (d=Cm.bareOf d.kind)):=by
    show _=_
    have h1:=HD.out
    rw[List.take_of_length_le (by omega),HFS.out]at h1
    unfold Cm.alone
    rw[← h1,show d.kind=c.kind by rw[h1];exact Cm.foldl_kind _ _]
   have heq:=fun W=>run_eql_cmd W d (Cm.bareOf d.kind)
   have hgd:=guard_cmd
   have q0:wr.cell? ⟨w.heap.size,0,none⟩=some (.int .i64 d.kind):=HL.out.cell 0 _ rfl
   have q1:wr.cell? ⟨w.heap.size,1,none⟩=some (.int .i64 d.client):=HL.out.cell 1 _ rfl
   have q2:wr.cell? ⟨w.heap.size,2,none⟩=some (.int .i64 d.seq):=HL.out.cell 2 _ rfl
   have q3:wr.cell? ⟨w.heap.size,3,none⟩=some (.string ⟨d.key.toArray⟩):=HL.out.cell 3 _ rfl
   have q4:wr.cell? ⟨w.heap.size,4,none⟩=some (.string ⟨d.val.toArray⟩):=HL.out.cell 4 _ rfl
   have q5:wr.cell? ⟨w.heap.size,5,none⟩=some (.string ⟨d.old.toArray⟩):=HL.out.cell 5 _ rfl
   have q6:wr.cell? ⟨w.heap.size,6,none⟩=some (.int .i64 d.node):=HL.out.cell 6 _ rfl
   obtain⟨t,ht⟩ : ∃t,t=decide (d=Cm.bareOf d.kind):=⟨_,rfl⟩
   rw[← ht]at heq
   have HT:=Lib.hid ht
   clear ht
   dsimp only [Cm.cells,Cm.bareOf]at heq
   go_wp2
   go_ret
   exact⟨by rw[hd.out, ← HT.out];rfl,hb⟩
def Cm.wordList : List (List UInt8) := [[], [110,111,112], [112,117,116], [103,101,116], [100,101,108], [99,97,115], [97,99,116,105,118,97,116,101], [97,100,100], [100,114,111,112]]
def Cm.word(k:Int):List UInt8:=if k<0 then []else Cm.wordList.getD k.toNat []
def WordsIn(w:World):Prop:=w.var? Tryz.prog "changeover/cmd.words"=some (Cm.wordList.map fun l=>Value.string ⟨l.toArray⟩).toArray
theorem WordsIn.below{w w' : World}(h:WordsIn w)(hb:Below w.heap.size w w'):WordsIn w' := var_below h hb
theorem WordsIn.cell{w:World}(h:WordsIn w)(i:Nat):w.cell? ⟨1,i,none⟩=(Cm.wordList.map fun l=>Value.string ⟨l.toArray⟩).toArray[i]? := World.var?_cell (by kernel_rfl) h i
theorem Cm.word_no{k:Int}(h:k<1∨8<k):Cm.word k = []:=by
 unfold Cm.word
 by_cases h0:k<0
 ·rw[if_pos h0]
 ·rw[if_neg h0]
  by_cases h1:k=0
  ·subst h1;rfl
  ·obtain⟨n,rfl⟩:=Int.eq_ofNat_of_zero_le (show 0≤k by omega)
   rw[Int.toNat_natCast,List.getD_eq_getElem?_getD,List.getElem?_eq_none (by simp[Cm.wordList];omega)]
   rfl
theorem word_cell(k:Int)(n:Nat)(hk:k=(n:Int))(hn:n<9)(w:World)(hv:WordsIn w):w.cell? ⟨1,n,none⟩=some (.string ⟨(Cm.word k).toArray⟩):=by
 rw[hv.cell n]
 unfold Cm.word
 rw[if_neg (by omega),hk,Int.toNat_natCast]
 have:n=0∨n=1∨n=2∨n=3∨n=4∨n=5∨n=6∨n=7∨n=8:=by omega
 rcases this with rfl | rfl | rfl | rfl | rfl | rfl | rfl | rfl | rfl<;>rfl
theorem word_kind_any(k:Int)(w:World)(hv:WordsIn w):Calls Tryz.prog 193 #[.int .i64 k] w (Says w (.string ⟨(Cm.word k).toArray⟩)):=by
 by_cases h0:k<0
 ·have e:Hid (Cm.word k = []):=Cm.word_no (by omega)
  have d0:decide (k<0)=true:=decide_eq_true h0
  go_enter Tryz.func193,Tryz.ntmps193
  go_wp2
  go_ret
  exact⟨by rw[e.out];rfl,rfl⟩
 ·have d0:decide (k<0)=false:=decide_eq_false h0
  by_cases h9:k≥9
  ·have e:Hid (Cm.word k = []):=Cm.word_no (by omega)
   have d9:decide (9≤k)=true:=decide_eq_true h9
   go_enter Tryz.func193,Tryz.ntmps193
   go_wp2
   go_ret
   exact⟨by rw[e.out];rfl,rfl⟩
  ·have d9:decide (9≤k)=false:=decide_eq_false (by omega)
   obtain⟨n,rfl⟩:=Int.eq_ofNat_of_zero_le (show 0≤k by omega)
   have hn:n<9:=by omega
   have hc:=word_cell (n:Int) n rfl hn w hv
   obtain⟨S,hS⟩ : ∃S,S=ByteArray.mk (Cm.word (n:Int)).toArray:=⟨_,rfl⟩
   rw[← hS]at hc ⊢
   clear hS
   go_enter Tryz.func193,Tryz.ntmps193
   go_wp2
   go_ret
   exact⟨rfl,rfl⟩
theorem Cm.word_known(k:Int):(ByteArray.mk (Cm.word k).toArray).toList.isEmpty = !Cm.known k:=by
 rw[Qt.empty_eq,str_size]
 rcases Vs.kinds k with rfl | rfl | rfl | rfl | rfl | rfl | rfl | rfl | h
 rotate_right
 ·rw[Cm.word_no h]
  have:Cm.known k=false:=by simp[Cm.known];omega
  rw[this]
  rfl
 all_goals decide
theorem check_any(c:Cm.Cmd)(w:World)(hv:WordsIn w)(hs:c.Short 140737488355328):Calls Tryz.prog 167 #[.agg (Cm.cells c)] w (Looks w (.int .i64 (Cm.check c))):=by
 obtain⟨w1,e1,hl1,hB1,hz1⟩:=box_cmd w c
 have hk:=hl1.cell 0 _ rfl
 have HL1:=Lib.hid hl1;have HB1:=Lib.hid hB1
 have HV1:=Lib.hid (hv.below hB1)
 clear hl1 hB1 hz1 hv
 obtain⟨r,hr⟩ : ∃r,r=Cm.check c:=⟨_,rfl⟩
 rw[← hr]
 unfold Cm.check at hr
 have HRES:=Lib.hid hr
 clear hr
 go_enter Tryz.func167,Tryz.ntmps167
 go_wp2_with fail
 refine(fields_any w.heap.size c.kind _ hk).mono ?_
 rintro e w2 ⟨v,rfl,hr,hB2⟩
 have hn:=Cm.fields_len c.kind
 obtain⟨fs,hfs⟩ : ∃fs,fs=Cm.fields c.kind:=⟨_,rfl⟩
 rw[← hfs]at hr hn
 have HFS:=Lib.hid hfs
 have HR:=Lib.hid hr
 have hl2:=HL1.out.below hB2 HL1.out.lt
 have q0:w2.cell? ⟨w.heap.size,0,none⟩=some (.int .i64 c.kind):=hl2.cell 0 _ rfl
 have HL2:=Lib.hid hl2
 have HV2:=Lib.hid (HV1.out.below hB2)
 have HB2:=Lib.hid (HB1.out.trans (hB2.mono HB1.out.size))
 clear hr hfs hB2 hk hl2
 go_wp2_with fail
 refine(word_kind_any c.kind _ HV2.out).mono ?_
 rintro e w3 ⟨rfl,rfl⟩
 have hE:=Cm.word_known c.kind
 obtain⟨S,hS⟩ : ∃S,S=ByteArray.mk (Cm.word c.kind).toArray:=⟨_,rfl⟩
 rw[← hS]at hE ⊢
 clear hS
 obtain⟨t,ht⟩ : ∃t,t=Cm.known c.kind:=⟨_,rfl⟩
 rw[← ht]at hE
 have HT:=Lib.hid ht
 clear ht
 cases t with
 | false =>
  have HZ:Hid (r=5):=by show _=_;rw[HRES.out,if_pos HT.out.symm]
  go_wp2
  go_ret
  exact⟨by rw[HZ.out];rfl,HB2.out⟩
 | true =>
  have HRES2:Hid (r=if fs.all (Cm.within c)=false then 6 else if fs.all (Cm.spelt c)=false then 7 else if Cm.alone c=false then 3 else 0):=by
   show _=_
   rw[HRES.out,if_neg (by rw[← HT.out];simp),HFS.out]
  go_wp2_with fail
  refine(all_within c w.heap.size _ fs v _ HR.out hn HL2.out).mono ?_
  rintro e w4 ⟨rfl,hB4⟩
  have HL4:=Lib.hid (HL2.out.below hB4 HL2.out.lt)
  have HR4:=Lib.hid (HR.out.below hB4)
  have HB4:=Lib.hid (HB2.out.trans (hB4.mono HB2.out.size))
  clear hB4
  obtain⟨t,ht⟩ : ∃t,t=fs.all (Cm.within c):=⟨_,rfl⟩
  rw[← ht]
  have HT2:=Lib.hid ht
  clear ht
  cases t with
  | false =>
   have HZ:Hid (r=6):=by show _=_;rw[HRES2.out,if_pos HT2.out.symm]
   go_wp2
   go_ret
   exact⟨by rw[HZ.out];rfl,HB4.out⟩
  | true =>
   go_wp2_with fail
   refine(all_spelt c w.heap.size _ fs v _ HR4.out hn HL4.out hs).mono ?_
   rintro e w5 ⟨rfl,hB5⟩
   have hl5:=HL4.out.below hB5 HL4.out.lt
   have HB5:=Lib.hid (HB4.out.trans (hB5.mono HB4.out.size))
   have p0:w5.cell? ⟨w.heap.size,0,none⟩=some (.int .i64 c.kind):=hl5.cell 0 _ rfl
   have p1:w5.cell? ⟨w.heap.size,1,none⟩=some (.int .i64 c.client):=hl5.cell 1 _ rfl
   have p2:w5.cell? ⟨w.heap.size,2,none⟩=some (.int .i64 c.seq):=hl5.cell 2 _ rfl
   have p3:w5.cell? ⟨w.heap.size,3,none⟩=some (.string ⟨c.key.toArray⟩):=hl5.cell 3 _ rfl
   have p4:w5.cell? ⟨w.heap.size,4,none⟩=some (.string ⟨c.val.toArray⟩):=hl5.cell 4 _ rfl
   have p5:w5.cell? ⟨w.heap.size,5,none⟩=some (.string ⟨c.old.toArray⟩):=hl5.cell 5 _ rfl
   have p6:w5.cell? ⟨w.heap.size,6,none⟩=some (.int .i64 c.node):=hl5.cell 6 _ rfl
   clear hB5 hl5
   obtain⟨t,ht⟩ : ∃t,t=fs.all (Cm.spelt c):=⟨_,rfl⟩
   rw[← ht]
   have HT3:=Lib.hid ht
   clear ht
   cases t with
   | false =>
    have HZ:Hid (r=7):=by show _=_;rw[HRES2.out,if_neg (by rw[← HT2.out];simp),if_pos HT3.out.symm]
    go_wp2
    go_ret
    exact⟨by rw[HZ.out];rfl,HB5.out⟩
   | true =>
    go_wp2_with fail
    refine(alone_any c _).mono ?_
    rintro e w6 ⟨rfl,hB6⟩
    obtain⟨t,ht⟩ : ∃t,t=Cm.alone c:=⟨_,rfl⟩
    rw[← ht]
    have HT4:=Lib.hid ht
    clear ht
    have HB6:=Lib.hid (HB5.out.trans (hB6.mono HB5.out.size))
    cases t with
    | false =>
     have HZ:Hid (r=3):=by show _=_;rw[HRES2.out,if_neg (by rw[← HT2.out];simp),if_neg (by rw[← HT3.out];simp),if_pos HT4.out.symm]
     go_wp2
     go_ret
     exact⟨by rw[HZ.out];rfl,HB6.out⟩
    | true =>
     have HZ:Hid (r=0):=by show _=_;rw[HRES2.out,if_neg (by rw[← HT2.out];simp),if_neg (by rw[← HT3.out];simp),if_neg (by rw[← HT4.out];simp)]
     go_wp2
     go_ret
     exact⟨by rw[HZ.out];rfl,HB6.out⟩
end Go.Proofs.YtdkdjofnnnljjaaGreatDoor
