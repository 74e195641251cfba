/- Several texts of mine in one: Cmp EnFind EnCopy EnWith EnPut. -/
import Derived.Test.YtdkdjofnnnljjaaGreatDoorRows
import Derived.Test.YtdkdjofnnnljjaaGreatDoorGMb
import Derived.Test.YtdkdjofnnnljjaaGreatDoorPEnMem
import Derived.Shelf.Abstract
import Derived.Lib.AppendZerosOnto
import Derived.ArgAppend
namespace Go.Proofs.YtdkdjofnnnljjaaGreatDoor
open Go.RowKit
set_option maxHeartbeats 3200000
set_option maxRecDepth 20000
theorem isNaN_any(x:Int)(w:World):Calls Tryz.prog 198 #[.int .i64 x] w (Says w (.bool false)):=by
 have h:(x != x)=false:=by simp
 go_enter Tryz.func198,Tryz.ntmps198
 go_wp2
 go_ret
 exact⟨ret_bool (by simp),rfl⟩
def Cf.cmp(x y:Int):Int:=if x<y then -1 else if y<x then 1 else 0
theorem cmp_any(x y:Int)(w:World):Calls Tryz.prog 171 #[.int .i64 x, .int .i64 y] w (Says w (.int .i64 (Cf.cmp x y))):=by
 go_enter Tryz.func171,Tryz.ntmps171
 by_cases h1:x<y
 ·go_wp2_with (go_at_call 198;refine(isNaN_any _ _).mono ?_;rintro e w' ⟨rfl,rfl⟩)
  go_ret
  exact⟨ret_int (by unfold Cf.cmp;rw[if_pos (by omega)]),rfl⟩
 ·by_cases h2:y<x
  ·go_wp2_with (go_at_call 198;refine(isNaN_any _ _).mono ?_;rintro e w' ⟨rfl,rfl⟩)
   go_ret
   exact⟨ret_int (by unfold Cf.cmp;rw[if_neg (by omega),if_pos (by omega)]),rfl⟩
  ·go_wp2_with (go_at_call 198;refine(isNaN_any _ _).mono ?_;rintro e w' ⟨rfl,rfl⟩)
   go_ret
   exact⟨ret_int (by unfold Cf.cmp;rw[if_neg (by omega),if_neg (by omega)]),rfl⟩
theorem Cf.cmp_neg(f x:Int):Cf.cmp f x<0↔f<x:=by
 unfold Cf.cmp
 split
 ·omega
 ·split<;>omega
theorem Cf.cmp_zero(f x:Int):Cf.cmp f x=0↔f=x:=by
 unfold Cf.cmp
 split
 ·omega
 ·split<;>omega
section
open Go.RowKit Go.Shelf
theorem search_ent(e:En.Ent)(x:Int)(w:World):Calls Tryz.prog 170 #[.agg (En.cells e), .int .i64 x] w (Looks w (.int .i64 (Cf.cmp e.index x))):=by
 obtain⟨w1,e1,hl1,hB1,hz1⟩:=box_ent w e
 obtain⟨p0,_⟩:=Ents.ten hl1
 have HB1:=Lib.hid hB1
 clear hl1 hB1 hz1
 go_enter Tryz.func170,Tryz.ntmps170
 go_wp2_with (go_at_call 171;refine(cmp_any _ _ _).mono ?_;rintro e w' ⟨rfl,rfl⟩)
 go_ret
 exact⟨rfl,HB1.out⟩
theorem bsearch_ent(v:Value)(l:List En.Ent)(x:Int)(w:World)(hv:ReadsE w v l)(hp:En.Asc l)(hn:l.length≤1048576) :
 Calls Tryz.prog 169 #[v, .int .i64 x, .func (.func 170) #[] #[]] w (Looks w (.tuple #[.int .i64 (En.below l x:Nat), .bool (En.found l x)])):=by
 obtain⟨ao,cap,rfl,hc1,hc2⟩:=ReadsE.shape hv
 have HP:=Lib.hid (fun h=>ReadsE.places hv h)
 have hble:=En.below_le l x
 have HI:=Lib.hid (En.below_iff l x hp)
 obtain⟨B,hB⟩ : ∃B,B=En.below l x:=⟨_,rfl⟩
 have HF:Hid (En.found l x=(l[B]?).any fun c=>decide (c.index=x)):=by show _=_;rw[hB];rfl
 obtain⟨F,hF⟩ : ∃F,F=En.found l x:=⟨_,rfl⟩
 rw[← hF]at HF ⊢
 rw[← hB]at hble HI ⊢
 obtain⟨n,hnn⟩ : ∃n,n=l.length:=⟨_,rfl⟩
 rw[← hnn]at hc1 hble hn ⊢
 have HN:=Lib.hid hnn
 clear hv hp hB hF hnn
 go_enter Tryz.func169,Tryz.ntmps169
 go_wp2
 go_loopw [9,10] (fun y z wr => ∃lo hi:Nat,y = .int .i64 (lo:Int)∧z = .int .i64 (hi:Int)∧lo≤B∧B≤hi∧hi≤n∧Below w.heap.size w wr) (fun y z _=>(intOf z).toNat - (intOf y).toNat)
 case atStart=>exact⟨0,n,rfl,rfl,by omega,hble,by omega,Below.refl _ _⟩
 case round =>
  obtain⟨lo,hi,rfl,rfl,hlo,hhi,hin,hBw⟩:=hrel
  have HBw:=Lib.hid hBw
  clear hBw
  by_cases hlh:lo<hi
  ·obtain⟨m,hm⟩ : ∃m,m=(lo+hi) / 2:=⟨_,rfl⟩
   have hm1:lo≤m:=by omega
   have hm2:m<hi:=by omega
   have hmm:((lo:Int)+(hi:Int)) / 2=(m:Int):=by omega
   obtain⟨c,hcm⟩ : ∃c,l[m]? = some c:=⟨_,List.getElem?_eq_getElem (by have:=HN.out;omega)⟩
   obtain⟨g,off,rfl,hgl,hcell⟩:=HP.out (by have:=HN.out;omega)
   have HC:=Lib.hid (hcell wr HBw.out m c hcm)
   have hiff:=HI.out m c hcm
   obtain⟨z,hz⟩ : ∃z,z=Cf.cmp c.index x:=⟨_,rfl⟩
   have hzi:z<0↔c.index<x:=by rw[hz];exact Cf.cmp_neg _ _
   have hcall:=fun W=>search_ent c x W
   rw[← hz]at hcall
   have HZ:=Lib.hid hz
   clear hz hcell hcm hm
   by_cases hmB:m<B
   ·have hz0:z<0:=by rw[hzi,hiff];exact hmB
    clear hiff hzi
    go_wp2_with (first | (refine load_ent rfl _ rfl g (off+m*10) c rfl HC.out ?_) | (go_at_call 170;refine(hcall _).mono ?_;rintro e w' ⟨rfl,hB'⟩))
    go_roundw
    case rel=>exact⟨m+1,hi,by go_num,rfl,by omega,hhi,hin,HBw.out.trans (hB'.mono HBw.out.size)⟩
    case measure=>simp[intOf];omega
   ·have hz0 : ¬z<0:=by rw[hzi,hiff];exact hmB
    clear hiff hzi
    go_wp2_with (first | (refine load_ent rfl _ rfl g (off+m*10) c rfl HC.out ?_) | (go_at_call 170;refine(hcall _).mono ?_;rintro e w' ⟨rfl,hB'⟩))
    go_roundw
    case rel=>exact⟨lo,m,rfl,rfl,hlo,by omega,by omega,HBw.out.trans (hB'.mono HBw.out.size)⟩
    case measure=>simp[intOf];omega
  ·obtain rfl:lo=B:=by omega
   obtain rfl:hi=lo:=by omega
   by_cases hlt2:hi<n
   ·obtain⟨c,hcm⟩ : ∃c,l[hi]? = some c:=⟨_,List.getElem?_eq_getElem (by have:=HN.out;omega)⟩
    obtain⟨g,off,rfl,hgl,hcell⟩:=HP.out (by have:=HN.out;omega)
    obtain⟨c0,c1,c2,c3,c4,c5,c6,c7,c8,c9⟩:=hcell wr HBw.out hi c hcm
    obtain⟨z,hz⟩ : ∃z,z=Cf.cmp c.index x:=⟨_,rfl⟩
    have hzi:z=0↔c.index=x:=by rw[hz];exact Cf.cmp_zero _ _
    have hcall:=fun W=>search_ent c x W
    rw[← hz]at hcall
    have HFc:Hid (F=decide (c.index=x)):=by show _=_;rw[HF.out,hcm];rfl
    clear hz hcell hcm
    by_cases hz0:z=0
    ·have hFt:Hid (F=true):=by show _=_;rw[HFc.out];exact decide_eq_true (hzi.1 hz0)
     subst hz0
     clear hzi
     go_wp2_with (go_at_call 170;refine(hcall _).mono ?_;rintro e w' ⟨rfl,hB'⟩)
     go_ret2
     exact⟨by rw[hFt.out];rfl,HBw.out.trans (hB'.mono HBw.out.size)⟩
    ·have hFt:Hid (F=false):=by show _=_;rw[HFc.out];exact decide_eq_false (fun h=>hz0 (hzi.2 h))
     have hz1:(z == 0)=false:=by simpa using hz0
     clear hzi
     go_wp2_with (go_at_call 170;refine(hcall _).mono ?_;rintro e w' ⟨rfl,hB'⟩)
     go_ret2
     exact⟨by rw[hFt.out];rfl,HBw.out.trans (hB'.mono HBw.out.size)⟩
   ·have hFt:Hid (F=false):=by show _=_;rw[HF.out,List.getElem?_eq_none (by have:=HN.out;omega)];rfl
    go_wp2
    go_ret2
    exact⟨by rw[hFt.out];rfl,HBw.out⟩
end
def MadeE(w:World)(l:List En.Ent)(e:Ending)(w' : World):Prop := ∃v,e = .returned v∧OwnsR w' w.heap.size 129 10 v (l.map En.cells)∧Below w.heap.size w w'
theorem run_rest_ent(w:World)(ao:Option Addr)(n cap f:Nat)(hf:f≤n) :
 (Instr.slice 31 (.slice ao n cap) (some (.int .i64 (f:Int))) none none).run Tryz.prog w = .ok (sliced ao f n cap 10) w:=by
 have he:Tryz.prog.elem 31=129:=by kernel_rfl
 have hi:(Tryz.prog.info? 129).isSome=true:=by kernel_rfl
 obtain⟨i,hi⟩:=Option.isSome_iff_exists.1 hi
 have hrun:=run_slice_l (P:=Tryz.prog) (w:=w) 31 ao n cap (by rw[he];exact Tryz.underlying31) .i64 (f:Int) (by omega) (by omega)
 rw[he]at hrun
 refine hrun.trans ?_
 rw[run_sizeOf _ hi,show Tryz.prog.cellsOf 129=10 by kernel_rfl]
 simp only[Result.andThen,Int.toNat_natCast]
theorem run_first_ent(w:World)(ao:Option Addr)(n cap f:Nat)(hf:f≤cap) :
 (Instr.slice 31 (.slice ao n cap) none (some (.int .i64 (f:Int))) none).run Tryz.prog w = .ok (sliced ao 0 f cap 10) w:=by
 have he:Tryz.prog.elem 31=129:=by kernel_rfl
 have hi:(Tryz.prog.info? 129).isSome=true:=by kernel_rfl
 obtain⟨i,hi⟩:=Option.isSome_iff_exists.1 hi
 have hrun:=run_slice_h (P:=Tryz.prog) (w:=w) 31 ao n cap (by rw[he];exact Tryz.underlying31) .i64 (f:Int) (by omega) (by omega)
 rw[he]at hrun
 refine hrun.trans ?_
 rw[run_sizeOf _ hi,show Tryz.prog.cellsOf 129=10 by kernel_rfl]
 simp only[Result.andThen,Int.toNat_natCast]
theorem clone_ents(v:Value)(l:List En.Ent)(w:World)(hv:ReadsE w v l)(hn:l.length≤1048576) :
 Calls Tryz.prog 102 #[v] w (MadeE w l):=by
 obtain⟨ao,cap,rfl,hc1,hc2⟩:=ReadsE.shape hv
 have q22 : ∀(w:World) (a:Option Addr) (n c n' c' : Nat),(binOp .eql 31 (.slice a n c) (.slice none n' c')).run Tryz.prog w = .ok (.bool a.isNone) w:=fun w a n c n' c' => Lib.run_eql_slice_nil w _ _ a n c n' c' Tryz.underlying31
 cases ao with
 | none =>
  obtain⟨_,h1,h2,_⟩:=ReadsR.len hv
  have h3:=h2 rfl
  obtain rfl:l = []:=List.eq_nil_of_length_eq_zero (by omega)
  go_enter Tryz.func102,Tryz.ntmps102
  go_wp2
  go_ret
  exact⟨_,rfl,OwnsR.empty _ _ _ _,Below.refl _ _⟩
 | some a =>
  have HV:Hid (ReadsE (w.alloc (.cells #[] 129)) (.slice (some a) l.length cap) l):=ReadsR.below hv ((Below.refl _ w).alloc (Nat.le_refl _) _)
  have HL:Hid ((l.map En.cells).length=l.length):=by show _=_;simp
  obtain⟨n,hnn⟩ : ∃n,n=l.length:=⟨_,rfl⟩
  rw[← hnn]at hn HV HL ⊢
  have HN:=Lib.hid hnn
  clear hv hc1 hnn
  go_enter Tryz.func102,Tryz.ntmps102
  go_wp2_with (at_builtin;refine append_rows rfl _ _ 31 129 10 104 (.agg (En.cells En.zero)) rfl Tryz.underlying31 info_ent rfl (by decide) w.heap.size [] (l.map En.cells) _ _ rfl rfl (World.ownsRow_made w #[] 0 (Nat.le_refl _) (Nat.zero_le _) (by simp)) HV.out (En.sized l) (by rw[HL.out];simp;omega) (by rw[HL.out];simp;omega) w ((Below.refl _ w).alloc (Nat.le_refl _) _) (Nat.le_refl _) ?_;intro v' w' ho' hb' _)
  all_goals
   rw[List.nil_append]at ho'
   obtain⟨ao', cap', hs'⟩:=ho'.shape
   have HO:=Lib.hid ho'
   rw[HL.out]at hs'
   clear ho'
   subst hs'
   go_wp2
   go_ret
   exact⟨_,rfl,HO.out,hb'⟩
theorem grow_ents(n:Nat)(w:World)(h0:0<n)(hn:n≤1048576) :
 Calls Tryz.prog 172 #[.slice none 0 0, .int .i64 (n:Int)] w (MadeE w []):=by
 obtain⟨i,hi,hz,hs,hb⟩:=info_parts info_ent
 obtain⟨G,hG⟩ : ∃G,G=grownCap w n 0 129:=⟨_,rfl⟩
 have hG1:n≤G:=by rw[hG];exact grownCap_ge w _ _ _
 have hG2:G≤maxLen:=by rw[hG];exact grownCap_le_maxLen w _ _ _ (by unfold maxLen;omega)
 have hzs:(Value.agg (En.cells En.zero)).cells.size=10:=rfl
 obtain⟨C,hC⟩ : ∃C:Array Value,C=(([]:List Value).toArray++Builtin.zeroCells (Value.agg (En.cells En.zero)).cells n++Builtin.zeroCells (Value.agg (En.cells En.zero)).cells (G - n)):=⟨_,rfl⟩
 have hCs:C.size=G*10:=by rw[hC];simp only[Array.size_append,size_zeroCells,hzs,List.size_toArray,List.length_nil];omega
 have hrun : ∀ty,(Builtin.append_ #[31,3] ty #[.slice none 0 0, .int .i64 (n:Int)]).run Tryz.prog w = .ok (.slice (some ⟨w.heap.size,0,none⟩) n G) (w.drew.alloc (.cells C 129)):=by
  intro ty
  have h:=Lib.run_append_grow_zeros (P:=Tryz.prog) w 31 3 ty 129 i (.agg (En.cells En.zero)) .i64 .i64 Tryz.underlying31 Tryz.underlying3 hi hz none 0 0 [] (run_firstCells_none w.drew i.size 0 0 0) n h0 (by omega) (by omega) (by omega) (by rw[hb];omega) (by rw[Nat.zero_add,nextslicecap_zero (by omega),hb];omega)
  rw[Nat.zero_add, ← hG, ← hC]at h
  exact h
 have hsl : ∀W:World,(Instr.slice 31 (.slice (some ⟨w.heap.size,0,none⟩) n G) none (some (.int .i64 0)) none).run Tryz.prog W = .ok (.slice (some ⟨w.heap.size,0,none⟩) 0 G) W:=fun W=>by
  have h:=run_first_ent W (some ⟨w.heap.size,0,none⟩) n G 0 (Nat.zero_le _)
  rw[show sliced (some (⟨w.heap.size,0,none⟩:Addr)) 0 0 G 10 = .slice (some ⟨w.heap.size,0,none⟩) 0 G by simp[sliced,Addr.add_lit]]at h
  exact h
 have hsl0 : ∀W:World,(Instr.slice 31 (.slice none 0 0) none (some (.int .i64 0)) none).run Tryz.prog W = .ok (.slice none 0 0) W:=fun W=>by
  have h:=run_first_ent W none 0 0 0 (Nat.zero_le _)
  rw[show sliced none 0 0 0 10 = .slice none 0 0 by simp[sliced]]at h
  exact h
 clear hG hC
 have hfin:Hid (OwnsR (w.drew.alloc (.cells C 129)) w.heap.size 129 10 (.slice (some ⟨w.heap.size,0,none⟩) 0 G) []):=⟨by simp[flatR], .inr ⟨w.heap.size,G,C,rfl,Nat.le_refl _,heap_alloc_new w.drew _,by simp,hG2,by omega,by simp[flatR]⟩⟩
 have hG3:G≤9223372036854775807:=by unfold maxLen at hG2;omega
 clear hCs hG2 hzs
 go_enter Tryz.func172,Tryz.ntmps172
 go_wp2_with (at_builtin;refine Lib.wpList_append_run _ rfl _ _ _ _ rfl _ _ rfl rfl _ _ (hrun _) ?_)
 all_goals
  go_ret
  exact⟨_,rfl,hfin.out,(Below.refl _ _).drew.alloc (Nat.le_refl _) _⟩
def ThreeE(w:World)(H:Nat)(ls:List (List En.Ent)):Prop := ∀k l,ls[k]? = some l → ∃u,w.cell? ⟨H,k,none⟩=some u∧ReadsE w u l
theorem flatE_take{ls:List (List En.Ent)}{k:Nat}{l:List En.Ent}(h:ls[k]? = some l):(ls.take (k+1)).flatten=(ls.take k).flatten++l:=by
 rw[List.take_add_one,h,List.flatten_append];simp
theorem flatE_len{ls:List (List En.Ent)}{k:Nat}{l:List En.Ent}(h:ls[k]? = some l):(ls.take k).flatten.length+l.length≤ls.flatten.length:=by
 have e:ls.flatten=(ls.take (k+1)).flatten++(ls.drop (k+1)).flatten:=by rw[← List.flatten_append,List.take_append_drop]
 rw[e,List.length_append,flatE_take h,List.length_append]
 omega
theorem concat_ents(H:Nat)(ls:List (List En.Ent))(w:World)(hv:ThreeE w H ls)(h3:ls.length=3)(h0:0<ls.flatten.length)(hlen:ls.flatten.length≤1048576) :
 Calls Tryz.prog 144 #[.slice (some ⟨H,0,none⟩) 3 3] w (MadeE w ls.flatten):=by
 have HC:=Lib.hid hv
 have H0:=Lib.hid h0
 have H3:=Lib.hid h3
 clear hv h0 h3
 go_enter Tryz.func144,Tryz.ntmps144
 go_wp2
 go_loop [3,11] (fun s i => ∃k S:Nat,i = .int .i64 (k:Int)∧s = .int .i64 (S:Int)∧k≤3∧S≤1048576∧Hid (S=(ls.take k).flatten.length)) (fun _ i=>3 - (intOf i).toNat)
 case atStart=>exact⟨0,0,rfl,rfl,by omega,by omega,show 0=_ by simp⟩
 case round =>
  obtain⟨k,S,rfl,rfl,hk,hS,HS⟩:=hrel
  by_cases hlt:k<3
  ·obtain⟨l,hl⟩ : ∃l,ls[k]? = some l:=⟨_,List.getElem?_eq_getElem (by have:=H3.out;omega)⟩
   obtain⟨u,hu,hr⟩:=HC.out k l hl
   obtain⟨uo,ucap,rfl,_,_⟩:=ReadsE.shape hr
   have hle:=flatE_len hl
   have H1:Hid (S+l.length=(ls.take (k+1)).flatten.length):=by show _=_;rw[flatE_take hl,List.length_append,HS.out]
   have hSl:S+l.length≤1048576:=by have:=HS.out;omega
   clear hr hl hle
   go_wp2
   go_round
   case rel=>exact⟨k+1,S+l.length,by go_num,by go_num,by omega,hSl,H1⟩
   case measure=>simp[intOf];omega
  ·have hSv:Hid (S=ls.flatten.length):=by show _=_;rw[HS.out,List.take_of_length_le (by have:=H3.out;omega)]
   have hS0:0<S:=by have:=hSv.out;have:=H0.out;omega
   clear HS
   go_wp2_with fail
   refine(grow_ents S w hS0 (by omega)).mono ?_
   rintro e w1 ⟨v1,rfl,ho1,hb1⟩
   go_wp2_with fail
   go_loopw [6,27] (fun x i wr => ∃k:Nat,i = .int .i64 (k:Int)∧k≤3∧OwnsR wr w.heap.size 129 10 x ((ls.take k).flatten.map En.cells)∧Below w.heap.size w wr) (fun _ i _=>3 - (intOf i).toNat)
   case atStart=>exact⟨0,rfl,by omega,by simpa using ho1,hb1⟩
   case round =>
    clear ho1 hb1
    obtain⟨k,rfl,hk,ho,hb⟩:=hrel
    by_cases hlt:k<3
    ·obtain⟨l,hl⟩ : ∃l,ls[k]? = some l:=⟨_,List.getElem?_eq_getElem (by have:=H3.out;omega)⟩
     obtain⟨u,hu,hr⟩:=HC.out k l hl
     obtain⟨uo,ucap,rfl,_,_⟩:=ReadsE.shape hr
     have hle:=flatE_len hl
     have hu' : wr.cell? ⟨H,k,none⟩=some (.slice uo l.length ucap):=(hb.cell (p:=⟨H,k,none⟩) (World.block_lt_of_cell? w _ hu)).trans hu
     have HR:=Lib.hid (ReadsR.below hr hb)
     have HLN:Hid (((ls.take k).flatten.map En.cells).length+(l.map En.cells).length≤1048576):=by show _≤_;rw[List.length_map,List.length_map];omega
     have H2:Hid ((ls.take (k+1)).flatten.map En.cells=(ls.take k).flatten.map En.cells++l.map En.cells):=by show _=_;rw[flatE_take hl,List.map_append]
     have HO:=Lib.hid ho
     have HB:=Lib.hid hb
     clear hu hr hle hl ho hb
     go_wp2_with (at_builtin;refine append_rows rfl _ _ 31 129 10 104 (.agg (En.cells En.zero)) rfl Tryz.underlying31 info_ent rfl (by decide) w.heap.size _ (l.map En.cells) _ _ rfl rfl HO.out HR.out (En.sized l) (by have:=HLN.out;omega) (by have:=HLN.out;omega) w HB.out (Nat.le_refl _) ?_;intro v' w' ho' hb' _)
     go_roundw
     case rel=>exact⟨k+1,by go_num,by omega,by rw[H2.out];exact ho', hb'⟩
     case measure=>simp[intOf];omega
    ·rw[List.take_of_length_le (by have:=H3.out;omega)]at ho
     go_wp2
     go_ret
     exact⟨_,rfl,ho,hb⟩
theorem place_ent(v:Value)(l:List En.Ent)(x:Int)(w:World)(hv:ReadsE w v l)(hp:En.Asc l)(hn:l.length≤1048576) :
 Calls Tryz.prog 143 #[v, .int .i64 x] w (Looks w (.tuple #[.int .i64 (En.below l x:Nat), .int .i64 (En.upto l x:Nat)])):=by
 have hcall:=bsearch_ent v l x w hv hp hn
 obtain⟨ao,cap,rfl,_,_⟩:=ReadsE.shape hv
 have hble:=En.below_le l x
 obtain⟨U,hU⟩ : ∃U,U=En.upto l x:=⟨_,rfl⟩
 rw[← hU]
 unfold En.upto at hU
 obtain⟨B,hB⟩ : ∃B,B=En.below l x:=⟨_,rfl⟩
 obtain⟨F,hF⟩ : ∃F,F=En.found l x:=⟨_,rfl⟩
 rw[← hB, ← hF]at hU hcall
 rw[← hB]at hble ⊢
 have hB9:B≤1048576:=by omega
 obtain⟨n,hnn⟩ : ∃n,n=l.length:=⟨_,rfl⟩
 rw[← hnn]at hcall ⊢
 clear hv hp hn hble hB hF hnn
 cases F with
 | true =>
  have hU1:(B:Int)+1=(U:Int):=by simp at hU;omega
  clear hU
  go_enter Tryz.func143,Tryz.ntmps143
  go_wp2_with (go_at_call 169;refine hcall.mono ?_;rintro e w1 ⟨rfl,hB1⟩)
  go_ret2
  exact⟨rfl,hB1⟩
 | false =>
  obtain rfl:U=B:=by simpa using hU
  clear hU
  go_enter Tryz.func143,Tryz.ntmps143
  go_wp2_with (go_at_call 169;refine hcall.mono ?_;rintro e w1 ⟨rfl,hB1⟩)
  go_ret2
  exact⟨rfl,hB1⟩
theorem find_ent(v:Value)(l:List En.Ent)(x:Int)(w:World)(hv:ReadsE w v l)(hp:En.Asc l)(hn:l.length≤1048576) :
 Calls Tryz.prog 100 #[v, .int .i64 x] w (Looks w (.tuple #[.agg (En.cells (En.find l x)), .bool (En.found l x)])):=by
 obtain⟨w1,e1,hl1,hB1,hz1⟩:=box_ent w En.zero
 dsimp only [En.cells,En.zero,Bl.zero,Cm.zero,Cm.bareOf]at e1
 have hcall:=place_ent v l x w1 (hv.below hB1) hp hn
 have HV1:=Lib.hid (hv.below hB1)
 have HL1:=Lib.hid hl1;have HB1:=Lib.hid hB1
 obtain⟨ao,cap,rfl,hc1,hc2⟩:=ReadsE.shape hv
 have hble:=En.below_le l x
 have hule:=En.upto_le l x
 obtain⟨F,hF⟩ : ∃F,F=En.found l x:=⟨_,rfl⟩
 have HF:=Lib.hid hF
 obtain⟨U,hU⟩ : ∃U,U=En.upto l x:=⟨_,rfl⟩
 obtain⟨B,hB⟩ : ∃B,B=En.below l x:=⟨_,rfl⟩
 have hUB:U=B+(if En.found l x=true then 1 else 0):=by rw[hU,hB];rfl
 have HBB:=Lib.hid hB
 rw[← hB, ← hU]at hcall
 rw[← hF]at hUB ⊢
 rw[← hB]at hble
 rw[← hU]at hule
 obtain⟨n,hnn⟩ : ∃n,n=l.length:=⟨_,rfl⟩
 rw[← hnn]at hcall hble hule hn hc1 HV1 ⊢
 have HN:=Lib.hid hnn
 clear hl1 hB1 hv hp hF hU hB hz1 hnn
 cases F with
 | false =>
  have hUB' : U=B:=by simpa using hUB
  subst hUB'
  have HZ:Hid (En.find l x=En.zero):=En.find_no HF.out.symm
  clear hUB
  go_enter Tryz.func100,Tryz.ntmps100
  go_wp2_with (first | (refine store_ent (by rfl) _ _ (by rfl) w.heap.size En.zero En.zero (by rfl) (by rfl) HL2.out ?_;intro w6 hl6 hg6) | (go_at_call 143;refine hcall.mono ?_;rintro e w2 ⟨rfl,hB2⟩;have HL2:=Lib.hid (HL1.out.below hB2 HL1.out.lt);have HB2:=Lib.hid (HB1.out.trans (hB2.mono HB1.out.size));clear hB2))
  refine ret_ent2 rfl rfl hl6 rfl ?_
  rw[HZ.out]
  exact⟨rfl,HB2.out.grown hg6 HB2.out.size (by rintro j hj;cases hj;exact Nat.le_refl _)⟩
 | true =>
  have hUB' : (B:Int)+1=(U:Int):=by simp at hUB;omega
  have hne:((B:Int) == (U:Int))=false:=by simp;omega
  have hBn:B<n:=by simp at hUB;omega
  obtain⟨e0,he0⟩ : ∃e0,l[B]? = some e0:=⟨_,List.getElem?_eq_getElem (by have:=HN.out;omega)⟩
  have HZ:Hid (En.find l x=e0):=En.find_yes HF.out.symm (by rw[← HBB.out];exact he0)
  obtain⟨g,off,rfl,hgl,hcell⟩:=ReadsE.places HV1.out (by have:=HN.out;omega)
  have HE:=Lib.hid he0
  have HC:=Lib.hid hcell
  clear hUB hUB' hcell he0
  go_enter Tryz.func100,Tryz.ntmps100
  go_wp2_with (first | (refine load_ent rfl _ rfl g (off+B*10) e0 rfl (HC.out _ HBH.out B e0 HE.out) ?_) | (refine store_ent (by rfl) _ _ (by rfl) w.heap.size En.zero e0 (by rfl) (by rfl) HL2.out ?_;intro w6 hl6 hg6) | (go_at_call 143;refine hcall.mono ?_;rintro e w2 ⟨rfl,hB2⟩;have HBH:=Lib.hid hB2;have HL2:=Lib.hid (HL1.out.below hB2 HL1.out.lt);have HB2:=Lib.hid (HB1.out.trans (hB2.mono HB1.out.size));clear hB2))
  refine ret_ent2 rfl rfl hl6 rfl ?_
  rw[HZ.out]
  exact⟨rfl,HB2.out.grown hg6 HB2.out.size (by rintro j hj;cases hj;exact Nat.le_refl _)⟩
theorem from_ent(v:Value)(l:List En.Ent)(x:Int)(w:World)(hv:ReadsE w v l)(hp:En.Asc l)(hn:l.length≤1048576) :
 Calls Tryz.prog 101 #[v, .int .i64 x] w (MadeE w (l.drop (En.below l x))):=by
 have hcall:=place_ent v l x w hv hp hn
 obtain⟨ao,cap,rfl,hc1,hc2⟩:=ReadsE.shape hv
 have hble:=En.below_le l x
 obtain⟨U,hU⟩ : ∃U,U=En.upto l x:=⟨_,rfl⟩
 obtain⟨B,hB⟩ : ∃B,B=En.below l x:=⟨_,rfl⟩
 rw[← hB, ← hU]at hcall
 rw[← hB]at hble ⊢
 obtain⟨ao2,hs,hr⟩:=ReadsR.part hv B l.length cap hble (Nat.le_refl _) hc1 (Nat.le_refl _)
 have hrs:((l.map En.cells).take l.length).drop B=(l.drop B).map En.cells:=by rw[List.take_of_length_le (by simp),List.map_drop]
 rw[hrs]at hr
 have HR:=Lib.hid hr
 have hsl:=fun W=>run_rest_ent W ao l.length cap B hble
 rw[hs]at hsl
 have HK:=Lib.hid (fun(W:World) h=>clone_ents (.slice ao2 (l.length - B) (cap - B)) (l.drop B) W h (by rw[List.length_drop];omega))
 obtain⟨m,hm⟩ : ∃m,m=l.length - B:=⟨_,rfl⟩
 obtain⟨c,hc⟩ : ∃c,c=cap - B:=⟨_,rfl⟩
 rw[← hm, ← hc]at hsl HK HR
 obtain⟨n,hnn⟩ : ∃n,n=l.length:=⟨_,rfl⟩
 rw[← hnn]at hcall hsl ⊢
 clear hv hp hB hU hm hc hs hr hrs hnn
 go_enter Tryz.func101,Tryz.ntmps101
 go_wp2_with (first | (go_at_call 143;refine hcall.mono ?_;rintro e w2 ⟨rfl,hB2⟩) | (go_at_call 102;refine(HK.out _ (HR.out.below hB2)).mono ?_;rintro e w3 ⟨v3,rfl,ho3,hB3⟩))
 go_ret
 exact⟨_,rfl,ho3.mono hB2.size,hB2.trans (hB3.mono hB2.size)⟩
theorem lies_one(w:World)(cells:Array Value)(T:TypeId)(B:Obj):Lies ((w.alloc (.cells cells T)).alloc B).drew w.heap.size T cells:=(Lies.new w T cells).alloc B
theorem lies_two(w:World)(A:Obj)(cells:Array Value)(T:TypeId):Lies ((w.alloc A).alloc (.cells cells T)).drew (w.heap.size+1) T cells:=by
 have h:=Lies.new (w.alloc A) T cells
 rw[show(w.alloc A).heap.size=w.heap.size+1 by simp]at h
 exact h
theorem below_two(w:World)(A B:Obj):Below w.heap.size w ((w.alloc A).alloc B).drew:=(((Below.refl _ w).alloc (Nat.le_refl _) A).alloc (by simp) B).drew
theorem with_ent(v:Value)(l:List En.Ent)(e:En.Ent)(w:World)(hv:ReadsE w v l)(hp:En.Asc l)(hn:l.length≤1000000) :
 Calls Tryz.prog 99 #[v, .agg (En.cells e)] w (MadeE w (En.put l e)):=by
 obtain⟨w1,e1,hl1,hB1,hz1⟩:=box_ent w e
 obtain⟨p0,_⟩:=Ents.ten hl1
 have hv1:=hv.below hB1
 have hcall:=place_ent v l e.index w1 hv1 hp (by omega)
 obtain⟨ao,cap,rfl,hc1,hc2⟩:=ReadsE.shape hv
 have hble:=En.below_le l e.index
 have hule:=En.upto_le l e.index
 have hbu:=En.below_upto l e.index
 have HPUT:Hid (En.put l e = [l.take (En.below l e.index), [e],l.drop (En.upto l e.index)].flatten):=by show _=_;unfold En.put;simp
 obtain⟨U,hU⟩ : ∃U,U=En.upto l e.index:=⟨_,rfl⟩
 obtain⟨B,hB⟩ : ∃B,B=En.below l e.index:=⟨_,rfl⟩
 rw[← hB, ← hU]at hcall HPUT hbu
 rw[← hB]at hble
 rw[← hU]at hule
 obtain⟨ao2,hs2,hr2⟩:=ReadsR.part hv1 0 B cap (Nat.zero_le _) hble (by omega) (Nat.le_refl _)
 rw[Nat.sub_zero,Nat.sub_zero]at hs2 hr2
 rw[List.drop_zero, ← List.map_take]at hr2
 obtain⟨ao3,hs3,hr3⟩:=ReadsR.part hv1 U l.length cap hule (Nat.le_refl _) hc1 (Nat.le_refl _)
 have hrs:((l.map En.cells).take l.length).drop U=(l.drop U).map En.cells:=by rw[List.take_of_length_le (by simp),List.map_drop]
 rw[hrs]at hr3
 have HR2:=Lib.hid hr2;have HR3:=Lib.hid hr3
 have hsl2:=fun W=>run_first_ent W ao l.length cap B (by omega)
 have hsl3:=fun W=>run_rest_ent W ao l.length cap U hule
 rw[hs2]at hsl2
 rw[hs3]at hsl3
 have HLEN:Hid (0 < [l.take B, [e],l.drop U].flatten.length ∧ [l.take B, [e],l.drop U].flatten.length≤1048576):=⟨by simp;omega,by simp;omega⟩
 obtain⟨m,hm⟩ : ∃m,m=l.length - U:=⟨_,rfl⟩
 obtain⟨c,hc⟩ : ∃c,c=cap - U:=⟨_,rfl⟩
 rw[← hm, ← hc]at hsl3 HR3
 obtain⟨n,hnn⟩ : ∃n,n=l.length:=⟨_,rfl⟩
 rw[← hnn]at hcall hsl2 hsl3 ⊢
 have HL1:=Lib.hid hl1;have HB1:=Lib.hid hB1
 clear hv hv1 hp hB hU hm hc hs2 hs3 hr2 hr3 hrs hnn hl1 hB1 hz1 hn hbu hble hule hc1
 go_enter Tryz.func99,Tryz.ntmps99
 go_wp2_with fail
 refine hcall.mono ?_
 rintro e' w2 ⟨rfl,hB2⟩
 have HB2:=Lib.hid hB2
 have HL2:=Lib.hid (HL1.out.below hB2 HL1.out.lt)
 obtain⟨q0,q1,q2,q3,q4,q5,q6,q7,q8,q9⟩:=Ents.ten HL2.out
 have HX:Hid (∀(W:World) (H:Nat),Below w2.heap.size w2 W→Lies W H 31 #[.slice ao2 B cap, .slice (some ⟨w2.heap.size,0,none⟩) 1 1, .slice ao3 m c]→Lies W w2.heap.size 129 (En.cells e)→Calls Tryz.prog 144 #[.slice (some ⟨H,0,none⟩) 3 3] W (MadeE w (En.put l e))):=by
  intro W H hb h1 h2
  have hwW:Below w.heap.size w W:=(HB1.out.trans (HB2.out.mono HB1.out.size)).trans (hb.mono (Nat.le_trans HB1.out.size HB2.out.size))
  rw[HPUT.out]
  refine(concat_ents H _ W (fun k x hk => ?_) rfl HLEN.out.1 HLEN.out.2).mono fun e' w3 ⟨v3,h3,ho,h4⟩=>⟨v3,h3,ho.mono hwW.size,hwW.trans (h4.mono hwW.size)⟩
  match k with
  | 0=>simp at hk;subst hk;exact⟨_,h1.cell 0 _ rfl,(HR2.out.below HB2.out).below hb⟩
  | 1=>simp at hk;subst hk;exact⟨_,h1.cell 1 _ rfl,ReadsR.single h2⟩
  | 2=>simp at hk;subst hk;exact⟨_,h1.cell 2 _ rfl,(HR3.out.below HB2.out).below hb⟩
  | k+3=>simp at hk
 clear hcall p0 hB2
 go_wp2
 go_region_law (first
  | (rw[if_pos (by rfl)];go_simp;go_at_call 144
     refine(HX.out _ _ (below_two _ _ _) (lies_two _ _ _ _) (lies_one _ _ _ _)).mono ?_;rintro e' w3 ⟨v3,rfl,ho3,hB3⟩
     dsimp only))
 all_goals
  simp only[Act.put,List.getElem_toArray,List.getElem_cons_succ,List.getElem_cons_zero,List.setIfInBounds_toArray,List.set_cons_succ,List.set_cons_zero]
  go_wp2
  go_ret
  exact⟨_,rfl,ho3,hB3⟩
end Go.Proofs.YtdkdjofnnnljjaaGreatDoor
