/- Several texts of mine in one: GMg CmFew. -/
import Derived.Test.YtdkdjofnnnljjaaGreatDoorGPl
import Derived.Test.YtdkdjofnnnljjaaGreatDoorGCw
import Derived.Test.YtdkdjofnnnljjaaGreatDoorPGMp
import Derived.Test.YtdkdjofnnnljjaaGreatDoorGMb
namespace Go.Proofs.YtdkdjofnnnljjaaGreatDoor
open Go.RowKit
set_option maxHeartbeats 1600000
set_option maxRecDepth 4000
theorem Cm.get_inv_at(v:Int)(b:List UInt8)(p:Nat)(er:Int)(hp:p≤b.length):(Cm.get v b p er).2.1≤b.length∧(Cm.get v b p er).1.Short b.length∧(Cm.get v b p er).1.Fits:=by
 unfold Cm.get
 have hS : ∀n,(Cm.bareOf n).Short b.length:=fun n=>⟨by simp[Cm.bareOf],by simp[Cm.bareOf],by simp[Cm.bareOf]⟩
 rcases Cm.rnum_cases b p er with ⟨e,_,hn⟩ | ⟨n,q,_,_,hq,hb,hn,_⟩
 ·rw[hn]
  exact Cm.fold_inv b _ _ (by simpa using hp) (hS _) (by constructor<;>simp[Cm.bareOf])
 ·rw[hn]
  exact Cm.fold_inv b _ _ (by simpa using hq) (hS _) (by constructor<;>simp[Cm.bareOf]<;>omega)
theorem En.get1_inv(v:Int)(b:List UInt8)(p:Nat)(er:Int)(hp:p≤b.length):(En.get1 v b p er).1.cmd.Short b.length∧(En.get1 v b p er).1.Fits:=by
 have l3:=Cm.rnum_le b _ (Cm.rnum b (Cm.rnum b p er).2.1.toNat (Cm.rnum b p er).2.2).2.2 (Cm.rnum_le b _ (Cm.rnum b p er).2.2 (Cm.rnum_le b p er hp))
 have l4:=Cm.rnum_le b _ (Cm.rnum b (Cm.rnum b (Cm.rnum b p er).2.1.toNat (Cm.rnum b p er).2.2).2.1.toNat (Cm.rnum b (Cm.rnum b p er).2.1.toNat (Cm.rnum b p er).2.2).2.2).2.2 l3
 obtain⟨_,h2,h3⟩:=Cm.get_inv_at v b _ (Cm.rnum b (Cm.rnum b (Cm.rnum b p er).2.1.toNat (Cm.rnum b p er).2.2).2.1.toNat (Cm.rnum b (Cm.rnum b p er).2.1.toNat (Cm.rnum b p er).2.2).2.2).2.2 l3
 have n1:=Ms.rnum_num b p er
 have n2:=Ms.rnum_num b (Cm.rnum b p er).2.1.toNat (Cm.rnum b p er).2.2
 have n3:=Ms.rnum_num b (Cm.rnum b (Cm.rnum b p er).2.1.toNat (Cm.rnum b p er).2.2).2.1.toNat (Cm.rnum b (Cm.rnum b p er).2.1.toNat (Cm.rnum b p er).2.2).2.2
 refine⟨h2,⟨?_, ?_,⟨?_, ?_, ?_, ?_⟩,h3⟩⟩<;>(dsimp only [En.get1];omega)
theorem En.gets_inv(v:Int)(b:List UInt8)(p:Nat)(er:Int)(hp:p≤b.length) : ∀k,∀e∈(En.gets v b p er k).1,e.cmd.Short b.length∧e.Fits
 | 0,e,h=>by simp[En.gets]at h
 | k+1,e,h=>by
  unfold En.gets at h
  dsimp only at h
  rcases List.mem_append.1 h with h | h
  ·exact En.gets_inv v b p er hp k e h
  ·rw[List.mem_singleton]at h
   subst h
   exact En.get1_inv v b _ _ (En.gets_le v b p er hp k)
theorem En.get_inv(v:Int)(b:List UInt8)(p:Nat)(er:Int)(hp:p≤b.length):(∀e∈(En.get v b p er).1,e.cmd.Short b.length∧e.Fits)∧(En.get v b p er).1.length≤256:=by
 unfold En.get
 rcases En.count_cases b p er hp with ⟨e,q,_,hq,h⟩ | ⟨n,q,_,hq,hn,h,_⟩
 ·rw[h]
  dsimp only
  split
  ·exact⟨En.gets_inv v b _ _ (by simpa using hq) _,by simp[En.gets]⟩
  ·exact⟨fun e he=>by simp at he,by simp⟩
 ·rw[h]
  dsimp only
  split
  ·exact⟨En.gets_inv v b _ _ (by simpa using hq) _,by rw[En.gets_len];simpa using hn⟩
  ·exact⟨fun e he=>by simp at he,by simp⟩
theorem Ms.get_inv(b:List UInt8):(Ms.get b).1.Fits∧(∀e∈(Ms.get b).1.ents,e.cmd.Short b.length)∧(Ms.get b).1.ents.length≤256∧(Ms.get b).1.img.length≤b.length:=by
 obtain⟨h1,h2⟩:=En.get_inv 1 b (Ms.rnums b 7).2.1 (Ms.rnums b 7).2.2 (Ms.rnums_le b 7)
 refine⟨⟨fun x hx => ?_,fun e he=>(h1 e he).2⟩,fun e he=>(h1 e he).1,h2, ?_⟩
 ·have hn7:Ms.nums (Ms.get b).1=(Ms.rnums b 7).1:=Ms.seven (Ms.rnums_len b 7)
  rw[hn7]at hx
  have:=Ms.rnums_num b 7 x hx
  omega
 ·rcases Ms.raw_cases b (Ms.gotE b).2.1 (Ms.gotE b).2.2 (En.get_le 1 b _ _ (Ms.rnums_le b 7))with ⟨e,q,_,_,hr⟩ | ⟨s,q,_,_,hs,hr,_⟩
  ·show(Ms.raw b (Ms.gotE b).2.1 (Ms.gotE b).2.2).1.length≤_
   rw[hr];simp
  ·show(Ms.raw b (Ms.gotE b).2.1 (Ms.gotE b).2.2).1.length≤_
   rw[hr];exact hs
theorem Cm.check_short{c:Cm.Cmd}(h:Cm.check c=0):c.Short 48:=by
 obtain⟨hk,ha⟩:=Cm.check_ok h
 unfold Cm.check at h
 rw[hk,if_neg (by simp)]at h
 by_cases h6:(Cm.fields c.kind).all (Cm.within c)=false
 ·rw[if_pos h6]at h;omega
 rw[if_neg h6]at h
 by_cases h7:(Cm.fields c.kind).all (Cm.spelt c)=false
 ·rw[if_pos h7]at h;omega
 have hw:(Cm.fields c.kind).all (Cm.spelt c)=true:=by simpa using h7
 have h' := of_decide_eq_true ha
 have hkey : ∀s:List UInt8,Rn.key ⟨s.toArray⟩=true→s.length≤48:=fun s hs=>by
  unfold Rn.key at hs
  simp only[Bool.and_eq_true,decide_eq_true_eq]at hs
  have:=hs.1.2
  rw[str_size]at this
  omega
 have hval : ∀s:List UInt8,Rn.val ⟨s.toArray⟩=true→s.length≤48:=fun s hs=>by
  unfold Rn.val at hs
  simp only[Bool.and_eq_true,decide_eq_true_eq]at hs
  have:=hs.1.1
  rwa[str_size]at this
 clear h ha h6 h7
 obtain⟨k,cl,sq,nd,ky,od,vl⟩:=c
 dsimp only at hk hw h'
 rcases Vs.kinds k with rfl | rfl | rfl | rfl | rfl | rfl | rfl | rfl | h
 rotate_right
 ·simp[Cm.known]at hk;omega
 all_goals
  simp[Cm.fields,Cm.wipe,Cm.F.num,Cm.Cmd.setN,Cm.Cmd.setS,Cm.bareOf]at h'
  simp[Cm.fields,Cm.spelt,Cm.F.num,Cm.okS,Cm.Cmd.s]at hw
  refine⟨?_, ?_, ?_⟩<;>dsimp only<;>first | (rw[h'.1];simp;done) | (rw[h'.2];simp;done) | (rw[h'.2.1];simp;done) | (rw[h'.2.2];simp;done) | exact hkey _ hw | exact hkey _ hw.1 | exact hkey _ hw.2 | exact hval _ hw.2 | exact hval _ hw.1 | exact hval _ hw.2.1 | exact hval _ hw.2.2 | grind
theorem Short.up{c:Cm.Cmd}{a b:Nat}(h:c.Short a)(hab:a≤b):c.Short b:=⟨Nat.le_trans h.1 hab,Nat.le_trans h.2.1 hab,Nat.le_trans h.2.2 hab⟩
def SavesO(o:Nat)(w w' : World):Prop := ∀(k:Nat) (T:TypeId) (vs:Array Value),k≠o→Lies w k T vs→Lies w' k T vs
theorem SavesO.refl(o:Nat)(w:World):SavesO o w w:=fun _ _ _ _ h=>h
theorem SavesO.trans{o:Nat}{a b c:World}(h:SavesO o a b)(k:SavesO o b c):SavesO o a c:=fun j T vs h1 h2=>k j T vs h1 (h j T vs h1 h2)
theorem SavesO.of_below{o:Nat}{w w' : World}(h:Below w.heap.size w w'):SavesO o w w' := fun _ _ _ _ hl=>hl.below h hl.lt
theorem SavesO.of_grown{o:Nat}{w w' : World}(h:w.grownBy w' (some o)):SavesO o w w' := fun _ _ _ h1 hl=>hl.kept h (by intro e;cases e;exact h1 rfl)
theorem cgetS_any(v:Int)(w:World)(B o:Nat)(u:Value)(s:List UInt8)(p:Nat)(er:Int)(hm:Vs.may v=true)(hr:Rdr w B o u s p er)(hB:B≤w.heap.size) :
 Calls Tryz.prog 177 #[.pointer (some ⟨o,0,none⟩), .int .i64 v] w (fun e' w' => CGot w B o u s (Cm.get v s p er) e' w' ∧ SavesO o w w'):=by
 have ho:=hr.lies.lt
 obtain⟨n,q,e,hq,hx,hn0,hn1⟩:=Cm.rnum_res s p er
 have HQ:=Lib.hid hq
 obtain⟨w1,e1,hl1,hB1,hz1⟩:=box_cmd w Cm.zero
 have HG:Hid (Cm.get v s p er=(Cm.encoded v n).foldl (Cm.gstep s) (Cm.bareOf n,q,e)):=by
  show _=_
  unfold Cm.get
  rw[hq]
  simp
 dsimp only [Cm.cells,Cm.zero,Cm.bareOf]at e1
 have HS1:=Lib.hid (SavesO.of_below (o:=o) hB1)
 have HL1:=Lib.hid hl1;have HB1:=Lib.hid (hB1.mono hB);have HZ1:=Lib.hid hz1
 have HR1:=Lib.hid (hr.kept hB1)
 clear hl1 hB1 hz1 hr hq
 go_enter Tryz.func177,Tryz.ntmps177
 go_wp2_with fail
 refine(may_any v _).mono ?_
 rintro e w2 ⟨rfl,rfl⟩
 rw[hm]
 go_wp2_with fail
 refine(rnumber_any _ B o u s p er n q e HR1.out hx HQ).mono ?_
 rintro e2 w2 ⟨rfl,hr2,hg2⟩
 have hb2:=HB1.out.grown hg2 (Nat.le_trans hB HB1.out.size) (by rintro k hk;cases hk;exact hr2.base)
 have hl2:Cmds w2 w.heap.size Cm.zero:=HL1.out.kept hg2 (by simp;omega)
 have hz2:w.heap.size+1≤w2.heap.size:=by have:=hg2.size;have:=HZ1.out;omega
 have HS2:=Lib.hid (HS1.out.trans (SavesO.of_grown hg2))
 have HB2:=Lib.hid hb2;have HL2:=Lib.hid hl2;have HR2:=Lib.hid hr2
 clear hr2 hg2 hb2 hl2
 go_wp2_with (refine store_cmd (by rfl) _ _ (by rfl) w2.heap.size Cm.zero (Cm.bareOf n) (by rfl) (by rfl) (Lies.new _ _ _) ?_;intro w3 hl3 hg3)
 have hB3:Below w2.heap.size w2 w3:=((Below.refl _ w2).alloc (Nat.le_refl _) _).grown hg3 (by simp) (by rintro j hj;cases hj;exact Nat.le_refl _)
 have hk3:w3.cell? ⟨w2.heap.size,0,none⟩=some (.int .i64 n):=hl3.cell 0 _ rfl
 have hz4:w2.heap.size<w3.heap.size:=hl3.lt
 have HS3:=Lib.hid (HS2.out.trans (SavesO.of_below (o:=o) hB3))
 have HL3:=Lib.hid hl3;have HB3:=Lib.hid (HB2.out.trans (hB3.mono (Nat.le_trans hB HB2.out.size)))
 have HR3:=Lib.hid (HR2.out.kept hB3)
 have HK3:=Lib.hid (HL2.out.below hB3 HL2.out.lt)
 clear hl3 hB3 hg3
 go_wp2_with fail
 refine(encoded_any v w2.heap.size n _ hk3).mono ?_
 rintro e4 w4 ⟨r,rfl,hr,hB4⟩
 obtain⟨ao,rfl⟩:=hr.shape
 have hn:=Cm.encoded_len v n
 obtain⟨fs,hfs⟩ : ∃fs,fs=Cm.encoded v n:=⟨_,rfl⟩
 rw[← hfs]at hr hn ⊢
 have HFS:=Lib.hid hfs
 have HF4:=Lib.hid hr
 have HL4:=Lib.hid (HL3.out.below hB4 HL3.out.lt)
 have HR4:=Lib.hid (HR3.out.kept hB4)
 have HK4:=Lib.hid (HK3.out.below hB4 HK3.out.lt)
 have HS4:=Lib.hid (HS3.out.trans (SavesO.of_below (o:=o) hB4))
 have HB4:=Lib.hid (HB3.out.trans (hB4.mono (Nat.le_trans hB HB3.out.size)))
 clear hr hfs hB4 hk3
 go_wp2
 go_loopw [7,18] (fun _ i wr => ∃(k:Nat) (t:Cm.Cmd × Nat × Int),i = .int .i64 (k:Int)∧k≤fs.length∧Hid (Below B w wr)∧Hid (t=(fs.take k).foldl (Cm.gstep s) (Cm.bareOf n,q,e))∧Hid (Rdr wr B o u s t.2.1 t.2.2)∧Hid (Cmds wr w2.heap.size t.1)∧Hid (FRow wr w3.heap.size (.slice ao fs.length fs.length) w2.heap.size fs)∧Hid (Cmds wr w.heap.size Cm.zero)∧Hid (SavesO o w wr)) (fun _ i _=>fs.length - (intOf i).toNat)
 case atStart=>exact⟨0,(Cm.bareOf n,q,e),rfl,by omega,HB4,rfl,HR4,HL4,HF4,HK4,HS4⟩
 case round =>
  obtain⟨k,t,rfl,hk,HB,HT,HR,HL,HF,HK,HS⟩:=hrel
  by_cases hlt:k<fs.length
  ·have hlt' : (k:Int)<(fs.length:Int):=by omega
   obtain⟨f,hff⟩ : ∃f,fs[k]? = some f:=⟨_,List.getElem?_eq_getElem hlt⟩
   obtain⟨g,rfl,hcell⟩:=HF.out.cell hff
   have HFK:=Lib.hid hff
   clear hff
   go_wp2_with fail
   refine(fget_any w2.heap.size t f _ B o u s HR.out HL.out (by omega) (by omega)).mono ?_
   rintro e5 w5 ⟨rfl,hl5,hr5,hs5,hb5⟩
   have HL5:=Lib.hid hl5
   have HR5:=Lib.hid hr5
   have HF5:=Lib.hid (HF.out.saves hs5 (by omega) (by omega))
   have HK5:=Lib.hid (hs5 _ _ _ (by omega) (by omega) HK.out)
   have HB5:=Lib.hid (HB.out.trans hb5)
   have HS5:Hid (SavesO o w w5):=fun k T vs h1 h2=>hs5 k T vs h1 (by have:=h2.lt;omega) (HS.out k T vs h1 h2)
   clear hl5 hr5 hs5 hb5
   go_wp2
   go_roundw
   case rel =>
    refine⟨k+1,Cm.gstep s t f,by go_num,by omega,HB5, ?_,HR5,HL5,HF5,HK5,HS5⟩
    show _=_
    rw[List.take_add_one,HFK.out,List.foldl_append, ← HT.out]
    rfl
   case measure=>simp[intOf];omega
  ·have hlt' : ¬(k:Int)<(fs.length:Int):=by omega
   have ht:=HT.out
   rw[List.take_of_length_le (by omega),HFS.out, ← HG.out]at ht
   have HT2:=Lib.hid ht
   clear ht
   have p0:wr.cell? ⟨w2.heap.size,0,none⟩=some (.int .i64 t.1.kind):=HL.out.cell 0 _ rfl
   have p1:wr.cell? ⟨w2.heap.size,1,none⟩=some (.int .i64 t.1.client):=HL.out.cell 1 _ rfl
   have p2:wr.cell? ⟨w2.heap.size,2,none⟩=some (.int .i64 t.1.seq):=HL.out.cell 2 _ rfl
   have p3:wr.cell? ⟨w2.heap.size,3,none⟩=some (.string ⟨t.1.key.toArray⟩):=HL.out.cell 3 _ rfl
   have p4:wr.cell? ⟨w2.heap.size,4,none⟩=some (.string ⟨t.1.val.toArray⟩):=HL.out.cell 4 _ rfl
   have p5:wr.cell? ⟨w2.heap.size,5,none⟩=some (.string ⟨t.1.old.toArray⟩):=HL.out.cell 5 _ rfl
   have p6:wr.cell? ⟨w2.heap.size,6,none⟩=some (.int .i64 t.1.node):=HL.out.cell 6 _ rfl
   go_wp2_with (first
    | (refine store_cmd (by rfl) _ _ (by rfl) w.heap.size Cm.zero t.1 (by rfl) (by rfl) HK.out ?_;intro w6 hl6 hg6))
   refine ret_cmd1 rfl rfl hl6 rfl ?_
   rw[← HT2.out]
   exact⟨⟨rfl,HR.out.beside' hg6 (by omega) (fun h=>HK.out.not_row (by decide) HR.out.owns h.symm),HB.out.grown hg6 (Nat.le_trans hB HB.out.size) (by rintro j hj;cases hj;exact hB)⟩,
    fun k T vs h1 h2=>(HS.out k T vs h1 h2).kept hg6 (by have:=h2.lt;simp;omega)⟩
theorem eget_end{w0 w v w' : World}{B o b:Nat}{u:Value}{s:List UInt8}{q:Nat}{e:Int}{T:TypeId}{vs' : Array Value}(hT:T≠5)(hB:B≤w0.heap.size)(hb:w0.heap.size≤b)(ho:o<w0.heap.size)
 (HB:Below B w0 w) (HS:SavesO o w0 w) (hr:Rdr v B o u s q e) (hg:w.grownBy v (some o)) (vs:Array Value) (hl:Lies w b T vs) (_hl' : Lies w' b T vs') (hg' : v.grownBy w' (some b)) :
 Rdr w' B o u s q e∧Below B w0 w' ∧ SavesO o w0 w' ∧ (∀k T' us,k≠o→k≠b→Lies w k T' us→Lies w' k T' us):=by
 have hbo:b≠o:=by omega
 have hlv:Lies v b T vs:=hl.kept hg (by simp;omega)
 refine⟨hr.beside' hg' hbo (fun h=>hlv.not_row hT hr.owns h.symm), ?_, ?_, ?_⟩
 ·exact(HB.grown hg (Nat.le_trans hB HB.size) (by rintro x hx;cases hx;exact hr.base)).grown hg' (Nat.le_trans hB (Nat.le_trans HB.size hg.size)) (by rintro x hx;cases hx;omega)
 ·intro k T' us h1 h2
  exact((HS k T' us h1 h2).kept hg (by simp;omega)).kept hg' (by have:=h2.lt;simp;omega)
 ·intro k T' us h1 h2 h3
  exact(h3.kept hg (by simp;omega)).kept hg' (by simp;omega)
abbrev RowE(w:World)(g:Nat)(l:List En.Ent):Prop:=Lies w g 129 (flatR (l.map En.cells)).toArray
theorem En.flat_len10(l:List En.Ent):(flatR (l.map En.cells)).length=l.length*10:=by rw[flatR_len (En.sized l),List.length_map]
theorem En.made(n:Nat):madeCells (Value.agg (En.cells En.zero)).cells (n*10)=(flatR ((List.replicate n En.zero).map En.cells)).toArray:=by
 refine Array.ext_getElem? fun j => ?_
 by_cases hj:j<n*10
 ·have hz:(Value.agg (En.cells En.zero)).cells=En.cells En.zero:=rfl
  have hi:j / 10<n:=by omega
  have hr:(List.replicate n En.zero).map En.cells=List.replicate n (En.cells En.zero):=by simp
  have h1:=flatR_at (k:=10) (rs:=List.replicate n (En.cells En.zero)) (hr ▸ En.sized _) (i:=j / 10) (r:=En.cells En.zero) (j:=j % 10) (u:=(En.cells En.zero)[j % 10]'(by show j % 10<10;omega)) (by rw[List.getElem?_replicate,if_pos hi]) (Array.getElem?_eq_getElem _)
  rw[show j / 10*10+j % 10=j by omega]at h1
  have e2 : ∀(L:List Value) (j:Nat),L.toArray[j]? = L[j]? := fun L j=>by simp
  rw[hr,e2 (flatR (List.replicate n (En.cells En.zero))) j,h1,hz]
  unfold madeCells
  rw[Array.getElem?_map,Array.getElem?_range,if_pos hj]
  show some ((En.cells En.zero)[j % 10]!)=_
  rw[getElem!_pos (En.cells En.zero) (j % 10) (by show j % 10<10;omega)]
 ·rw[Array.getElem?_eq_none (by rw[size_madeCells];omega),Array.getElem?_eq_none (by rw[List.size_toArray,En.flat_len10,List.length_replicate];omega)]
theorem RowE.reads{w:World}{g n:Nat}{l:List En.Ent}(h:RowE w g l)(hn:n=l.length)(hm:n≤1048576):ReadsE w (.slice (some ⟨g,0,none⟩) n n) l:=by
 refine⟨_,n,by rw[hn,List.length_map],by rw[List.length_map];omega,by unfold maxLen;omega,(fun h=>by cases h),fun a ha i r hr j u hu => ?_⟩
 cases ha
 have h1:=flatR_at (En.sized l) hr hu
 rw[Addr.add_lit,Nat.zero_add]
 exact h.cell _ u (by simpa using h1)
def ListE(o:Nat)(w:World)(v:Value)(l:List En.Ent):Prop:=(v = .slice none 0 0∧l = []) ∨ ∃g,g≠o∧v = .slice (some ⟨g,0,none⟩) l.length l.length∧l.length≤1048576∧RowE w g l
theorem ListE.reads{o:Nat}{w:World}{v:Value}{l:List En.Ent}(h:ListE o w v l):ReadsE w v l:=by
 rcases h with ⟨rfl,rfl⟩ | ⟨g,_,rfl,hm,hr⟩
 ·exact ReadsR.empty w 10
 ·exact hr.reads rfl hm
theorem ListE.saves{o:Nat}{w w' : World}{v:Value}{l:List En.Ent}(h:ListE o w v l)(hs:SavesO o w w'):ListE o w' v l:=by
 rcases h with h | ⟨g,hg,hv,hm,hr⟩
 ·exact .inl h
 ·exact .inr ⟨g,hg,hv,hm,hs _ _ _ hg hr⟩
theorem ListE.one{o:Nat}{w:World}{v:Value}{l:List En.Ent}(h:ListE o w v l):v.oneCell' = true:=by
 rcases h with ⟨rfl,_⟩ | ⟨g,_,rfl,_,_⟩<;>rfl
theorem ListE.kept{o b:Nat}{w w' : World}{v:Value}{l:List En.Ent}{T:TypeId}{vs:Array Value}(h:ListE o w v l)(hl:Lies w b T vs)(hT:T≠129)(hg:w.grownBy w' (some b)):ListE o w' v l:=by
 rcases h with h | ⟨g,hgo,hv,hm,hr⟩
 ·exact .inl h
 ·refine .inr ⟨g,hgo,hv,hm,Lies.kept hr hg ?_⟩
  intro e
  obtain rfl:g=b:=by simpa using e
  have h' : Lies w g T vs:=hl
  unfold RowE Lies at hr
  unfold Lies at h'
  rw[hr]at h'
  simp only[Option.some.injEq,Obj.cells.injEq]at h'
  exact hT h'.2.1.symm
theorem Ms.rnums_succ(b:List UInt8)(k:Nat):Ms.rnums b (k+1)=((Ms.rnums b k).1 ++ [(Cm.rnum b (Ms.rnums b k).2.1 (Ms.rnums b k).2.2).1],(Cm.rnum b (Ms.rnums b k).2.1 (Ms.rnums b k).2.2).2.1.toNat,(Cm.rnum b (Ms.rnums b k).2.1 (Ms.rnums b k).2.2).2.2):=rfl
theorem Ms.cells_no8(m:Ms.Msg)(eo io:Option Addr)(en ec ik ic:Nat)(c:Int) : ∀k:Nat,(Ms.cells m (.slice eo en ec) (.slice io ik ic))[k]? ≠ some (Value.int .u8 c)
 | 0=>by simp[Ms.cells]
 | 1=>by simp[Ms.cells]
 | 2=>by simp[Ms.cells]
 | 3=>by simp[Ms.cells]
 | 4=>by simp[Ms.cells]
 | 5=>by simp[Ms.cells]
 | 6=>by simp[Ms.cells]
 | 7=>by simp[Ms.cells]
 | 8=>by simp[Ms.cells]
 | 9=>by simp[Ms.cells]
 | k+10=>by simp[Ms.cells]
theorem ListE.slice{o:Nat}{w:World}{v:Value}{l:List En.Ent}(h:ListE o w v l) : ∃ao n c,v = .slice ao n c:=by
 rcases h with ⟨rfl,_⟩ | ⟨g,_,rfl,_,_⟩<;>exact⟨_,_,_,rfl⟩
end Go.Proofs.YtdkdjofnnnljjaaGreatDoor

namespace Go.Proofs.YtdkdjofnnnljjaaGreatDoor
open Go.RowKit
theorem Cm.bytes_few(v:Int)(c:Cm.Cmd)(hf:c.Fits)(hs:c.Short 48):(Cm.bytes v c).length≤198:=by
 have a4:=enc_nine (n:=c.kind.toNat) (by have:=hf.k1;omega)
 have a5:=enc_nine (n:=c.client.toNat) (by have:=hf.c1;omega)
 have a6:=enc_nine (n:=c.seq.toNat) (by have:=hf.q1;omega)
 have a7:=enc_nine (n:=c.node.toNat) (by have:=hf.n1;omega)
 have a8:=enc_nine (n:=c.key.length) (by have:=hs.1;omega)
 have a9:=enc_nine (n:=c.val.length) (by have:=hs.2.2;omega)
 have a10:=enc_nine (n:=c.old.length) (by have:=hs.2.1;omega)
 have c1:=hs.1
 have c2:=hs.2.1
 have c3:=hs.2.2
 have h:((Cm.encoded v c.kind).flatMap (Cm.fenc c)).length≤189:=by
  unfold Cm.encoded
  by_cases h1:v=1
  ·rw[if_pos h1]
   simp[Cm.fenc,Cm.F.num,Cm.Cmd.n,Cm.Cmd.s,Pk.text]
   omega
  ·rw[if_neg h1]
   rcases Vs.kinds c.kind with q | q | q | q | q | q | q | q | q
   rotate_right
   ·rw[Cm.fields_no (by omega) (by omega) (by omega) (by omega) (by omega) (by omega)];simp
   all_goals
    rw[q]
    simp[Cm.fields,Cm.fenc,Cm.F.num,Cm.Cmd.n,Cm.Cmd.s,Pk.text]<;>omega
 unfold Cm.bytes
 rw[List.length_append]
 omega
end Go.Proofs.YtdkdjofnnnljjaaGreatDoor
