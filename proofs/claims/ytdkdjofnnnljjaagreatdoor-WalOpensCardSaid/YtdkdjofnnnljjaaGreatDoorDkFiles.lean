/- contents.list, contents.clone. Written by a program. -/
import Derived.Test.YtdkdjofnnnljjaaGreatDoorPDkHold
import Derived.Test.YtdkdjofnnnljjaaGreatDoorPRound
import Derived.Shelf.Abstract
namespace Go.Proofs.YtdkdjofnnnljjaaGreatDoor
open Go.RowKit
set_option maxHeartbeats 3200000
set_option maxRecDepth 100000
section
open Go.RowKit Go.Shelf
attribute [local go_sem] Oper.semAt_some
def walkQ(n0 Bn:Nat)(k:Nat)(o:Obj):Prop:=k<n0∨k=Bn ∨ ∃cs fr,o = .cells cs 3 fr
theorem walk_put{n0 Bn:Nat}{A:World}{l:Nat}{o o' : Obj}(hl:A.heap[l]? = some o)(ho:o.isCells=false)(h0:n0≤l)(hB:l≠Bn):Kp (walkQ n0 Bn) A (A.putObj l o') :=
 Kp.of_grown (grownBy_putObj' A l o') fun b o2 e hb hq=>by
  simp only[Option.some.injEq]at e
  subst e
  rw[hl]at hb
  cases hb
  rcases hq with h | h | ⟨cs,fr,rfl⟩
  ·omega
  ·exact hB h
  ·cases ho
theorem below_row{B n0:Nat}{w W W' : World}{row:Option Nat}(hb:Below n0 w W)(hg:W.grownBy W' row)(hn:n0≤W.heap.size)(hr : ∀r,row=some r→B≤r)(hB:n0≤B):Below n0 w W' :=
 hb.grown hg hn fun k e=>Nat.le_trans hB (hr k e)
theorem boxed_rowk{W W' : World}{row:Option Nat}{b:Nat}{t:TypeId}{v:Value}(h:Boxed W b t v)(hg:W.grownBy W' row)(hr : ∀r,row=some r → ∃o:Obj,W.heap[r]? = some o∧o.isCells=false):Boxed W' b t v :=
 h.kept hg (fun e=>by obtain⟨o,ho,hc⟩:=hr b e.symm;rw[show W.heap[b]? = _ from h]at ho;cases ho;cases hc)
theorem comes{zs:List Row}{pre:List (Int × Value)}{x:Int × Value}{post:List (Int × Value)}(h:Dk.onto (·.1) zs=pre++x :: post) : ∃d,(x.1,(x.2,d))∈zs∧(Dk.onto (·.2) zs)[pre.length]? = some (x.1,d):=by
 have h1:(Dk.onto (·.1) zs)[pre.length]? = some x:=by rw[h];simp
 unfold Dk.onto at h1 ⊢
 rw[List.getElem?_map,Option.map_eq_some_iff]at h1
 obtain⟨z,hz,rfl⟩:=h1
 obtain⟨n,v,d⟩:=z
 exact⟨d,List.mem_of_getElem? hz,by simp[hz]⟩
def listI(w:World)(mv:Option Nat)(F:Dk.Files)(pre:List (Int × Value))(W:World):Prop :=
 (∃v,Boxed W w.heap.size 63 v∧FilesO (fun k t=>t=5∧w.heap.size≤k) W w.heap.size v (F.take pre.length))∧Boxed W (w.heap.size+1) 74 (.map mv)∧Below w.heap.size w W
theorem listI_own(w:World)(mv:Option Nat)(F:Dk.Files)(B:Nat)(hB:w.heap.size≤B):OwnFrom B (listI w mv F):=by
 rintro pre W W' row ⟨⟨v,hv,ho⟩,ha,hb⟩ hg hr
 have hr' : ∀r,row=some r → ∃o:Obj,W.heap[r]? = some o∧o.isCells=false:=fun r e=>(hr r e).2
 refine⟨⟨v,boxed_rowk hv hg hr', ho.stays (fun g e => ?_) (Keep.of_grown hg fun g cs t fr e hc=>by obtain⟨o,ho,hc'⟩:=hr' g e;rw[hc]at ho;cases ho;cases hc')⟩,boxed_rowk ha hg hr', below_row hb hg hb.size (fun r e=>(hr r e).1) hB⟩
 obtain⟨cs,hc,_⟩:=ho.blocks e
 refine hg.block g (lt_of_obj hc) fun e' => ?_
 obtain⟨o,ho', hc'⟩:=hr' g e'.symm
 rw[hc]at ho'
 cases ho'
 cases hc'
theorem list_step{w A w4:World}{lv:Value}{F:Dk.Files}{xn:Int}{d:List UInt8}{g:Nat}{u:Value}(hol:FilesO (fun k t=>t=5∧w.heap.size≤k) A w.heap.size lv F)(hb4:Below A.heap.size A w4)
 (hL4:Lies w4 g 72 (Dk.cellF (xn,d) u)) (ho4:Owns w4 A.heap.size 5 u d) (hsA:w.heap.size≤A.heap.size) (hl:(F.length+1)*32≤140737488355328) (hl2:F.length+1≤140737488355328) :
 ∃v5 w5,(Builtin.append_ #[63,63] 63 #[lv, .slice (some ⟨g,0,none⟩) 1 1]).run Tryz.prog w4 = .ok v5 w5∧FilesO (fun k t=>t=5∧w.heap.size≤k) w5 w.heap.size v5 (F ++ [(xn,d)])∧w4.grownBy w5 lv.ownBlock:=by
 have hs4:=hb4.size
 have hu4:ReadsP (fun k t=>t=5∧w.heap.size≤k) w4 u d:=ReadsP.own ho4 (fun g e=>by obtain⟨cs,hc,hg⟩:=ho4.cells e;exact⟨rfl,by omega⟩)
 obtain⟨v5,w5,hrun,ho5,hg5,_⟩:=(ListO.below hol hb4).snoc (P:=Tryz.prog) (t:=63) 63 Dk.cellF_ok Tryz.underlying63 info_file rfl (by decide) (by omega) (xn,d) u hL4 hu4 hl hl2 (fun g _ hp=>by exact absurd hp.1 (by decide))
 exact⟨v5,w5,hrun,ho5,hg5⟩
theorem files_shape{p:Nat→TypeId→Prop}{w:World}{base:Nat}{v:Value}{F:Dk.Files}(h:FilesO p w base v F) : ∃ao cap,v = .slice ao F.length cap:=by
 obtain⟨ps,e,h1,_⟩:=h
 obtain⟨ao,cap,e2⟩:=OwnsR.shape h1
 rw[rowsOf_len, ← e]at e2
 exact⟨ao,cap,e2⟩
theorem list_box{w A w4 w5:World}{lv:Value}{F:Dk.Files}(hbl:Boxed A w.heap.size 63 lv)(hol:FilesO (fun k t=>t=5∧w.heap.size≤k) A w.heap.size lv F)(hb4:Below A.heap.size A w4)(hg5:w4.grownBy w5 lv.ownBlock):Lies w5 w.heap.size 63 #[lv]:=by
 have h4:Lies w4 w.heap.size 63 #[lv]:=(hb4.block _ hbl.lt).trans hbl
 refine h4.kept hg5 fun e => ?_
 obtain⟨cs,hc,_⟩:=(ListO.below hol hb4).blocks e.symm
 rw[show w4.heap[w.heap.size]? = _ from h4]at hc
 cases hc
theorem list_round{w A w4 w5 w6:World}{mv:Option Nat}{zs:List Row}{pre:List (Int × Value)}{x:Int × Value}{xn:Int}{d:List UInt8}{lv v5:Value}{base:Nat}(htk:(Dk.onto (·.2) zs).take (pre ++ [x]).length=(Dk.onto (·.2) zs).take pre.length ++ [(xn,d)])
 (hbl:Boxed A w.heap.size 63 lv) (hol:FilesO (fun k t=>t=5∧w.heap.size≤k) A w.heap.size lv ((Dk.onto (·.2) zs).take pre.length)) (hbc:Boxed A (w.heap.size+1) 74 (.map mv)) (hBA:Below w.heap.size w A) (_:base≤A.heap.size) (hb4:Below A.heap.size A w4)
 (ho5:FilesO (fun k t=>t=5∧w.heap.size≤k) w5 w.heap.size v5 ((Dk.onto (·.2) zs).take pre.length ++ [(xn,d)])) (hg5:w4.grownBy w5 lv.ownBlock) (hl6:Lies w6 w.heap.size 63 #[v5]) (hg6:w5.grownBy w6 (some w.heap.size)) :
 KeepsFrom base A w6∧Kp (walkQ w.heap.size (w.heap.size+1)) A w6∧listI w mv (Dk.onto (·.2) zs) (pre ++ [x]) w6:=by
 have hsA:=hBA.size
 have hol4:=ListO.below hol hb4
 have hk:Kp (fun k o=>o.isCells=false∨walkQ w.heap.size (w.heap.size+1) k o) A w6:=by
  refine(Kp.all hb4).trans ((Kp.of_grown hg5 fun b o e hb hq => ?_).trans (Kp.of_grown hg6 fun b o e hb hq => ?_))
  ·obtain⟨cs,hc,hge⟩:=hol4.blocks e
   rw[hb]at hc
   cases hc
   rcases hq with h | h | h | ⟨cs', fr,h⟩
   ·cases h
   ·omega
   ·subst h
    have:=(hb4.block _ hbc.lt).trans hbc
    rw[hb]at this
    cases this
   ·cases h
  ·simp only[Option.some.injEq]at e
   subst e
   have:=list_box hbl hol hb4 hg5
   rw[show w5.heap[w.heap.size]? = _ from this]at hb
   cases hb
   rcases hq with h | h | h | ⟨cs', fr,h⟩
   ·cases h
   ·omega
   ·omega
   ·cases h
 refine⟨⟨hk.size,fun k o _ h ho=>hk.same k o h (.inl ho)⟩,hk.imp fun b o _ h => .inr h,⟨v5,hl6, ?_⟩, ?_, ?_⟩
 ·rw[htk]
  refine ho5.stays (fun g e => ?_) (Keep.of_grown hg6 fun g cs t fr e hc hp => ?_)
  ·obtain⟨cs,hc,_⟩:=ho5.blocks e
   refine hg6.block g (lt_of_obj hc) fun e' => ?_
   simp only[Option.some.injEq]at e'
   subst e'
   have:=list_box hbl hol hb4 hg5
   rw[show w5.heap[w.heap.size]? = _ from this]at hc
   cases hc
  ·simp only[Option.some.injEq]at e
   subst e
   have:=list_box hbl hol hb4 hg5
   rw[show w5.heap[w.heap.size]? = _ from this]at hc
   cases hc
   exact absurd hp.1 (by decide)
 ·exact hk.same _ _ hbc (.inr (.inr (.inl rfl)))
 ·exact hBA.trans (hk.below hsA fun b o hb _ => .inr (.inl hb))
theorem list_end{w W:World}{lv:Value}{F:Dk.Files}{m D:Nat}(hol:FilesO (fun k t=>t=5∧w.heap.size≤k) W w.heap.size lv (F.take m))(hBA:Below w.heap.size w W)(hK:W.heap[D]? = some (.deferred (some [])))(hD:w.heap.size≤D)(hm:F.length≤m) :
 FilesP (fun k _=>w.heap.size≤k) (W.putObj D (.deferred none)) lv F∧Below w.heap.size w (W.putObj D (.deferred none)):=by
 have hg:=grownBy_putObj' W D (.deferred none)
 rw[List.take_of_length_le hm]at hol
 have h2:FilesO (fun k _=>w.heap.size≤k) W w.heap.size lv F:=hol.imp fun b cs t fr _ hp=>hp.2
 have hp:FilesP (fun k _=>w.heap.size≤k) W lv F:=h2.reads Dk.cellF_ok fun g e=>by obtain⟨cs,hc,hg⟩:=h2.blocks e;exact hg
 refine⟨hp.keep (Keep.of_grown hg fun g cs t fr e hc => ?_),hBA.grown hg hBA.size fun k e=>by simp only[Option.some.injEq]at e;omega⟩
 simp only[Option.some.injEq]at e
 subst e
 rw[hK]at hc
 cases hc
theorem list_any{w:World}{mv:Option Nat}{zs:List Row}(h:FilesOr w mv zs)(hs:Dk.wt (Dk.onto (·.2) zs)≤1099511627776) :
 Calls Tryz.prog 58 #[.map mv] w fun e w' => ∃v,e = .returned v∧FilesP (fun k _=>w.heap.size≤k) w' v (Dk.onto (·.2) zs)∧Below w.heap.size w w' := by
 refine(callsIn_wide (n:=9)).1 ?_
 refine callsIn_of_wp_marks Tryz.func58 rfl trivial ?_ rfl
 simp only[Tryz.ntmps58,List.size_toArray,List.length_cons,List.length_nil,Nat.reduceAdd,Nat.reduceSub,Array.replicate_succ,Array.replicate_zero,List.push_toArray,List.append_toArray,List.nil_append,List.cons_append]
 have b0:=Boxed.new w 63 (.slice none 0 0)
 have b1:=Boxed.new (w.alloc (.cells #[.slice none 0 0] 63)) 74 (.map mv)
 have hB1:Below w.heap.size w (w.alloc (.cells #[.slice none 0 0] 63)):=(Below.refl _ w).alloc (Nat.le_refl _) _
 have hB2:Below w.heap.size w ((w.alloc (.cells #[.slice none 0 0] 63)).alloc (.cells #[.map mv] 74)):=hB1.alloc (by simp) _
 have b01:=b0.alloc (.cells #[.map mv] 74)
 rw[World.size_alloc]at b1
 have hlen:zs.length≤17592186044416:=by
  have:=Dk.len_wt (Dk.onto (·.2) zs)
  simp only[Dk.onto,List.length_map]at this
  have h2:=hs
  simp only[Dk.onto]at h2
  omega
 gi_wp2_with (refine⟨trivial, ?_⟩;gi_at_call 83;refine(callsIn_wide.2 (sorted_made mv _)).mono ?_;rintro e w1 ⟨rfl,rfl⟩)
 have hM:=(h.below hB2).map
 refine range_told (n:=9) rfl (by omega) (f:=117) (held := #[.pointer (some ⟨w.heap.size+1,0,none⟩)]) (by simp[Act.eval]) trivial (enters_of Tryz.func117 (by kernel_rfl) rfl)
  (sorted_told (walkQ w.heap.size (w.heap.size+1)) mv (w.heap.size+1) (Dk.onto (·.1) zs) _ (fun b e o => .inl (by
    rcases h with ⟨e', _⟩ | ⟨b', e', h'⟩
    ·rw[e']at e;cases e
    ·rw[e']at e;cases e;exact h'.map.lt)) (fun o => .inr (.inl rfl)) (fun k cs fr => .inr (.inr ⟨cs,fr,rfl⟩)) b1 hM (fun u hu=>by
    obtain⟨z,hz,rfl⟩:=List.mem_map.1 hu
    exact h.range z hz) (by simp only[Dk.onto,List.length_map];exact hlen))
  (Below.refl _ _) Kp.trans (fun A l o o' hl h ho=>walk_put h ho (by simp at hl;omega) (by simp at hl;omega)) (fun _=>rfl)
  (listI w mv (Dk.onto (·.2) zs)) (listI_own w mv _ _ (by simp;omega)) (fun s W W' row hs _ _=>hs) (fun s W W' row hs _ _=>hs) ⟨⟨_,b01,ListO.bare _ _ _ _⟩,b1,hB2⟩
  (fun x=>{ tmps := #[.map mv,undef, .slice none 0 0, .pointer (some ⟨w.heap.size,0,none⟩), .int .i64 x.1,x.2, .map mv, .func (.func 117) #[] #[.pointer (some ⟨w.heap.size+1,0,none⟩)], .int .i64 x.1,x.2,undef,undef,undef,undef,undef,undef,undef,undef],defers := [] }) ?assign ?body ?done
 case assign =>
  intro lp x W K hK
  unfold fileArgs
  gi_wp2
  exact hK
 case body =>
  clear b0 b1 hB1 hB2 b01 hM
  rintro lp pre ⟨xn,xv⟩ A ⟨⟨lv,hbl,hol⟩,hbc,hBA⟩ ⟨post,hpost⟩ hsz
  obtain⟨d,hmem,hFd⟩:=comes hpost
  simp only at hmem hFd
  have hzo:Owns A 0 5 xv d:=Owns.keep (h.own _ hmem) hBA (Nat.le_refl _)
  obtain⟨xo,xc,rfl⟩:=hzo.reads.shape
  have hdl:d.length≤1099511627776:=by
   have:=Dk.wt_mem (List.mem_of_getElem? hFd)
   simp only at this
   omega
  have hpl:pre.length<(Dk.onto (·.2) zs).length:=(List.getElem?_eq_some_iff.1 hFd).1
  have hFl:(Dk.onto (·.2) zs).length≤1099511627776:=by have:=Dk.len_wt (Dk.onto (·.2) zs);omega
  have hcl:=hbl.cell
  have HZ:=Lib.hid hzo.reads;have HBL:=Lib.hid hbl;have HOL:=Lib.hid hol;have HBC:=Lib.hid hbc;have HBA:=Lib.hid hBA;have HFD:=Lib.hid hFd;have HSZ:=Lib.hid hsz
  have HTK:Hid ((Dk.onto (·.2) zs).take (pre ++ [((xn, .slice xo d.length xc):Int × Value)]).length=(Dk.onto (·.2) zs).take pre.length ++ [(xn,d)]):=by
   show _=_
   rw[List.length_append,List.length_singleton,List.take_add_one,hFd]
   rfl
  clear hzo hbl hol hbc hBA hFd hsz hmem hpost
  gi_wp2
  refine region_round (S:=fun _=>True) (by kernel_rfl) (by kernel_rfl) trivial (fun hHeld => ?_)
  refine wpT 1 rfl hHeld ?_
  refine wpT 2 rfl hHeld ?_
  refine wpAnyH_ready (rs := [0,3]) (by kernel_rfl) (by simp) ?_
  refine AllReadyH.cons rfl (fun K hK => ?_) (AllReadyH.cons rfl (fun K hK => ?_) AllReadyH.nil)
  ·rw[if_pos (by rfl)]
   go_simp
   refine hK.out _ _ trivial (fun hHeld => ?_)
   clear hK K
   refine wpAnyH_ready (rs := [3]) (by kernel_rfl) (by simp) ?_
   refine AllReadyH.cons rfl (fun K hK => ?_) AllReadyH.nil
   rw[if_pos (by rfl)]
   go_simp
   go_at_call 61
   refine(clone_any (.slice xo d.length xc) d A.drew (Reads.below HZ.out (drawn A 1)) (by omega)).mono ?_
   rintro e w3 ⟨v3,rfl,ho3,hb3⟩
   obtain⟨ao3,cap3,rfl⟩:=ho3.reads.shape
   have HO3:=Lib.hid ho3;have HB3:=Lib.hid (on (drawn A 1) hb3)
   clear ho3 hb3
   refine hK.out _ _ trivial (fun hHeld => ?_)
   clear hK K
   refine wpT 4 rfl hHeld ?_
   refine wpAnyH_ready (rs := [5]) (by kernel_rfl) (by simp) ?_
   refine AllReadyH.cons rfl (fun K hK => ?_) AllReadyH.nil
   rw[if_pos (by rfl)]
   go_simp
   refine hK.out _ _ trivial (fun hHeld => ?_)
   clear hK K
   have hL4:=Lies.new w3 72 (Dk.cellF (xn,d) (.slice ao3 d.length cap3))
   have hsA:=HBA.out.size
   have hs3:=HB3.out.size
   have hb4:Below A.heap.size A (w3.alloc (.cells (Dk.cellF (xn,d) (.slice ao3 d.length cap3)) 72)):=HB3.out.alloc HB3.out.size _
   obtain⟨v5,w5,hrun,ho5,hg5⟩:=list_step HOL.out hb4 hL4 (HO3.out.alloc _) hsA (by rw[List.length_take];omega) (by rw[List.length_take];omega)
   obtain⟨ao5,cap5,rfl⟩:=files_shape ho5
   have hbl5:=list_box HBL.out HOL.out hb4 hg5
   have HRUN:=Lib.hid hrun;have HO5:=Lib.hid ho5;have HG5:=Lib.hid hg5;have HB4:=Lib.hid hb4;have HBL5:=Lib.hid hbl5
   clear hL4 hb4 hrun ho5 hg5 hbl5
   refine wpAnyH_ready (rs := [6]) (by kernel_rfl) (by simp) ?_
   refine ready_append 6 (.tmp 10) (.tmp 15) 63 rfl rfl rfl lv (.slice (some ⟨w3.heap.size,0,none⟩) 1 1) (.slice ao5 ((Dk.onto (·.2) zs).take pre.length ++ [(xn,d)]).length cap5) w5 ?s6a ?x6a HRUN.out ⟨trivial,fun hHeld => ?_⟩
   case s6a=>kernel_rfl
   case x6a=>kernel_rfl
   refine wpAnyH_ready (rs := [7]) (by kernel_rfl) (by simp) ?_
   refine ready_store 7 63 (.tmp 3) (.tmp 16) rfl rfl rfl w.heap.size 0 63 #[lv] #[(.slice ao5 ((Dk.onto (·.2) zs).take pre.length ++ [(xn,d)]).length cap5)] (.slice ao5 ((Dk.onto (·.2) zs).take pre.length ++ [(xn,d)]).length cap5) [(.slice ao5 ((Dk.onto (·.2) zs).take pre.length ++ [(xn,d)]).length cap5)] ?x7a ?y7a rfl (by kernel_rfl) rfl HBL5.out (Nat.le_of_ble_eq_true rfl) rfl ?k7a
   case x7a=>kernel_rfl
   case y7a=>kernel_rfl
   intro w6 hl6 hg6
   have HL6:=Lib.hid hl6;have HG6:=Lib.hid hg6
   clear hl6 hg6
   refine⟨trivial,fun hHeld => ?_⟩
   refine wpAnyH_done (by kernel_rfl) ?_ _
   refine OnlyOn.on ?_
   clear hHeld
   gi_wp2
   exact list_round HTK.out HBL.out HOL.out HBC.out HBA.out HSZ.out HB4.out HO5.out HG5.out HL6.out HG6.out
  ·rw[if_pos (by rfl)]
   go_simp
   go_at_call 61
   refine(clone_any (.slice xo d.length xc) d A.drew (Reads.below HZ.out (drawn A 1)) (by omega)).mono ?_
   rintro e w3 ⟨v3,rfl,ho3,hb3⟩
   obtain⟨ao3,cap3,rfl⟩:=ho3.reads.shape
   have HO3:=Lib.hid ho3;have HB3:=Lib.hid (on (drawn A 1) hb3)
   clear ho3 hb3
   refine hK.out _ _ trivial (fun hHeld => ?_)
   clear hK K
   refine wpT 4 rfl hHeld ?_
   have q3:w3.cell? ⟨w.heap.size,0,none⟩=some lv:=(Boxed.cell ((HB3.out.block _ HBL.out.lt).trans HBL.out))
   refine wpAnyH_ready (rs := [0,5]) (by kernel_rfl) (by simp) ?_
   refine AllReadyH.cons rfl (fun K hK => ?_) (AllReadyH.cons rfl (fun K hK => ?_) AllReadyH.nil)
   ·rw[if_pos (by rfl)]
    go_simp
    refine hK.out _ _ trivial (fun hHeld => ?_)
    clear hK K
    clear q3
    refine wpAnyH_ready (rs := [5]) (by kernel_rfl) (by simp) ?_
    refine AllReadyH.cons rfl (fun K hK => ?_) AllReadyH.nil
    rw[if_pos (by rfl)]
    go_simp
    refine hK.out _ _ trivial (fun hHeld => ?_)
    clear hK K
    have hL4:=Lies.new w3 72 (Dk.cellF (xn,d) (.slice ao3 d.length cap3))
    have hsA:=HBA.out.size
    have hs3:=HB3.out.size
    have hb4:Below A.heap.size A (w3.alloc (.cells (Dk.cellF (xn,d) (.slice ao3 d.length cap3)) 72)):=HB3.out.alloc HB3.out.size _
    obtain⟨v5,w5,hrun,ho5,hg5⟩:=list_step HOL.out hb4 hL4 (HO3.out.alloc _) hsA (by rw[List.length_take];omega) (by rw[List.length_take];omega)
    obtain⟨ao5,cap5,rfl⟩:=files_shape ho5
    have hbl5:=list_box HBL.out HOL.out hb4 hg5
    have HRUN:=Lib.hid hrun;have HO5:=Lib.hid ho5;have HG5:=Lib.hid hg5;have HB4:=Lib.hid hb4;have HBL5:=Lib.hid hbl5
    clear hL4 hb4 hrun ho5 hg5 hbl5
    refine wpAnyH_ready (rs := [6]) (by kernel_rfl) (by simp) ?_
    refine ready_append 6 (.tmp 10) (.tmp 15) 63 rfl rfl rfl lv (.slice (some ⟨w3.heap.size,0,none⟩) 1 1) (.slice ao5 ((Dk.onto (·.2) zs).take pre.length ++ [(xn,d)]).length cap5) w5 ?s6b ?x6b HRUN.out ⟨trivial,fun hHeld => ?_⟩
    case s6b=>kernel_rfl
    case x6b=>kernel_rfl
    refine wpAnyH_ready (rs := [7]) (by kernel_rfl) (by simp) ?_
    refine ready_store 7 63 (.tmp 3) (.tmp 16) rfl rfl rfl w.heap.size 0 63 #[lv] #[(.slice ao5 ((Dk.onto (·.2) zs).take pre.length ++ [(xn,d)]).length cap5)] (.slice ao5 ((Dk.onto (·.2) zs).take pre.length ++ [(xn,d)]).length cap5) [(.slice ao5 ((Dk.onto (·.2) zs).take pre.length ++ [(xn,d)]).length cap5)] ?x7b ?y7b rfl (by kernel_rfl) rfl HBL5.out (Nat.le_of_ble_eq_true rfl) rfl ?k7b
    case x7b=>kernel_rfl
    case y7b=>kernel_rfl
    intro w6 hl6 hg6
    have HL6:=Lib.hid hl6;have HG6:=Lib.hid hg6
    clear hl6 hg6
    refine⟨trivial,fun hHeld => ?_⟩
    refine wpAnyH_done (by kernel_rfl) ?_ _
    refine OnlyOn.on ?_
    clear hHeld
    gi_wp2
    exact list_round HTK.out HBL.out HOL.out HBC.out HBA.out HSZ.out HB4.out HO5.out HG5.out HL6.out HG6.out
   ·rw[if_pos (by rfl)]
    go_simp
    refine hK.out _ _ trivial (fun hHeld => ?_)
    clear hK K
    clear q3
    have q4:(w3.alloc (.cells #[.int .i64 xn, .slice ao3 d.length cap3] 72)).cell? ⟨w.heap.size,0,none⟩=some lv:=(Boxed.cell (((HB3.out.alloc HB3.out.size _).block _ HBL.out.lt).trans HBL.out))
    refine wpAnyH_ready (rs := [0]) (by kernel_rfl) (by simp) ?_
    refine AllReadyH.cons rfl (fun K hK => ?_) AllReadyH.nil
    rw[if_pos (by rfl)]
    go_simp
    refine hK.out _ _ trivial (fun hHeld => ?_)
    clear hK K
    clear q4
    have hL4:=Lies.new w3 72 (Dk.cellF (xn,d) (.slice ao3 d.length cap3))
    have hsA:=HBA.out.size
    have hs3:=HB3.out.size
    have hb4:Below A.heap.size A (w3.alloc (.cells (Dk.cellF (xn,d) (.slice ao3 d.length cap3)) 72)):=HB3.out.alloc HB3.out.size _
    obtain⟨v5,w5,hrun,ho5,hg5⟩:=list_step HOL.out hb4 hL4 (HO3.out.alloc _) hsA (by rw[List.length_take];omega) (by rw[List.length_take];omega)
    obtain⟨ao5,cap5,rfl⟩:=files_shape ho5
    have hbl5:=list_box HBL.out HOL.out hb4 hg5
    have HRUN:=Lib.hid hrun;have HO5:=Lib.hid ho5;have HG5:=Lib.hid hg5;have HB4:=Lib.hid hb4;have HBL5:=Lib.hid hbl5
    clear hL4 hb4 hrun ho5 hg5 hbl5
    refine wpAnyH_ready (rs := [6]) (by kernel_rfl) (by simp) ?_
    refine ready_append 6 (.tmp 10) (.tmp 15) 63 rfl rfl rfl lv (.slice (some ⟨w3.heap.size,0,none⟩) 1 1) (.slice ao5 ((Dk.onto (·.2) zs).take pre.length ++ [(xn,d)]).length cap5) w5 ?s6c ?x6c HRUN.out ⟨trivial,fun hHeld => ?_⟩
    case s6c=>kernel_rfl
    case x6c=>kernel_rfl
    refine wpAnyH_ready (rs := [7]) (by kernel_rfl) (by simp) ?_
    refine ready_store 7 63 (.tmp 3) (.tmp 16) rfl rfl rfl w.heap.size 0 63 #[lv] #[(.slice ao5 ((Dk.onto (·.2) zs).take pre.length ++ [(xn,d)]).length cap5)] (.slice ao5 ((Dk.onto (·.2) zs).take pre.length ++ [(xn,d)]).length cap5) [(.slice ao5 ((Dk.onto (·.2) zs).take pre.length ++ [(xn,d)]).length cap5)] ?x7c ?y7c rfl (by kernel_rfl) rfl HBL5.out (Nat.le_of_ble_eq_true rfl) rfl ?k7c
    case x7c=>kernel_rfl
    case y7c=>kernel_rfl
    intro w6 hl6 hg6
    have HL6:=Lib.hid hl6;have HG6:=Lib.hid hg6
    clear hl6 hg6
    refine⟨trivial,fun hHeld => ?_⟩
    refine wpAnyH_done (by kernel_rfl) ?_ _
    refine OnlyOn.on ?_
    clear hHeld
    gi_wp2
    exact list_round HTK.out HBL.out HOL.out HBC.out HBA.out HSZ.out HB4.out HO5.out HG5.out HL6.out HG6.out
 case done =>
  rintro D ys W hD hov ⟨⟨lv,hbl,hol⟩,hbc,hBA⟩ hK
  have hcl:=hbl.cell
  obtain rfl:ys=Dk.onto (·.1) zs:=hov
  gi_wp2
  refine⟨by simp, .inl ⟨_,_,rfl,run_takeDeferred hK, ?_⟩⟩
  exact⟨_,results_tmp rfl _ _ _,lv,rfl,list_end hol hBA hK (by simp at hD;omega) (by simp[Dk.onto])⟩
def cloneI(w:World)(mv:Option Nat)(F:Dk.Files)(pre:List (Int × Value))(W:World):Prop :=
 (∃ys,FilesIn W w.heap.size ys∧Dk.onto (·.2) ys=F.take pre.length ∧ ∀k,Bl ys k→w.heap.size≤k)∧Boxed W (w.heap.size+1) 74 (.map (some w.heap.size))∧Boxed W (w.heap.size+2) 74 (.map mv)∧Below w.heap.size w W
theorem cloneI_own(w:World)(mv:Option Nat)(F:Dk.Files)(B:Nat)(hB:w.heap.size<B):OwnFrom B (cloneI w mv F):=by
 rintro pre W W' row ⟨⟨ys,hf,he,hk⟩,ha,hc,hb⟩ hg hr
 have hr' : ∀r,row=some r → ∃o:Obj,W.heap[r]? = some o∧o.isCells=false:=fun r e=>(hr r e).2
 refine⟨⟨ys,hf.stays (hg.block _ hf.map.lt fun e => ?_) (fun k hk' => hg.block k (hf.lt hk') fun e => ?_),he,hk⟩,boxed_rowk ha hg hr', boxed_rowk hc hg hr', below_row hb hg hb.size (fun r e=>(hr r e).1) (Nat.le_of_lt hB)⟩
 ·have:=(hr _ e.symm).1;omega
 ·obtain⟨cs,hc'⟩:=hf.cells hk'
  obtain⟨o,ho,hcc⟩:=hr' k e.symm
  rw[hc']at ho
  cases ho
  cases hcc
theorem put_last{F:Dk.Files}(ha:Dk.Asc F){i:Nat}{n:Int}{d:List UInt8}(hi:F[i]? = some (n,d)):Dk.put (F.take i) n d=F.take i ++ [(n,d)]:=by
 have h1 : ∀q∈F.take i,q.1<n:=fun q hq=>by
  obtain⟨j,hj⟩:=List.getElem?_of_mem hq
  rw[List.getElem?_take]at hj
  split at hj
  ·obtain⟨hi1,hi2⟩:=List.getElem?_eq_some_iff.1 hi
   obtain⟨hj1,hj2⟩:=List.getElem?_eq_some_iff.1 hj
   have:=List.pairwise_iff_getElem.1 ha j i hj1 hi1 (by omega)
   rw[hi2,hj2]at this
   exact this
  ·cases hj
 have h2 : ∀(l:Dk.Files),(∀q∈l,q.1<n)→Dk.put l n d=l ++ [(n,d)]:=fun l hl=>by
  unfold Dk.put
  have hd:Dk.del l n=l:=by
   unfold Dk.del
   exact List.filter_eq_self.2 fun q hq=>by have:=hl q hq;simp;omega
  rw[hd]
  clear hd
  induction l with
  | nil=>rfl
  | cons p r ih =>
   have hp:=hl p (by simp)
   unfold Dk.ins
   rw[if_neg (by omega),ih (fun q hq=>hl q (List.mem_cons_of_mem _ hq))]
   rfl
 exact h2 _ h1
theorem clone_round{w A w3 w4:World}{mv:Option Nat}{F:Dk.Files}(ha:Dk.Asc F){pre:List (Int × Value)}{x:Int × Value}{xn:Int}{d:List UInt8}{v3:Value}{ys:List Row}{base:Nat}(hFd:F[pre.length]? = some (xn,d))(hf:FilesIn A w.heap.size ys)(he:Dk.onto (·.2) ys=F.take pre.length)(hk : ∀k,Bl ys k→w.heap.size≤k)
 (hbo:Boxed A (w.heap.size+1) 74 (.map (some w.heap.size))) (hbc:Boxed A (w.heap.size+2) 74 (.map mv)) (hBA:Below w.heap.size w A) (hn:1≤xn∧xn≤4294967296) (hb3:Below A.heap.size A w3) (ho3:Owns w3 A.heap.size 5 v3 d) (hbase:w.heap.size<base)
 (hm4:MapAt w4 w.heap.size (Dk.put (Dk.onto (·.1) ys) xn v3)) (hg4:w3.grownBy w4 (some w.heap.size)) :
 KeepsFrom base A w4∧Kp (walkQ w.heap.size (w.heap.size+2)) A w4∧cloneI w mv F (pre ++ [x]) w4:=by
 have hsA:=hBA.size
 have hp:=hf.put xn hn v3 d none (grown_of_below hb3) (fun g e=>by cases e) (Owns.mono ho3 (Nat.zero_le _)) (fun g e=>by
  obtain⟨cs,hc,hg⟩:=ho3.cells e
  exact .inr hg) hm4 hg4
 have hkk:Kp (fun k o=>k≠w.heap.size) A w4:=(Kp.all hb3).trans (Kp.of_grown hg4 fun b o e _ hq=>hq (by simpa using e.symm))
 refine⟨⟨hkk.size,fun k o hkb h _=>hkk.same k o h (by omega)⟩,hkk.imp fun b o hb hq => ?_,⟨_,hp.1, ?_,fun k hk' => ?_⟩,hkk.same _ _ hbo (by omega),hkk.same _ _ hbc (by omega),hBA.trans (hkk.below hsA fun b o hb _=>by omega)⟩
 ·rcases hq with h | h | ⟨cs,fr,rfl⟩
  ·omega
  ·omega
  ·intro e
   subst e
   exact hf.map.no_cells hb
 ·rw[Dk.onto_put,he,put_last ha hFd,List.length_append,List.length_singleton,List.take_add_one,hFd]
  rfl
 ·obtain⟨z,hz,e⟩:=hk'
  rcases Dk.mem_put.1 hz with rfl | ⟨hz,_⟩
  ·obtain⟨cs,hc,hg⟩:=ho3.cells e
   omega
  ·exact hk k ⟨z,hz,e⟩
theorem clone_files{w:World}{mv:Option Nat}{zs:List Row}(h:FilesOr w mv zs)(hs:Dk.wt (Dk.onto (·.2) zs)≤1099511627776) :
 Calls Tryz.prog 78 #[.map mv] w fun e w' => e = .returned (.map (some w.heap.size))∧(∃ys,FilesIn w' w.heap.size ys∧Dk.onto (·.2) ys=Dk.onto (·.2) zs ∧ ∀k,Bl ys k→w.heap.size≤k)∧Below w.heap.size w w' := by
 refine(callsIn_wide (n:=9)).1 ?_
 refine callsIn_of_wp_marks Tryz.func78 rfl trivial ?_ rfl
 simp only[Tryz.ntmps78,List.size_toArray,List.length_cons,List.length_nil,Nat.reduceAdd,Nat.reduceSub,Array.replicate_succ,Array.replicate_zero,List.push_toArray,List.append_toArray,List.nil_append,List.cons_append]
 have hmm := @run_makeMap Tryz.prog
 have f0:=FilesIn.new w
 have hB0:Below w.heap.size w (w.alloc (.map #[] 0)):=(Below.refl _ w).alloc (Nat.le_refl _) _
 have b0:=Boxed.new (w.alloc (.map #[] 0)) 74 (.map (some w.heap.size))
 rw[World.size_alloc]at b0
 have hB1:Below w.heap.size w ((w.alloc (.map #[] 0)).alloc (.cells #[.map (some w.heap.size)] 74)):=hB0.alloc (by simp) _
 have b1:=Boxed.new ((w.alloc (.map #[] 0)).alloc (.cells #[.map (some w.heap.size)] 74)) 74 (.map mv)
 rw[World.size_alloc,World.size_alloc]at b1
 have hB2:Below w.heap.size w (((w.alloc (.map #[] 0)).alloc (.cells #[.map (some w.heap.size)] 74)).alloc (.cells #[.map mv] 74)):=hB1.alloc (by simp;omega) _
 have b01:=b0.alloc (.cells #[.map mv] 74)
 have f01:=(f0.below ((Below.refl _ _).alloc (Nat.le_refl _) (.cells #[.map (some w.heap.size)] 74)) (Nat.le_refl _)).below ((Below.refl _ _).alloc (Nat.le_refl _) (.cells #[.map mv] 74)) (Nat.le_refl _)
 have hlen:zs.length≤17592186044416:=by
  have:=Dk.len_wt (Dk.onto (·.2) zs)
  simp only[Dk.onto,List.length_map]at this
  have h2:=hs
  simp only[Dk.onto]at h2
  omega
 gi_wp2_with (refine⟨trivial, ?_⟩;gi_at_call 83;refine(callsIn_wide.2 (sorted_made mv _)).mono ?_;rintro e w1 ⟨rfl,rfl⟩)
 have hM:=(h.below hB2).map
 have hasc:Dk.Asc (Dk.onto (·.2) zs):=(Dk.asc_onto _).2 h.asc
 refine range_told (n:=9) rfl (by omega) (f:=117) (held := #[.pointer (some ⟨w.heap.size+2,0,none⟩)]) (by simp[Act.eval]) trivial (enters_of Tryz.func117 (by kernel_rfl) rfl)
  (sorted_told (walkQ w.heap.size (w.heap.size+2)) mv (w.heap.size+2) (Dk.onto (·.1) zs) _ (fun b e o => .inl (by
    rcases h with ⟨e', _⟩ | ⟨b', e', h'⟩
    ·rw[e']at e;cases e
    ·rw[e']at e;cases e;exact h'.map.lt)) (fun o => .inr (.inl rfl)) (fun k cs fr => .inr (.inr ⟨cs,fr,rfl⟩)) b1 hM (fun u hu=>by
    obtain⟨z,hz,rfl⟩:=List.mem_map.1 hu
    exact h.range z hz) (by simp only[Dk.onto,List.length_map];exact hlen))
  (Below.refl _ _) Kp.trans (fun A l o o' hl h ho=>walk_put h ho (by simp at hl;omega) (by simp at hl;omega)) (fun _=>rfl)
  (cloneI w mv (Dk.onto (·.2) zs)) (cloneI_own w mv _ _ (by simp;omega)) (fun s W W' row hs _ _=>hs) (fun s W W' row hs _ _=>hs) ⟨⟨[],f01,rfl,fun k hk=>by obtain⟨z,hz,_⟩:=hk;simp at hz⟩,b01,b1,hB2⟩
  (fun x=>{ tmps := #[.map mv,undef, .map none, .pointer (some ⟨w.heap.size+1,0,none⟩), .int .i64 x.1,x.2, .map (some w.heap.size), .map mv, .func (.func 117) #[] #[.pointer (some ⟨w.heap.size+2,0,none⟩)], .int .i64 x.1,x.2,undef,undef,undef,undef,undef],defers := [] }) ?assign ?body ?done
 case assign =>
  intro lp x W K hK
  unfold fileArgs
  gi_wp2
  exact hK
 case body =>
  clear b0 b1 hB0 hB1 hB2 b01 f0 f01 hM hmm
  rintro lp pre ⟨xn,xv⟩ A ⟨⟨ys,hf,he,hk⟩,hbo,hbc,hBA⟩ ⟨post,hpost⟩ hsz
  obtain⟨d,hmem,hFd⟩:=comes hpost
  simp only at hmem hFd
  have hzo:Owns A 0 5 xv d:=Owns.keep (h.own _ hmem) hBA (Nat.le_refl _)
  obtain⟨xo,xc,rfl⟩:=hzo.reads.shape
  have hxn:=h.range _ hmem
  simp only at hxn
  have hdl:d.length≤1099511627776:=by
   have:=Dk.wt_mem (List.mem_of_getElem? hFd)
   simp only at this
   omega
  have hyl:(Dk.onto (·.1) ys).length<4611686018427387904:=by
   have h1:=congrArg List.length he
   have h2:=Dk.len_wt (Dk.onto (·.2) zs)
   rw[List.length_take]at h1
   simp only[Dk.onto,List.length_map]at h1 h2 ⊢
   have h3:=hs
   simp only[Dk.onto]at h3
   omega
  have hco:=hbo.cell
  have HZ:=Lib.hid hzo.reads;have HF:=Lib.hid hf;have HE:=Lib.hid he;have HKB:=Lib.hid hk;have HBO:=Lib.hid hbo;have HBC:=Lib.hid hbc;have HBA:=Lib.hid hBA;have HFD:=Lib.hid hFd
  clear hzo hf he hk hbo hbc hBA hFd hsz hmem hpost
  gi_wp2
  refine region_round (S:=fun W=>W.cell? ⟨w.heap.size+1,0,none⟩=some (.map (some w.heap.size))) (by kernel_rfl) (by kernel_rfl) hco (fun hHeld => ?_)
  refine wpT 0 rfl hHeld ?_
  refine wpT 1 rfl hHeld ?_
  refine wpT 2 rfl hHeld ?_
  refine wpAnyH_ready (rs := [3]) (by kernel_rfl) (by simp) ?_
  refine AllReadyH.cons rfl (fun K hK => ?_) AllReadyH.nil
  rw[if_pos (by rfl)]
  go_simp
  go_at_call 61
  refine(clone_any (.slice xo d.length xc) d A.drew (Reads.below HZ.out (drawn A 1)) (by omega)).mono ?_
  rintro e w3 ⟨v3,rfl,ho3,hb3⟩
  have HO3:=Lib.hid ho3;have HB3:=Lib.hid (on (drawn A 1) hb3)
  clear ho3 hb3
  have q3:w3.cell? ⟨w.heap.size+1,0,none⟩=some (.map (some w.heap.size)):=(Boxed.cell ((HB3.out.block _ HBO.out.lt).trans HBO.out))
  refine hK.out _ _ q3 (fun hHeld => ?_)
  clear hK K
  refine wpAnyH_ready (rs := [4]) (by kernel_rfl) (by simp) ?_
  refine ready_mapUpdate 4 (.tmp 11) (.tmp 12) (.tmp 14) rfl rfl rfl w.heap.size (Dk.onto (·.1) ys) xn v3 ?m4 ?x4 ?u4 (HF.out.map.below HB3.out HF.out.map.lt) (by omega) (by omega) hyl ?k4
  case m4=>kernel_rfl
  case x4=>kernel_rfl
  case u4=>kernel_rfl
  intro w4 hm4 hg4
  have HM4:=Lib.hid hm4;have HG4:=Lib.hid hg4
  clear hm4 hg4
  have q4:w4.cell? ⟨w.heap.size+1,0,none⟩=some (.map (some w.heap.size)):=(Boxed.cell ((HG4.out.block _ (by have:=HB3.out.size;have:=HBO.out.lt;omega) (by simp)).trans ((HB3.out.block _ HBO.out.lt).trans HBO.out)))
  refine⟨q4,fun hHeld => ?_⟩
  refine wpAnyH_done (by kernel_rfl) ?_ _
  refine OnlyOn.on ?_
  clear hHeld
  gi_wp2
  exact clone_round hasc HFD.out HF.out HE.out HKB.out HBO.out HBC.out HBA.out hxn HB3.out HO3.out (by simp;omega) HM4.out HG4.out
 case done =>
  rintro D xs W hD hov ⟨⟨ys,hf,he,hk⟩,hbo,hbc,hBA⟩ hK
  have hco:=hbo.cell
  obtain rfl:xs=Dk.onto (·.1) zs:=hov
  gi_wp2
  refine⟨by simp, .inl ⟨_,_,rfl,run_takeDeferred hK, ?_⟩⟩
  have hg:=grownBy_putObj' W D (.deferred none)
  have hDs:w.heap.size+3≤D:=by simp at hD;omega
  refine⟨_,results_tmp rfl _ _ _,rfl,⟨ys,hf.stays (hg.block _ hf.map.lt (by simp;omega)) (fun k hk' => hg.block k (hf.lt hk') fun e => ?_),by rw[he,List.take_of_length_le (by simp[Dk.onto])],hk⟩,hBA.grown hg hBA.size fun k e=>by simp only[Option.some.injEq]at e;omega⟩
  obtain⟨cs,hc⟩:=hf.cells hk'
  simp only[Option.some.injEq]at e
  subst e
  rw[hK]at hc
  cases hc
end
end Go.Proofs.YtdkdjofnnnljjaaGreatDoor
