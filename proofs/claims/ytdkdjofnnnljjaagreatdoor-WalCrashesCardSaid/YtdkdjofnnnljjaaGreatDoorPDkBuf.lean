/- Several texts of mine in one: DkFiles DkDisk DkBuf. -/
import Derived.Test.YtdkdjofnnnljjaaGreatDoorPRound
import Derived.Shelf.Abstract
namespace Go.Proofs.YtdkdjofnnnljjaaGreatDoor
open Go.RowKit
set_option maxHeartbeats 3200000
set_option maxRecDepth 100000
section
open Go.RowKit Go.Shelf
attribute [local go_sem] Oper.semAt_some
def xP(n0 Bn:Nat)(k:Nat)(o:Obj):Prop:=k<n0∨k=Bn ∨ ∃cs fr,o = .cells cs 3 fr
theorem Co{n0 Bn:Nat}{A:World}{l:Nat}{o o' : Obj}(hl:A.heap[l]? = some o)(ho:o.isCells=false)(h0:n0<=l)(hB:l≠Bn):Kp (xP n0 Bn) A (A.putObj l o') :=
 Kp.aI (grownBy_putObj' A l o') fun b o2 e hb hq=>by
  simp only[Option.some.injEq]at e
  subst e;rw[hl]at hb
  cases hb;rcases hq with h | h | ⟨cs,fr,rfl⟩
  ·omega
  ·exact hB h
  ·cases ho
theorem xQ{B n0:Nat}{w W W' : World}{row:Option Nat}(hb:Below n0 w W)(hg:W.grownBy W' row)(hn:n0<=W.heap.size)(hr : ∀r,row=some r->B<=r)(hB:n0<=B):Below n0 w W' :=
 hb.grown hg hn fun k e=>Nat.le_trans hB (hr k e)
theorem lQ{W W' : World}{row:Option Nat}{b:Nat}{t:TypeId}{v:Value}(h:Boxed W b t v)(hg:W.grownBy W' row)(hr : ∀r,row=some r -> ∃o:Obj,W.heap[r]? = some o∧o.isCells=false):Boxed W' b t v :=
 h.kept hg (fun e=>by obtain⟨o,ho,hc⟩:=hr b e.symm;rw[show W.heap[b]? = _ from h]at ho;cases ho;cases hc)
theorem comes{zs:List Row}{pre:List (Int × Value)}{x:Int × Value}{post:List (Int × Value)}(h:Dk.aZ (·.1) zs=pre++x :: post) : ∃d,(x.1,(x.2,d))∈zs∧(Dk.aZ (·.2) zs)[pre.length]? = some (x.1,d):=by
 have h1:(Dk.aZ (·.1) zs)[pre.length]? = some x:=by rw[h];simp
 unfold Dk.aZ at h1 ⊢
 rw[List.getElem?_map,Option.map_eq_some_iff]at h1
 obtain⟨z,hz,rfl⟩:=h1;obtain⟨n,v,d⟩:=z;exact⟨d,List.mem_of_getElem? hz,by simp[hz]⟩
def MA(w:World)(mv:Option Nat)(F:Dk.av)(pre:List (Int × Value))(W:World):Prop :=
 (∃v,Boxed W w.heap.size 63 v∧lO (fun k t=>t=5∧w.heap.size<=k) W w.heap.size v (F.take pre.length))∧Boxed W (w.heap.size+1) 74 (.map mv)∧Below w.heap.size w W
theorem Iv(w:World)(mv:Option Nat)(F:Dk.av)(B:Nat)(hB:w.heap.size<=B):OwnFrom B (MA w mv F):=by
 rintro pre W W' row ⟨⟨v,hv,ho⟩,ha,hb⟩ hg hr;have hr' : ∀r,row=some r -> ∃o:Obj,W.heap[r]? = some o∧o.isCells=false:=fun r e=>(hr r e).2
 refine⟨⟨v,lQ hv hg hr', ho.stays (fun g e => ?_) (dS.aI hg fun g cs t fr e hc=>by obtain⟨o,ho,hc'⟩:=hr' g e;rw[hc]at ho;cases ho;cases hc')⟩,lQ ha hg hr', xQ hb hg hb.size (fun r e=>(hr r e).1) hB⟩
 obtain⟨cs,hc,_⟩:=ho.blocks e;refine hg.block g (aK hc) fun e' => ?_
 obtain⟨o,zr, hc'⟩:=hr' g e'.symm;rw[hc]at zr
 cases zr;cases hc'
theorem rS{w A w4:World}{lv:Value}{F:Dk.av}{xn:Int}{d:List UInt8}{g:Nat}{u:Value}(CK:lO (fun k t=>t=5∧w.heap.size<=k) A w.heap.size lv F)(hb4:Below A.heap.size A w4)
 (hL4:ae w4 g 72 (Dk.iY (xn,d) u)) (Px:bF w4 A.heap.size 5 u d) (Nk:w.heap.size<=A.heap.size) (hl:(F.length+1)*32<=140737488355328) (hl2:F.length+1<=140737488355328) :
 ∃v5 w5,(Builtin.append_ #[63,63] 63 #[lv, .slice (some ⟨g,0,none⟩) 1 1]).run Tryz.prog w4 = .ok v5 w5∧lO (fun k t=>t=5∧w.heap.size<=k) w5 w.heap.size v5 (F ++ [(xn,d)])∧w4.grownBy w5 lv.ownBlock:=by
 have tY:=hb4.size;have hu4:aS (fun k t=>t=5∧w.heap.size<=k) w4 u d:=aS.own Px (fun g e=>by obtain⟨cs,hc,hg⟩:=Px.cells e;exact⟨rfl,by omega⟩)
 obtain⟨v5,w5,hrun,eW,bU,_⟩:=(bb.below CK hb4).snoc (P:=Tryz.prog) (t:=63) 63 Dk.Cn Tryz.underlying63 Iu rfl (by decide) (by omega) (xn,d) u hL4 hu4 hl hl2 (fun g _ hp=>by exact absurd hp.1 (by decide))
 exact⟨v5,w5,hrun,eW,bU⟩
theorem ny{p:Nat->TypeId->Prop}{w:World}{base:Nat}{v:Value}{F:Dk.av}(h:lO p w base v F) : ∃ao cap,v = .slice ao F.length cap:=by
 obtain⟨ps,e,h1,_⟩:=h;obtain⟨ao,cap,e2⟩:=aU.shape h1;rw[gj, <- e]at e2
 exact⟨ao,cap,e2⟩
theorem lf{w A w4 w5:World}{lv:Value}{F:Dk.av}(hbl:Boxed A w.heap.size 63 lv)(CK:lO (fun k t=>t=5∧w.heap.size<=k) A w.heap.size lv F)(hb4:Below A.heap.size A w4)(bU:w4.grownBy w5 lv.ownBlock):ae w5 w.heap.size 63 #[lv]:=by
 have h4:ae w4 w.heap.size 63 #[lv]:=(hb4.block _ hbl.lt).trans hbl;refine h4.kept bU fun e => ?_
 obtain⟨cs,hc,_⟩:=(bb.below CK hb4).blocks e.symm;rw[show w4.heap[w.heap.size]? = _ from h4]at hc
 cases hc
theorem list_round{w A w4 w5 w6:World}{mv:Option Nat}{zs:List Row}{pre:List (Int × Value)}{x:Int × Value}{xn:Int}{d:List UInt8}{lv v5:Value}{base:Nat}(Yg:(Dk.aZ (·.2) zs).take (pre ++ [x]).length=(Dk.aZ (·.2) zs).take pre.length ++ [(xn,d)])
 (hbl:Boxed A w.heap.size 63 lv) (CK:lO (fun k t=>t=5∧w.heap.size<=k) A w.heap.size lv ((Dk.aZ (·.2) zs).take pre.length)) (Bb:Boxed A (w.heap.size+1) 74 (.map mv)) (sV:Below w.heap.size w A) (_:base<=A.heap.size) (hb4:Below A.heap.size A w4)
 (eW:lO (fun k t=>t=5∧w.heap.size<=k) w5 w.heap.size v5 ((Dk.aZ (·.2) zs).take pre.length ++ [(xn,d)])) (bU:w4.grownBy w5 lv.ownBlock) (eZ:ae w6 w.heap.size 63 #[v5]) (dt:w5.grownBy w6 (some w.heap.size)) :
 KeepsFrom base A w6∧Kp (xP w.heap.size (w.heap.size+1)) A w6∧MA w mv (Dk.aZ (·.2) zs) (pre ++ [x]) w6:=by
 have Nk:=sV.size;have Yh:=bb.below CK hb4;have hk:Kp (fun k o=>o.isCells=false∨xP w.heap.size (w.heap.size+1) k o) A w6:=by
  refine(Kp.all hb4).trans ((Kp.aI bU fun b o e hb hq => ?_).trans (Kp.aI dt fun b o e hb hq => ?_))
  ·obtain⟨cs,hc,hge⟩:=Yh.blocks e
   rw[hb]at hc
   cases hc;rcases hq with h | h | h | ⟨cs', fr,h⟩
   ·cases h
   ·omega
   ·subst h
    have:=(hb4.block _ Bb.lt).trans Bb;rw[hb]at this
    cases this
   ·cases h
  ·simp only[Option.some.injEq]at e
   subst e;have:=lf hbl CK hb4 bU;rw[show w5.heap[w.heap.size]? = _ from this]at hb
   cases hb;rcases hq with h | h | h | ⟨cs', fr,h⟩
   ·cases h
   ·omega
   ·omega
   ·cases h
 refine⟨⟨hk.size,fun k o _ h ho=>hk.same k o h (.inl ho)⟩,hk.imp fun b o _ h => .inr h,⟨v5,eZ, ?_⟩, ?_, ?_⟩
 ·rw[Yg]
  refine eW.stays (fun g e => ?_) (dS.aI dt fun g cs t fr e hc hp => ?_)
  ·obtain⟨cs,hc,_⟩:=eW.blocks e
   refine dt.block g (aK hc) fun e' => ?_
   simp only[Option.some.injEq]at e'
   subst e';have:=lf hbl CK hb4 bU;rw[show w5.heap[w.heap.size]? = _ from this]at hc
   cases hc
  ·simp only[Option.some.injEq]at e
   subst e;have:=lf hbl CK hb4 bU;rw[show w5.heap[w.heap.size]? = _ from this]at hc
   cases hc;exact absurd hp.1 (by decide)
 ·exact hk.same _ _ Bb (.inr (.inr (.inl rfl)))
 ·exact sV.trans (hk.below Nk fun b o hb _ => .inr (.inl hb))
theorem MB{w W:World}{lv:Value}{F:Dk.av}{m D:Nat}(CK:lO (fun k t=>t=5∧w.heap.size<=k) W w.heap.size lv (F.take m))(sV:Below w.heap.size w W)(hK:W.heap[D]? = some (.deferred (some [])))(hD:w.heap.size<=D)(hm:F.length<=m) :
 pn (fun k _=>w.heap.size<=k) (W.putObj D (.deferred none)) lv F∧Below w.heap.size w (W.putObj D (.deferred none)):=by
 have hg:=grownBy_putObj' W D (.deferred none);rw[List.take_of_length_le hm]at CK
 have h2:lO (fun k _=>w.heap.size<=k) W w.heap.size lv F:=CK.imp fun b cs t fr _ hp=>hp.2
 have hp:pn (fun k _=>w.heap.size<=k) W lv F:=h2.reads Dk.Cn fun g e=>by obtain⟨cs,hc,hg⟩:=h2.blocks e;exact hg
 refine⟨hp.keep (dS.aI hg fun g cs t fr e hc => ?_),sV.grown hg sV.size fun k e=>by simp only[Option.some.injEq]at e;omega⟩
 simp only[Option.some.injEq]at e
 subst e;rw[hK]at hc
 cases hc
theorem MC{w:World}{mv:Option Nat}{zs:List Row}(h:dP w mv zs)(hs:Dk.wt (Dk.aZ (·.2) zs)<=1099511627776) :
 Calls Tryz.prog 58 #[.map mv] w fun e w' => ∃v,e = .returned v∧pn (fun k _=>w.heap.size<=k) w' v (Dk.aZ (·.2) zs)∧Below w.heap.size w w' := by
 refine(callsIn_wide (n:=9)).1 ?_;refine callsIn_of_wp_marks Tryz.func58 rfl trivial ?_ rfl;simp only[Tryz.ntmps58,List.size_toArray,List.length_cons,List.length_nil,Nat.reduceAdd,Nat.reduceSub,Array.replicate_succ,Array.replicate_zero,List.push_toArray,List.append_toArray,List.nil_append,List.cons_append];have b0:=Boxed.new w 63 (.slice none 0 0);have b1:=Boxed.new (w.alloc (.cells #[.slice none 0 0] 63)) 74 (.map mv);have aq:Below w.heap.size w (w.alloc (.cells #[.slice none 0 0] 63)):=(Below.refl _ w).alloc (Nat.le_refl _) _;have dN:Below w.heap.size w ((w.alloc (.cells #[.slice none 0 0] 63)).alloc (.cells #[.map mv] 74)):=aq.alloc (by simp) _
 have UE:=b0.alloc (.cells #[.map mv] 74);rw[World.size_alloc]at b1
 have hlen:zs.length<=17592186044416:=by
  have:=Dk.mz (Dk.aZ (·.2) zs)
  simp only[Dk.aZ,List.length_map]at this
  have h2:=hs;simp only[Dk.aZ]at h2
  omega
 gi_wp2_with (refine⟨trivial, ?_⟩;gi_at_call 83;refine(callsIn_wide.2 (sj mv _)).mono ?_;rintro e w1 ⟨rfl,rfl⟩)
 have hM:=(h.below dN).map;refine tP (n:=9) rfl (by omega) (f:=117) (held := #[.pointer (some ⟨w.heap.size+1,0,none⟩)]) (by simp[Act.eval]) trivial (enters_of Tryz.func117 (by kernel_rfl) rfl)
  (sr (xP w.heap.size (w.heap.size+1)) mv (w.heap.size+1) (Dk.aZ (·.1) zs) _ (fun b e o => .inl (by
    rcases h with ⟨e', _⟩ | ⟨b', e', h'⟩
    ·rw[e']at e;cases e
    ·rw[e']at e;cases e;exact h'.map.lt)) (fun o => .inr (.inl rfl)) (fun k cs fr => .inr (.inr ⟨cs,fr,rfl⟩)) b1 hM (fun u hu=>by
    obtain⟨z,hz,rfl⟩:=List.mem_map.1 hu;exact h.range z hz) (by simp only[Dk.aZ,List.length_map];exact hlen))
  (Below.refl _ _) Kp.trans (fun A l o o' hl h ho=>Co h ho (by simp at hl;omega) (by simp at hl;omega)) (fun _=>rfl)
  (MA w mv (Dk.aZ (·.2) zs)) (Iv w mv _ _ (by simp;omega)) (fun s W W' row hs _ _=>hs) (fun s W W' row hs _ _=>hs) ⟨⟨_,UE,bb.bare _ _ _ _⟩,b1,dN⟩
  (fun x=>{ tmps := #[.map mv,undef, .slice none 0 0, .pointer (some ⟨w.heap.size,0,none⟩), .int .i64 x.1,x.2, .map mv, .func (.func 117) #[] #[.pointer (some ⟨w.heap.size+1,0,none⟩)], .int .i64 x.1,x.2,undef,undef,undef,undef,undef,undef,undef,undef],defers := [] }) ?assign ?body ?done
 case assign =>
  intro lp x W K hK
  unfold pQ
  gi_wp2
  exact hK
 case body =>
  clear b0 b1 aq dN UE hM;rintro lp pre ⟨xn,xv⟩ A ⟨⟨lv,hbl,CK⟩,Bb,sV⟩ ⟨post,Cp⟩ hsz;obtain⟨d,jC,FJ⟩:=comes Cp;simp only at jC FJ
  have RA:bF A 0 5 xv d:=bF.keep (h.own _ jC) sV (Nat.le_refl _);obtain⟨xo,xc,rfl⟩:=RA.reads.shape;have WK:d.length<=1099511627776:=by
   have:=Dk.oK (List.mem_of_getElem? FJ);simp only at this
   omega
  have hpl:pre.length<(Dk.aZ (·.2) zs).length:=(List.getElem?_eq_some_iff.1 FJ).1
  have hFl:(Dk.aZ (·.2) zs).length<=1099511627776:=by have:=Dk.mz (Dk.aZ (·.2) zs);omega
  have lW:=hbl.cell;have HZ:=aa RA.reads;have ow:=aa hbl;have CW:=aa CK;have UF:=aa Bb;have pS:=aa sV;have HFD:=aa FJ;have vR:=aa hsz;have lX:Hid ((Dk.aZ (·.2) zs).take (pre ++ [((xn, .slice xo d.length xc):Int × Value)]).length=(Dk.aZ (·.2) zs).take pre.length ++ [(xn,d)]):=by
   show _=_;rw[List.length_append,List.length_singleton,List.take_add_one,FJ]
   rfl
  clear RA hbl CK Bb sV FJ hsz jC Cp
  gi_wp2
  refine lz (S:=fun _=>True) (by kernel_rfl) (by kernel_rfl) trivial (fun hHeld => ?_)
  refine bH 1 rfl hHeld ?_;refine bH 2 rfl hHeld ?_;refine wpAnyH_ready (rs := [0,3]) (by kernel_rfl) (by simp) ?_
  refine AllReadyH.cons rfl (fun K hK => ?_) (AllReadyH.cons rfl (fun K hK => ?_) AllReadyH.nil)
  ·rw[if_pos (by rfl)]
   go_simp;refine hK.out _ _ trivial (fun hHeld => ?_)
   clear hK K;refine wpAnyH_ready (rs := [3]) (by kernel_rfl) (by simp) ?_
   refine AllReadyH.cons rfl (fun K hK => ?_) AllReadyH.nil
   rw[if_pos (by rfl)]
   go_simp
   go_at_call 61
   refine(di (.slice xo d.length xc) d A.drew (Reads.below HZ.out (drawn A 1)) (by omega)).mono ?_
   rintro e w3 ⟨v3,rfl,fM,hb3⟩;obtain⟨eu,bQ,rfl⟩:=fM.reads.shape;have om:=aa fM;have bh:=aa (on (drawn A 1) hb3);clear fM hb3;refine hK.out _ _ trivial (fun hHeld => ?_)
   clear hK K;refine bH 4 rfl hHeld ?_;refine wpAnyH_ready (rs := [5]) (by kernel_rfl) (by simp) ?_
   refine AllReadyH.cons rfl (fun K hK => ?_) AllReadyH.nil
   rw[if_pos (by rfl)]
   go_simp;refine hK.out _ _ trivial (fun hHeld => ?_)
   clear hK K;have hL4:=ae.new w3 72 (Dk.iY (xn,d) (.slice eu d.length bQ));have Nk:=pS.size;have hs3:=bh.size;have hb4:Below A.heap.size A (w3.alloc (.cells (Dk.iY (xn,d) (.slice eu d.length bQ)) 72)):=bh.alloc bh.size _;obtain⟨v5,w5,hrun,eW,bU⟩:=rS CW.out hb4 hL4 (om.alloc _) Nk (by rw[List.length_take];omega) (by rw[List.length_take];omega)
   obtain⟨iV,dA,rfl⟩:=ny eW;have Cq:=lf ow.out CW.out hb4 bU;have gV:=aa hrun;have iW:=aa eW;have j3:=aa bU;have bJ:=aa hb4;have MD:=aa Cq;clear hL4 hb4 hrun eW bU Cq;refine wpAnyH_ready (rs := [6]) (by kernel_rfl) (by simp) ?_
   refine bt 6 (.tmp 10) (.tmp 15) 63 rfl rfl rfl lv (.slice (some ⟨w3.heap.size,0,none⟩) 1 1) (.slice iV ((Dk.aZ (·.2) zs).take pre.length ++ [(xn,d)]).length dA) w5 ?s6a ?x6a gV.out ⟨trivial,fun hHeld => ?_⟩
   case s6a=>kernel_rfl
   case x6a=>kernel_rfl
   refine wpAnyH_ready (rs := [7]) (by kernel_rfl) (by simp) ?_
   refine bq 7 63 (.tmp 3) (.tmp 16) rfl rfl rfl w.heap.size 0 63 #[lv] #[(.slice iV ((Dk.aZ (·.2) zs).take pre.length ++ [(xn,d)]).length dA)] (.slice iV ((Dk.aZ (·.2) zs).take pre.length ++ [(xn,d)]).length dA) [(.slice iV ((Dk.aZ (·.2) zs).take pre.length ++ [(xn,d)]).length dA)] ?Xk ?y7a rfl (by kernel_rfl) rfl MD.out (Nat.le_of_ble_eq_true rfl) rfl ?k7a
   case Xk=>kernel_rfl
   case y7a=>kernel_rfl
   intro w6 eZ dt
   have dX:=aa eZ;have pG:=aa dt;clear eZ dt;refine⟨trivial,fun hHeld => ?_⟩
   refine wpAnyH_done (by kernel_rfl) ?_ _
   refine jF.on ?_;clear hHeld
   gi_wp2
   exact list_round lX.out ow.out CW.out UF.out pS.out vR.out bJ.out iW.out j3.out dX.out pG.out
  ·rw[if_pos (by rfl)]
   go_simp
   go_at_call 61
   refine(di (.slice xo d.length xc) d A.drew (Reads.below HZ.out (drawn A 1)) (by omega)).mono ?_
   rintro e w3 ⟨v3,rfl,fM,hb3⟩;obtain⟨eu,bQ,rfl⟩:=fM.reads.shape;have om:=aa fM;have bh:=aa (on (drawn A 1) hb3);clear fM hb3;refine hK.out _ _ trivial (fun hHeld => ?_)
   clear hK K;refine bH 4 rfl hHeld ?_;have q3:w3.cell? ⟨w.heap.size,0,none⟩=some lv:=(Boxed.cell ((bh.block _ ow.lt).trans ow.out));refine wpAnyH_ready (rs := [0,5]) (by kernel_rfl) (by simp) ?_
   refine AllReadyH.cons rfl (fun K hK => ?_) (AllReadyH.cons rfl (fun K hK => ?_) AllReadyH.nil)
   ·rw[if_pos (by rfl)]
    go_simp;refine hK.out _ _ trivial (fun hHeld => ?_)
    clear hK K;clear q3;refine wpAnyH_ready (rs := [5]) (by kernel_rfl) (by simp) ?_
    refine AllReadyH.cons rfl (fun K hK => ?_) AllReadyH.nil
    rw[if_pos (by rfl)]
    go_simp;refine hK.out _ _ trivial (fun hHeld => ?_)
    clear hK K;have hL4:=ae.new w3 72 (Dk.iY (xn,d) (.slice eu d.length bQ));have Nk:=pS.size;have hs3:=bh.size;have hb4:Below A.heap.size A (w3.alloc (.cells (Dk.iY (xn,d) (.slice eu d.length bQ)) 72)):=bh.alloc bh.size _;obtain⟨v5,w5,hrun,eW,bU⟩:=rS CW.out hb4 hL4 (om.alloc _) Nk (by rw[List.length_take];omega) (by rw[List.length_take];omega)
    obtain⟨iV,dA,rfl⟩:=ny eW;have Cq:=lf ow.out CW.out hb4 bU;have gV:=aa hrun;have iW:=aa eW;have j3:=aa bU;have bJ:=aa hb4;have MD:=aa Cq;clear hL4 hb4 hrun eW bU Cq;refine wpAnyH_ready (rs := [6]) (by kernel_rfl) (by simp) ?_
    refine bt 6 (.tmp 10) (.tmp 15) 63 rfl rfl rfl lv (.slice (some ⟨w3.heap.size,0,none⟩) 1 1) (.slice iV ((Dk.aZ (·.2) zs).take pre.length ++ [(xn,d)]).length dA) w5 ?s6b ?x6b gV.out ⟨trivial,fun hHeld => ?_⟩
    case s6b=>kernel_rfl
    case x6b=>kernel_rfl
    refine wpAnyH_ready (rs := [7]) (by kernel_rfl) (by simp) ?_
    refine bq 7 63 (.tmp 3) (.tmp 16) rfl rfl rfl w.heap.size 0 63 #[lv] #[(.slice iV ((Dk.aZ (·.2) zs).take pre.length ++ [(xn,d)]).length dA)] (.slice iV ((Dk.aZ (·.2) zs).take pre.length ++ [(xn,d)]).length dA) [(.slice iV ((Dk.aZ (·.2) zs).take pre.length ++ [(xn,d)]).length dA)] ?Xn ?y7b rfl (by kernel_rfl) rfl MD.out (Nat.le_of_ble_eq_true rfl) rfl ?k7b
    case Xn=>kernel_rfl
    case y7b=>kernel_rfl
    intro w6 eZ dt
    have dX:=aa eZ;have pG:=aa dt;clear eZ dt;refine⟨trivial,fun hHeld => ?_⟩
    refine wpAnyH_done (by kernel_rfl) ?_ _
    refine jF.on ?_;clear hHeld
    gi_wp2
    exact list_round lX.out ow.out CW.out UF.out pS.out vR.out bJ.out iW.out j3.out dX.out pG.out
   ·rw[if_pos (by rfl)]
    go_simp;refine hK.out _ _ trivial (fun hHeld => ?_)
    clear hK K;clear q3;have q4:(w3.alloc (.cells #[.int .i64 xn, .slice eu d.length bQ] 72)).cell? ⟨w.heap.size,0,none⟩=some lv:=(Boxed.cell (((bh.alloc bh.size _).block _ ow.lt).trans ow.out));refine wpAnyH_ready (rs := [0]) (by kernel_rfl) (by simp) ?_
    refine AllReadyH.cons rfl (fun K hK => ?_) AllReadyH.nil
    rw[if_pos (by rfl)]
    go_simp;refine hK.out _ _ trivial (fun hHeld => ?_)
    clear hK K;clear q4;have hL4:=ae.new w3 72 (Dk.iY (xn,d) (.slice eu d.length bQ));have Nk:=pS.size;have hs3:=bh.size;have hb4:Below A.heap.size A (w3.alloc (.cells (Dk.iY (xn,d) (.slice eu d.length bQ)) 72)):=bh.alloc bh.size _;obtain⟨v5,w5,hrun,eW,bU⟩:=rS CW.out hb4 hL4 (om.alloc _) Nk (by rw[List.length_take];omega) (by rw[List.length_take];omega)
    obtain⟨iV,dA,rfl⟩:=ny eW;have Cq:=lf ow.out CW.out hb4 bU;have gV:=aa hrun;have iW:=aa eW;have j3:=aa bU;have bJ:=aa hb4;have MD:=aa Cq;clear hL4 hb4 hrun eW bU Cq;refine wpAnyH_ready (rs := [6]) (by kernel_rfl) (by simp) ?_
    refine bt 6 (.tmp 10) (.tmp 15) 63 rfl rfl rfl lv (.slice (some ⟨w3.heap.size,0,none⟩) 1 1) (.slice iV ((Dk.aZ (·.2) zs).take pre.length ++ [(xn,d)]).length dA) w5 ?s6c ?x6c gV.out ⟨trivial,fun hHeld => ?_⟩
    case s6c=>kernel_rfl
    case x6c=>kernel_rfl
    refine wpAnyH_ready (rs := [7]) (by kernel_rfl) (by simp) ?_
    refine bq 7 63 (.tmp 3) (.tmp 16) rfl rfl rfl w.heap.size 0 63 #[lv] #[(.slice iV ((Dk.aZ (·.2) zs).take pre.length ++ [(xn,d)]).length dA)] (.slice iV ((Dk.aZ (·.2) zs).take pre.length ++ [(xn,d)]).length dA) [(.slice iV ((Dk.aZ (·.2) zs).take pre.length ++ [(xn,d)]).length dA)] ?x7c ?y7c rfl (by kernel_rfl) rfl MD.out (Nat.le_of_ble_eq_true rfl) rfl ?k7c
    case x7c=>kernel_rfl
    case y7c=>kernel_rfl
    intro w6 eZ dt
    have dX:=aa eZ;have pG:=aa dt;clear eZ dt;refine⟨trivial,fun hHeld => ?_⟩
    refine wpAnyH_done (by kernel_rfl) ?_ _
    refine jF.on ?_;clear hHeld
    gi_wp2
    exact list_round lX.out ow.out CW.out UF.out pS.out vR.out bJ.out iW.out j3.out dX.out pG.out
 case done =>
  rintro D ys W hD PN ⟨⟨lv,hbl,CK⟩,Bb,sV⟩ hK;have lW:=hbl.cell;obtain rfl:ys=Dk.aZ (·.1) zs:=PN
  gi_wp2
  refine⟨by simp, .inl ⟨_,_,rfl,run_takeDeferred hK, ?_⟩⟩
  exact⟨_,results_tmp rfl _ _ _,lv,rfl,MB CK sV hK (by simp at hD;omega) (by simp[Dk.aZ])⟩
def Ez(w:World)(mv:Option Nat)(F:Dk.av)(pre:List (Int × Value))(W:World):Prop :=
 (∃ys,aT W w.heap.size ys∧Dk.aZ (·.2) ys=F.take pre.length ∧ ∀k,Bl ys k->w.heap.size<=k)∧Boxed W (w.heap.size+1) 74 (.map (some w.heap.size))∧Boxed W (w.heap.size+2) 74 (.map mv)∧Below w.heap.size w W
theorem EA(w:World)(mv:Option Nat)(F:Dk.av)(B:Nat)(hB:w.heap.size<B):OwnFrom B (Ez w mv F):=by
 rintro pre W W' row ⟨⟨ys,hf,he,hk⟩,ha,hc,hb⟩ hg hr;have hr' : ∀r,row=some r -> ∃o:Obj,W.heap[r]? = some o∧o.isCells=false:=fun r e=>(hr r e).2
 refine⟨⟨ys,hf.stays (hg.block _ hf.map.lt fun e => ?_) (fun k zI => hg.block k (hf.lt zI) fun e => ?_),he,hk⟩,lQ ha hg hr', lQ hc hg hr', xQ hb hg hb.size (fun r e=>(hr r e).1) (Nat.le_of_lt hB)⟩
 ·have:=(hr _ e.symm).1;omega
 ·obtain⟨cs,hc'⟩:=hf.cells zI
  obtain⟨o,ho,hcc⟩:=hr' k e.symm;rw[hc']at ho
  cases ho;cases hcc
theorem iH{F:Dk.av}(ha:Dk.eD F){i:Nat}{n:Int}{d:List UInt8}(hi:F[i]? = some (n,d)):Dk.put (F.take i) n d=F.take i ++ [(n,d)]:=by
 have h1 : ∀q∈F.take i,q.1<n:=fun q hq=>by
  obtain⟨j,hj⟩:=List.getElem?_of_mem hq;rw[List.getElem?_take]at hj
  split at hj
  ·obtain⟨hi1,hi2⟩:=List.getElem?_eq_some_iff.1 hi
   obtain⟨Nf,hj2⟩:=List.getElem?_eq_some_iff.1 hj;have:=List.pairwise_iff_getElem.1 ha j i Nf hi1 (by omega)
   rw[hi2,hj2]at this
   exact this
  ·cases hj
 have h2 : ∀(l:Dk.av),(∀q∈l,q.1<n)->Dk.put l n d=l ++ [(n,d)]:=fun l hl=>by
  unfold Dk.put;have hd:Dk.del l n=l:=by
   unfold Dk.del;exact List.filter_eq_self.2 fun q hq=>by have:=hl q hq;simp;omega
  rw[hd];clear hd
  induction l with
  | nil=>rfl
  | cons p r ih =>
   have hp:=hl p (by simp)
   unfold Dk.ins;rw[if_neg (by omega),ih (fun q hq=>hl q (List.mem_cons_of_mem _ hq))]
   rfl
 exact h2 _ h1
theorem Cr{w A w3 w4:World}{mv:Option Nat}{F:Dk.av}(ha:Dk.eD F){pre:List (Int × Value)}{x:Int × Value}{xn:Int}{d:List UInt8}{v3:Value}{ys:List Row}{base:Nat}(FJ:F[pre.length]? = some (xn,d))(hf:aT A w.heap.size ys)(he:Dk.aZ (·.2) ys=F.take pre.length)(hk : ∀k,Bl ys k->w.heap.size<=k)
 (wI:Boxed A (w.heap.size+1) 74 (.map (some w.heap.size))) (Bb:Boxed A (w.heap.size+2) 74 (.map mv)) (sV:Below w.heap.size w A) (hn:1<=xn∧xn<=4294967296) (hb3:Below A.heap.size A w3) (fM:bF w3 A.heap.size 5 v3 d) (hbase:w.heap.size<base)
 (OG:ct w4 w.heap.size (Dk.put (Dk.aZ (·.1) ys) xn v3)) (hg4:w3.grownBy w4 (some w.heap.size)) :
 KeepsFrom base A w4∧Kp (xP w.heap.size (w.heap.size+2)) A w4∧Ez w mv F (pre ++ [x]) w4:=by
 have Nk:=sV.size;have hp:=hf.put xn hn v3 d none (gD hb3) (fun g e=>by cases e) (bF.mono fM (Nat.zero_le _)) (fun g e=>by
  obtain⟨cs,hc,hg⟩:=fM.cells e;exact .inr hg) OG hg4
 have hkk:Kp (fun k o=>k≠w.heap.size) A w4:=(Kp.all hb3).trans (Kp.aI hg4 fun b o e _ hq=>hq (by simpa using e.symm))
 refine⟨⟨hkk.size,fun k o hkb h _=>hkk.same k o h (by omega)⟩,hkk.imp fun b o hb hq => ?_,⟨_,hp.1, ?_,fun k zI => ?_⟩,hkk.same _ _ wI (by omega),hkk.same _ _ Bb (by omega),sV.trans (hkk.below Nk fun b o hb _=>by omega)⟩
 ·rcases hq with h | h | ⟨cs,fr,rfl⟩
  ·omega
  ·omega
  ·intro e
   subst e;exact hf.map.fp hb
 ·rw[Dk.pU,he,iH ha FJ,List.length_append,List.length_singleton,List.take_add_one,FJ]
  rfl
 ·obtain⟨z,hz,e⟩:=zI
  rcases Dk.eI.1 hz with rfl | ⟨hz,_⟩
  ·obtain⟨cs,hc,hg⟩:=fM.cells e
   omega
  ·exact hk k ⟨z,hz,e⟩
theorem Cs{w:World}{mv:Option Nat}{zs:List Row}(h:dP w mv zs)(hs:Dk.wt (Dk.aZ (·.2) zs)<=1099511627776) :
 Calls Tryz.prog 78 #[.map mv] w fun e w' => e = .returned (.map (some w.heap.size))∧(∃ys,aT w' w.heap.size ys∧Dk.aZ (·.2) ys=Dk.aZ (·.2) zs ∧ ∀k,Bl ys k->w.heap.size<=k)∧Below w.heap.size w w' := by
 refine(callsIn_wide (n:=9)).1 ?_;refine callsIn_of_wp_marks Tryz.func78 rfl trivial ?_ rfl;simp only[Tryz.ntmps78,List.size_toArray,List.length_cons,List.length_nil,Nat.reduceAdd,Nat.reduceSub,Array.replicate_succ,Array.replicate_zero,List.push_toArray,List.append_toArray,List.nil_append,List.cons_append];have Ns := @run_makeMap Tryz.prog;have f0:=aT.new w;have hB0:Below w.heap.size w (w.alloc (.map #[] 0)):=(Below.refl _ w).alloc (Nat.le_refl _) _;have b0:=Boxed.new (w.alloc (.map #[] 0)) 74 (.map (some w.heap.size));rw[World.size_alloc]at b0
 have aq:Below w.heap.size w ((w.alloc (.map #[] 0)).alloc (.cells #[.map (some w.heap.size)] 74)):=hB0.alloc (by simp) _
 have b1:=Boxed.new ((w.alloc (.map #[] 0)).alloc (.cells #[.map (some w.heap.size)] 74)) 74 (.map mv);rw[World.size_alloc,World.size_alloc]at b1
 have dN:Below w.heap.size w (((w.alloc (.map #[] 0)).alloc (.cells #[.map (some w.heap.size)] 74)).alloc (.cells #[.map mv] 74)):=aq.alloc (by simp;omega) _
 have UE:=b0.alloc (.cells #[.map mv] 74);have f01:=(f0.below ((Below.refl _ _).alloc (Nat.le_refl _) (.cells #[.map (some w.heap.size)] 74)) (Nat.le_refl _)).below ((Below.refl _ _).alloc (Nat.le_refl _) (.cells #[.map mv] 74)) (Nat.le_refl _);have hlen:zs.length<=17592186044416:=by
  have:=Dk.mz (Dk.aZ (·.2) zs)
  simp only[Dk.aZ,List.length_map]at this
  have h2:=hs;simp only[Dk.aZ]at h2
  omega
 gi_wp2_with (refine⟨trivial, ?_⟩;gi_at_call 83;refine(callsIn_wide.2 (sj mv _)).mono ?_;rintro e w1 ⟨rfl,rfl⟩)
 have hM:=(h.below dN).map;have Yi:Dk.eD (Dk.aZ (·.2) zs):=(Dk.Bo _).2 h.Aa
 refine tP (n:=9) rfl (by omega) (f:=117) (held := #[.pointer (some ⟨w.heap.size+2,0,none⟩)]) (by simp[Act.eval]) trivial (enters_of Tryz.func117 (by kernel_rfl) rfl)
  (sr (xP w.heap.size (w.heap.size+2)) mv (w.heap.size+2) (Dk.aZ (·.1) zs) _ (fun b e o => .inl (by
    rcases h with ⟨e', _⟩ | ⟨b', e', h'⟩
    ·rw[e']at e;cases e
    ·rw[e']at e;cases e;exact h'.map.lt)) (fun o => .inr (.inl rfl)) (fun k cs fr => .inr (.inr ⟨cs,fr,rfl⟩)) b1 hM (fun u hu=>by
    obtain⟨z,hz,rfl⟩:=List.mem_map.1 hu;exact h.range z hz) (by simp only[Dk.aZ,List.length_map];exact hlen))
  (Below.refl _ _) Kp.trans (fun A l o o' hl h ho=>Co h ho (by simp at hl;omega) (by simp at hl;omega)) (fun _=>rfl)
  (Ez w mv (Dk.aZ (·.2) zs)) (EA w mv _ _ (by simp;omega)) (fun s W W' row hs _ _=>hs) (fun s W W' row hs _ _=>hs) ⟨⟨[],f01,rfl,fun k hk=>by obtain⟨z,hz,_⟩:=hk;simp at hz⟩,UE,b1,dN⟩
  (fun x=>{ tmps := #[.map mv,undef, .map none, .pointer (some ⟨w.heap.size+1,0,none⟩), .int .i64 x.1,x.2, .map (some w.heap.size), .map mv, .func (.func 117) #[] #[.pointer (some ⟨w.heap.size+2,0,none⟩)], .int .i64 x.1,x.2,undef,undef,undef,undef,undef],defers := [] }) ?assign ?body ?done
 case assign =>
  intro lp x W K hK
  unfold pQ
  gi_wp2
  exact hK
 case body =>
  clear b0 b1 hB0 aq dN UE f0 f01 hM Ns;rintro lp pre ⟨xn,xv⟩ A ⟨⟨ys,hf,he,hk⟩,wI,Bb,sV⟩ ⟨post,Cp⟩ hsz;obtain⟨d,jC,FJ⟩:=comes Cp;simp only at jC FJ
  have RA:bF A 0 5 xv d:=bF.keep (h.own _ jC) sV (Nat.le_refl _);obtain⟨xo,xc,rfl⟩:=RA.reads.shape;have sY:=h.range _ jC;simp only at sY
  have WK:d.length<=1099511627776:=by
   have:=Dk.oK (List.mem_of_getElem? FJ);simp only at this
   omega
  have hyl:(Dk.aZ (·.1) ys).length<4611686018427387904:=by
   have h1:=congrArg List.length he;have h2:=Dk.mz (Dk.aZ (·.2) zs)
   rw[List.length_take]at h1
   simp only[Dk.aZ,List.length_map]at h1 h2 ⊢
   have h3:=hs;simp only[Dk.aZ]at h3
   omega
  have hco:=wI.cell;have HZ:=aa RA.reads;have HF:=aa hf;have HE:=aa he;have HKB:=aa hk;have SG:=aa wI;have UF:=aa Bb;have pS:=aa sV;have HFD:=aa FJ;clear RA hf he hk wI Bb sV FJ hsz jC Cp
  gi_wp2
  refine lz (S:=fun W=>W.cell? ⟨w.heap.size+1,0,none⟩=some (.map (some w.heap.size))) (by kernel_rfl) (by kernel_rfl) hco (fun hHeld => ?_)
  refine bH 0 rfl hHeld ?_;refine bH 1 rfl hHeld ?_;refine bH 2 rfl hHeld ?_;refine wpAnyH_ready (rs := [3]) (by kernel_rfl) (by simp) ?_
  refine AllReadyH.cons rfl (fun K hK => ?_) AllReadyH.nil
  rw[if_pos (by rfl)]
  go_simp
  go_at_call 61
  refine(di (.slice xo d.length xc) d A.drew (Reads.below HZ.out (drawn A 1)) (by omega)).mono ?_
  rintro e w3 ⟨v3,rfl,fM,hb3⟩;have om:=aa fM;have bh:=aa (on (drawn A 1) hb3);clear fM hb3;have q3:w3.cell? ⟨w.heap.size+1,0,none⟩=some (.map (some w.heap.size)):=(Boxed.cell ((bh.block _ SG.lt).trans SG.out));refine hK.out _ _ q3 (fun hHeld => ?_)
  clear hK K;refine wpAnyH_ready (rs := [4]) (by kernel_rfl) (by simp) ?_
  refine lS 4 (.tmp 11) (.tmp 12) (.tmp 14) rfl rfl rfl w.heap.size (Dk.aZ (·.1) ys) xn v3 ?m4 ?x4 ?u4 (HF.map.below bh.out HF.map.lt) (by omega) (by omega) hyl ?k4
  case m4=>kernel_rfl
  case x4=>kernel_rfl
  case u4=>kernel_rfl
  intro w4 OG hg4
  have j6:=aa OG;have Gg:=aa hg4;clear OG hg4;have q4:w4.cell? ⟨w.heap.size+1,0,none⟩=some (.map (some w.heap.size)):=(Boxed.cell ((Gg.block _ (by have:=bh.size;have:=SG.lt;omega) (by simp)).trans ((bh.block _ SG.lt).trans SG.out)))
  refine⟨q4,fun hHeld => ?_⟩
  refine wpAnyH_done (by kernel_rfl) ?_ _
  refine jF.on ?_;clear hHeld
  gi_wp2
  exact Cr Yi HFD.out HF.out HE.out HKB.out SG.out UF.out pS.out sY bh.out om.out (by simp;omega) j6.out Gg.out
 case done =>
  rintro D xs W hD PN ⟨⟨ys,hf,he,hk⟩,wI,Bb,sV⟩ hK;have hco:=wI.cell;obtain rfl:xs=Dk.aZ (·.1) zs:=PN
  gi_wp2
  refine⟨by simp, .inl ⟨_,_,rfl,run_takeDeferred hK, ?_⟩⟩
  have hg:=grownBy_putObj' W D (.deferred none);have hDs:w.heap.size+3<=D:=by simp at hD;omega
  refine⟨_,results_tmp rfl _ _ _,rfl,⟨ys,hf.stays (hg.block _ hf.map.lt (by simp;omega)) (fun k zI => hg.block k (hf.lt zI) fun e => ?_),by rw[he,List.take_of_length_le (by simp[Dk.aZ])],hk⟩,sV.grown hg sV.size fun k e=>by simp only[Option.some.injEq]at e;omega⟩
  obtain⟨cs,hc⟩:=hf.cells zI;simp only[Option.some.injEq]at e
  subst e;rw[hK]at hc
  cases hc
end
end Go.Proofs.YtdkdjofnnnljjaaGreatDoor

namespace Go.Proofs.YtdkdjofnnnljjaaGreatDoor
open Go.RowKit
set_option maxHeartbeats 1600000
set_option maxRecDepth 4000
theorem Kt{S:Nat->Prop}{w:World}{d:Nat}{F:Dk.av}{B:List Dk.Op}(h:cu S w d F B)(n:Int)(hq:B.length<=1099511627776) :
 Calls Tryz.prog 88 #[.pointer (some ⟨d,0,none⟩), .int .i64 n] w (mA S w d F (if 1<=n∧n<=4294967296 then B ++ [⟨1,n, []⟩]else B)):=by
 have hc:=tR h 1 n (.slice none 0 0) [] (Reads.empty w) (by simp) hq
 obtain⟨B2,dN⟩ : ∃B2,B2=if 1<=n∧n<=4294967296 then B ++ [⟨1,n, []⟩]else B:=⟨_,rfl⟩
 rw[<- dN]at hc ⊢
 clear dN
 go_enter Tryz.func88,Tryz.ntmps88
 go_wp2_with (go_at_call 71;refine hc.mono ?_;rintro e w' ⟨rfl,h1,h2⟩)
 go_end0
 exact⟨rfl,h1,h2⟩
theorem Fp{S:Nat->Prop}{w:World}{d:Nat}{F:Dk.av}{B:List Dk.Op}(h:cu S w d F B)(n:Int)(v:Value)(data:List UInt8)(hd:Reads w v data)(hl:data.length<=17592186044416)(hq:B.length<=1099511627776) :
 Calls Tryz.prog 41 #[.pointer (some ⟨d,0,none⟩), .int .i64 n,v] w (mA S w d F (if 1<=n∧n<=4294967296 then B ++ [⟨2,n,data⟩]else B)):=by
 obtain⟨ao,cap,rfl⟩:=hd.shape;have hc:=tR h 2 n (.slice ao data.length cap) data (hd) hl hq;obtain⟨B2,dN⟩ : ∃B2,B2=if 1<=n∧n<=4294967296 then B ++ [⟨2,n,data⟩]else B:=⟨_,rfl⟩
 rw[<- dN]at hc ⊢
 clear dN
 go_enter Tryz.func41,Tryz.ntmps41
 go_wp2_with (go_at_call 71;refine hc.mono ?_;rintro e w' ⟨rfl,h1,h2⟩)
 go_end0
 exact⟨rfl,h1,h2⟩
theorem Ku{S:Nat->Prop}{w:World}{d:Nat}{F:Dk.av}{B:List Dk.Op}(h:cu S w d F B)(n:Int)(hq:B.length<=1099511627776) :
 Calls Tryz.prog 89 #[.pointer (some ⟨d,0,none⟩), .int .i64 n] w (mA S w d F (if 1<=n∧n<=4294967296 then B ++ [⟨3,n, []⟩]else B)):=by
 have hc:=tR h 3 n (.slice none 0 0) [] (Reads.empty w) (by simp) hq
 obtain⟨B2,dN⟩ : ∃B2,B2=if 1<=n∧n<=4294967296 then B ++ [⟨3,n, []⟩]else B:=⟨_,rfl⟩
 rw[<- dN]at hc ⊢
 clear dN
 go_enter Tryz.func89,Tryz.ntmps89
 go_wp2_with (go_at_call 71;refine hc.mono ?_;rintro e w' ⟨rfl,h1,h2⟩)
 go_end0
 exact⟨rfl,h1,h2⟩
theorem EB{w:World}{d:Nat}{ao:Option Addr}{cap:Nat}(hl:ae w d 76 #[.map none, .slice ao 0 cap])(hcap:cap<=9223372036854775807)(k t:Int) :
 Calls Tryz.prog 18 #[.pointer (some ⟨d,0,none⟩), .int .i64 k, .int .i64 t] w fun e w' => e = .returned (.tuple #[])∧ae w' d 76 #[.map none, .slice none 0 0]∧w.grownBy w' (some d):=by
 have Sc:=gF k 0 w;have e0:Dk.cP k 0=0:=by unfold Dk.cP;omega
 rw[e0]at Sc
 have c1:w.cell? ⟨d,1,none⟩=some (.slice ao 0 cap):=hl.cell 1 _ rfl;have hup:=fun u:World=>pW u ao 0 cap 0 (by omega)
 have HL:=aa hl;clear hl e0
 go_enter Tryz.func18,Tryz.ntmps18
 go_wp2_with (go_at_call 48;refine Sc.mono ?_;rintro e w' ⟨rfl,rfl⟩)
 refine wp_loop_rounds 1 ?_;rw[rounds_succ]
 go_wp2_with (refine aP rfl 67 _ _ rfl d 1 76 _ #[.map none, .slice none 0 0] (.slice none 0 0) [.slice none 0 0] rfl rfl rfl (by kernel_rfl) rfl HL.out (Nat.le_of_ble_eq_true rfl) rfl ?_;intro w9 gP cM)
 go_end0
 exact⟨rfl,gP,cM⟩
theorem ep.buffer{S:Nat->Prop}{w:World}{d b:Nat}{bv:Value}{zs:List Row}{qs:List (Dk.Op × Value)}(h:ep S w d (some b) bv zs qs)(hf:aT w b zs) :
 gH (fun k _=>k<w.heap.size ∧ ¬Bl zs k) w bv 3 (rowsOf Dk.ay qs) ∧ ∀q∈qs,aS (fun k _=>k<w.heap.size ∧ ¬Bl zs k) w q.2 q.1.data:=by
 refine⟨gH.own h.row h.sized fun g e => ?_,fun q hq=>(h.data q hq).imp fun k cs t fr e hp=>⟨aK e,hp.2.2⟩⟩
 obtain⟨cs,hc,_⟩:=h.row.cells e;refine⟨aK hc,fun hb => ?_⟩
 obtain⟨cs', hc'⟩:=hf.cells hb;rw[hc]at hc'
 cases hc'
def xR(S:Nat->Prop)(w:World)(d:Nat)(F:Dk.av)(e:Ending)(w' : World):Prop:=e = .returned (.tuple #[])∧cu (fun j=>S j∨w.heap.size<=j) w' d F []∧Kp (fun j _ => ¬S j) w w'
theorem xS{S:Nat->Prop}{w:World}{d:Nat}{F:Dk.av}{B:List Dk.Op}(h:cu S w d F B)(hk:Dk.sx B)(hs:Dk.wt F+2*Dk.mD B<=17592186044416)(k t:Int) :
 Calls Tryz.prog 18 #[.pointer (some ⟨d,0,none⟩), .int .i64 k, .int .i64 t] w (xR S w d (Dk.crash F B k t)):=by
 obtain⟨mv,bv,zs,qs,h1,rfl,rfl⟩:=h;rcases h1.map with ⟨rfl,rfl,rfl⟩ | ⟨b,rfl,VH,hf⟩
 ·obtain⟨ao,cap,rfl,_,hcap⟩:=(h1.row.reads h1.sized).shape
  refine(EB h1.ag hcap k t).mono ?_;rintro e w' ⟨rfl,hl,hg⟩;have e0:Dk.crash (Dk.aZ (·.2) ([]:List Row)) (([]:List (Dk.Op × Value)).map (·.1)) k t = []:=by simp[Dk.crash,Dk.aZ,Dk.all]
  rw[e0];exact⟨rfl,⟨none, .slice none 0 0, [], [],⟨hl, .inl h1.here, .inl ⟨rfl,rfl,rfl⟩,fun k hk=>by obtain⟨z,hz,_⟩:=hk;simp at hz,aU.empty _ _ _ _,fun g e=>by simp[Value.ownBlock]at e,fun q hq=>by simp at hq⟩,rfl,rfl⟩,Kp.aI hg fun j _ e _ hq=>hq (by simp only[Option.some.injEq]at e;exact e ▸ h1.here)⟩
 ·obtain⟨hr,hd⟩:=h1.buffer hf
  refine(tT h1.ag hf hr hd hk hs k t).mono ?_;rintro e w' ⟨rfl,hl,zs', hf', he,hkp,hbl⟩;refine⟨rfl,⟨some b, .slice none 0 0,zs', [],⟨hl, .inl h1.here, .inr ⟨b,rfl, .inl VH,hf'⟩,fun k hk=>(hbl k hk).imp (h1.blk k) id,aU.empty _ _ _ _,fun g e=>by simp[Value.ownBlock]at e,fun q hq=>by simp at hq⟩,he.symm,rfl⟩,hkp.imp fun j _ _ hS=>⟨fun e=>hS (e ▸ VH),fun e=>hS (e ▸ h1.here),fun hb=>hS (h1.blk j hb)⟩⟩
theorem Kq{S:Nat->Prop}{w:World}{d:Nat}{F:Dk.av}{B:List Dk.Op}(h:cu S w d F B)(hk:Dk.sx B)(hs:Dk.wt F+2*Dk.mD B<=17592186044416) :
 Calls Tryz.prog 45 #[.pointer (some ⟨d,0,none⟩)] w (xR S w d (Dk.all F B)):=by
 have hc:=xS h hk hs 9223372036854775807 0;rw[Dk.rB F B 9223372036854775807 0 (by have:=Dk.j4 B;omega)]at hc
 go_enter Tryz.func45,Tryz.ntmps45
 go_wp2_with (go_at_call 18;refine hc.mono ?_;rintro e w' ⟨rfl,h1,h2⟩)
 go_end0
 exact⟨rfl,h1,h2⟩
theorem Iw{w:World}{d b:Nat}{bv:Value}{zs:List Row}{qs:List (Dk.Op × Value)}(hl:ae w d 76 #[.map (some b),bv])(hf:aT w b zs)(hrow:gH (fun k _=>k<w.heap.size ∧ ¬Bl zs k) w bv 3 (rowsOf Dk.ay qs))
 (Ah : ∀q∈qs,aS (fun k _=>k<w.heap.size ∧ ¬Bl zs k) w q.2 q.1.data) (mC:Dk.sx (qs.map (·.1))) (hs:Dk.wt (Dk.aZ (·.2) zs)+2*Dk.mD (qs.map (·.1))<=17592186044416) :
 Calls Tryz.prog 45 #[.pointer (some ⟨d,0,none⟩)] w (tA w d b zs (Dk.all (Dk.aZ (·.2) zs) (qs.map (·.1)))):=by
 have hc:=tT hl hf hrow Ah mC hs 9223372036854775807 0;rw[Dk.rB _ (qs.map (·.1)) 9223372036854775807 0 (by have:=Dk.j4 (qs.map (·.1));omega)]at hc
 clear hl hf hrow Ah mC hs
 go_enter Tryz.func45,Tryz.ntmps45
 go_wp2_with (go_at_call 18;refine hc.mono ?_;rintro e w' ⟨rfl,h1⟩)
 go_end0
 exact⟨rfl,h1⟩
def Listed(w:World)(F:Dk.av)(e:Ending)(w' : World):Prop := ∃v,e = .returned v∧pn (fun k _=>w.heap.size<=k) w' v F∧Below w.heap.size w w'
theorem vC{w:World}{d:Nat}{mv:Option Nat}{bv:Value}{zs:List Row}(hl:ae w d 76 #[.map mv,bv])(hf:dP w mv zs)(hs:Dk.wt (Dk.aZ (·.2) zs)<=1099511627776) :
 Calls Tryz.prog 25 #[.pointer (some ⟨d,0,none⟩)] w (Listed w (Dk.aZ (·.2) zs)):=by
 have hc:=MC hf hs;have c0:w.cell? ⟨d,0,none⟩=some (.map mv):=hl.cell 0 _ rfl;clear hl hf hs
 go_enter Tryz.func25,Tryz.ntmps25
 go_wp2_with (go_at_call 58;refine hc.mono ?_;rintro e w' ⟨v,rfl,h1,h2⟩;obtain⟨ao,cap,rfl,_,_⟩:=h1.shape)
 go_ret;exact⟨_,rfl,h1,h2⟩
theorem xB{S:Nat->Prop}{w:World}{d:Nat}{F:Dk.av}{B:List Dk.Op}(h:cu S w d F B)(hs:Dk.wt F<=1099511627776):Calls Tryz.prog 25 #[.pointer (some ⟨d,0,none⟩)] w (Listed w F):=by
 obtain⟨mv,bv,zs,qs,h1,rfl,rfl⟩:=h;exact vC h1.ag h1.files hs
theorem xT{S:Nat->Prop}{w w5:World}{d g b2:Nat}{mv:Option Nat}{bv:Value}{zs ys:List Row}{qs:List (Dk.Op × Value)}(h1:ep S w d mv bv zs qs)(hk:Dk.sx (qs.map (·.1)))(hs:Dk.wt (Dk.aZ (·.2) zs)+2*Dk.mD (qs.map (·.1))<=17592186044416)
 (hb:Below w.heap.size w w5) (hl:ae w5 g 76 #[.map (some b2),bv]) (hf:aT w5 b2 ys) (he:Dk.aZ (·.2) ys=Dk.aZ (·.2) zs) (hbl : ∀k,Bl ys k->w.heap.size<=k) :
 Calls Tryz.prog 45 #[.pointer (some ⟨g,0,none⟩)] w5 (tA w5 g b2 ys (Dk.all (Dk.aZ (·.2) zs) (qs.map (·.1)))):=by
 have hbs:=hb.size;have hr:gH (fun k _=>k<w.heap.size) w bv 3 (rowsOf Dk.ay qs):=gH.own h1.row h1.sized fun j e=>by obtain⟨cs,hc,_⟩:=h1.row.cells e;exact aK hc
 have hd : ∀q∈qs,aS (fun k _=>k<w.heap.size) w q.2 q.1.data:=fun q hq=>(h1.data q hq).imp fun k cs t fr e _=>aK e
 have hn : ∀k,k<w.heap.size->k<w5.heap.size ∧ ¬Bl ys k:=fun k hk=>⟨by omega,fun h=>by have:=hbl k h;omega⟩
 have:=Iw (qs:=qs) hl hf ((hr.keep (dS.bp hb)).imp fun k _ _ _ _ hk=>hn k hk) (fun q hq=>((hd q hq).keep (dS.bp hb)).imp fun k _ _ _ _ hk=>hn k hk) hk (by rw[he];exact hs)
 rw[he]at this
 exact this
theorem Ct{w w5 w6 w7:World}{g b2:Nat}{ys:List Row}{F F2:Dk.av}{v:Value}(hF:F2=F)(hb:Below w.heap.size w w5)(hg:w.heap.size<=g)(hb2:w.heap.size<=b2)(hbl : ∀k,Bl ys k->w.heap.size<=k)(hkp:Kp (fun k _=>k≠b2∧k≠g ∧ ¬Bl ys k) w5 w6)
 (h7:pn (fun k _=>w6.heap.size<=k) w7 v F2) (fZ:Below w6.heap.size w6 w7):Listed w F (.returned v) w7:=by
 subst hF;have h5:=hb.size;have h6:=hkp.size;refine⟨v,rfl,h7.imp fun k _ _ _ _ hk=>by omega,hb.trans ((hkp.below h5 fun b _ hlt _=>⟨by omega,by omega,fun h=>by have:=hbl b h;omega⟩).trans (fZ.mono (by omega)))⟩
theorem BA{S:Nat->Prop}{w:World}{d:Nat}{F:Dk.av}{B:List Dk.Op}(h:cu S w d F B)(hk:Dk.sx B)(hs:Dk.wt F+2*Dk.mD B<=1099511627776) :
 Calls Tryz.prog 51 #[.pointer (some ⟨d,0,none⟩)] w (Listed w (Dk.all F B)):=by
 obtain⟨mv,bv,zs,qs,h1,rfl,rfl⟩:=h;have lW:=fun u (hu:dP u mv zs)=>Cs hu (by omega)
 have hwt:=Dk.tU (qs.map (·.1)) (Dk.aZ (·.2) zs)
 obtain⟨ao,cap,rfl⟩:=h1.row.shape;have Ng:(rowsOf Dk.ay qs).length=qs.length:=by simp[rowsOf]
 rw[Ng]at h1
 have c0:w.cell? ⟨d,0,none⟩=some (.map mv):=h1.ag.cell 0 _ rfl;have c1:w.cell? ⟨d,1,none⟩=some (.slice ao qs.length cap):=h1.ag.cell 1 _ rfl;have H1:=aa h1;have Fq:=aa lW;have HW:=aa hwt;have HS:=aa hs;have HK:=aa hk;clear h1 lW hwt hs hk Ng
 go_enter Tryz.func51,Tryz.ntmps51
 go_wp2;refine wp_region_held_drew (S:=fun W=>W.cell? ⟨d,0,none⟩=some (.map mv)∧W.cell? ⟨d,1,none⟩=some (.slice ao qs.length cap)) (by kernel_rfl) (⟨c0,c1⟩) (fun hHeld => ?_)
 refine bH 0 rfl hHeld ?_ (by intro W hSw;obtain⟨s1,s2⟩:=hSw;go_simp;(try with_reducible rfl))
 refine bH 1 rfl hHeld ?_ (by intro W hSw;obtain⟨s1,s2⟩:=hSw;go_simp;(try with_reducible rfl))
 refine bH 2 rfl hHeld ?_ (by intro W hSw;obtain⟨s1,s2⟩:=hSw;go_simp;(try with_reducible rfl))
 refine bH 3 rfl hHeld ?_ (by intro W hSw;obtain⟨s1,s2⟩:=hSw;go_simp;(try with_reducible rfl))
 refine bH 5 rfl hHeld ?_ (by intro W hSw;obtain⟨s1,s2⟩:=hSw;go_simp;(try with_reducible rfl))
 refine bH 6 rfl hHeld ?_ (by intro W hSw;obtain⟨s1,s2⟩:=hSw;go_simp;(try with_reducible rfl))
 refine bH 7 rfl hHeld ?_ (by intro W hSw;obtain⟨s1,s2⟩:=hSw;go_simp;(try with_reducible rfl))
 refine bH 8 rfl hHeld ?_ (by intro W hSw;obtain⟨s1,s2⟩:=hSw;go_simp;(try with_reducible rfl))
 refine wpAnyH_ready (rs := [4,10]) (by kernel_rfl) (by simp) ?_
 refine AllReadyH.cons rfl (fun K hK => ?_) (AllReadyH.cons rfl (fun K hK => ?_) AllReadyH.nil)
 ·rw[if_pos (by rfl)]
  go_simp;have FW:Hid (dP w.drew mv zs):=H1.files.below (drawn w 1)
  go_at_call 78
  refine(Fq.out (w.drew) FW.out).mono ?_;rintro e w3 ⟨rfl,⟨ys,hf3,UG,hk3⟩,hb3⟩;have Jc:=aa hf3;have HE:=aa UG;have bh:=aa hb3;have jz:=aa hk3;clear hf3 UG hb3 hk3;have pJ:Hid (Below w.heap.size w w3):=on (drawn w 1) bh.out;have Al:=aa (H1.ag.below pJ.out H1.ag.lt);refine hK.out _ _ ⟨Al.cell 0 _ rfl,Al.cell 1 _ rfl⟩ (fun hHeld => ?_)
  clear hK K;refine bH 9 rfl hHeld ?_;refine wpAnyH_ready (rs := [10]) (by kernel_rfl) (by simp) ?_
  refine AllReadyH.cons rfl (fun K hK => ?_) AllReadyH.nil
  rw[if_pos (by rfl)]
  go_simp;have UH:=aa (Al.alloc (.cells #[.map none, .slice none 0 0] 76));refine hK.out _ _ ⟨UH.cell 0 _ rfl,UH.cell 1 _ rfl⟩ (fun hHeld => ?_)
  clear hK K;have bJ:Hid (Below w.heap.size w (w3.alloc (.cells #[.map none, .slice none 0 0] 76))):=pJ.alloc pJ.size _;have UI:Hid (w.heap.size<=w3.heap.size):=pJ.size;have pI:Hid (w.heap.size≠w3.heap.size):=by have:=Jc.map.lt;show _≠_;exact Nat.ne_of_lt this
  have mg:Hid (¬Bl ys w3.heap.size):=fun h=>by have:=Jc.lt h;omega
  have pT:Hid (w.heap.size<=w.heap.size):=Nat.le_refl _;have ME:Hid (∀k,Bl ys k->w.heap.size<=k):=jz.out;have Jf:Hid (aT (w3.alloc (.cells #[.map none, .slice none 0 0] 76)) w.heap.size ys):=Jc.below ((Below.refl _ w3).alloc (Nat.le_refl _) _) (Nat.le_refl _);refine wpAnyH_ready (rs := [11]) (by kernel_rfl) (by simp) ?_
  refine bq 11 76 (.tmp 3) (.tmp 15) rfl rfl rfl w3.heap.size 0 76 #[.map none, .slice none 0 0] #[.map (some w.heap.size), .slice ao qs.length cap] (.agg #[.map (some w.heap.size), .slice ao qs.length cap]) [.map (some w.heap.size), .slice ao qs.length cap] ?Jv ?Yj rfl (by kernel_rfl) rfl (ae.new w3 76 #[.map none, .slice none 0 0]) (Nat.le_of_ble_eq_true rfl) rfl ?acY
  case Jv=>kernel_rfl
  case Yj=>kernel_rfl
  intro w5 eN bU
  have ew:Below w.heap.size w w5:=bJ.grown bU (by have:=bJ.size;omega) (fun j e=>by simp only[Option.some.injEq]at e;have:=UI.out;omega)
  have gQ:=aa eN;have bK:=aa ew;have SS:Hid (aT w5 w.heap.size ys):=(Jf.out).stays (bU.block _ (Jf.out).map.lt (fun e=>pI.out (Option.some.inj e))) (fun k hk=>bU.block k ((Jf.out).lt hk) (fun e=>by simp only[Option.some.injEq]at e;exact mg.out (e ▸ hk)))
  have MF:=aa (H1.ag.below ew H1.ag.lt);clear eN bU ew;refine⟨⟨MF.cell 0 _ rfl,MF.cell 1 _ rfl⟩,fun hHeld => ?_⟩
  refine wpAnyH_done (by kernel_rfl) ?_ _
  clear hHeld c0 c1;have OH:=xT H1.out HK.out (by have:=HS.out;omega) bK.out gQ.out SS.out HE.out ME.out
  have SH:=aa OH;clear OH
  go_wp2_with (first
   | (go_at_call 45;refine SH.mono ?_;rintro e w6 ⟨rfl,eZ,Nu,PS,UJ,sO,fP⟩;have dX:=aa eZ;have Yk:=aa PS;have UK:=aa UJ;have mh:=aa sO;clear eZ PS UJ sO fP)
   | (go_at_call 25;refine(vC dX.out (.inr ⟨_,rfl,Yk.out⟩) (by rw[UK.out];have:=HW.out;have:=HS.out;omega)).mono ?_;rintro e w7 ⟨v,rfl,h7,fZ⟩;obtain⟨ao7,Yl,rfl,_,_⟩:=h7.shape))
  go_ret;exact Ct UK.out bK.out UI.out pT.out ME.out mh.out h7 fZ
 ·rw[if_pos (by rfl)]
  go_simp;have aR:Hid (Below w.heap.size w (w.drew.alloc (.cells #[.map none, .slice none 0 0] 76))):=(drawn w 1).alloc (Nat.le_refl _) _;have UL:=aa (H1.ag.below aR.out H1.ag.lt);refine hK.out _ _ ⟨UL.cell 0 _ rfl,UL.cell 1 _ rfl⟩ (fun hHeld => ?_)
  clear hK K;refine wpAnyH_ready (rs := [4]) (by kernel_rfl) (by simp) ?_
  refine AllReadyH.cons rfl (fun K hK => ?_) AllReadyH.nil
  rw[if_pos (by rfl)]
  go_simp;have FW:Hid (dP (w.drew.alloc (.cells #[.map none, .slice none 0 0] 76)) mv zs):=H1.files.below aR.out
  go_at_call 78
  refine(Fq.out (w.drew.alloc (.cells #[.map none, .slice none 0 0] 76)) FW.out).mono ?_;rintro e w3 ⟨rfl,⟨ys,hf3,UG,hk3⟩,hb3⟩;have Jc:=aa hf3;have HE:=aa UG;have bh:=aa hb3;have jz:=aa hk3;clear hf3 UG hb3 hk3;have pJ:Hid (Below w.heap.size w w3):=aR.trans (bh.mono aR.size);have Al:=aa (H1.ag.below pJ.out H1.ag.lt);refine hK.out _ _ ⟨Al.cell 0 _ rfl,Al.cell 1 _ rfl⟩ (fun hHeld => ?_)
  clear hK K;refine bH 9 rfl hHeld ?_;have I6:Hid ((w.drew.alloc (.cells #[.map none, .slice none 0 0] 76)).heap.size=w.heap.size+1):=World.size_alloc w.drew _;have UI:Hid (w.heap.size<=w.heap.size):=Nat.le_refl _;have pI:Hid (w.heap.size+1≠w.heap.size):=by show _≠_;omega
  have mg:Hid (¬Bl ys w.heap.size):=fun h=>by have h2:=jz.out _ h;rw[I6.out]at h2;omega
  have pT:Hid (w.heap.size<=w.heap.size+1):=Nat.le_succ _;have ME:Hid (∀k,Bl ys k->w.heap.size<=k):=fun k hk=>by have h2:=jz.out k hk;rw[I6.out]at h2;omega
  have zF:Hid (ae w3 w.heap.size 76 #[.map none, .slice none 0 0]):=(ae.new w.drew 76 #[.map none, .slice none 0 0]).below bh.out (Nat.lt_of_lt_of_le (Nat.lt_succ_self _) (Nat.le_of_eq I6.symm));have Jf:Hid (aT w3 (w.heap.size+1) ys):=by show aT _ _ _;rw[<- I6.out];exact Jc.out
  refine wpAnyH_ready (rs := [11]) (by kernel_rfl) (by simp) ?_
  refine bq 11 76 (.tmp 3) (.tmp 15) rfl rfl rfl w.heap.size 0 76 #[.map none, .slice none 0 0] #[.map (some (w.heap.size+1)), .slice ao qs.length cap] (.agg #[.map (some (w.heap.size+1)), .slice ao qs.length cap]) [.map (some (w.heap.size+1)), .slice ao qs.length cap] ?Jw ?Ym rfl (by kernel_rfl) rfl zF.out (Nat.le_of_ble_eq_true rfl) rfl ?ac0
  case Jw=>kernel_rfl
  case Ym=>kernel_rfl
  intro w5 eN bU
  have ew:Below w.heap.size w w5:=pJ.grown bU (by have:=pJ.size;omega) (fun j e=>by simp only[Option.some.injEq]at e;have:=UI.out;omega)
  have gQ:=aa eN;have bK:=aa ew;have SS:Hid (aT w5 (w.heap.size+1) ys):=(Jf.out).stays (bU.block _ (Jf.out).map.lt (fun e=>pI.out (Option.some.inj e))) (fun k hk=>bU.block k ((Jf.out).lt hk) (fun e=>by simp only[Option.some.injEq]at e;exact mg.out (e ▸ hk)))
  have MF:=aa (H1.ag.below ew H1.ag.lt);clear eN bU ew;refine⟨⟨MF.cell 0 _ rfl,MF.cell 1 _ rfl⟩,fun hHeld => ?_⟩
  refine wpAnyH_done (by kernel_rfl) ?_ _
  clear hHeld c0 c1;have OH:=xT H1.out HK.out (by have:=HS.out;omega) bK.out gQ.out SS.out HE.out ME.out
  have SH:=aa OH;clear OH
  go_wp2_with (first
   | (go_at_call 45;refine SH.mono ?_;rintro e w6 ⟨rfl,eZ,Nu,PS,UJ,sO,fP⟩;have dX:=aa eZ;have Yk:=aa PS;have UK:=aa UJ;have mh:=aa sO;clear eZ PS UJ sO fP)
   | (go_at_call 25;refine(vC dX.out (.inr ⟨_,rfl,Yk.out⟩) (by rw[UK.out];have:=HW.out;have:=HS.out;omega)).mono ?_;rintro e w7 ⟨v,rfl,h7,fZ⟩;obtain⟨ao7,Yl,rfl,_,_⟩:=h7.shape))
  go_ret;exact Ct UK.out bK.out UI.out pT.out ME.out mh.out h7 fZ
end Go.Proofs.YtdkdjofnnnljjaaGreatDoor

namespace Go.Proofs.YtdkdjofnnnljjaaGreatDoor
open Go.RowKit
set_option maxHeartbeats 1600000
set_option maxRecDepth 4000
theorem Iy(v:Value)(rs:List (Array Value))(w:World)(hv:aQ w v 3 rs)(hz:dC 3 rs)(hn:rs.length<=1099511627776) :
 Calls Tryz.prog 60 #[v] w fun e w' => ∃v', e = .returned v' ∧ aU w' w.heap.size 91 3 v' rs∧Below w.heap.size w w' := by
 have hq : ∀(w:World) (a:Option Addr) (n c n' c' : Nat),(binOp .eql 67 (.slice a n c) (.slice none n' c')).run Tryz.prog w = .ok (.bool a.isNone) w:=fun w a n c n' c' => Lib.run_eql_slice_nil w _ _ a n c n' c' Tryz.underlying67
 obtain⟨ao,cap,rfl,hc1,hc2⟩:=hv.shape;cases ao with
 | none =>
  obtain⟨_,h1,h2,_⟩:=aQ.len hv;have h3:=h2 rfl;obtain rfl:rs = []:=List.eq_nil_of_length_eq_zero (by omega)
  go_enter Tryz.func60,Tryz.ntmps60
  go_wp2;go_ret;exact⟨_,rfl,aU.empty _ _ _ _,Below.refl _ _⟩
 | some a =>
  have HV:Hid (aQ (w.alloc (.cells #[] 91)) (.slice (some a) rs.length cap) 3 rs):=aQ.below hv ((Below.refl _ w).alloc (Nat.le_refl _) _);obtain⟨n,hnn⟩ : ∃n,n=rs.length:=⟨_,rfl⟩;rw[<- hnn]at hn HV ⊢
  have HN:=aa hnn;have HZ:=aa hz;clear hv hc1 hnn hz
  go_enter Tryz.func60,Tryz.ntmps60
  go_wp2_with (at_builtin;refine kj rfl _ _ 67 91 3 40 _ rfl Tryz.underlying67 lu rfl (by decide) w.heap.size [] rs _ _ rfl rfl (World.ownsRow_made w #[] 0 (Nat.le_refl _) (Nat.zero_le _) (by simp)) HV.out HZ.out (by rw[<- HN.out];simp;omega) (by rw[<- HN.out];simp;omega) w ((Below.refl _ w).alloc (Nat.le_refl _) _) (Nat.le_refl _) ?_;intro v' w' zr hb' _)
  all_goals
   rw[List.nil_append]at zr
   obtain⟨EX, cap', kB⟩:=zr.shape;have HO:=aa zr;rw[<- HN.out]at kB
   clear zr;subst kB;go_wp2;go_ret;exact⟨_,rfl,HO.out,hb'⟩
theorem vD(u:Value) : ∀(ps:List (Dk.Op × Value)) (i:Nat) (q:Dk.Op × Value),ps[i]? = some q->(cV (rowsOf Dk.ay ps)).set (i*3+2) u=cV (rowsOf Dk.ay (ps.set i (q.1,u)))
 | [],i,q,h=>by simp at h
 | p :: r,0,q,h=>by
  simp at h
  subst h
  rfl
 | p :: r,i+1,q,h=>by
  have ih:=vD u r i q (by simpa using h)
  have e:cV (rowsOf Dk.ay (p :: r))=(Dk.ay p.1 p.2).toList++cV (rowsOf Dk.ay r):=rfl;have e2:cV (rowsOf Dk.ay ((p :: r).set (i+1) (q.1,u)))=(Dk.ay p.1 p.2).toList++cV (rowsOf Dk.ay (r.set i (q.1,u))):=rfl;rw[e,e2, <- ih,List.set_append_right _ _ (by show 3<=_;omega)]
  congr 2
  show(i+1)*3+2 - 3=i*3+2;omega
structure zz(w:World)(g n cap:Nat)(qs:List (Dk.Op × Value))(i:Nat)(ps:List (Dk.Op × Value))(W:World):Prop where
 own:aU W w.heap.size 91 3 (.slice (some ⟨g,0,none⟩) n cap) (rowsOf Dk.ay ps)
 same:ps.map (·.1)=qs.map (·.1)
 new : ∀(j:Nat) (q:Dk.Op × Value),j<i->ps[j]? = some q->aS (fun k t=>t=5∧w.heap.size<=k) W q.2 q.1.data
 left : ∀j,i<=j->ps[j]? = qs[j]?
 below:Below w.heap.size w W
theorem zz.cell{w W:World}{g n cap:Nat}{qs ps:List (Dk.Op × Value)}{i:Nat}(h:zz w g n cap qs i ps W)(hz:dC 3 (rowsOf Dk.ay ps)){q:Dk.Op × Value}(hq:ps[i]? = some q):W.cell? ⟨g,i*3+2,none⟩=some q.2:=by
 have h1:(cV (rowsOf Dk.ay ps))[i*3+2]? = some q.2:=ql hz (r:=Dk.ay q.1 q.2) (by simp[rowsOf,hq]) rfl
 have:=World.ownsRow.cells h.own (g:=g) rfl _ _ h1
 rwa[Addr.add_lit,Nat.zero_add]at this
theorem zz.block{w W:World}{g n cap:Nat}{qs ps:List (Dk.Op × Value)}{i:Nat}(h:zz w g n cap qs i ps W) : ∃cur,ae W g 91 cur∧cur.size=cap*3∧n<=cap∧cur.toList.take (n*3)=cV (rowsOf Dk.ay ps)∧w.heap.size<=g∧cap<=maxLen:=by
 rcases h.own.2 with ⟨e,_⟩ | ⟨g', cap', cur,e,hb,hg,hc,hm,hs,ht⟩
 ·cases e
 ·simp only[Value.slice.injEq,Option.some.injEq,Addr.mk.injEq,and_true]at e
  obtain⟨rfl,e1,rfl⟩:=e;rw[<- e1]at hc ht
  exact⟨cur,hg,hs,hc,ht,hb,hm⟩
theorem zz.step{w W W1 W2:World}{g n cap:Nat}{qs ps:List (Dk.Op × Value)}{i:Nat}(h:zz w g n cap qs i ps W){q:Dk.Op × Value}(hq:ps[i]? = some q)(hn:n=qs.length){u:Value}(hb1:Below W.heap.size W W1)(lj:bF W1 W.heap.size 5 u q.1.data){cur:Array Value}(EC:ae W g 91 cur)
 (hl2:ae W2 g 91 (cur.setIfInBounds (i*3+2) u)) (hg2:W1.grownBy W2 (some g)):zz w g n cap qs (i+1) (ps.set i (q.1,u)) W2:=by
 obtain⟨cur', hc1,hsz,sJ,Yg,hge,hmx⟩:=h.block;have e2:some (Obj.cells cur 91 (0,0))=some (Obj.cells cur' 91 (0,0)):=(show W.heap[g]? = _ from EC).symm.trans hc1
 cases e2;have XC:=(List.getElem?_eq_some_iff.1 hq).1;have hpl:ps.length=n:=by have:=congrArg List.length h.same;simpa[hn] using this
 have hWs:=h.below.size;have h1s:=hb1.size;have UM : ∀(j:Nat) (q' : Dk.Op × Value),j<i->ps[j]? = some q' -> aS (fun k t=>t=5∧w.heap.size<=k) W2 q'.2 q'.1.data:=fun j q' hj RB =>
  ((h.new j q' hj RB).keep (dS.bp hb1)).keep (dS.aI hg2 fun b cs t fr e hc hp=>by
    simp only[Option.some.injEq]at e
    subst e;have:=(hb1.block g EC.lt).trans EC;rw[this]at hc
    cases hc;exact absurd hp.1 (by decide))
 refine⟨?_, ?_,fun j q' hj RB => ?_,fun j hj => ?_,h.below.trans ((hb1.mono hWs).grown hg2 (by omega) fun j e=>by simp only[Option.some.injEq]at e;omega)⟩
 ·refine⟨?_, .inr ⟨g,cap,_,by simp[rowsOf,hpl],hge,hl2,by simp[rowsOf,hpl];exact sJ,hmx,by simp[hsz], ?_⟩⟩
  ·have:=h.own.1
   have e:=vD u ps i q hq;rw[<- e,List.length_set,this];simp[rowsOf]
  ·rw[Array.toList_setIfInBounds,List.take_set, <- vD u ps i q hq]
   have:(rowsOf Dk.ay (ps.set i (q.1,u))).length*3=n*3:=by simp[rowsOf,hpl]
   rw[this,Yg]
 ·rw[<- h.same]
  apply List.ext_getElem?
  intro j
  rw[List.getElem?_map,List.getElem?_map];by_cases Nd:i=j
  ·subst Nd
   rw[List.getElem?_set_self XC,hq]
   rfl
  ·rw[List.getElem?_set_ne Nd]
 ·by_cases Nd:i=j
  ·subst Nd
   rw[List.getElem?_set_self XC]at RB
   simp only[Option.some.injEq]at RB
   subst RB;have lY:bF W2 W.heap.size 5 u q.1.data:=lj.stays fun k e=>by
    obtain⟨cs,hc,hk⟩:=lj.cells e;refine hg2.block k (aK hc) fun e' => ?_
    simp only[Option.some.injEq]at e'
    have:=EC.lt;omega
   exact aS.own lY fun k e=>by obtain⟨cs,hc,hk⟩:=lY.cells e;exact⟨rfl,by omega⟩
  ·rw[List.getElem?_set_ne Nd]at RB
   exact UM j q' (by omega) RB
 ·rw[List.getElem?_set,if_neg (by omega)]
  exact h.left j (by omega)
def ED(w:World)(B:List Dk.Op)(e:Ending)(w' : World):Prop := ∃v,e = .returned v∧Ye (fun k _=>w.heap.size<=k) w' v B∧Below w.heap.size w w'
theorem qy{S:Nat->Prop}{w:World}{d:Nat}{F:Dk.av}{B:List Dk.Op}(h:cu S w d F B)(hs:Dk.mD B<=1099511627776) :
 Calls Tryz.prog 28 #[.pointer (some ⟨d,0,none⟩)] w (ED w B):=by
 obtain⟨mv,bv,zs,qs,h1,rfl,rfl⟩:=h;have Ng:(rowsOf Dk.ay qs).length=qs.length:=by simp[rowsOf]
 have Yn:=Dk.j4 (qs.map (·.1))
 rw[List.length_map]at Yn
 have lW:=Iy bv _ w (h1.row.reads h1.sized) h1.sized (by rw[Ng];omega)
 obtain⟨ao,cap,rfl⟩:=h1.row.shape;rw[Ng]at h1 lW
 have c1:w.cell? ⟨d,1,none⟩=some (.slice ao qs.length cap):=h1.ag.cell 1 _ rfl;obtain⟨n,hn⟩ : ∃n,n=qs.length:=⟨_,rfl⟩;rw[<- hn]at c1 lW Yn
 have H1:=aa h1;have HN:=aa hn;have HS:=aa hs;have Fq:=aa lW;clear h1 hn Ng hs lW;by_cases h0:n=0
 ·subst h0
  have hq:qs = []:=List.eq_nil_of_length_eq_zero HN.symm;subst hq
  go_enter Tryz.func28,Tryz.ntmps28
  go_wp2_with (go_at_call 60;refine Fq.mono ?_;rintro e w1 ⟨v1,rfl,lj,hb1⟩;obtain⟨ao1,FR,rfl⟩:=lj.shape)
  refine wp_loop_rounds 1 ?_;rw[rounds_succ];go_wp2;go_ret;refine⟨_,rfl,⟨[],rfl,gH.own lj (dC.nil 3) fun g e=>by obtain⟨cs,hc,hg⟩:=lj.cells e;exact hg,fun q hq=>by simp at hq⟩,hb1⟩
 ·go_enter Tryz.func28,Tryz.ntmps28
  go_wp2_with (go_at_call 60;refine Fq.mono ?_;rintro e w1 ⟨v1,rfl,lj,hb1⟩;obtain⟨g,FR,rfl⟩ : ∃g FR,v1 = .slice (some ⟨g,0,none⟩) n FR:=(by
   rcases lj.2 with ⟨_,e0⟩ | ⟨g,cp,cur,e,_⟩
   ·exact absurd (by rw[HN.out, <- e0];simp[rowsOf]) h0
   ·exact⟨g,cp,by rw[e,HN.out];simp[rowsOf]⟩))
  have HI0:Hid (zz w g n FR qs 0 qs w1):=⟨lj,rfl,fun j q hj=>by omega,fun j _=>rfl,hb1⟩
  have SZ:n<=1099511627776:=by have:=HS.out;omega
  clear lj hb1 c1 Yn
  go_loopw [14] (fun x wr => ∃(i:Nat) (ps:List (Dk.Op × Value)),x = .int .i64 (i:Int)∧i<=n∧zz w g n FR qs i ps wr) (fun x _=>n - (intOf x).toNat)
  case atStart=>exact⟨0,qs,rfl,Nat.zero_le _,HI0.out⟩
  case round =>
   obtain⟨i,ps,rfl,hin,hI⟩:=hrel;have HI:=aa hI;clear hI HI0;by_cases hlt:i<n
   ·have hint:((i:Nat):Int)<(n:Int):=by omega
    obtain⟨q,hq⟩ : ∃q,qs[i]? = some q:=⟨_,List.getElem?_eq_getElem (by have:=HN.out;omega)⟩
    have hp:ps[i]? = some q:=(HI.left i (Nat.le_refl _)).trans hq;have hd:=(H1.data q (List.mem_of_getElem? hq)).1;have hzs:dC 3 (rowsOf Dk.ay ps):=eM Dk.gG fun p hp' => by
     obtain⟨j,hj⟩:=List.getElem?_of_mem hp';by_cases Nd:j<i
     ·exact(HI.new j p Nd hj).one
     ·have:=(HI.left j (by omega)).symm.trans hj
      exact(H1.data p (List.mem_of_getElem? this)).one
    obtain⟨x,u⟩:=q;have hd:Reads w u x.data:=hd;obtain⟨ax,cx,rfl⟩:=hd.shape;have WK:x.data.length<=1099511627776:=by
     have hm:x∈qs.map (·.1):=List.mem_map.2 ⟨_,List.mem_of_getElem? hq,rfl⟩
     have:=Dk.tB hm;have:=HS.out;omega
    have ci:wr.cell? ⟨g,i*3+2,none⟩=some (.slice ax x.data.length cx):=HI.cell hzs hp;obtain⟨cur,EC,hsz,sJ,_,hge,hmx⟩:=HI.block;have RD:=aa EC;have HP:=aa hp;have HD:=aa (hd.below HI.below);clear hd hq hzs hp EC
    go_wp2_with (first
     | (go_at_call 61;refine(di (.slice ax x.data.length cx) x.data wr HD.out (by omega)).mono ?_;rintro e w3 ⟨v3,rfl,fM,hb3⟩;obtain⟨eu,bQ,rfl⟩:=fM.reads.shape;have om:=aa fM;have bh:=aa hb3;clear fM hb3)
     | (refine aP rfl 30 _ _ rfl g (i*3+2) 91 cur (cur.setIfInBounds (i*3+2) (.slice eu x.data.length bQ)) (.slice eu x.data.length bQ) [(.slice eu x.data.length bQ)] rfl rfl rfl (by kernel_rfl) rfl (RD.below bh.out RD.lt) (by simp;omega) (by rw[Array.toList_setIfInBounds,List.set_eq_take_append_cons_drop,if_pos (by simp;omega)];simp) ?_;intro w6 eZ dt;have tD:=aa (HI.step HP.out HN.out bh.out om.out RD.out eZ dt);clear eZ dt))
    clear ci
    go_roundw
    case rel=>exact⟨i+1,_,by simp,by omega,tD.out⟩
    case measure=>simp[intOf];omega
   ·have hint : ¬((i:Nat):Int)<(n:Int):=by omega
    go_wp2;go_ret;have hI:=HI.out;have hpl:ps.length=n:=by have:=congrArg List.length hI.same;simpa[HN.out] using this
    have hall : ∀q∈ps,aS (fun k _=>w.heap.size<=k) wr q.2 q.1.data:=fun q hq=>by
     obtain⟨j,hj⟩:=List.getElem?_of_mem hq;have ZR:=(List.getElem?_eq_some_iff.1 hj).1;exact(hI.new j q (by omega) hj).imp fun k cs t fr _ hp=>hp.2
    exact⟨_,rfl,⟨ps,hI.same.symm,gH.own hI.own (eM Dk.gG fun q hq=>(hall q hq).one) fun g e=>by obtain⟨cs,hc,hg⟩:=hI.own.cells e;exact hg,hall⟩,hI.below⟩
end Go.Proofs.YtdkdjofnnnljjaaGreatDoor
