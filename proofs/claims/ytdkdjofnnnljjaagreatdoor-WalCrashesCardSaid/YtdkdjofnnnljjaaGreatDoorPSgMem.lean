/- Several texts of mine in one: GSb SgMem. -/
import Derived.Test.YtdkdjofnnnljjaaGreatDoorPGFs
import Derived.Test.YtdkdjofnnnljjaaGreatDoorPMsCame
import Derived.Test.YtdkdjofnnnljjaaGreatDoorPGEw
import Derived.Test.YtdkdjofnnnljjaaGreatDoorPDkMath
namespace Go.Proofs.YtdkdjofnnnljjaaGreatDoor
open Go.RowKit
set_option maxHeartbeats 3200000
set_option maxRecDepth 8000
section
theorem rN : (Tryz.prog.info? 42).map (fun i=>(i.zero,i.size,i.bytes))=some (some (.agg (Re.cells Re.zero (.slice none 0 0))),12,136):=by kernel_rfl
abbrev bg(q:Nat->Prop)(w:World)(base:Nat)(v:Value)(l:List Re.Rec):Prop:=bb 12 Re.cells Re.Rec.aw (fun b _=>q b) w base 42 v l
section
variable {q : Nat -> Prop} {w w' W : World} {base : Nat} {v : Value} {l : List Re.Rec}
theorem bg.reads' (h:bg q w base v l){q' : Nat->Prop}(hq : ∀b,q b->q' b)(hb : ∀b,base<=b->q' b):gS (fun k _=>q' k) w v l :=
 bb.reads (bb.imp h fun b cs t fr e h=>hq b h) gK fun g e=>hb g (by obtain⟨_,_,h2⟩:=bb.blocks h e;exact h2)
theorem bg.shape(h:bg q w base v l) : ∃o c,v = .slice o l.length c:=by
 obtain⟨ps,e,h1,_⟩:=h;obtain⟨a,c,e2⟩:=aU.shape h1;rw[gj, <- e]at e2
 exact⟨a,c,e2⟩
theorem bg.behind(h:bg q w base v l)(hb:Below base W w)(hs:base<=W.heap.size)(hg:w.grownBy w' v.ownBlock):Below base W w' :=
 hb.grown hg (Nat.le_trans hs hb.size) fun g e=>by obtain⟨_,_,h2⟩:=bb.blocks h e;exact h2
end
theorem gM{q:Nat->Prop}{w:World}{base:Nat}{out:Value}{G:List Re.Rec}(ty:TypeId)(hown:bg q w base out G)(f:Re.Rec)(u:Value){g:Nat}(hl:ae w g 42 (Re.cells f u))(hu:aS (fun b _=>q b) w u f.aw)
 (hlen:G.length<=10000000) (hn : ∀b,q b->b<base) (hbase:base<=w.heap.size) :
 ∃v' w', (Builtin.append_ #[61,61] ty #[out, .slice (some ⟨g,0,none⟩) 1 1]).run Tryz.prog w = .ok v' w' ∧ bg q w' base v' (G ++ [f])∧w.grownBy w' out.ownBlock:=by
 obtain⟨v', w', hrun,h1,h2,_⟩:=hown.snoc (P:=Tryz.prog) (t:=61) ty gK Tryz.underlying61 rN rfl (by decide) hbase f u hl hu (by omega) (by omega) (fun g hg h=>by have:=hn _ h;omega)
 exact⟨v', w', hrun,h1,h2⟩
theorem nV{q:Nat->Prop}{w:World}{ops:Array Oper}{rest:List Oper}{o:Oper}{a:Act}{Q:Exit->Act->World->Prop}(hg:o.guard=none)(s x:Operand)(ho:o.op = .call { callee := .builtin .append,args := #[s,x],argTypes := #[61,61] })
 (base:Nat) (out:Value) (G:List Re.Rec) (hs:a.eval s=out) (hown:bg q w base out G) (f:Re.Rec) (u:Value) (g:Nat) (hx:a.eval x = .slice (some ⟨g,0,none⟩) 1 1) (hl:ae w g 42 (Re.cells f u)) (hu:aS (fun b _=>q b) w u f.aw)
 (hlen:G.length<=10000000) (hn : ∀b,q b->b<base) (hbase:base<=w.heap.size) (hK : ∀v' w', bg q w' base v' (G ++ [f])->w.grownBy w' out.ownBlock->wpList Tryz.prog ops Q rest (a.put o.dst v') w'):wpList Tryz.prog ops Q (o :: rest) a w:=by
 obtain⟨v', w', hrun,h1,h2⟩:=gM o.type hown f u hl hu hlen hn hbase;exact step_append hg s x 61 ho out _ v' hs hx hrun (hK v' w' h1 h2)
section
variable {n : Nat} {w w' W : World} {base : Nat} {v : Value} {l : List Re.Rec}
end
end
def LO(q:Nat->Prop)(w:World)(l:List Re.Rec)(e:Ending)(w' : World):Prop := ∃v,e = .returned v∧bg q w' w.heap.size v l∧Below w.heap.size w w'
theorem bg.mono{q:Nat->Prop}{w:World}{base b:Nat}{v:Value}{l:List Re.Rec}(h:bg q w base v l)(hb:b<=base):bg q w b v l:=by
 obtain⟨ps,e,h1,h2⟩:=h;exact⟨ps,e,aU.mono h1 hb,h2⟩
theorem zh(q:Nat->Prop)(h:Hd.az)(vi va vc:Value)(w:World)(hr:cH w h vi va vc)(hi:jh q vi)(Sy : ∀b,q b->b<w.heap.size)(hv:Hd.Valid h)(hl:h.acc.length<=900000∧h.bl.length<=900000) :
 Calls Tryz.prog 75 #[.agg (Hd.cells h vi va vc)] w (LO q w (Hd.recs h)):=by
 have T1:Hid (∀W,Below w.heap.size w W->aS (fun b _=>q b) W vi h.aw):=fun W hb=>Reads.AW (hr.aw.below hb) hi
 obtain⟨io,ic,rfl⟩:=hr.aw.shape;obtain⟨ao,ac,rfl,ha1,ha2⟩:=aW.shape hr.acc;obtain⟨co,cc,rfl,hc1,hc2⟩:=aW.shape hr.bl;obtain⟨w1,e1,aH,aq,hs1⟩:=kT w h (.slice io h.aw.length ic) (.slice ao h.acc.length ac) (.slice co h.bl.length cc);have HR:=aa (hr.below aq);have HB:=aa aq;have HL:=aa aH;have HF:=aa hl;have Fz:=aa (fun x=>aW.places (hr.below aq).acc x)
 have FA:=aa (fun x=>aW.places (hr.below aq).bl x)
 obtain⟨n,hn⟩ : ∃n,n=h.aw.length:=⟨_,rfl⟩;obtain⟨na,zL⟩ : ∃n,n=h.acc.length:=⟨_,rfl⟩;obtain⟨nc,sJ⟩ : ∃n,n=h.bl.length:=⟨_,rfl⟩;rw[<- hn, <- zL, <- sJ]at HR HL e1
 rw[<- hn]at T1
 rw[<- zL]at Fz ha1
 rw[<- sJ]at FA hc1
 rw[<- hn, <- zL, <- sJ];have qC:=aa zL;have qD:=aa sJ;have T3:na<9223372036854775808:=by omega
 have T4:nc<9223372036854775808:=by omega
 have gq:Hid (∀W,Below w1.heap.size w1 W->AV W w.heap.size h (.slice io n ic) (.slice ao na ac) (.slice co nc cc)):=fun W hW=>HL.below hW HL.lt
 have ZX:Hid (∀W,Below w1.heap.size w1 W->aS (fun b _=>q b) W (.slice io n ic) h.aw):=fun W hW=>T1.out W (HB.trans (hW.mono HB.size))
 have I9:Hid (∀b,q b->b<w1.heap.size):=fun b h=>Nat.lt_of_lt_of_le (Sy b h) HB.size
 have HE:Hid (∀W v L,Below w1.heap.size w1 W->bg q W w1.heap.size v L->L=Hd.recs h->LO q w (Hd.recs h) (.returned v) W):=fun W v L hb ho e=>⟨v,rfl,by rw[<- e];exact bg.mono ho HB.size,HB.trans (hb.mono HB.size)⟩
 obtain⟨Q,hQ⟩ : ∃Q,Q=LO q w (Hd.recs h):=⟨_,rfl⟩;rw[<- hQ]at HE ⊢
 have ZY:Hid (h.aC≠Bl.zero↔0<h.aC.round):=by
  have h1:=Hd.gy hv.aC;rcases Bl.kP _ hv.aC with h2 | h2
  ·show _↔_;rw[h2];simp[Bl.zero]
  ·show _↔_
   rw[h1];omega
 have c2:w1.cell? ⟨w.heap.size,2,none⟩=some (.int .i64 h.base):=HL.cell 2 _ rfl;clear hn zL sJ hr aH aq hl ha2 hc2 hQ hs1 hv hi Sy
 go_enter Tryz.func75,Tryz.ntmps75
 have zO:Hid (Below w1.heap.size w1 w1):=Below.refl _ _;by_cases ZZ:0<h.aC.round
 ·have T7:Hid (h.aC≠Bl.zero):=ZY.2 ZZ
  by_cases hb0:0<h.base
  ·have Ht:=aa hb0
   have c3:w1.cell? ⟨w.heap.size,3,none⟩=some (.slice io n ic):=HL.cell 3 _ rfl;have pS:Hid (Below w1.heap.size w1 (w1.alloc (.cells (Re.cells (Hd.bV h) (.slice io n ic)) 42))):=zO.alloc (Nat.le_refl _) _;have FB:Hid (bg q (w1.alloc (.cells (Re.cells (Hd.bV h) (.slice io n ic)) 42)) w1.heap.size Nil []):=bb.bare _ _ _ _
   go_wp2_with (first
    | (at_builtin;refine nV rfl _ _ rfl w1.heap.size Nil [] rfl FB.out (Hd.bV h) (.slice io n ic) w1.heap.size rfl (ae.new w1 42 (Re.cells (Hd.bV h) (.slice io n ic))) (ZX.out _ pS.out) (by simp) I9.out (by simp) ?_;intro v5 w5 eW bU;have iW:Hid (bg q w5 w1.heap.size v5 [Hd.bV h]):=eW;have bK:Hid (Below w1.heap.size w1 w5):=bg.behind FB.out pS.out (Nat.le_refl _) bU;have p0:w5.cell? ⟨w.heap.size,0,none⟩=some (.int .i64 h.aC.round):=(gq.out _ bK.out).cell 0 _ rfl;have p1:w5.cell? ⟨w.heap.size,1,none⟩=some (.int .i64 h.aC.node):=(gq.out _ bK.out).cell 1 _ rfl;clear eW bU)
    | (at_builtin;refine nV rfl _ _ rfl w1.heap.size v5 ([Hd.bV h]) rfl (bb.below iW.out ((Below.refl _ w5).alloc (Nat.le_refl _) _)) (Hd.cw h) Nil w5.heap.size rfl (ae.new w5 42 (Re.cells (Hd.cw h) Nil)) (aS.none _ _) (by simp) I9.out (Nat.le_trans bK.size (by simp)) ?_;intro v6 w6 sw dt;have Rg:=aa sw;have cy:Hid (Below w1.heap.size w1 w6):=bg.behind (bb.below iW.out ((Below.refl _ w5).alloc (Nat.le_refl _) _)) (bK.alloc bK.size _) (Nat.le_refl _) dt;clear sw dt))
   clear c2 c3 p0 p1;have uX:Hid (([Hd.bV h] ++ [Hd.cw h]:List Re.Rec).length<=2):=by show _<=_;simp
   go_loopw [3,4] (fun y i wr => ∃k:Nat,i = .int .i64 (k:Int)∧k<=na∧Hid (bg q wr w1.heap.size y ([Hd.bV h] ++ [Hd.cw h]++(h.acc.take k).map Hd.aX))∧Hid (Below w1.heap.size w1 wr)) (fun _ i _=>na - (intOf i).toNat)
   case atStart=>exact⟨0,rfl,by omega,by have h1:=Rg.out;show bg _ _ _ _ _;simpa using h1,cy⟩
   case round =>
    obtain⟨k,rfl,hk,HO,cj⟩:=hrel;obtain⟨yo,yc,kK⟩:=bg.shape HO.out;obtain⟨yn,qR⟩ : ∃m,m=([Hd.bV h] ++ [Hd.cw h]++(h.acc.take k).map Hd.aX).length:=⟨_,rfl⟩;rw[<- qR]at kK
    clear qR;subst kK;have m4:wr.cell? ⟨w.heap.size,4,none⟩=some (.slice ao na ac):=(gq.out _ cj.out).cell 4 _ rfl;by_cases DZ:k<na
    ·obtain⟨x,hx⟩ : ∃x,h.acc[k]? = some x:=⟨_,List.getElem?_eq_getElem (by have:=qC.out;omega)⟩
     obtain⟨g,off,rfl,kH,hcell⟩:=Fz.out (by have:=qC.out;omega)
     have bj:Hid (∀W,Below w1.heap.size w1 W->df W g (off+k*10) x):=fun W hW=>hcell W hW k x hx
     have jX:Hid (([Hd.bV h] ++ [Hd.cw h]++(h.acc.take k).map Hd.aX).length<=10000000):=by
      show _<=_;have h1:=HF.1;have h2:=HF.2;have h3:(h.acc.take k).length<=h.acc.length:=List.length_take_le' _ _;have h4:=uX.out
      (try simp only[List.length_append]at h4)
      simp only[List.length_append,List.length_map];omega
     have lX:Hid ([Hd.bV h] ++ [Hd.cw h]++(h.acc.take k).map Hd.aX ++ [Hd.aX x] = [Hd.bV h] ++ [Hd.cw h]++(h.acc.take (k+1)).map Hd.aX):=by show _=_;rw[List.take_add_one,hx];simp
     clear hcell hx;go_wp2;clear m4;refine wp_region_held_drew (S:=fun W=>W.cell? ⟨w.heap.size,4,none⟩=some (.slice (some ⟨g,off,none⟩) na ac)∧df W g (off+k*10) x) (by kernel_rfl) (⟨(gq.out _ ((cj.out).trans ((drawn wr 1).mono cj.size))).cell 4 _ rfl,bj.out _ (cj.trans ((drawn wr 1).mono cj.size))⟩) (fun hHeld => ?_)
     refine aV 0 rfl hHeld ?_;refine aV 1 rfl hHeld ?_;refine aV 2 rfl hHeld ?_;refine aV 3 rfl hHeld ?_;refine aV 4 rfl hHeld ?_;refine aV 5 rfl hHeld ?_;refine aV 6 rfl hHeld ?_;refine aV 7 rfl hHeld ?_;refine aV 8 rfl hHeld ?_;refine aV 9 rfl hHeld ?_;refine aV 10 rfl hHeld ?_;refine aV 11 rfl hHeld ?_;refine aV 12 rfl hHeld ?_;refine aV 13 rfl hHeld ?_;refine aV 14 rfl hHeld ?_;refine aV 15 rfl hHeld ?_;refine aV 16 rfl hHeld ?_;refine aV 17 rfl hHeld ?_;refine aV 18 rfl hHeld ?_;refine aV 19 rfl hHeld ?_;have bw:Hid (Below w1.heap.size w1 (wr.drew.alloc (.cells (Re.cells (Hd.aX x) Nil) 42))):=(cj.trans ((drawn wr 1).mono cj.size)).alloc (Nat.le_trans cj.size (drawn wr 1).size) _;have lK:Hid (bg q (wr.drew.alloc (.cells (Re.cells (Hd.aX x) Nil) 42)) w1.heap.size (.slice yo yn yc) _):=bb.below HO.out ((drawn wr 1).alloc (drawn wr 1).size _);refine wpAnyH_ready (rs := [20]) (by kernel_rfl) (by simp) ?_
     refine AllReadyH.cons rfl (fun K hK => ?_) AllReadyH.nil
     rw[if_pos (by kernel_rfl)]
     go_simp;refine hK.out _ _ ⟨(gq.out _ bw.out).cell 4 _ rfl,bj.out _ bw.out⟩ (fun hHeld => ?_)
     clear hK K;obtain⟨v8,w8,hrun,eU,fh⟩:=gM 61 lK.out (Hd.aX x) Nil (ae.new wr.drew _ _) (aS.none _ _) jX.out I9.out bw.size;have cN:Hid (Below w1.heap.size w1 w8):=bg.behind lK.out bw.out (Nat.le_refl _) fh;have fN:=aa eU;clear eU fh;refine wpAnyH_ready (rs := [21]) (by kernel_rfl) (by simp) ?_
     refine bt 21 (.tmp 34) (.tmp 54) 61 rfl rfl rfl (.slice yo yn yc) (.slice (some ⟨wr.heap.size,0,none⟩) 1 1) v8 w8 ?Ua ?Ub hrun ⟨⟨(gq.out _ cN.out).cell 4 _ rfl,bj.out _ cN.out⟩,fun hHeld => ?_⟩
     case Ua=>kernel_rfl
     case Ub=>kernel_rfl
     refine bH 22 rfl hHeld ?_;refine wpAnyH_done (by kernel_rfl) ?_ _
     clear hHeld hrun;rw[lX.out]at fN
     go_wp2
     go_roundw
     case rel=>exact⟨k+1,by go_num,by omega,fN,cN⟩
     case measure=>simp[intOf];omega
    ·obtain rfl:k=na:=by omega
     have lR:Hid (bg q wr w1.heap.size (.slice yo yn yc) ([Hd.bV h] ++ [Hd.cw h]++h.acc.map Hd.aX)):=by have h1:=HO.out;rw[List.take_of_length_le (by have:=qC.out;omega)]at h1;exact h1
     clear HO;go_wp2;clear m4;obtain⟨wv,iZ⟩ : ∃wv,wv=wr:=⟨_,rfl⟩;rw[<- iZ];have bJ:Hid (Below w1.heap.size w1 wv):=by rw[iZ];exact cj
     have qQ:Hid (bg q wv w1.heap.size (.slice yo yn yc) ([Hd.bV h] ++ [Hd.cw h]++h.acc.map Hd.aX)):=by rw[iZ];exact lR
     clear iZ cj lR
     go_loopw [3,5] (fun y i wr => ∃j:Nat,i = .int .i64 (j:Int)∧j<=nc∧Hid (bg q wr w1.heap.size y ([Hd.bV h] ++ [Hd.cw h]++h.acc.map Hd.aX++(h.bl.take j).map Hd.recC))∧Hid (Below w1.heap.size w1 wr)) (fun _ i _=>nc - (intOf i).toNat)
     case atStart=>exact⟨0,rfl,by omega,by have h1:=qQ.out;show bg _ _ _ _ _;simpa using h1,bJ⟩
     case round =>
      obtain⟨j,rfl,hj,HO,cj⟩:=hrel;obtain⟨yo,yc,kK⟩:=bg.shape HO.out;obtain⟨yn,qR⟩ : ∃m,m=([Hd.bV h] ++ [Hd.cw h]++h.acc.map Hd.aX++(h.bl.take j).map Hd.recC).length:=⟨_,rfl⟩;rw[<- qR]at kK
      clear qR;subst kK;have m4:wr.cell? ⟨w.heap.size,5,none⟩=some (.slice co nc cc):=(gq.out _ cj.out).cell 5 _ rfl;by_cases D1:j<nc
      ·obtain⟨x,hx⟩ : ∃x,h.bl[j]? = some x:=⟨_,List.getElem?_eq_getElem (by have:=qD.out;omega)⟩
       obtain⟨g,off,rfl,kH,hcell⟩:=FA.out (by have:=qD.out;omega)
       have bj:Hid (∀W,Below w1.heap.size w1 W->df W g (off+j*10) x):=fun W hW=>hcell W hW j x hx
       have jX:Hid (([Hd.bV h] ++ [Hd.cw h]++h.acc.map Hd.aX++(h.bl.take j).map Hd.recC).length<=10000000):=by
        show _<=_;have h1:=HF.1;have h2:=HF.2;have h3:(h.bl.take j).length<=h.bl.length:=List.length_take_le' _ _;have h4:=uX.out
        (try simp only[List.length_append]at h4)
        simp only[List.length_append,List.length_map];omega
       have lX:Hid ([Hd.bV h] ++ [Hd.cw h]++h.acc.map Hd.aX++(h.bl.take j).map Hd.recC ++ [Hd.recC x] = [Hd.bV h] ++ [Hd.cw h]++h.acc.map Hd.aX++(h.bl.take (j+1)).map Hd.recC):=by show _=_;rw[List.take_add_one,hx];simp
       clear hcell hx;go_wp2;clear m4;refine wp_region_held_drew (S:=fun W=>W.cell? ⟨w.heap.size,5,none⟩=some (.slice (some ⟨g,off,none⟩) nc cc)∧df W g (off+j*10) x) (by kernel_rfl) (⟨(gq.out _ ((cj.out).trans ((drawn wr 1).mono cj.size))).cell 5 _ rfl,bj.out _ (cj.trans ((drawn wr 1).mono cj.size))⟩) (fun hHeld => ?_)
       refine aV 0 rfl hHeld ?_;refine aV 1 rfl hHeld ?_;refine aV 2 rfl hHeld ?_;refine aV 3 rfl hHeld ?_;refine aV 4 rfl hHeld ?_;refine aV 5 rfl hHeld ?_;refine aV 6 rfl hHeld ?_;refine aV 7 rfl hHeld ?_;refine aV 8 rfl hHeld ?_;refine aV 9 rfl hHeld ?_;refine aV 10 rfl hHeld ?_;refine aV 11 rfl hHeld ?_;refine aV 12 rfl hHeld ?_;refine aV 13 rfl hHeld ?_;have bw:Hid (Below w1.heap.size w1 (wr.drew.alloc (.cells (Re.cells (Hd.recC x) Nil) 42))):=(cj.trans ((drawn wr 1).mono cj.size)).alloc (Nat.le_trans cj.size (drawn wr 1).size) _;have lK:Hid (bg q (wr.drew.alloc (.cells (Re.cells (Hd.recC x) Nil) 42)) w1.heap.size (.slice yo yn yc) _):=bb.below HO.out ((drawn wr 1).alloc (drawn wr 1).size _);refine wpAnyH_ready (rs := [14]) (by kernel_rfl) (by simp) ?_
       refine AllReadyH.cons rfl (fun K hK => ?_) AllReadyH.nil
       rw[if_pos (by kernel_rfl)]
       go_simp;refine hK.out _ _ ⟨(gq.out _ bw.out).cell 5 _ rfl,bj.out _ bw.out⟩ (fun hHeld => ?_)
       clear hK K;obtain⟨v8,w8,hrun,eU,fh⟩:=gM 61 lK.out (Hd.recC x) Nil (ae.new wr.drew _ _) (aS.none _ _) jX.out I9.out bw.size;have cN:Hid (Below w1.heap.size w1 w8):=bg.behind lK.out bw.out (Nat.le_refl _) fh;have fN:=aa eU;clear eU fh;refine wpAnyH_ready (rs := [15]) (by kernel_rfl) (by simp) ?_
       refine bt 15 (.tmp 63) (.tmp 77) 61 rfl rfl rfl (.slice yo yn yc) (.slice (some ⟨wr.heap.size,0,none⟩) 1 1) v8 w8 ?Uc ?Ud hrun ⟨⟨(gq.out _ cN.out).cell 5 _ rfl,bj.out _ cN.out⟩,fun hHeld => ?_⟩
       case Uc=>kernel_rfl
       case Ud=>kernel_rfl
       refine bH 16 rfl hHeld ?_;refine wpAnyH_done (by kernel_rfl) ?_ _
       clear hHeld hrun;rw[lX.out]at fN
       go_wp2
       go_roundw
       case rel=>exact⟨j+1,by go_num,by omega,fN,cN⟩
       case measure=>simp[intOf];omega
      ·obtain rfl:j=nc:=by omega
       have iW:Hid (bg q wr w1.heap.size (.slice yo yn yc) ([Hd.bV h] ++ [Hd.cw h]++h.acc.map Hd.aX++h.bl.map Hd.recC)):=by have h1:=HO.out;rw[List.take_of_length_le (by have:=qD.out;omega)]at h1;exact h1
       go_wp2;exact HE.out _ _ _ cj.out iW.out (by unfold Hd.recs;rw[if_pos Ht.out,if_pos T7.out];first | done | simp)
  ·have Ht:=aa hb0
   have FB:Hid (bg q w1 w1.heap.size Nil []):=bb.bare _ _ _ _;have p0:w1.cell? ⟨w.heap.size,0,none⟩=some (.int .i64 h.aC.round):=(gq.out _ zO.out).cell 0 _ rfl;have p1:w1.cell? ⟨w.heap.size,1,none⟩=some (.int .i64 h.aC.node):=(gq.out _ zO.out).cell 1 _ rfl
   go_wp2_with (at_builtin;refine nV rfl _ _ rfl w1.heap.size Nil ([]) rfl (bb.below FB.out ((Below.refl _ w1).alloc (Nat.le_refl _) _)) (Hd.cw h) Nil w1.heap.size rfl (ae.new w1 42 (Re.cells (Hd.cw h) Nil)) (aS.none _ _) (by simp) I9.out (Nat.le_trans zO.size (by simp)) ?_;intro v6 w6 sw dt;have Rg:=aa sw;have cy:Hid (Below w1.heap.size w1 w6):=bg.behind (bb.below FB.out ((Below.refl _ w1).alloc (Nat.le_refl _) _)) (zO.alloc zO.size _) (Nat.le_refl _) dt;clear sw dt)
   clear c2 p0 p1;have uX:Hid (([] ++ [Hd.cw h]:List Re.Rec).length<=2):=by show _<=_;simp
   go_loopw [3,4] (fun y i wr => ∃k:Nat,i = .int .i64 (k:Int)∧k<=na∧Hid (bg q wr w1.heap.size y ([] ++ [Hd.cw h]++(h.acc.take k).map Hd.aX))∧Hid (Below w1.heap.size w1 wr)) (fun _ i _=>na - (intOf i).toNat)
   case atStart=>exact⟨0,rfl,by omega,by have h1:=Rg.out;show bg _ _ _ _ _;simpa using h1,cy⟩
   case round =>
    obtain⟨k,rfl,hk,HO,cj⟩:=hrel;obtain⟨yo,yc,kK⟩:=bg.shape HO.out;obtain⟨yn,qR⟩ : ∃m,m=([] ++ [Hd.cw h]++(h.acc.take k).map Hd.aX).length:=⟨_,rfl⟩;rw[<- qR]at kK
    clear qR;subst kK;have m4:wr.cell? ⟨w.heap.size,4,none⟩=some (.slice ao na ac):=(gq.out _ cj.out).cell 4 _ rfl;by_cases DZ:k<na
    ·obtain⟨x,hx⟩ : ∃x,h.acc[k]? = some x:=⟨_,List.getElem?_eq_getElem (by have:=qC.out;omega)⟩
     obtain⟨g,off,rfl,kH,hcell⟩:=Fz.out (by have:=qC.out;omega)
     have bj:Hid (∀W,Below w1.heap.size w1 W->df W g (off+k*10) x):=fun W hW=>hcell W hW k x hx
     have jX:Hid (([] ++ [Hd.cw h]++(h.acc.take k).map Hd.aX).length<=10000000):=by
      show _<=_;have h1:=HF.1;have h2:=HF.2;have h3:(h.acc.take k).length<=h.acc.length:=List.length_take_le' _ _;have h4:=uX.out
      (try simp only[List.length_append]at h4)
      simp only[List.length_append,List.length_map];omega
     have lX:Hid ([] ++ [Hd.cw h]++(h.acc.take k).map Hd.aX ++ [Hd.aX x] = [] ++ [Hd.cw h]++(h.acc.take (k+1)).map Hd.aX):=by show _=_;rw[List.take_add_one,hx];simp
     clear hcell hx;go_wp2;clear m4;refine wp_region_held_drew (S:=fun W=>W.cell? ⟨w.heap.size,4,none⟩=some (.slice (some ⟨g,off,none⟩) na ac)∧df W g (off+k*10) x) (by kernel_rfl) (⟨(gq.out _ ((cj.out).trans ((drawn wr 1).mono cj.size))).cell 4 _ rfl,bj.out _ (cj.trans ((drawn wr 1).mono cj.size))⟩) (fun hHeld => ?_)
     refine aV 0 rfl hHeld ?_;refine aV 1 rfl hHeld ?_;refine aV 2 rfl hHeld ?_;refine aV 3 rfl hHeld ?_;refine aV 4 rfl hHeld ?_;refine aV 5 rfl hHeld ?_;refine aV 6 rfl hHeld ?_;refine aV 7 rfl hHeld ?_;refine aV 8 rfl hHeld ?_;refine aV 9 rfl hHeld ?_;refine aV 10 rfl hHeld ?_;refine aV 11 rfl hHeld ?_;refine aV 12 rfl hHeld ?_;refine aV 13 rfl hHeld ?_;refine aV 14 rfl hHeld ?_;refine aV 15 rfl hHeld ?_;refine aV 16 rfl hHeld ?_;refine aV 17 rfl hHeld ?_;refine aV 18 rfl hHeld ?_;refine aV 19 rfl hHeld ?_;have bw:Hid (Below w1.heap.size w1 (wr.drew.alloc (.cells (Re.cells (Hd.aX x) Nil) 42))):=(cj.trans ((drawn wr 1).mono cj.size)).alloc (Nat.le_trans cj.size (drawn wr 1).size) _;have lK:Hid (bg q (wr.drew.alloc (.cells (Re.cells (Hd.aX x) Nil) 42)) w1.heap.size (.slice yo yn yc) _):=bb.below HO.out ((drawn wr 1).alloc (drawn wr 1).size _);refine wpAnyH_ready (rs := [20]) (by kernel_rfl) (by simp) ?_
     refine AllReadyH.cons rfl (fun K hK => ?_) AllReadyH.nil
     rw[if_pos (by kernel_rfl)]
     go_simp;refine hK.out _ _ ⟨(gq.out _ bw.out).cell 4 _ rfl,bj.out _ bw.out⟩ (fun hHeld => ?_)
     clear hK K;obtain⟨v8,w8,hrun,eU,fh⟩:=gM 61 lK.out (Hd.aX x) Nil (ae.new wr.drew _ _) (aS.none _ _) jX.out I9.out bw.size;have cN:Hid (Below w1.heap.size w1 w8):=bg.behind lK.out bw.out (Nat.le_refl _) fh;have fN:=aa eU;clear eU fh;refine wpAnyH_ready (rs := [21]) (by kernel_rfl) (by simp) ?_
     refine bt 21 (.tmp 34) (.tmp 54) 61 rfl rfl rfl (.slice yo yn yc) (.slice (some ⟨wr.heap.size,0,none⟩) 1 1) v8 w8 ?Ue ?Uf hrun ⟨⟨(gq.out _ cN.out).cell 4 _ rfl,bj.out _ cN.out⟩,fun hHeld => ?_⟩
     case Ue=>kernel_rfl
     case Uf=>kernel_rfl
     refine bH 22 rfl hHeld ?_;refine wpAnyH_done (by kernel_rfl) ?_ _
     clear hHeld hrun;rw[lX.out]at fN
     go_wp2
     go_roundw
     case rel=>exact⟨k+1,by go_num,by omega,fN,cN⟩
     case measure=>simp[intOf];omega
    ·obtain rfl:k=na:=by omega
     have lR:Hid (bg q wr w1.heap.size (.slice yo yn yc) ([] ++ [Hd.cw h]++h.acc.map Hd.aX)):=by have h1:=HO.out;rw[List.take_of_length_le (by have:=qC.out;omega)]at h1;exact h1
     clear HO;go_wp2;clear m4;obtain⟨wv,iZ⟩ : ∃wv,wv=wr:=⟨_,rfl⟩;rw[<- iZ];have bJ:Hid (Below w1.heap.size w1 wv):=by rw[iZ];exact cj
     have qQ:Hid (bg q wv w1.heap.size (.slice yo yn yc) ([] ++ [Hd.cw h]++h.acc.map Hd.aX)):=by rw[iZ];exact lR
     clear iZ cj lR
     go_loopw [3,5] (fun y i wr => ∃j:Nat,i = .int .i64 (j:Int)∧j<=nc∧Hid (bg q wr w1.heap.size y ([] ++ [Hd.cw h]++h.acc.map Hd.aX++(h.bl.take j).map Hd.recC))∧Hid (Below w1.heap.size w1 wr)) (fun _ i _=>nc - (intOf i).toNat)
     case atStart=>exact⟨0,rfl,by omega,by have h1:=qQ.out;show bg _ _ _ _ _;simpa using h1,bJ⟩
     case round =>
      obtain⟨j,rfl,hj,HO,cj⟩:=hrel;obtain⟨yo,yc,kK⟩:=bg.shape HO.out;obtain⟨yn,qR⟩ : ∃m,m=([] ++ [Hd.cw h]++h.acc.map Hd.aX++(h.bl.take j).map Hd.recC).length:=⟨_,rfl⟩;rw[<- qR]at kK
      clear qR;subst kK;have m4:wr.cell? ⟨w.heap.size,5,none⟩=some (.slice co nc cc):=(gq.out _ cj.out).cell 5 _ rfl;by_cases D1:j<nc
      ·obtain⟨x,hx⟩ : ∃x,h.bl[j]? = some x:=⟨_,List.getElem?_eq_getElem (by have:=qD.out;omega)⟩
       obtain⟨g,off,rfl,kH,hcell⟩:=FA.out (by have:=qD.out;omega)
       have bj:Hid (∀W,Below w1.heap.size w1 W->df W g (off+j*10) x):=fun W hW=>hcell W hW j x hx
       have jX:Hid (([] ++ [Hd.cw h]++h.acc.map Hd.aX++(h.bl.take j).map Hd.recC).length<=10000000):=by
        show _<=_;have h1:=HF.1;have h2:=HF.2;have h3:(h.bl.take j).length<=h.bl.length:=List.length_take_le' _ _;have h4:=uX.out
        (try simp only[List.length_append]at h4)
        simp only[List.length_append,List.length_map];omega
       have lX:Hid ([] ++ [Hd.cw h]++h.acc.map Hd.aX++(h.bl.take j).map Hd.recC ++ [Hd.recC x] = [] ++ [Hd.cw h]++h.acc.map Hd.aX++(h.bl.take (j+1)).map Hd.recC):=by show _=_;rw[List.take_add_one,hx];simp
       clear hcell hx;go_wp2;clear m4;refine wp_region_held_drew (S:=fun W=>W.cell? ⟨w.heap.size,5,none⟩=some (.slice (some ⟨g,off,none⟩) nc cc)∧df W g (off+j*10) x) (by kernel_rfl) (⟨(gq.out _ ((cj.out).trans ((drawn wr 1).mono cj.size))).cell 5 _ rfl,bj.out _ (cj.trans ((drawn wr 1).mono cj.size))⟩) (fun hHeld => ?_)
       refine aV 0 rfl hHeld ?_;refine aV 1 rfl hHeld ?_;refine aV 2 rfl hHeld ?_;refine aV 3 rfl hHeld ?_;refine aV 4 rfl hHeld ?_;refine aV 5 rfl hHeld ?_;refine aV 6 rfl hHeld ?_;refine aV 7 rfl hHeld ?_;refine aV 8 rfl hHeld ?_;refine aV 9 rfl hHeld ?_;refine aV 10 rfl hHeld ?_;refine aV 11 rfl hHeld ?_;refine aV 12 rfl hHeld ?_;refine aV 13 rfl hHeld ?_;have bw:Hid (Below w1.heap.size w1 (wr.drew.alloc (.cells (Re.cells (Hd.recC x) Nil) 42))):=(cj.trans ((drawn wr 1).mono cj.size)).alloc (Nat.le_trans cj.size (drawn wr 1).size) _;have lK:Hid (bg q (wr.drew.alloc (.cells (Re.cells (Hd.recC x) Nil) 42)) w1.heap.size (.slice yo yn yc) _):=bb.below HO.out ((drawn wr 1).alloc (drawn wr 1).size _);refine wpAnyH_ready (rs := [14]) (by kernel_rfl) (by simp) ?_
       refine AllReadyH.cons rfl (fun K hK => ?_) AllReadyH.nil
       rw[if_pos (by kernel_rfl)]
       go_simp;refine hK.out _ _ ⟨(gq.out _ bw.out).cell 5 _ rfl,bj.out _ bw.out⟩ (fun hHeld => ?_)
       clear hK K;obtain⟨v8,w8,hrun,eU,fh⟩:=gM 61 lK.out (Hd.recC x) Nil (ae.new wr.drew _ _) (aS.none _ _) jX.out I9.out bw.size;have cN:Hid (Below w1.heap.size w1 w8):=bg.behind lK.out bw.out (Nat.le_refl _) fh;have fN:=aa eU;clear eU fh;refine wpAnyH_ready (rs := [15]) (by kernel_rfl) (by simp) ?_
       refine bt 15 (.tmp 63) (.tmp 77) 61 rfl rfl rfl (.slice yo yn yc) (.slice (some ⟨wr.heap.size,0,none⟩) 1 1) v8 w8 ?Ug ?Uh hrun ⟨⟨(gq.out _ cN.out).cell 5 _ rfl,bj.out _ cN.out⟩,fun hHeld => ?_⟩
       case Ug=>kernel_rfl
       case Uh=>kernel_rfl
       refine bH 16 rfl hHeld ?_;refine wpAnyH_done (by kernel_rfl) ?_ _
       clear hHeld hrun;rw[lX.out]at fN
       go_wp2
       go_roundw
       case rel=>exact⟨j+1,by go_num,by omega,fN,cN⟩
       case measure=>simp[intOf];omega
      ·obtain rfl:j=nc:=by omega
       have iW:Hid (bg q wr w1.heap.size (.slice yo yn yc) ([] ++ [Hd.cw h]++h.acc.map Hd.aX++h.bl.map Hd.recC)):=by have h1:=HO.out;rw[List.take_of_length_le (by have:=qD.out;omega)]at h1;exact h1
       go_wp2;exact HE.out _ _ _ cj.out iW.out (by unfold Hd.recs;rw[if_neg (show ¬ 0<h.base from by have:=Ht.out;omega),if_pos T7.out];first | done | simp)
 ·have T7:Hid (¬h.aC≠Bl.zero):=fun h1=>ZZ (ZY.1 h1)
  by_cases hb0:0<h.base
  ·have Ht:=aa hb0
   have c3:w1.cell? ⟨w.heap.size,3,none⟩=some (.slice io n ic):=HL.cell 3 _ rfl;have pS:Hid (Below w1.heap.size w1 (w1.alloc (.cells (Re.cells (Hd.bV h) (.slice io n ic)) 42))):=zO.alloc (Nat.le_refl _) _;have FB:Hid (bg q (w1.alloc (.cells (Re.cells (Hd.bV h) (.slice io n ic)) 42)) w1.heap.size Nil []):=bb.bare _ _ _ _
   go_wp2_with (at_builtin;refine nV rfl _ _ rfl w1.heap.size Nil [] rfl FB.out (Hd.bV h) (.slice io n ic) w1.heap.size rfl (ae.new w1 42 (Re.cells (Hd.bV h) (.slice io n ic))) (ZX.out _ pS.out) (by simp) I9.out (by simp) ?_;intro v5 w5 eW bU;have iW:Hid (bg q w5 w1.heap.size v5 [Hd.bV h]):=eW;have bK:Hid (Below w1.heap.size w1 w5):=bg.behind FB.out pS.out (Nat.le_refl _) bU;have p0:w5.cell? ⟨w.heap.size,0,none⟩=some (.int .i64 h.aC.round):=(gq.out _ bK.out).cell 0 _ rfl;have p1:w5.cell? ⟨w.heap.size,1,none⟩=some (.int .i64 h.aC.node):=(gq.out _ bK.out).cell 1 _ rfl;clear eW bU)
   clear c2 c3 p0 p1;have uX:Hid (([Hd.bV h]:List Re.Rec).length<=2):=by show _<=_;simp
   go_loopw [3,4] (fun y i wr => ∃k:Nat,i = .int .i64 (k:Int)∧k<=na∧Hid (bg q wr w1.heap.size y ([Hd.bV h]++(h.acc.take k).map Hd.aX))∧Hid (Below w1.heap.size w1 wr)) (fun _ i _=>na - (intOf i).toNat)
   case atStart=>exact⟨0,rfl,by omega,by have h1:=iW.out;show bg _ _ _ _ _;simpa using h1,bK⟩
   case round =>
    obtain⟨k,rfl,hk,HO,cj⟩:=hrel;obtain⟨yo,yc,kK⟩:=bg.shape HO.out;obtain⟨yn,qR⟩ : ∃m,m=([Hd.bV h]++(h.acc.take k).map Hd.aX).length:=⟨_,rfl⟩;rw[<- qR]at kK
    clear qR;subst kK;have m4:wr.cell? ⟨w.heap.size,4,none⟩=some (.slice ao na ac):=(gq.out _ cj.out).cell 4 _ rfl;by_cases DZ:k<na
    ·obtain⟨x,hx⟩ : ∃x,h.acc[k]? = some x:=⟨_,List.getElem?_eq_getElem (by have:=qC.out;omega)⟩
     obtain⟨g,off,rfl,kH,hcell⟩:=Fz.out (by have:=qC.out;omega)
     have bj:Hid (∀W,Below w1.heap.size w1 W->df W g (off+k*10) x):=fun W hW=>hcell W hW k x hx
     have jX:Hid (([Hd.bV h]++(h.acc.take k).map Hd.aX).length<=10000000):=by
      show _<=_;have h1:=HF.1;have h2:=HF.2;have h3:(h.acc.take k).length<=h.acc.length:=List.length_take_le' _ _;have h4:=uX.out
      (try simp only[List.length_append]at h4)
      simp only[List.length_append,List.length_map];omega
     have lX:Hid ([Hd.bV h]++(h.acc.take k).map Hd.aX ++ [Hd.aX x] = [Hd.bV h]++(h.acc.take (k+1)).map Hd.aX):=by show _=_;rw[List.take_add_one,hx];simp
     clear hcell hx;go_wp2;clear m4;refine wp_region_held_drew (S:=fun W=>W.cell? ⟨w.heap.size,4,none⟩=some (.slice (some ⟨g,off,none⟩) na ac)∧df W g (off+k*10) x) (by kernel_rfl) (⟨(gq.out _ ((cj.out).trans ((drawn wr 1).mono cj.size))).cell 4 _ rfl,bj.out _ (cj.trans ((drawn wr 1).mono cj.size))⟩) (fun hHeld => ?_)
     refine aV 0 rfl hHeld ?_;refine aV 1 rfl hHeld ?_;refine aV 2 rfl hHeld ?_;refine aV 3 rfl hHeld ?_;refine aV 4 rfl hHeld ?_;refine aV 5 rfl hHeld ?_;refine aV 6 rfl hHeld ?_;refine aV 7 rfl hHeld ?_;refine aV 8 rfl hHeld ?_;refine aV 9 rfl hHeld ?_;refine aV 10 rfl hHeld ?_;refine aV 11 rfl hHeld ?_;refine aV 12 rfl hHeld ?_;refine aV 13 rfl hHeld ?_;refine aV 14 rfl hHeld ?_;refine aV 15 rfl hHeld ?_;refine aV 16 rfl hHeld ?_;refine aV 17 rfl hHeld ?_;refine aV 18 rfl hHeld ?_;refine aV 19 rfl hHeld ?_;have bw:Hid (Below w1.heap.size w1 (wr.drew.alloc (.cells (Re.cells (Hd.aX x) Nil) 42))):=(cj.trans ((drawn wr 1).mono cj.size)).alloc (Nat.le_trans cj.size (drawn wr 1).size) _;have lK:Hid (bg q (wr.drew.alloc (.cells (Re.cells (Hd.aX x) Nil) 42)) w1.heap.size (.slice yo yn yc) _):=bb.below HO.out ((drawn wr 1).alloc (drawn wr 1).size _);refine wpAnyH_ready (rs := [20]) (by kernel_rfl) (by simp) ?_
     refine AllReadyH.cons rfl (fun K hK => ?_) AllReadyH.nil
     rw[if_pos (by kernel_rfl)]
     go_simp;refine hK.out _ _ ⟨(gq.out _ bw.out).cell 4 _ rfl,bj.out _ bw.out⟩ (fun hHeld => ?_)
     clear hK K;obtain⟨v8,w8,hrun,eU,fh⟩:=gM 61 lK.out (Hd.aX x) Nil (ae.new wr.drew _ _) (aS.none _ _) jX.out I9.out bw.size;have cN:Hid (Below w1.heap.size w1 w8):=bg.behind lK.out bw.out (Nat.le_refl _) fh;have fN:=aa eU;clear eU fh;refine wpAnyH_ready (rs := [21]) (by kernel_rfl) (by simp) ?_
     refine bt 21 (.tmp 34) (.tmp 54) 61 rfl rfl rfl (.slice yo yn yc) (.slice (some ⟨wr.heap.size,0,none⟩) 1 1) v8 w8 ?Ui ?Uj hrun ⟨⟨(gq.out _ cN.out).cell 4 _ rfl,bj.out _ cN.out⟩,fun hHeld => ?_⟩
     case Ui=>kernel_rfl
     case Uj=>kernel_rfl
     refine bH 22 rfl hHeld ?_;refine wpAnyH_done (by kernel_rfl) ?_ _
     clear hHeld hrun;rw[lX.out]at fN
     go_wp2
     go_roundw
     case rel=>exact⟨k+1,by go_num,by omega,fN,cN⟩
     case measure=>simp[intOf];omega
    ·obtain rfl:k=na:=by omega
     have lR:Hid (bg q wr w1.heap.size (.slice yo yn yc) ([Hd.bV h]++h.acc.map Hd.aX)):=by have h1:=HO.out;rw[List.take_of_length_le (by have:=qC.out;omega)]at h1;exact h1
     clear HO;go_wp2;clear m4;obtain⟨wv,iZ⟩ : ∃wv,wv=wr:=⟨_,rfl⟩;rw[<- iZ];have bJ:Hid (Below w1.heap.size w1 wv):=by rw[iZ];exact cj
     have qQ:Hid (bg q wv w1.heap.size (.slice yo yn yc) ([Hd.bV h]++h.acc.map Hd.aX)):=by rw[iZ];exact lR
     clear iZ cj lR
     go_loopw [3,5] (fun y i wr => ∃j:Nat,i = .int .i64 (j:Int)∧j<=nc∧Hid (bg q wr w1.heap.size y ([Hd.bV h]++h.acc.map Hd.aX++(h.bl.take j).map Hd.recC))∧Hid (Below w1.heap.size w1 wr)) (fun _ i _=>nc - (intOf i).toNat)
     case atStart=>exact⟨0,rfl,by omega,by have h1:=qQ.out;show bg _ _ _ _ _;simpa using h1,bJ⟩
     case round =>
      obtain⟨j,rfl,hj,HO,cj⟩:=hrel;obtain⟨yo,yc,kK⟩:=bg.shape HO.out;obtain⟨yn,qR⟩ : ∃m,m=([Hd.bV h]++h.acc.map Hd.aX++(h.bl.take j).map Hd.recC).length:=⟨_,rfl⟩;rw[<- qR]at kK
      clear qR;subst kK;have m4:wr.cell? ⟨w.heap.size,5,none⟩=some (.slice co nc cc):=(gq.out _ cj.out).cell 5 _ rfl;by_cases D1:j<nc
      ·obtain⟨x,hx⟩ : ∃x,h.bl[j]? = some x:=⟨_,List.getElem?_eq_getElem (by have:=qD.out;omega)⟩
       obtain⟨g,off,rfl,kH,hcell⟩:=FA.out (by have:=qD.out;omega)
       have bj:Hid (∀W,Below w1.heap.size w1 W->df W g (off+j*10) x):=fun W hW=>hcell W hW j x hx
       have jX:Hid (([Hd.bV h]++h.acc.map Hd.aX++(h.bl.take j).map Hd.recC).length<=10000000):=by
        show _<=_;have h1:=HF.1;have h2:=HF.2;have h3:(h.bl.take j).length<=h.bl.length:=List.length_take_le' _ _;have h4:=uX.out
        (try simp only[List.length_append]at h4)
        simp only[List.length_append,List.length_map];omega
       have lX:Hid ([Hd.bV h]++h.acc.map Hd.aX++(h.bl.take j).map Hd.recC ++ [Hd.recC x] = [Hd.bV h]++h.acc.map Hd.aX++(h.bl.take (j+1)).map Hd.recC):=by show _=_;rw[List.take_add_one,hx];simp
       clear hcell hx;go_wp2;clear m4;refine wp_region_held_drew (S:=fun W=>W.cell? ⟨w.heap.size,5,none⟩=some (.slice (some ⟨g,off,none⟩) nc cc)∧df W g (off+j*10) x) (by kernel_rfl) (⟨(gq.out _ ((cj.out).trans ((drawn wr 1).mono cj.size))).cell 5 _ rfl,bj.out _ (cj.trans ((drawn wr 1).mono cj.size))⟩) (fun hHeld => ?_)
       refine aV 0 rfl hHeld ?_;refine aV 1 rfl hHeld ?_;refine aV 2 rfl hHeld ?_;refine aV 3 rfl hHeld ?_;refine aV 4 rfl hHeld ?_;refine aV 5 rfl hHeld ?_;refine aV 6 rfl hHeld ?_;refine aV 7 rfl hHeld ?_;refine aV 8 rfl hHeld ?_;refine aV 9 rfl hHeld ?_;refine aV 10 rfl hHeld ?_;refine aV 11 rfl hHeld ?_;refine aV 12 rfl hHeld ?_;refine aV 13 rfl hHeld ?_;have bw:Hid (Below w1.heap.size w1 (wr.drew.alloc (.cells (Re.cells (Hd.recC x) Nil) 42))):=(cj.trans ((drawn wr 1).mono cj.size)).alloc (Nat.le_trans cj.size (drawn wr 1).size) _;have lK:Hid (bg q (wr.drew.alloc (.cells (Re.cells (Hd.recC x) Nil) 42)) w1.heap.size (.slice yo yn yc) _):=bb.below HO.out ((drawn wr 1).alloc (drawn wr 1).size _);refine wpAnyH_ready (rs := [14]) (by kernel_rfl) (by simp) ?_
       refine AllReadyH.cons rfl (fun K hK => ?_) AllReadyH.nil
       rw[if_pos (by kernel_rfl)]
       go_simp;refine hK.out _ _ ⟨(gq.out _ bw.out).cell 5 _ rfl,bj.out _ bw.out⟩ (fun hHeld => ?_)
       clear hK K;obtain⟨v8,w8,hrun,eU,fh⟩:=gM 61 lK.out (Hd.recC x) Nil (ae.new wr.drew _ _) (aS.none _ _) jX.out I9.out bw.size;have cN:Hid (Below w1.heap.size w1 w8):=bg.behind lK.out bw.out (Nat.le_refl _) fh;have fN:=aa eU;clear eU fh;refine wpAnyH_ready (rs := [15]) (by kernel_rfl) (by simp) ?_
       refine bt 15 (.tmp 63) (.tmp 77) 61 rfl rfl rfl (.slice yo yn yc) (.slice (some ⟨wr.heap.size,0,none⟩) 1 1) v8 w8 ?Uk ?Ul hrun ⟨⟨(gq.out _ cN.out).cell 5 _ rfl,bj.out _ cN.out⟩,fun hHeld => ?_⟩
       case Uk=>kernel_rfl
       case Ul=>kernel_rfl
       refine bH 16 rfl hHeld ?_;refine wpAnyH_done (by kernel_rfl) ?_ _
       clear hHeld hrun;rw[lX.out]at fN
       go_wp2
       go_roundw
       case rel=>exact⟨j+1,by go_num,by omega,fN,cN⟩
       case measure=>simp[intOf];omega
      ·obtain rfl:j=nc:=by omega
       have iW:Hid (bg q wr w1.heap.size (.slice yo yn yc) ([Hd.bV h]++h.acc.map Hd.aX++h.bl.map Hd.recC)):=by have h1:=HO.out;rw[List.take_of_length_le (by have:=qD.out;omega)]at h1;exact h1
       go_wp2;exact HE.out _ _ _ cj.out iW.out (by unfold Hd.recs;rw[if_pos Ht.out,if_neg T7.out];first | done | simp)
  ·have Ht:=aa hb0
   have FB:Hid (bg q w1 w1.heap.size Nil []):=bb.bare _ _ _ _;have p0:w1.cell? ⟨w.heap.size,0,none⟩=some (.int .i64 h.aC.round):=(gq.out _ zO.out).cell 0 _ rfl;have p1:w1.cell? ⟨w.heap.size,1,none⟩=some (.int .i64 h.aC.node):=(gq.out _ zO.out).cell 1 _ rfl;go_wp2;clear c2 p0 p1;have uX:Hid (([]:List Re.Rec).length<=2):=by show _<=_;simp
   go_loopw [3,4] (fun y i wr => ∃k:Nat,i = .int .i64 (k:Int)∧k<=na∧Hid (bg q wr w1.heap.size y ([]++(h.acc.take k).map Hd.aX))∧Hid (Below w1.heap.size w1 wr)) (fun _ i _=>na - (intOf i).toNat)
   case atStart=>exact⟨0,rfl,by omega,by have h1:=FB.out;show bg _ _ _ _ _;simpa using h1,zO⟩
   case round =>
    obtain⟨k,rfl,hk,HO,cj⟩:=hrel;obtain⟨yo,yc,kK⟩:=bg.shape HO.out;obtain⟨yn,qR⟩ : ∃m,m=([]++(h.acc.take k).map Hd.aX).length:=⟨_,rfl⟩;rw[<- qR]at kK
    clear qR;subst kK;have m4:wr.cell? ⟨w.heap.size,4,none⟩=some (.slice ao na ac):=(gq.out _ cj.out).cell 4 _ rfl;by_cases DZ:k<na
    ·obtain⟨x,hx⟩ : ∃x,h.acc[k]? = some x:=⟨_,List.getElem?_eq_getElem (by have:=qC.out;omega)⟩
     obtain⟨g,off,rfl,kH,hcell⟩:=Fz.out (by have:=qC.out;omega)
     have bj:Hid (∀W,Below w1.heap.size w1 W->df W g (off+k*10) x):=fun W hW=>hcell W hW k x hx
     have jX:Hid (([]++(h.acc.take k).map Hd.aX).length<=10000000):=by
      show _<=_;have h1:=HF.1;have h2:=HF.2;have h3:(h.acc.take k).length<=h.acc.length:=List.length_take_le' _ _;have h4:=uX.out
      (try simp only[List.length_append]at h4)
      simp only[List.length_append,List.length_map];omega
     have lX:Hid ([]++(h.acc.take k).map Hd.aX ++ [Hd.aX x] = []++(h.acc.take (k+1)).map Hd.aX):=by show _=_;rw[List.take_add_one,hx];simp
     clear hcell hx;go_wp2;clear m4;refine wp_region_held_drew (S:=fun W=>W.cell? ⟨w.heap.size,4,none⟩=some (.slice (some ⟨g,off,none⟩) na ac)∧df W g (off+k*10) x) (by kernel_rfl) (⟨(gq.out _ ((cj.out).trans ((drawn wr 1).mono cj.size))).cell 4 _ rfl,bj.out _ (cj.trans ((drawn wr 1).mono cj.size))⟩) (fun hHeld => ?_)
     refine aV 0 rfl hHeld ?_;refine aV 1 rfl hHeld ?_;refine aV 2 rfl hHeld ?_;refine aV 3 rfl hHeld ?_;refine aV 4 rfl hHeld ?_;refine aV 5 rfl hHeld ?_;refine aV 6 rfl hHeld ?_;refine aV 7 rfl hHeld ?_;refine aV 8 rfl hHeld ?_;refine aV 9 rfl hHeld ?_;refine aV 10 rfl hHeld ?_;refine aV 11 rfl hHeld ?_;refine aV 12 rfl hHeld ?_;refine aV 13 rfl hHeld ?_;refine aV 14 rfl hHeld ?_;refine aV 15 rfl hHeld ?_;refine aV 16 rfl hHeld ?_;refine aV 17 rfl hHeld ?_;refine aV 18 rfl hHeld ?_;refine aV 19 rfl hHeld ?_;have bw:Hid (Below w1.heap.size w1 (wr.drew.alloc (.cells (Re.cells (Hd.aX x) Nil) 42))):=(cj.trans ((drawn wr 1).mono cj.size)).alloc (Nat.le_trans cj.size (drawn wr 1).size) _;have lK:Hid (bg q (wr.drew.alloc (.cells (Re.cells (Hd.aX x) Nil) 42)) w1.heap.size (.slice yo yn yc) _):=bb.below HO.out ((drawn wr 1).alloc (drawn wr 1).size _);refine wpAnyH_ready (rs := [20]) (by kernel_rfl) (by simp) ?_
     refine AllReadyH.cons rfl (fun K hK => ?_) AllReadyH.nil
     rw[if_pos (by kernel_rfl)]
     go_simp;refine hK.out _ _ ⟨(gq.out _ bw.out).cell 4 _ rfl,bj.out _ bw.out⟩ (fun hHeld => ?_)
     clear hK K;obtain⟨v8,w8,hrun,eU,fh⟩:=gM 61 lK.out (Hd.aX x) Nil (ae.new wr.drew _ _) (aS.none _ _) jX.out I9.out bw.size;have cN:Hid (Below w1.heap.size w1 w8):=bg.behind lK.out bw.out (Nat.le_refl _) fh;have fN:=aa eU;clear eU fh;refine wpAnyH_ready (rs := [21]) (by kernel_rfl) (by simp) ?_
     refine bt 21 (.tmp 34) (.tmp 54) 61 rfl rfl rfl (.slice yo yn yc) (.slice (some ⟨wr.heap.size,0,none⟩) 1 1) v8 w8 ?Um ?Un hrun ⟨⟨(gq.out _ cN.out).cell 4 _ rfl,bj.out _ cN.out⟩,fun hHeld => ?_⟩
     case Um=>kernel_rfl
     case Un=>kernel_rfl
     refine bH 22 rfl hHeld ?_;refine wpAnyH_done (by kernel_rfl) ?_ _
     clear hHeld hrun;rw[lX.out]at fN
     go_wp2
     go_roundw
     case rel=>exact⟨k+1,by go_num,by omega,fN,cN⟩
     case measure=>simp[intOf];omega
    ·obtain rfl:k=na:=by omega
     have lR:Hid (bg q wr w1.heap.size (.slice yo yn yc) ([]++h.acc.map Hd.aX)):=by have h1:=HO.out;rw[List.take_of_length_le (by have:=qC.out;omega)]at h1;exact h1
     clear HO;go_wp2;clear m4;obtain⟨wv,iZ⟩ : ∃wv,wv=wr:=⟨_,rfl⟩;rw[<- iZ];have bJ:Hid (Below w1.heap.size w1 wv):=by rw[iZ];exact cj
     have qQ:Hid (bg q wv w1.heap.size (.slice yo yn yc) ([]++h.acc.map Hd.aX)):=by rw[iZ];exact lR
     clear iZ cj lR
     go_loopw [3,5] (fun y i wr => ∃j:Nat,i = .int .i64 (j:Int)∧j<=nc∧Hid (bg q wr w1.heap.size y ([]++h.acc.map Hd.aX++(h.bl.take j).map Hd.recC))∧Hid (Below w1.heap.size w1 wr)) (fun _ i _=>nc - (intOf i).toNat)
     case atStart=>exact⟨0,rfl,by omega,by have h1:=qQ.out;show bg _ _ _ _ _;simpa using h1,bJ⟩
     case round =>
      obtain⟨j,rfl,hj,HO,cj⟩:=hrel;obtain⟨yo,yc,kK⟩:=bg.shape HO.out;obtain⟨yn,qR⟩ : ∃m,m=([]++h.acc.map Hd.aX++(h.bl.take j).map Hd.recC).length:=⟨_,rfl⟩;rw[<- qR]at kK
      clear qR;subst kK;have m4:wr.cell? ⟨w.heap.size,5,none⟩=some (.slice co nc cc):=(gq.out _ cj.out).cell 5 _ rfl;by_cases D1:j<nc
      ·obtain⟨x,hx⟩ : ∃x,h.bl[j]? = some x:=⟨_,List.getElem?_eq_getElem (by have:=qD.out;omega)⟩
       obtain⟨g,off,rfl,kH,hcell⟩:=FA.out (by have:=qD.out;omega)
       have bj:Hid (∀W,Below w1.heap.size w1 W->df W g (off+j*10) x):=fun W hW=>hcell W hW j x hx
       have jX:Hid (([]++h.acc.map Hd.aX++(h.bl.take j).map Hd.recC).length<=10000000):=by
        show _<=_;have h1:=HF.1;have h2:=HF.2;have h3:(h.bl.take j).length<=h.bl.length:=List.length_take_le' _ _;have h4:=uX.out
        (try simp only[List.length_append]at h4)
        simp only[List.length_append,List.length_map];omega
       have lX:Hid ([]++h.acc.map Hd.aX++(h.bl.take j).map Hd.recC ++ [Hd.recC x] = []++h.acc.map Hd.aX++(h.bl.take (j+1)).map Hd.recC):=by show _=_;rw[List.take_add_one,hx];simp
       clear hcell hx;go_wp2;clear m4;refine wp_region_held_drew (S:=fun W=>W.cell? ⟨w.heap.size,5,none⟩=some (.slice (some ⟨g,off,none⟩) nc cc)∧df W g (off+j*10) x) (by kernel_rfl) (⟨(gq.out _ ((cj.out).trans ((drawn wr 1).mono cj.size))).cell 5 _ rfl,bj.out _ (cj.trans ((drawn wr 1).mono cj.size))⟩) (fun hHeld => ?_)
       refine aV 0 rfl hHeld ?_;refine aV 1 rfl hHeld ?_;refine aV 2 rfl hHeld ?_;refine aV 3 rfl hHeld ?_;refine aV 4 rfl hHeld ?_;refine aV 5 rfl hHeld ?_;refine aV 6 rfl hHeld ?_;refine aV 7 rfl hHeld ?_;refine aV 8 rfl hHeld ?_;refine aV 9 rfl hHeld ?_;refine aV 10 rfl hHeld ?_;refine aV 11 rfl hHeld ?_;refine aV 12 rfl hHeld ?_;refine aV 13 rfl hHeld ?_;have bw:Hid (Below w1.heap.size w1 (wr.drew.alloc (.cells (Re.cells (Hd.recC x) Nil) 42))):=(cj.trans ((drawn wr 1).mono cj.size)).alloc (Nat.le_trans cj.size (drawn wr 1).size) _;have lK:Hid (bg q (wr.drew.alloc (.cells (Re.cells (Hd.recC x) Nil) 42)) w1.heap.size (.slice yo yn yc) _):=bb.below HO.out ((drawn wr 1).alloc (drawn wr 1).size _);refine wpAnyH_ready (rs := [14]) (by kernel_rfl) (by simp) ?_
       refine AllReadyH.cons rfl (fun K hK => ?_) AllReadyH.nil
       rw[if_pos (by kernel_rfl)]
       go_simp;refine hK.out _ _ ⟨(gq.out _ bw.out).cell 5 _ rfl,bj.out _ bw.out⟩ (fun hHeld => ?_)
       clear hK K;obtain⟨v8,w8,hrun,eU,fh⟩:=gM 61 lK.out (Hd.recC x) Nil (ae.new wr.drew _ _) (aS.none _ _) jX.out I9.out bw.size;have cN:Hid (Below w1.heap.size w1 w8):=bg.behind lK.out bw.out (Nat.le_refl _) fh;have fN:=aa eU;clear eU fh;refine wpAnyH_ready (rs := [15]) (by kernel_rfl) (by simp) ?_
       refine bt 15 (.tmp 63) (.tmp 77) 61 rfl rfl rfl (.slice yo yn yc) (.slice (some ⟨wr.heap.size,0,none⟩) 1 1) v8 w8 ?Uo ?Up hrun ⟨⟨(gq.out _ cN.out).cell 5 _ rfl,bj.out _ cN.out⟩,fun hHeld => ?_⟩
       case Uo=>kernel_rfl
       case Up=>kernel_rfl
       refine bH 16 rfl hHeld ?_;refine wpAnyH_done (by kernel_rfl) ?_ _
       clear hHeld hrun;rw[lX.out]at fN
       go_wp2
       go_roundw
       case rel=>exact⟨j+1,by go_num,by omega,fN,cN⟩
       case measure=>simp[intOf];omega
      ·obtain rfl:j=nc:=by omega
       have iW:Hid (bg q wr w1.heap.size (.slice yo yn yc) ([]++h.acc.map Hd.aX++h.bl.map Hd.recC)):=by have h1:=HO.out;rw[List.take_of_length_le (by have:=qD.out;omega)]at h1;exact h1
       go_wp2;exact HE.out _ _ _ cj.out iW.out (by unfold Hd.recs;rw[if_neg (show ¬ 0<h.base from by have:=Ht.out;omega),if_neg T7.out];first | done | simp)
def Sg.hasAll(f:Int):List Re.Rec->Int
 | []=>0
 | x :: r=>if Re.aO f x≠0 then Re.aO f x else Sg.hasAll f r
def Sg.has(f:Int)(l:List Re.Rec):Int:=if f<1∨2<f then 8 else Sg.hasAll f l
theorem Sg.mZ{f:Int} : ∀ {l:List Re.Rec} {k:Nat} {x:Re.Rec},(∀c∈l.take k,Re.aO f c=0)->l[k]? = some x->Re.aO f x≠0->Sg.hasAll f l=Re.aO f x
 | [],_,_,_,h,_=>by simp at h
 | a :: r,0,x,_,h,hx=>by
  obtain rfl:a=x:=by simpa using h
  unfold Sg.hasAll;rw[if_pos hx]
 | a :: r,k+1,x,h0,h,hx=>by
  unfold Sg.hasAll;rw[if_neg (by rw[h0 a (by simp)];simp)]
  exact Sg.mZ (k:=k) (fun c hc=>h0 c (by rw[List.take_succ_cons];exact List.mem_cons_of_mem _ hc)) (by simpa using h) hx
theorem Sg.ni{f:Int} : ∀ {l:List Re.Rec},(∀c∈l,Re.aO f c=0)->Sg.hasAll f l=0
 | [],_=>rfl
 | a :: r,h=>by
  unfold Sg.hasAll;rw[if_neg (by rw[h a (by simp)];simp)]
  exact Sg.ni fun c hc=>h c (by simp[hc])
theorem Sg.uY{f:Int} : ∀(l:List Re.Rec),Sg.hasAll f l=0 ↔ ∀c∈l,Re.aO f c=0
 | []=>by simp[Sg.hasAll]
 | a :: r=>by
  unfold Sg.hasAll;by_cases h:Re.aO f a=0
  ·rw[if_neg (by rw[h];simp),Sg.uY r]
   simp[h]
  ·rw[if_pos h]
   simp[h]
theorem qz{p:Nat->TypeId->Prop}(f:Int)(v:Value)(l:List Re.Rec)(w:World)(hv:gS p w v l)(hs : ∀x∈l,x.cmd.aD 140737488355328) :
 Calls Tryz.prog 43 #[.int .i64 f,v] w (Looks w (.int .i64 (Sg.has f l))):=by
 obtain⟨ao,cap,rfl,hc1,hc2⟩:=cJ.shape hv;have HP:=aa (fun h=>cJ.places hv iJ h)
 obtain⟨n,hn⟩ : ∃n,n=l.length:=⟨_,rfl⟩;rw[<- hn]at hc1 HP ⊢
 have HN:=aa hn;have HS:=aa hs;have hnb:n<9223372036854775808:=by omega
 obtain⟨rv,I5⟩ : ∃rv,rv=Sg.has f l:=⟨_,rfl⟩;rw[<- I5];have N1:=aa I5;clear hv hn hs I5
 go_enter Tryz.func43,Tryz.ntmps43
 by_cases h1:f<1
 ·have HZ:Hid (rv=8):=by show _=_;rw[N1.out];unfold Sg.has;rw[if_pos (.inl h1)]
  go_wp2;go_ret;exact⟨by rw[HZ.out];rfl,Below.refl _ _⟩
 by_cases h2:2<f
 ·have HZ:Hid (rv=8):=by show _=_;rw[N1.out];unfold Sg.has;rw[if_pos (.inr h2)]
  go_wp2;go_ret;exact⟨by rw[HZ.out];rfl,Below.refl _ _⟩
 have VZ:Hid (rv=Sg.hasAll f l):=by show _=_;rw[N1.out];unfold Sg.has;rw[if_neg (fun h=>by rcases h with h | h;exact h1 h;exact h2 h)]
 clear N1;go_wp2
 go_loopw [5] (fun i wr => ∃k:Nat,i = .int .i64 (k:Int)∧k<=n∧Hid (∀c∈l.take k,Re.aO f c=0)∧Hid (Below w.heap.size w wr)) (fun i _=>n - (intOf i).toNat)
 case atStart=>exact⟨0,rfl,by omega,by show ∀c∈_,_;simp,Below.refl _ _⟩
 case round =>
  obtain⟨k,rfl,hk,HI,HB⟩:=hrel;by_cases hlt:k<n
  ·obtain⟨c,lW⟩ : ∃c,l[k]? = some c:=⟨_,List.getElem?_eq_getElem (by have:=HN.out;omega)⟩
   obtain⟨g,off,rfl,_,hc⟩:=HP.out (by have:=HN.out;omega)
   obtain⟨u,hu,hcell⟩:=hc k c lW;have bY:=ze f c u wr (hu.1.below HB.out) (HS.out c (List.mem_of_getElem? lW));obtain⟨y,hy⟩ : ∃y,y=Re.aO f c:=⟨_,rfl⟩;rw[<- hy]at bY
   have HY:=aa hy;have Fq:=aa lW;have bj:Hid (∀j v,(Re.cells c u)[j]? = some v->wr.cell? ⟨g,off+k*12+j,none⟩=some v):=fun j v hj=>by rw[Nat.add_assoc];exact hcell wr HB.out j v hj
   clear hc lW hcell hu hy
   go_wp2_with (refine iK rfl _ rfl g (off+k*12) c u rfl bj.out ?_)
   refine bY.mono ?_;rintro e w2 ⟨rfl,hb2⟩;have aR:=aa (HB.trans (hb2.mono HB.size));clear bY hb2 bj;by_cases hy:y=0
   ·subst hy
    have QP:Hid (∀d∈l.take (k+1),Re.aO f d=0):=by
     intro d hd
     rw[List.take_add_one,Fq.out]at hd
     rcases List.mem_append.1 hd with hd | hd
     ·exact HI.out d hd
     ·simp at hd;subst hd;exact HY.symm
    go_wp2
    go_roundw
    case rel=>exact⟨k+1,by go_num,by omega,QP.out,aR⟩
    case measure=>simp[intOf];omega
   ·have Xf:(y != 0)=true:=by simpa using hy
    have HZ:Hid (rv=y):=by show _=_;rw[VZ.out,HY.out];exact Sg.mZ HI.out Fq.out (by rw[<- HY.out];exact hy)
    go_wp2;go_ret;exact⟨by rw[HZ.out];rfl,aR.out⟩
  ·obtain rfl:n=k:=by omega
   have HZ:Hid (rv=0):=by
    show _=_;rw[VZ.out];refine Sg.ni fun c hc=>HI.out c ?_
    rw[List.take_of_length_le (by have:=HN.out;omega)]
    exact hc
   go_wp2;go_ret;exact⟨by rw[HZ.out];rfl,HB.out⟩
end Go.Proofs.YtdkdjofnnnljjaaGreatDoor

namespace Go.Proofs.YtdkdjofnnnljjaaGreatDoor
open Go.RowKit
section
def Sg.cells(f:Int)(h:Hd.az)(vi va vc:Value)(n e:Int):Array Value := #[.int .i64 f, .int .i64 h.aC.round, .int .i64 h.aC.node, .int .i64 h.base,vi,va,vc, .int .i64 n, .int .i64 e]
structure eC(w:World)(g:Nat)(f:Int)(h:Hd.az)(vi va vc:Value)(n e:Int):Prop where
 ag:ae w g 97 (Sg.cells f h vi va vc n e)
 vi : ∃o k c,vi = .slice o k c
 va : ∃o k c,va = .slice o k c
 vc : ∃o k c,vc = .slice o k c
section
variable {w w' : World} {g : Nat} {f : Int} {h : Hd.az} {vi va vc : Value} {n e : Int}
theorem eC.below{B:Nat}(c:eC w g f h vi va vc n e)(hb:Below B w w')(hB:g<B):eC w' g f h vi va vc n e:=⟨c.ag.below hb hB,c.vi,c.va,c.vc⟩
theorem eC.kept{o:Nat}(c:eC w g f h vi va vc n e)(hg:w.grownBy w' (some o))(hne:g≠o):eC w' g f h vi va vc n e:=⟨c.ag.kept hg (by simpa using hne),c.vi,c.va,c.vc⟩
theorem eC.ok(c:eC w g f h vi va vc n e):(Sg.cells f h vi va vc n e).toList.all (·.oneCell')=true:=by
 obtain⟨_,_,_,rfl⟩:=c.vi;obtain⟨_,_,_,rfl⟩:=c.va;obtain⟨_,_,_,rfl⟩:=c.vc
 rfl
theorem eC.Qq(c:eC w g f h vi va vc n e)(j:Nat)(x:Int):(Sg.cells f h vi va vc n e)[j]? ≠ some (.int .u8 x):=by
 obtain⟨_,_,_,rfl⟩:=c.vi;obtain⟨_,_,_,rfl⟩:=c.va;obtain⟨_,_,_,rfl⟩:=c.vc
 match j with
 | 0 | 1 | 2 | 3 | 4 | 5 | 6 | 7 | 8=>simp[Sg.cells]
 | j+9=>simp[Sg.cells]
theorem eC.AX(c:eC w g f h vi va vc n e)(j:Nat)(x:ByteArray):(Sg.cells f h vi va vc n e)[j]? ≠ some (.string x):=by
 obtain⟨_,_,_,rfl⟩:=c.vi;obtain⟨_,_,_,rfl⟩:=c.va;obtain⟨_,_,_,rfl⟩:=c.vc
 match j with
 | 0 | 1 | 2 | 3 | 4 | 5 | 6 | 7 | 8=>simp[Sg.cells]
 | j+9=>simp[Sg.cells]
theorem cH.FC{k:Hd.az}{ui ua uc:Value}(r:cH w k ui ua uc)(c:eC w g f h vi va vc n e)(hg:w.grownBy w' (some g)):cH w' k ui ua uc :=
 ⟨r.aw.dO c.ag c.Qq hg,r.acc.dO c.ag c.AX hg,r.bl.dO c.ag c.AX hg⟩
theorem bL.FC{q:Nat->Prop}{k:Hd.az}{ui ua uc:Value}(r:bL q w k ui ua uc)(c:eC w g f h vi va vc n e)(hg:w.grownBy w' (some g)):bL q w' k ui ua uc:=⟨r.rows.FC c hg,r.pi,r.pa,r.pc⟩
end
theorem LP(w:World) : ∃w1,w.alloc (.cells (Sg.cells 0 Hd.zero (.slice none 0 0) (.slice none 0 0) (.slice none 0 0) 0 0) 97)=w1∧eC w1 w.heap.size 0 Hd.zero (.slice none 0 0) (.slice none 0 0) (.slice none 0 0) 0 0∧Below w.heap.size w w1∧w1.heap.size=w.heap.size+1 :=
 ⟨_,rfl,⟨ae.new w _ _,⟨_,_,_,rfl⟩,⟨_,_,_,rfl⟩,⟨_,_,_,rfl⟩⟩,(Below.refl _ w).alloc (Nat.le_refl _) _,by simp⟩
section
variable {ops : Array Oper} {rest : List Oper} {op : Oper} {a : Act} {w : World} {Q : Exit -> Act -> World -> Prop} {g : Nat} {f : Int} {h : Hd.az} {vi va vc : Value} {n e : Int} {f' : Int} {h' : Hd.az} {ui ua uc : Value} {n' e' : Int}
theorem gZ(hgd:op.guard=none)(x y:Operand)(ho:op.op = .store 97 x y)(hx:a.eval x = .pointer (some ⟨g,0,none⟩))(hl:eC w g f h vi va vc n e){w0:World}{g0:Nat}(hu:eC w0 g0 f' h' ui ua uc n' e')(hy:a.eval y = .agg (Sg.cells f' h' ui ua uc n' e'))
 (hK : ∀w', eC w' g f' h' ui ua uc n' e' -> w.grownBy w' (some g)->wpList Tryz.prog ops Q rest (a.put op.dst undef) w'):wpList Tryz.prog ops Q (op :: rest) a w :=
 aP hgd _ x y ho g 0 _ _ (Sg.cells f' h' ui ua uc n' e') (.agg (Sg.cells f' h' ui ua uc n' e')) (Sg.cells f' h' ui ua uc n' e').toList hx hy rfl (by kernel_rfl) hu.ok hl.ag (Nat.le_of_ble_eq_true rfl) rfl fun w' h1 h2=>hK w' ⟨h1,hu.vi,hu.va,hu.vc⟩ h2
end
theorem LQ(w:World)(g:Nat)(f:Int)(h:Hd.az)(vi va vc:Value)(n e:Int)(c:eC w g f h vi va vc n e):(loadVar 97 ⟨g,0,none⟩).run Tryz.prog w = .ok (.agg (Sg.cells f h vi va vc n e)) w :=
 run_loadVar_row w g _ _ (Sg.cells f h vi va vc n e) (0,0) _ c.ag Tryz.underlying97 rfl (by kernel_rfl)
theorem ju{fn:Func}{R:Ending->World->Prop}{a:Act}{w:World}{t u:Tmp}{g:Nat}{f:Int}{h:Hd.az}{vi va vc:Value}{n e:Int}(hr:fn.results = #[.cell t 97, .tmp u])(hp:a.tmps.getD t undef = .pointer (some ⟨g,0,none⟩))
 (hl:eC w g f h vi va vc n e) (hd:a.defers = []) (hR:R (.returned (.tuple #[.agg (Sg.cells f h vi va vc n e),a.tmps.getD u undef])) w):bodyPost Tryz.prog fn R .ret a w:=by
 refine bodyPost_ret ?_ hd hR;rw[jZ hr,hp];simp[asAddr,Result.andThen,LQ w g f h vi va vc n e hl]
end
end Go.Proofs.YtdkdjofnnnljjaaGreatDoor
