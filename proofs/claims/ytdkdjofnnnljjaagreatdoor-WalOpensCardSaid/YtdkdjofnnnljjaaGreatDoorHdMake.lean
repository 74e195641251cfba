/- The records of a state. Written by a program. -/
import Derived.Test.YtdkdjofnnnljjaaGreatDoorGHc
import Derived.Test.YtdkdjofnnnljjaaGreatDoorPDkMap
namespace Go.Proofs.YtdkdjofnnnljjaaGreatDoor
open Go.RowKit
set_option maxHeartbeats 3200000
set_option maxRecDepth 8000
theorem info_rec : (Tryz.prog.info? 42).map (fun i=>(i.zero,i.size,i.bytes))=some (some (.agg (Re.cells Re.zero Nil)),12,136):=by kernel_rfl
abbrev RecsO(w:World)(base:Nat)(v:Value)(l:List Re.Rec):Prop:=ListO 12 Re.cells Re.Rec.img (fun _ t=>t=5) w base 42 v l
theorem RecsO.reads{w:World}{base:Nat}{v:Value}{l:List Re.Rec}(h:RecsO w base v l):RecsP (fun k _=>k<w.heap.size) w v l :=
 ListO.reads (ListO.imp h fun b cs t fr e _=>lt_of_obj e) cellR_ok fun g e=>by obtain⟨cs,hc,_⟩:=ListO.blocks h e;exact lt_of_obj hc
theorem RecsO.shape{w:World}{base:Nat}{v:Value}{l:List Re.Rec}(h:RecsO w base v l) : ∃o n c,v = .slice o n c:=by
 obtain⟨ps,_,h1,_⟩:=h
 obtain⟨a,c,e⟩:=OwnsR.shape h1
 exact⟨a,_,c,e⟩
theorem step_rec{w:World}{ops:Array Oper}{rest:List Oper}{o:Oper}{a:Act}{Q:Exit→Act→World→Prop}(hg:o.guard=none)(s x:Operand)(ho:o.op = .call { callee := .builtin .append,args := #[s,x],argTypes := #[61,61] })
 (base:Nat) (out:Value) (G:List Re.Rec) (hs:a.eval s=out) (hown:RecsO w base out G) (f:Re.Rec) (u:Value) (g:Nat) (hx:a.eval x = .slice (some ⟨g,0,none⟩) 1 1) (hl:Lies w g 42 (Re.cells f u)) (hu:ReadsP (fun _ t=>t=5) w u f.img)
 (hlen:G.length≤10000000) (hbase:base≤w.heap.size) (hK : ∀v' w', RecsO w' base v' (G ++ [f])→w.grownBy w' out.ownBlock→wpList Tryz.prog ops Q rest (a.put o.dst v') w'):wpList Tryz.prog ops Q (o :: rest) a w:=by
 obtain⟨v', w', hrun,h1,h2,_⟩:=hown.snoc (P:=Tryz.prog) (t:=61) o.type cellR_ok Tryz.underlying61 info_rec rfl (by decide) hbase f u hl hu (by omega) (by omega) (fun _ _ h=>absurd h (by decide))
 exact step_append hg s x 61 ho out _ v' hs hx hrun (hK v' w' h1 h2)
theorem RecsO.behind{w w' W:World}{base:Nat}{v:Value}{l:List Re.Rec}(h:RecsO w base v l)(hb:Below base W w)(hs:base≤W.heap.size)(hg:w.grownBy w' v.ownBlock):Below base W w' :=
 hb.grown hg (Nat.le_trans hs hb.size) fun g e=>by obtain⟨_,_,h2⟩:=ListO.blocks h e;exact h2
def MadeL(w:World)(l:List Re.Rec)(e:Ending)(w' : World):Prop := ∃v,e = .returned v∧RecsP (fun k _=>k<w'.heap.size) w' v l∧Below w.heap.size w w'
theorem records_any(h:Hd.Hard)(vi va vc:Value)(w:World)(hr:HardR w h vi va vc)(hf:h.Few) :
 Calls Tryz.prog 86 #[.agg (Hd.cells h vi va vc)] w (MadeL w (Hd.recs h)):=by
 obtain⟨io,ic,rfl⟩:=hr.img.shape
 obtain⟨ao,ac,rfl,ha1,ha2⟩:=ReadsE.shape hr.acc
 obtain⟨co,cc,rfl,hc1,hc2⟩:=ReadsE.shape hr.chs
 obtain⟨w1,e1,hl1,hB1,hs1⟩:=box_hard w h (.slice io h.img.length ic) (.slice ao h.acc.length ac) (.slice co h.chs.length cc)
 have HR:=Lib.hid (hr.below hB1);have HB:=Lib.hid hB1;have HL:=Lib.hid hl1;have HF:=Lib.hid hf
 have HPA:=Lib.hid (fun x=>ReadsE.places (hr.below hB1).acc x)
 have HPC:=Lib.hid (fun x=>ReadsE.places (hr.below hB1).chs x)
 obtain⟨n,hn⟩ : ∃n,n=h.img.length:=⟨_,rfl⟩
 obtain⟨na,hna⟩ : ∃n,n=h.acc.length:=⟨_,rfl⟩
 obtain⟨nc,hnc⟩ : ∃n,n=h.chs.length:=⟨_,rfl⟩
 rw[← hn, ← hna, ← hnc]at HR HL e1
 rw[← hna]at HPA ha1
 rw[← hnc]at HPC hc1
 rw[← hn, ← hna, ← hnc]
 have HNA:=Lib.hid hna;have HNC:=Lib.hid hnc
 have hnab:na<9223372036854775808:=by omega
 have hncb:nc<9223372036854775808:=by omega
 have HLX:Hid (∀W,Below w1.heap.size w1 W→Hards W w.heap.size h (.slice io n ic) (.slice ao na ac) (.slice co nc cc)):=fun W hW=>HL.out.below hW HL.out.lt
 have HE:Hid (∀W v L,Below w1.heap.size w1 W→RecsO W w1.heap.size v L→L=Hd.recs h→MadeL w (Hd.recs h) (.returned v) W):=fun W v L hb ho e=>⟨v,rfl,by rw[← e];exact RecsO.reads ho,HB.out.trans (hb.mono HB.out.size)⟩
 obtain⟨Q,hQ⟩ : ∃Q,Q=MadeL w (Hd.recs h):=⟨_,rfl⟩
 rw[← hQ]at HE ⊢
 have hgd:=guard_bal
 have hneq:=fun W=>run_neq_bal W h.prom Bl.zero
 obtain⟨t,ht⟩ : ∃t,t=decide (h.prom=Bl.zero):=⟨_,rfl⟩
 rw[← ht]at hneq
 have HT:=Lib.hid ht
 dsimp only [Bl.cells,Bl.zero]at hneq
 have c2:w1.cell? ⟨w.heap.size,2,none⟩=some (.int .i64 h.base):=HL.out.cell 2 _ rfl
 clear hn hna hnc hr hl1 hB1 hf ha2 hc2 hQ ht hs1
 go_enter Tryz.func86,Tryz.ntmps86
 by_cases hb0:0<h.base
 ·have c3:w1.cell? ⟨w.heap.size,3,none⟩=some (.slice io n ic):=HL.out.cell 3 _ rfl
  have HB0:=Lib.hid hb0
  go_wp2
  refine wp_region_held_drew (S:=fun W=>W.cell? ⟨w.heap.size,2,none⟩=some (.int .i64 h.base)∧W.cell? ⟨w.heap.size,3,none⟩=some (.slice io n ic)) (by kernel_rfl) (⟨c2,c3⟩) (fun hHeld => ?_)
  refine wpAnyH_take (i:=0) (v := ?v0) rfl (by kernel_rfl) (by kernel_rfl) (by kernel_rfl) (fun _ _ _ h=>h) (Or.inl ⟨by kernel_rfl, ?hy0⟩) hHeld ?rest0
  case hy0=>(intro W hSw;obtain⟨s1,s2⟩:=hSw;go_simp;(try with_reducible rfl))
  refine wpAnyH_take (i:=1) (v := ?v1) rfl (by kernel_rfl) (by kernel_rfl) (by kernel_rfl) (fun _ _ _ h=>h) (Or.inl ⟨by kernel_rfl, ?hy1⟩) hHeld ?rest1
  case hy1=>(intro W hSw;obtain⟨s1,s2⟩:=hSw;go_simp;(try with_reducible rfl))
  refine wpAnyH_take (i:=2) (v := ?v2) rfl (by kernel_rfl) (by kernel_rfl) (by kernel_rfl) (fun _ _ _ h=>h) (Or.inl ⟨by kernel_rfl, ?hy2⟩) hHeld ?rest2
  case hy2=>(intro W hSw;obtain⟨s1,s2⟩:=hSw;go_simp;(try with_reducible rfl))
  refine wpAnyH_take (i:=3) (v := ?v3) rfl (by kernel_rfl) (by kernel_rfl) (by kernel_rfl) (fun _ _ _ h=>h) (Or.inl ⟨by kernel_rfl, ?hy3⟩) hHeld ?rest3
  case hy3=>(intro W hSw;obtain⟨s1,s2⟩:=hSw;go_simp;(try with_reducible rfl))
  refine wpAnyH_take (i:=4) (v := ?v4) rfl (by kernel_rfl) (by kernel_rfl) (by kernel_rfl) (fun _ _ _ h=>h) (Or.inl ⟨by kernel_rfl, ?hy4⟩) hHeld ?rest4
  case hy4=>(intro W hSw;obtain⟨s1,s2⟩:=hSw;go_simp;(try with_reducible rfl))
  refine wpAnyH_ready (rs := [5]) (by kernel_rfl) (by simp) ?_
  refine AllReadyH.cons rfl (fun K hK => ?_) AllReadyH.nil
  rw[if_pos (by kernel_rfl)]
  go_simp
  go_at_call 61
  refine(clone_any (.slice io n ic) h.img w1.drew (HR.out.img.below (drawn w1 1)) HF.out.img).mono ?_
  rintro e w2 ⟨v2,rfl,ho2,hb2⟩
  obtain⟨uo,uc,rfl⟩:=ho2.reads.shape
  have HB2:Hid (Below w1.heap.size w1 w2):=(drawn w1 1).trans (hb2.mono (drawn w1 1).size)
  have HO2:=Lib.hid ho2
  clear ho2 hb2
  dsimp only
  refine hK.out _ _ ⟨(HLX.out _ HB2.out).cell 2 _ rfl,(HLX.out _ HB2.out).cell 3 _ rfl⟩ (fun hHeld => ?_)
  clear hK K
  refine wpAnyH_ready (rs := [6]) (by kernel_rfl) (by simp) ?_
  refine AllReadyH.cons rfl (fun K hK => ?_) AllReadyH.nil
  rw[if_pos (by kernel_rfl)]
  go_simp
  go_at_call 124
  refine(image_any h.base (.slice uo h.img.length uc) h.img w2 HO2.out.reads).mono ?_
  rintro e w3 ⟨rfl,hb3⟩
  have HB3:Hid (Below w1.heap.size w1 w3):=HB2.out.trans (hb3.mono HB2.out.size)
  have HU3:Hid (ReadsP (fun _ t=>t=5) w3 (.slice uo h.img.length uc) h.img):=(ReadsP.own (p:=fun _ t=>t=5) HO2.out fun _ _=>rfl).keep (Keep.of_below hb3)
  clear hb3
  dsimp only [Re.cells]
  refine hK.out _ _ ⟨(HLX.out _ HB3.out).cell 2 _ rfl,(HLX.out _ HB3.out).cell 3 _ rfl⟩ (fun hHeld => ?_)
  clear hK K
  have HB4:Hid (Below w1.heap.size w1 (w3.alloc (.cells (Re.cells (Hd.recI h) (.slice uo h.img.length uc)) 42))):=HB3.out.alloc HB3.out.size _
  refine wpAnyH_ready (rs := [7]) (by kernel_rfl) (by simp) ?_
  refine AllReadyH.cons rfl (fun K hK => ?_) AllReadyH.nil
  rw[if_pos (by kernel_rfl)]
  go_simp
  refine hK.out _ _ ⟨(HLX.out _ HB4.out).cell 2 _ rfl,(HLX.out _ HB4.out).cell 3 _ rfl⟩ (fun hHeld => ?_)
  clear hK K
  obtain⟨v5,w5,hrun,ho5,hg5,_⟩:=ListO.snoc (P:=Tryz.prog) (t:=61) 61 (ListO.bare (k:=12) (cells:=Re.cells) (bytes:=Re.Rec.img) (fun _ t=>t=5) (w3.alloc (.cells (Re.cells (Hd.recI h) (.slice uo h.img.length uc)) 42)) w1.heap.size 42) cellR_ok Tryz.underlying61 info_rec rfl (by decide) HB4.out.size (Hd.recI h) (.slice uo h.img.length uc) (Lies.new w3 42 (Re.cells (Hd.recI h) (.slice uo h.img.length uc))) (HU3.out.keep (Keep.alloc _ _ _)) (by simp) (by simp) (fun _ _ h=>absurd h (by decide))
  have HO5:Hid (RecsO w5 w1.heap.size v5 [Hd.recI h]):=ho5
  have HB5:Hid (Below w1.heap.size w1 w5):=HB4.out.grown hg5 HB4.out.size (by intro j hj;cases hj)
  clear ho5 hg5
  refine wpAnyH_ready (rs := [8]) (by kernel_rfl) (by simp) ?_
  refine ready_append 8 (.tmp 11) (.tmp 18) 61 rfl rfl rfl (.slice none 0 0) (.slice (some ⟨w3.heap.size,0,none⟩) 1 1) v5 w5 ?s8 ?x8 hrun ⟨⟨(HLX.out _ HB5.out).cell 2 _ rfl,(HLX.out _ HB5.out).cell 3 _ rfl⟩,fun hHeld => ?_⟩
  case s8=>kernel_rfl
  case x8=>kernel_rfl
  refine wpAnyH_take (i:=9) (v := ?v9) rfl (by kernel_rfl) (by kernel_rfl) (by kernel_rfl) (fun _ _ _ h=>h) (Or.inl ⟨by kernel_rfl, ?hy9⟩) hHeld ?rest9
  case hy9=>(intro W hSw;go_simp;(try with_reducible rfl))
  refine wpAnyH_done (by kernel_rfl) ?_ _
  clear hHeld c2 c3 hrun
  obtain⟨p0,p1⟩:w5.cell? ⟨w.heap.size,0,none⟩=some (.int .i64 h.prom.round)∧w5.cell? ⟨w.heap.size,1,none⟩=some (.int .i64 h.prom.node):=⟨(HLX.out _ HB5.out).cell 0 _ rfl,(HLX.out _ HB5.out).cell 1 _ rfl⟩
  cases t with
  | true =>
   have HL0:Hid (([Hd.recI h]:List Re.Rec).length≤2):=by show _≤_;simp
   have b4:w5.cell? ⟨w.heap.size,4,none⟩=some (.slice ao na ac):=(HLX.out _ HB5.out).cell 4 _ rfl
   go_wp2
   clear b4
   go_loopw [3,33] (fun y i wr => ∃k:Nat,i = .int .i64 (k:Int)∧k≤na∧Hid (RecsO wr w1.heap.size y ([Hd.recI h]++(h.acc.take k).map Hd.recA))∧Hid (Below w1.heap.size w1 wr)) (fun _ i _=>na - (intOf i).toNat)
   case atStart=>exact⟨0,rfl,by omega,by have h1:=HO5.out;show RecsO _ _ _ _;simpa using h1,HB5⟩
   case round =>
    obtain⟨k,rfl,hk,HO,HBr⟩:=hrel
    obtain⟨yo,yn,yc,hyy⟩:=RecsO.shape HO.out
    subst hyy
    by_cases hltk:k<na
    ·obtain⟨x,hx⟩ : ∃x,h.acc[k]? = some x:=⟨_,List.getElem?_eq_getElem (by have:=HNA.out;omega)⟩
     obtain⟨g,off,rfl,hgl,hcell⟩:=HPA.out (by have:=HNA.out;omega)
     have HCELL:Hid (EntAt wr g (off+k*10) x):=hcell wr HBr.out k x hx
     have HLN:Hid (([Hd.recI h]++(h.acc.take k).map Hd.recA).length≤10000000):=by
      show _≤_
      have h1:=HF.out.acc
      have h2:=HF.out.chs
      have h3:(h.acc.take k).length≤h.acc.length:=List.length_take_le' _ _
      have h4:=HL0.out
      (try simp only[List.length_append]at h4)
      simp only[List.length_append,List.length_map]
      omega
     have HTK:Hid ([Hd.recI h]++(h.acc.take k).map Hd.recA ++ [Hd.recA x] = [Hd.recI h]++(h.acc.take (k+1)).map Hd.recA):=by show _=_;rw[List.take_add_one,hx];simp
     clear hcell hx
     go_wp2_with (first
      | (refine load_ent rfl _ rfl g (off+k*10) x rfl HCELL.out ?_)
      | (refine store_ent rfl _ _ rfl wr.heap.size En.zero x rfl rfl (Lies.new _ _ _) ?_;intro w7 hl7 hg7;have HB7:Hid (Below wr.heap.size wr w7):=fresh_below hg7;obtain⟨d0,d1,d2,d3,d4,d5,d6,d7,d8,d9⟩:=Ents.ten hl7;clear hl7 hg7)
      | (at_builtin;refine step_rec rfl _ _ rfl w1.heap.size (.slice yo yn yc) _ rfl (ListO.below HO.out (HB7.out.alloc HB7.out.size _)) (Hd.recA x) Nil w7.heap.size rfl (Lies.new w7 42 (Re.cells (Hd.recA x) Nil)) (ReadsP.none _ _) HLN.out (by have h1:=HB7.out.size;have h2:=HBr.out.size;simp;omega) ?_;intro v8 w8 ho8 hg8;have HO8:=Lib.hid ho8;have HB8:Hid (Below w1.heap.size w1 w8):=RecsO.behind (ListO.below HO.out (HB7.out.alloc HB7.out.size _)) ((HBr.out.trans (HB7.out.mono HBr.out.size)).alloc (Nat.le_trans HBr.out.size HB7.out.size) _) (Nat.le_refl _) hg8;clear ho8 hg8))
     rw[HTK.out]at HO8
     go_roundw
     case rel=>exact⟨k+1,by go_num,by omega,HO8,HB8⟩
     case measure=>simp[intOf];omega
    ·obtain rfl:k=na:=by omega
     have HO2:Hid (RecsO wr w1.heap.size (.slice yo yn yc) ([Hd.recI h]++h.acc.map Hd.recA)):=by have h1:=HO.out;rw[List.take_of_length_le (by have:=HNA.out;omega)]at h1;exact h1
     have b5:wr.cell? ⟨w.heap.size,5,none⟩=some (.slice co nc cc):=(HLX.out _ HBr.out).cell 5 _ rfl
     clear HO
     go_wp2
     clear b5
     obtain⟨wv,hwv⟩ : ∃wv,wv=wr:=⟨_,rfl⟩
     rw[← hwv]
     have HB4:Hid (Below w1.heap.size w1 wv):=by rw[hwv];exact HBr
     have HO4:Hid (RecsO wv w1.heap.size (.slice yo yn yc) ([Hd.recI h]++h.acc.map Hd.recA)):=by rw[hwv];exact HO2
     clear hwv HBr HO2
     go_loopw [3,51] (fun y i wr => ∃j:Nat,i = .int .i64 (j:Int)∧j≤nc∧Hid (RecsO wr w1.heap.size y ([Hd.recI h]++h.acc.map Hd.recA++(h.chs.take j).map Hd.recC))∧Hid (Below w1.heap.size w1 wr)) (fun _ i _=>nc - (intOf i).toNat)
     case atStart=>exact⟨0,rfl,by omega,by have h1:=HO4.out;show RecsO _ _ _ _;simpa using h1,HB4⟩
     case round =>
      obtain⟨j,rfl,hj,HO,HBr⟩:=hrel
      obtain⟨yo,yn,yc,hyy⟩:=RecsO.shape HO.out
      subst hyy
      by_cases hltj:j<nc
      ·obtain⟨x,hx⟩ : ∃x,h.chs[j]? = some x:=⟨_,List.getElem?_eq_getElem (by have:=HNC.out;omega)⟩
       obtain⟨g,off,rfl,hgl,hcell⟩:=HPC.out (by have:=HNC.out;omega)
       have HCELL:Hid (EntAt wr g (off+j*10) x):=hcell wr HBr.out j x hx
       have HLN:Hid (([Hd.recI h]++h.acc.map Hd.recA++(h.chs.take j).map Hd.recC).length≤10000000):=by
        show _≤_
        have h1:=HF.out.acc
        have h2:=HF.out.chs
        have h3:(h.chs.take j).length≤h.chs.length:=List.length_take_le' _ _
        have h4:=HL0.out
        (try simp only[List.length_append]at h4)
        simp only[List.length_append,List.length_map]
        omega
       have HTK:Hid ([Hd.recI h]++h.acc.map Hd.recA++(h.chs.take j).map Hd.recC ++ [Hd.recC x] = [Hd.recI h]++h.acc.map Hd.recA++(h.chs.take (j+1)).map Hd.recC):=by show _=_;rw[List.take_add_one,hx];simp
       clear hcell hx
       go_wp2_with (first
        | (refine load_ent rfl _ rfl g (off+j*10) x rfl HCELL.out ?_)
        | (refine store_ent rfl _ _ rfl wr.heap.size En.zero x rfl rfl (Lies.new _ _ _) ?_;intro w7 hl7 hg7;have HB7:Hid (Below wr.heap.size wr w7):=fresh_below hg7;obtain⟨d0,d1,d2,d3,d4,d5,d6,d7,d8,d9⟩:=Ents.ten hl7;clear hl7 hg7)
        | (at_builtin;refine step_rec rfl _ _ rfl w1.heap.size (.slice yo yn yc) _ rfl (ListO.below HO.out (HB7.out.alloc HB7.out.size _)) (Hd.recC x) Nil w7.heap.size rfl (Lies.new w7 42 (Re.cells (Hd.recC x) Nil)) (ReadsP.none _ _) HLN.out (by have h1:=HB7.out.size;have h2:=HBr.out.size;simp;omega) ?_;intro v8 w8 ho8 hg8;have HO8:=Lib.hid ho8;have HB8:Hid (Below w1.heap.size w1 w8):=RecsO.behind (ListO.below HO.out (HB7.out.alloc HB7.out.size _)) ((HBr.out.trans (HB7.out.mono HBr.out.size)).alloc (Nat.le_trans HBr.out.size HB7.out.size) _) (Nat.le_refl _) hg8;clear ho8 hg8))
       rw[HTK.out]at HO8
       go_roundw
       case rel=>exact⟨j+1,by go_num,by omega,HO8,HB8⟩
       case measure=>simp[intOf];omega
      ·obtain rfl:j=nc:=by omega
       have HO5:Hid (RecsO wr w1.heap.size (.slice yo yn yc) ([Hd.recI h]++h.acc.map Hd.recA++h.chs.map Hd.recC)):=by have h1:=HO.out;rw[List.take_of_length_le (by have:=HNC.out;omega)]at h1;exact h1
       go_wp2
       exact HE.out _ _ _ HBr.out HO5.out (by unfold Hd.recs;rw[if_pos HB0.out,if_neg (show ¬h.prom≠Bl.zero from fun h1=>h1 (by have:=HT.out;simpa using this.symm))];first | done | simp)
  | false =>
   go_wp2_with (at_builtin;refine step_rec rfl _ _ rfl w1.heap.size v5 ([Hd.recI h]) rfl (ListO.below HO5.out ((Below.refl _ w5).alloc (Nat.le_refl _) _)) (Hd.recP h) Nil w5.heap.size rfl (Lies.new w5 42 (Re.cells (Hd.recP h) Nil)) (ReadsP.none _ _) (by simp) (Nat.le_trans HB5.out.size (by simp)) ?_;intro v6 w6 ho6 hg6;have HO6:=Lib.hid ho6;have HB6:Hid (Below w1.heap.size w1 w6):=RecsO.behind (ListO.below HO5.out ((Below.refl _ w5).alloc (Nat.le_refl _) _)) (HB5.out.alloc HB5.out.size _) (Nat.le_refl _) hg6;have b4:w6.cell? ⟨w.heap.size,4,none⟩=some (.slice ao na ac):=(HLX.out _ HB6.out).cell 4 _ rfl;clear ho6 hg6)
   clear b4 p0 p1
   have HL0:Hid (([Hd.recI h] ++ [Hd.recP h]:List Re.Rec).length≤2):=by show _≤_;simp
   have b4:w6.cell? ⟨w.heap.size,4,none⟩=some (.slice ao na ac):=(HLX.out _ HB6.out).cell 4 _ rfl
   go_wp2
   clear b4
   go_loopw [3,33] (fun y i wr => ∃k:Nat,i = .int .i64 (k:Int)∧k≤na∧Hid (RecsO wr w1.heap.size y ([Hd.recI h] ++ [Hd.recP h]++(h.acc.take k).map Hd.recA))∧Hid (Below w1.heap.size w1 wr)) (fun _ i _=>na - (intOf i).toNat)
   case atStart=>exact⟨0,rfl,by omega,by have h1:=HO6.out;show RecsO _ _ _ _;simpa using h1,HB6⟩
   case round =>
    obtain⟨k,rfl,hk,HO,HBr⟩:=hrel
    obtain⟨yo,yn,yc,hyy⟩:=RecsO.shape HO.out
    subst hyy
    by_cases hltk:k<na
    ·obtain⟨x,hx⟩ : ∃x,h.acc[k]? = some x:=⟨_,List.getElem?_eq_getElem (by have:=HNA.out;omega)⟩
     obtain⟨g,off,rfl,hgl,hcell⟩:=HPA.out (by have:=HNA.out;omega)
     have HCELL:Hid (EntAt wr g (off+k*10) x):=hcell wr HBr.out k x hx
     have HLN:Hid (([Hd.recI h] ++ [Hd.recP h]++(h.acc.take k).map Hd.recA).length≤10000000):=by
      show _≤_
      have h1:=HF.out.acc
      have h2:=HF.out.chs
      have h3:(h.acc.take k).length≤h.acc.length:=List.length_take_le' _ _
      have h4:=HL0.out
      (try simp only[List.length_append]at h4)
      simp only[List.length_append,List.length_map]
      omega
     have HTK:Hid ([Hd.recI h] ++ [Hd.recP h]++(h.acc.take k).map Hd.recA ++ [Hd.recA x] = [Hd.recI h] ++ [Hd.recP h]++(h.acc.take (k+1)).map Hd.recA):=by show _=_;rw[List.take_add_one,hx];simp
     clear hcell hx
     go_wp2_with (first
      | (refine load_ent rfl _ rfl g (off+k*10) x rfl HCELL.out ?_)
      | (refine store_ent rfl _ _ rfl wr.heap.size En.zero x rfl rfl (Lies.new _ _ _) ?_;intro w7 hl7 hg7;have HB7:Hid (Below wr.heap.size wr w7):=fresh_below hg7;obtain⟨d0,d1,d2,d3,d4,d5,d6,d7,d8,d9⟩:=Ents.ten hl7;clear hl7 hg7)
      | (at_builtin;refine step_rec rfl _ _ rfl w1.heap.size (.slice yo yn yc) _ rfl (ListO.below HO.out (HB7.out.alloc HB7.out.size _)) (Hd.recA x) Nil w7.heap.size rfl (Lies.new w7 42 (Re.cells (Hd.recA x) Nil)) (ReadsP.none _ _) HLN.out (by have h1:=HB7.out.size;have h2:=HBr.out.size;simp;omega) ?_;intro v8 w8 ho8 hg8;have HO8:=Lib.hid ho8;have HB8:Hid (Below w1.heap.size w1 w8):=RecsO.behind (ListO.below HO.out (HB7.out.alloc HB7.out.size _)) ((HBr.out.trans (HB7.out.mono HBr.out.size)).alloc (Nat.le_trans HBr.out.size HB7.out.size) _) (Nat.le_refl _) hg8;clear ho8 hg8))
     rw[HTK.out]at HO8
     go_roundw
     case rel=>exact⟨k+1,by go_num,by omega,HO8,HB8⟩
     case measure=>simp[intOf];omega
    ·obtain rfl:k=na:=by omega
     have HO2:Hid (RecsO wr w1.heap.size (.slice yo yn yc) ([Hd.recI h] ++ [Hd.recP h]++h.acc.map Hd.recA)):=by have h1:=HO.out;rw[List.take_of_length_le (by have:=HNA.out;omega)]at h1;exact h1
     have b5:wr.cell? ⟨w.heap.size,5,none⟩=some (.slice co nc cc):=(HLX.out _ HBr.out).cell 5 _ rfl
     clear HO
     go_wp2
     clear b5
     obtain⟨wv,hwv⟩ : ∃wv,wv=wr:=⟨_,rfl⟩
     rw[← hwv]
     have HB4:Hid (Below w1.heap.size w1 wv):=by rw[hwv];exact HBr
     have HO4:Hid (RecsO wv w1.heap.size (.slice yo yn yc) ([Hd.recI h] ++ [Hd.recP h]++h.acc.map Hd.recA)):=by rw[hwv];exact HO2
     clear hwv HBr HO2
     go_loopw [3,51] (fun y i wr => ∃j:Nat,i = .int .i64 (j:Int)∧j≤nc∧Hid (RecsO wr w1.heap.size y ([Hd.recI h] ++ [Hd.recP h]++h.acc.map Hd.recA++(h.chs.take j).map Hd.recC))∧Hid (Below w1.heap.size w1 wr)) (fun _ i _=>nc - (intOf i).toNat)
     case atStart=>exact⟨0,rfl,by omega,by have h1:=HO4.out;show RecsO _ _ _ _;simpa using h1,HB4⟩
     case round =>
      obtain⟨j,rfl,hj,HO,HBr⟩:=hrel
      obtain⟨yo,yn,yc,hyy⟩:=RecsO.shape HO.out
      subst hyy
      by_cases hltj:j<nc
      ·obtain⟨x,hx⟩ : ∃x,h.chs[j]? = some x:=⟨_,List.getElem?_eq_getElem (by have:=HNC.out;omega)⟩
       obtain⟨g,off,rfl,hgl,hcell⟩:=HPC.out (by have:=HNC.out;omega)
       have HCELL:Hid (EntAt wr g (off+j*10) x):=hcell wr HBr.out j x hx
       have HLN:Hid (([Hd.recI h] ++ [Hd.recP h]++h.acc.map Hd.recA++(h.chs.take j).map Hd.recC).length≤10000000):=by
        show _≤_
        have h1:=HF.out.acc
        have h2:=HF.out.chs
        have h3:(h.chs.take j).length≤h.chs.length:=List.length_take_le' _ _
        have h4:=HL0.out
        (try simp only[List.length_append]at h4)
        simp only[List.length_append,List.length_map]
        omega
       have HTK:Hid ([Hd.recI h] ++ [Hd.recP h]++h.acc.map Hd.recA++(h.chs.take j).map Hd.recC ++ [Hd.recC x] = [Hd.recI h] ++ [Hd.recP h]++h.acc.map Hd.recA++(h.chs.take (j+1)).map Hd.recC):=by show _=_;rw[List.take_add_one,hx];simp
       clear hcell hx
       go_wp2_with (first
        | (refine load_ent rfl _ rfl g (off+j*10) x rfl HCELL.out ?_)
        | (refine store_ent rfl _ _ rfl wr.heap.size En.zero x rfl rfl (Lies.new _ _ _) ?_;intro w7 hl7 hg7;have HB7:Hid (Below wr.heap.size wr w7):=fresh_below hg7;obtain⟨d0,d1,d2,d3,d4,d5,d6,d7,d8,d9⟩:=Ents.ten hl7;clear hl7 hg7)
        | (at_builtin;refine step_rec rfl _ _ rfl w1.heap.size (.slice yo yn yc) _ rfl (ListO.below HO.out (HB7.out.alloc HB7.out.size _)) (Hd.recC x) Nil w7.heap.size rfl (Lies.new w7 42 (Re.cells (Hd.recC x) Nil)) (ReadsP.none _ _) HLN.out (by have h1:=HB7.out.size;have h2:=HBr.out.size;simp;omega) ?_;intro v8 w8 ho8 hg8;have HO8:=Lib.hid ho8;have HB8:Hid (Below w1.heap.size w1 w8):=RecsO.behind (ListO.below HO.out (HB7.out.alloc HB7.out.size _)) ((HBr.out.trans (HB7.out.mono HBr.out.size)).alloc (Nat.le_trans HBr.out.size HB7.out.size) _) (Nat.le_refl _) hg8;clear ho8 hg8))
       rw[HTK.out]at HO8
       go_roundw
       case rel=>exact⟨j+1,by go_num,by omega,HO8,HB8⟩
       case measure=>simp[intOf];omega
      ·obtain rfl:j=nc:=by omega
       have HO5:Hid (RecsO wr w1.heap.size (.slice yo yn yc) ([Hd.recI h] ++ [Hd.recP h]++h.acc.map Hd.recA++h.chs.map Hd.recC)):=by have h1:=HO.out;rw[List.take_of_length_le (by have:=HNC.out;omega)]at h1;exact h1
       go_wp2
       exact HE.out _ _ _ HBr.out HO5.out (by unfold Hd.recs;rw[if_pos HB0.out,if_pos (show h.prom≠Bl.zero from by have:=HT.out;simpa using this.symm)];first | done | simp)
 ·have HB0:=Lib.hid hb0
  have HBR:Hid (Below w1.heap.size w1 w1):=Below.refl _ _
  have HON:Hid (RecsO w1 w1.heap.size Nil []):=ListO.bare _ _ _ _
  obtain⟨p0,p1⟩:w1.cell? ⟨w.heap.size,0,none⟩=some (.int .i64 h.prom.round)∧w1.cell? ⟨w.heap.size,1,none⟩=some (.int .i64 h.prom.node):=⟨(HLX.out _ HBR.out).cell 0 _ rfl,(HLX.out _ HBR.out).cell 1 _ rfl⟩
  cases t with
  | true =>
   have HL0:Hid (([]:List Re.Rec).length≤2):=by show _≤_;simp
   have b4:w1.cell? ⟨w.heap.size,4,none⟩=some (.slice ao na ac):=(HLX.out _ HBR.out).cell 4 _ rfl
   go_wp2
   clear b4
   go_loopw [3,33] (fun y i wr => ∃k:Nat,i = .int .i64 (k:Int)∧k≤na∧Hid (RecsO wr w1.heap.size y ([]++(h.acc.take k).map Hd.recA))∧Hid (Below w1.heap.size w1 wr)) (fun _ i _=>na - (intOf i).toNat)
   case atStart=>exact⟨0,rfl,by omega,by have h1:=HON.out;show RecsO _ _ _ _;simpa using h1,HBR⟩
   case round =>
    obtain⟨k,rfl,hk,HO,HBr⟩:=hrel
    obtain⟨yo,yn,yc,hyy⟩:=RecsO.shape HO.out
    subst hyy
    by_cases hltk:k<na
    ·obtain⟨x,hx⟩ : ∃x,h.acc[k]? = some x:=⟨_,List.getElem?_eq_getElem (by have:=HNA.out;omega)⟩
     obtain⟨g,off,rfl,hgl,hcell⟩:=HPA.out (by have:=HNA.out;omega)
     have HCELL:Hid (EntAt wr g (off+k*10) x):=hcell wr HBr.out k x hx
     have HLN:Hid (([]++(h.acc.take k).map Hd.recA).length≤10000000):=by
      show _≤_
      have h1:=HF.out.acc
      have h2:=HF.out.chs
      have h3:(h.acc.take k).length≤h.acc.length:=List.length_take_le' _ _
      have h4:=HL0.out
      (try simp only[List.length_append]at h4)
      simp only[List.length_append,List.length_map]
      omega
     have HTK:Hid ([]++(h.acc.take k).map Hd.recA ++ [Hd.recA x] = []++(h.acc.take (k+1)).map Hd.recA):=by show _=_;rw[List.take_add_one,hx];simp
     clear hcell hx
     go_wp2_with (first
      | (refine load_ent rfl _ rfl g (off+k*10) x rfl HCELL.out ?_)
      | (refine store_ent rfl _ _ rfl wr.heap.size En.zero x rfl rfl (Lies.new _ _ _) ?_;intro w7 hl7 hg7;have HB7:Hid (Below wr.heap.size wr w7):=fresh_below hg7;obtain⟨d0,d1,d2,d3,d4,d5,d6,d7,d8,d9⟩:=Ents.ten hl7;clear hl7 hg7)
      | (at_builtin;refine step_rec rfl _ _ rfl w1.heap.size (.slice yo yn yc) _ rfl (ListO.below HO.out (HB7.out.alloc HB7.out.size _)) (Hd.recA x) Nil w7.heap.size rfl (Lies.new w7 42 (Re.cells (Hd.recA x) Nil)) (ReadsP.none _ _) HLN.out (by have h1:=HB7.out.size;have h2:=HBr.out.size;simp;omega) ?_;intro v8 w8 ho8 hg8;have HO8:=Lib.hid ho8;have HB8:Hid (Below w1.heap.size w1 w8):=RecsO.behind (ListO.below HO.out (HB7.out.alloc HB7.out.size _)) ((HBr.out.trans (HB7.out.mono HBr.out.size)).alloc (Nat.le_trans HBr.out.size HB7.out.size) _) (Nat.le_refl _) hg8;clear ho8 hg8))
     rw[HTK.out]at HO8
     go_roundw
     case rel=>exact⟨k+1,by go_num,by omega,HO8,HB8⟩
     case measure=>simp[intOf];omega
    ·obtain rfl:k=na:=by omega
     have HO2:Hid (RecsO wr w1.heap.size (.slice yo yn yc) ([]++h.acc.map Hd.recA)):=by have h1:=HO.out;rw[List.take_of_length_le (by have:=HNA.out;omega)]at h1;exact h1
     have b5:wr.cell? ⟨w.heap.size,5,none⟩=some (.slice co nc cc):=(HLX.out _ HBr.out).cell 5 _ rfl
     clear HO
     go_wp2
     clear b5
     obtain⟨wv,hwv⟩ : ∃wv,wv=wr:=⟨_,rfl⟩
     rw[← hwv]
     have HB4:Hid (Below w1.heap.size w1 wv):=by rw[hwv];exact HBr
     have HO4:Hid (RecsO wv w1.heap.size (.slice yo yn yc) ([]++h.acc.map Hd.recA)):=by rw[hwv];exact HO2
     clear hwv HBr HO2
     go_loopw [3,51] (fun y i wr => ∃j:Nat,i = .int .i64 (j:Int)∧j≤nc∧Hid (RecsO wr w1.heap.size y ([]++h.acc.map Hd.recA++(h.chs.take j).map Hd.recC))∧Hid (Below w1.heap.size w1 wr)) (fun _ i _=>nc - (intOf i).toNat)
     case atStart=>exact⟨0,rfl,by omega,by have h1:=HO4.out;show RecsO _ _ _ _;simpa using h1,HB4⟩
     case round =>
      obtain⟨j,rfl,hj,HO,HBr⟩:=hrel
      obtain⟨yo,yn,yc,hyy⟩:=RecsO.shape HO.out
      subst hyy
      by_cases hltj:j<nc
      ·obtain⟨x,hx⟩ : ∃x,h.chs[j]? = some x:=⟨_,List.getElem?_eq_getElem (by have:=HNC.out;omega)⟩
       obtain⟨g,off,rfl,hgl,hcell⟩:=HPC.out (by have:=HNC.out;omega)
       have HCELL:Hid (EntAt wr g (off+j*10) x):=hcell wr HBr.out j x hx
       have HLN:Hid (([]++h.acc.map Hd.recA++(h.chs.take j).map Hd.recC).length≤10000000):=by
        show _≤_
        have h1:=HF.out.acc
        have h2:=HF.out.chs
        have h3:(h.chs.take j).length≤h.chs.length:=List.length_take_le' _ _
        have h4:=HL0.out
        (try simp only[List.length_append]at h4)
        simp only[List.length_append,List.length_map]
        omega
       have HTK:Hid ([]++h.acc.map Hd.recA++(h.chs.take j).map Hd.recC ++ [Hd.recC x] = []++h.acc.map Hd.recA++(h.chs.take (j+1)).map Hd.recC):=by show _=_;rw[List.take_add_one,hx];simp
       clear hcell hx
       go_wp2_with (first
        | (refine load_ent rfl _ rfl g (off+j*10) x rfl HCELL.out ?_)
        | (refine store_ent rfl _ _ rfl wr.heap.size En.zero x rfl rfl (Lies.new _ _ _) ?_;intro w7 hl7 hg7;have HB7:Hid (Below wr.heap.size wr w7):=fresh_below hg7;obtain⟨d0,d1,d2,d3,d4,d5,d6,d7,d8,d9⟩:=Ents.ten hl7;clear hl7 hg7)
        | (at_builtin;refine step_rec rfl _ _ rfl w1.heap.size (.slice yo yn yc) _ rfl (ListO.below HO.out (HB7.out.alloc HB7.out.size _)) (Hd.recC x) Nil w7.heap.size rfl (Lies.new w7 42 (Re.cells (Hd.recC x) Nil)) (ReadsP.none _ _) HLN.out (by have h1:=HB7.out.size;have h2:=HBr.out.size;simp;omega) ?_;intro v8 w8 ho8 hg8;have HO8:=Lib.hid ho8;have HB8:Hid (Below w1.heap.size w1 w8):=RecsO.behind (ListO.below HO.out (HB7.out.alloc HB7.out.size _)) ((HBr.out.trans (HB7.out.mono HBr.out.size)).alloc (Nat.le_trans HBr.out.size HB7.out.size) _) (Nat.le_refl _) hg8;clear ho8 hg8))
       rw[HTK.out]at HO8
       go_roundw
       case rel=>exact⟨j+1,by go_num,by omega,HO8,HB8⟩
       case measure=>simp[intOf];omega
      ·obtain rfl:j=nc:=by omega
       have HO5:Hid (RecsO wr w1.heap.size (.slice yo yn yc) ([]++h.acc.map Hd.recA++h.chs.map Hd.recC)):=by have h1:=HO.out;rw[List.take_of_length_le (by have:=HNC.out;omega)]at h1;exact h1
       go_wp2
       exact HE.out _ _ _ HBr.out HO5.out (by unfold Hd.recs;rw[if_neg (show ¬ 0<h.base from by have:=HB0.out;omega),if_neg (show ¬h.prom≠Bl.zero from fun h1=>h1 (by have:=HT.out;simpa using this.symm))];first | done | simp)
  | false =>
   go_wp2_with (at_builtin;refine step_rec rfl _ _ rfl w1.heap.size Nil ([]) rfl (ListO.below HON.out ((Below.refl _ w1).alloc (Nat.le_refl _) _)) (Hd.recP h) Nil w1.heap.size rfl (Lies.new w1 42 (Re.cells (Hd.recP h) Nil)) (ReadsP.none _ _) (by simp) (Nat.le_trans HBR.out.size (by simp)) ?_;intro v6 w6 ho6 hg6;have HO6:=Lib.hid ho6;have HB6:Hid (Below w1.heap.size w1 w6):=RecsO.behind (ListO.below HON.out ((Below.refl _ w1).alloc (Nat.le_refl _) _)) (HBR.out.alloc HBR.out.size _) (Nat.le_refl _) hg6;have b4:w6.cell? ⟨w.heap.size,4,none⟩=some (.slice ao na ac):=(HLX.out _ HB6.out).cell 4 _ rfl;clear ho6 hg6)
   clear b4 p0 p1
   have HL0:Hid (([] ++ [Hd.recP h]:List Re.Rec).length≤2):=by show _≤_;simp
   have b4:w6.cell? ⟨w.heap.size,4,none⟩=some (.slice ao na ac):=(HLX.out _ HB6.out).cell 4 _ rfl
   go_wp2
   clear b4
   go_loopw [3,33] (fun y i wr => ∃k:Nat,i = .int .i64 (k:Int)∧k≤na∧Hid (RecsO wr w1.heap.size y ([] ++ [Hd.recP h]++(h.acc.take k).map Hd.recA))∧Hid (Below w1.heap.size w1 wr)) (fun _ i _=>na - (intOf i).toNat)
   case atStart=>exact⟨0,rfl,by omega,by have h1:=HO6.out;show RecsO _ _ _ _;simpa using h1,HB6⟩
   case round =>
    obtain⟨k,rfl,hk,HO,HBr⟩:=hrel
    obtain⟨yo,yn,yc,hyy⟩:=RecsO.shape HO.out
    subst hyy
    by_cases hltk:k<na
    ·obtain⟨x,hx⟩ : ∃x,h.acc[k]? = some x:=⟨_,List.getElem?_eq_getElem (by have:=HNA.out;omega)⟩
     obtain⟨g,off,rfl,hgl,hcell⟩:=HPA.out (by have:=HNA.out;omega)
     have HCELL:Hid (EntAt wr g (off+k*10) x):=hcell wr HBr.out k x hx
     have HLN:Hid (([] ++ [Hd.recP h]++(h.acc.take k).map Hd.recA).length≤10000000):=by
      show _≤_
      have h1:=HF.out.acc
      have h2:=HF.out.chs
      have h3:(h.acc.take k).length≤h.acc.length:=List.length_take_le' _ _
      have h4:=HL0.out
      (try simp only[List.length_append]at h4)
      simp only[List.length_append,List.length_map]
      omega
     have HTK:Hid ([] ++ [Hd.recP h]++(h.acc.take k).map Hd.recA ++ [Hd.recA x] = [] ++ [Hd.recP h]++(h.acc.take (k+1)).map Hd.recA):=by show _=_;rw[List.take_add_one,hx];simp
     clear hcell hx
     go_wp2_with (first
      | (refine load_ent rfl _ rfl g (off+k*10) x rfl HCELL.out ?_)
      | (refine store_ent rfl _ _ rfl wr.heap.size En.zero x rfl rfl (Lies.new _ _ _) ?_;intro w7 hl7 hg7;have HB7:Hid (Below wr.heap.size wr w7):=fresh_below hg7;obtain⟨d0,d1,d2,d3,d4,d5,d6,d7,d8,d9⟩:=Ents.ten hl7;clear hl7 hg7)
      | (at_builtin;refine step_rec rfl _ _ rfl w1.heap.size (.slice yo yn yc) _ rfl (ListO.below HO.out (HB7.out.alloc HB7.out.size _)) (Hd.recA x) Nil w7.heap.size rfl (Lies.new w7 42 (Re.cells (Hd.recA x) Nil)) (ReadsP.none _ _) HLN.out (by have h1:=HB7.out.size;have h2:=HBr.out.size;simp;omega) ?_;intro v8 w8 ho8 hg8;have HO8:=Lib.hid ho8;have HB8:Hid (Below w1.heap.size w1 w8):=RecsO.behind (ListO.below HO.out (HB7.out.alloc HB7.out.size _)) ((HBr.out.trans (HB7.out.mono HBr.out.size)).alloc (Nat.le_trans HBr.out.size HB7.out.size) _) (Nat.le_refl _) hg8;clear ho8 hg8))
     rw[HTK.out]at HO8
     go_roundw
     case rel=>exact⟨k+1,by go_num,by omega,HO8,HB8⟩
     case measure=>simp[intOf];omega
    ·obtain rfl:k=na:=by omega
     have HO2:Hid (RecsO wr w1.heap.size (.slice yo yn yc) ([] ++ [Hd.recP h]++h.acc.map Hd.recA)):=by have h1:=HO.out;rw[List.take_of_length_le (by have:=HNA.out;omega)]at h1;exact h1
     have b5:wr.cell? ⟨w.heap.size,5,none⟩=some (.slice co nc cc):=(HLX.out _ HBr.out).cell 5 _ rfl
     clear HO
     go_wp2
     clear b5
     obtain⟨wv,hwv⟩ : ∃wv,wv=wr:=⟨_,rfl⟩
     rw[← hwv]
     have HB4:Hid (Below w1.heap.size w1 wv):=by rw[hwv];exact HBr
     have HO4:Hid (RecsO wv w1.heap.size (.slice yo yn yc) ([] ++ [Hd.recP h]++h.acc.map Hd.recA)):=by rw[hwv];exact HO2
     clear hwv HBr HO2
     go_loopw [3,51] (fun y i wr => ∃j:Nat,i = .int .i64 (j:Int)∧j≤nc∧Hid (RecsO wr w1.heap.size y ([] ++ [Hd.recP h]++h.acc.map Hd.recA++(h.chs.take j).map Hd.recC))∧Hid (Below w1.heap.size w1 wr)) (fun _ i _=>nc - (intOf i).toNat)
     case atStart=>exact⟨0,rfl,by omega,by have h1:=HO4.out;show RecsO _ _ _ _;simpa using h1,HB4⟩
     case round =>
      obtain⟨j,rfl,hj,HO,HBr⟩:=hrel
      obtain⟨yo,yn,yc,hyy⟩:=RecsO.shape HO.out
      subst hyy
      by_cases hltj:j<nc
      ·obtain⟨x,hx⟩ : ∃x,h.chs[j]? = some x:=⟨_,List.getElem?_eq_getElem (by have:=HNC.out;omega)⟩
       obtain⟨g,off,rfl,hgl,hcell⟩:=HPC.out (by have:=HNC.out;omega)
       have HCELL:Hid (EntAt wr g (off+j*10) x):=hcell wr HBr.out j x hx
       have HLN:Hid (([] ++ [Hd.recP h]++h.acc.map Hd.recA++(h.chs.take j).map Hd.recC).length≤10000000):=by
        show _≤_
        have h1:=HF.out.acc
        have h2:=HF.out.chs
        have h3:(h.chs.take j).length≤h.chs.length:=List.length_take_le' _ _
        have h4:=HL0.out
        (try simp only[List.length_append]at h4)
        simp only[List.length_append,List.length_map]
        omega
       have HTK:Hid ([] ++ [Hd.recP h]++h.acc.map Hd.recA++(h.chs.take j).map Hd.recC ++ [Hd.recC x] = [] ++ [Hd.recP h]++h.acc.map Hd.recA++(h.chs.take (j+1)).map Hd.recC):=by show _=_;rw[List.take_add_one,hx];simp
       clear hcell hx
       go_wp2_with (first
        | (refine load_ent rfl _ rfl g (off+j*10) x rfl HCELL.out ?_)
        | (refine store_ent rfl _ _ rfl wr.heap.size En.zero x rfl rfl (Lies.new _ _ _) ?_;intro w7 hl7 hg7;have HB7:Hid (Below wr.heap.size wr w7):=fresh_below hg7;obtain⟨d0,d1,d2,d3,d4,d5,d6,d7,d8,d9⟩:=Ents.ten hl7;clear hl7 hg7)
        | (at_builtin;refine step_rec rfl _ _ rfl w1.heap.size (.slice yo yn yc) _ rfl (ListO.below HO.out (HB7.out.alloc HB7.out.size _)) (Hd.recC x) Nil w7.heap.size rfl (Lies.new w7 42 (Re.cells (Hd.recC x) Nil)) (ReadsP.none _ _) HLN.out (by have h1:=HB7.out.size;have h2:=HBr.out.size;simp;omega) ?_;intro v8 w8 ho8 hg8;have HO8:=Lib.hid ho8;have HB8:Hid (Below w1.heap.size w1 w8):=RecsO.behind (ListO.below HO.out (HB7.out.alloc HB7.out.size _)) ((HBr.out.trans (HB7.out.mono HBr.out.size)).alloc (Nat.le_trans HBr.out.size HB7.out.size) _) (Nat.le_refl _) hg8;clear ho8 hg8))
       rw[HTK.out]at HO8
       go_roundw
       case rel=>exact⟨j+1,by go_num,by omega,HO8,HB8⟩
       case measure=>simp[intOf];omega
      ·obtain rfl:j=nc:=by omega
       have HO5:Hid (RecsO wr w1.heap.size (.slice yo yn yc) ([] ++ [Hd.recP h]++h.acc.map Hd.recA++h.chs.map Hd.recC)):=by have h1:=HO.out;rw[List.take_of_length_le (by have:=HNC.out;omega)]at h1;exact h1
       go_wp2
       exact HE.out _ _ _ HBr.out HO5.out (by unfold Hd.recs;rw[if_neg (show ¬ 0<h.base from by have:=HB0.out;omega),if_pos (show h.prom≠Bl.zero from by have:=HT.out;simpa using this.symm)];first | done | simp)
end Go.Proofs.YtdkdjofnnnljjaaGreatDoor
