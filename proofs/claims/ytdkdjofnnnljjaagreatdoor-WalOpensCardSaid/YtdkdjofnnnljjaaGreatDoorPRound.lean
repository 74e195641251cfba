/- Several texts of mine in one: DkCrash Round. -/
import Derived.Test.YtdkdjofnnnljjaaGreatDoorDkHeld
import Derived.Test.YtdkdjofnnnljjaaGreatDoorPMem
import Derived.RangeFuncCalls
import Derived.TacticsIn
import Derived.OrdersIn
import Derived.Deep.RegionHeld
namespace Go.Proofs.YtdkdjofnnnljjaaGreatDoor
open Go.RowKit
set_option maxHeartbeats 3200000
set_option maxRecDepth 8000
theorem run_ops_upto(w:World)(ao:Option Addr)(n cap f:Nat)(hf:f≤cap) :
 (Instr.slice 67 (.slice ao n cap) none (some (.int .i64 (f:Int))) none).run Tryz.prog w = .ok (.slice ao f cap) w:=by
 have he:Tryz.prog.elem 67=91:=by kernel_rfl
 have hi:(Tryz.prog.info? 91).isSome=true:=by kernel_rfl
 obtain⟨i,hi⟩:=Option.isSome_iff_exists.1 hi
 have hrun:=run_slice_h (P:=Tryz.prog) (w:=w) 67 ao n cap (by rw[he];exact Tryz.underlying67) .i64 (f:Int) (by omega) (by omega)
 rw[he]at hrun
 refine hrun.trans ?_
 rw[run_sizeOf _ hi,show Tryz.prog.cellsOf 91=3 by kernel_rfl]
 simp only[Result.andThen,Int.toNat_natCast]
 cases ao<;>simp[sliced,Addr.add]
theorem run_bytes_upto(w:World)(ao:Option Addr)(n cap f:Nat)(hf:f≤cap) :
 (Instr.slice 30 (.slice ao n cap) none (some (.int .i64 (f:Int))) none).run Tryz.prog w = .ok (.slice ao f cap) w:=by
 have he:Tryz.prog.elem 30=5:=by kernel_rfl
 have hi:(Tryz.prog.info? 5).isSome=true:=by kernel_rfl
 obtain⟨i,hi⟩:=Option.isSome_iff_exists.1 hi
 have hrun:=run_slice_h (P:=Tryz.prog) (w:=w) 30 ao n cap (by rw[he];exact Tryz.underlying30) .i64 (f:Int) (by omega) (by omega)
 rw[he]at hrun
 refine hrun.trans ?_
 rw[run_sizeOf _ hi,show Tryz.prog.cellsOf 5=1 by kernel_rfl]
 simp only[Result.andThen,Int.toNat_natCast]
 cases ao<;>simp[sliced,Addr.add]
structure CrashI(w:World)(b:Nat)(zs:List Row)(B:List Dk.Op)(i:Nat)(zs' : List Row)(W:World):Prop where
 files:FilesIn W b zs'
 is:Dk.onto (·.2) zs' = Dk.all (Dk.onto (·.2) zs) (B.take i)
 kept:Kp (fun k _=>k≠b ∧ ¬Bl zs k) w W
 blk : ∀k,Bl zs' k→Bl zs k∨w.heap.size≤k
theorem CrashI.start{w:World}{b:Nat}{zs:List Row}(h:FilesIn w b zs)(B:List Dk.Op):CrashI w b zs B 0 zs w:=⟨h,by simp[Dk.all],Kp.refl _ _,fun _ h => .inl h⟩
theorem CrashI.below{w W W' : World}{b:Nat}{zs zs' : List Row}{B:List Dk.Op}{i:Nat}(h:CrashI w b zs B i zs' W)(hb:Below W.heap.size W W'):CrashI w b zs B i zs' W' :=
 ⟨h.files.below hb (Nat.le_refl _),h.is,h.kept.trans (Kp.all hb),h.blk⟩
theorem CrashI.done{w W W' : World}{b:Nat}{zs zs' : List Row}{B:List Dk.Op}{i:Nat}{x:Dk.Op}{e:Ending}(h:CrashI w b zs B i zs' W)(ha:Applied W b zs' x e W') :
 ∃zs'', FilesIn W' b zs'' ∧ Dk.onto (·.2) zs'' = Dk.done (Dk.all (Dk.onto (·.2) zs) (B.take i)) x∧Kp (fun k _=>k≠b ∧ ¬Bl zs k) w W' ∧ ∀k,Bl zs'' k→Bl zs k∨w.heap.size≤k:=by
 obtain⟨_,zs'', h1,h2,h3,h4⟩:=ha
 refine⟨zs'', h1,by rw[h2,h.is],h.kept.then h3 fun g o e hq=>⟨hq.1,fun hb => ?_⟩,fun k hk => ?_⟩
 ·rcases h.blk g hb with h' | h'
  ·exact hq.2 h'
  ·have:=lt_of_obj e;omega
 ·rcases h4 k hk with h' | h'
  ·exact h.blk k h'
  ·have:=h.kept.size;right;omega
theorem CrashI.step{w W W' : World}{b:Nat}{zs zs' : List Row}{B:List Dk.Op}{i:Nat}{x:Dk.Op}{e:Ending}(h:CrashI w b zs B i zs' W)(hx:B[i]? = some x)(ha:Applied W b zs' x e W') : ∃zs'', CrashI w b zs B (i+1) zs'' W' := by
 obtain⟨zs'', h1,h2,h3,h4⟩:=h.done ha
 exact⟨zs'', h1,by rw[h2,Dk.all_step hx],h3,h4⟩
theorem Applied.lies{W W' : World}{b:Nat}{zs:List Row}{x:Dk.Op}{e:Ending}(ha:Applied W b zs x e W')(hf:FilesIn W b zs){g:Nat}{t:TypeId}{vs:Array Value}(hl:Lies W g t vs)(ht:t≠5):Lies W' g t vs:=by
 obtain⟨_,zs', _,_,h3,_⟩:=ha
 refine h3.lies hl fun _=>⟨fun e=>by subst e;exact hf.map.no_cells hl,fun hb => ?_⟩
 obtain⟨cs,hc⟩:=hf.cells hb
 rw[show W.heap[g]? = _ from hl]at hc
 cases hc
 exact ht rfl
theorem CrashI.lies{w W:World}{b:Nat}{zs zs' : List Row}{B:List Dk.Op}{i:Nat}(h:CrashI w b zs B i zs' W)(hf:FilesIn w b zs){g:Nat}{t:TypeId}{vs:Array Value}(hl:Lies w g t vs)(ht:t≠5):Lies W g t vs:=by
 refine h.kept.lies hl fun _=>⟨fun e=>by subst e;exact hf.map.no_cells hl,fun hb => ?_⟩
 obtain⟨cs,hc⟩:=hf.cells hb
 rw[show w.heap[g]? = _ from hl]at hc
 cases hc
 exact ht rfl
theorem CrashI.keep{w W:World}{b:Nat}{zs zs' : List Row}{B:List Dk.Op}{i:Nat}(h:CrashI w b zs B i zs' W)(hf:FilesIn w b zs):Keep (fun k _=>k<w.heap.size ∧ ¬Bl zs k) w W:=(hf.keep h.kept).imp fun _ _ hp=>hp.2
def Crashed(w:World)(d b:Nat)(zs:List Row)(F:Dk.Files)(e:Ending)(w' : World):Prop :=
 e = .returned (.tuple #[])∧Lies w' d 76 #[.map (some b), .slice none 0 0] ∧ ∃zs', FilesIn w' b zs' ∧ Dk.onto (·.2) zs' = F∧Kp (fun k _=>k≠b∧k≠d ∧ ¬Bl zs k) w w' ∧ ∀k,Bl zs' k→Bl zs k∨w.heap.size≤k
theorem crash_some{w:World}{d b:Nat}{bv:Value}{zs:List Row}{qs:List (Dk.Op × Value)}(hl:Lies w d 76 #[.map (some b),bv])(hf:FilesIn w b zs)(hrow:RowP (fun k _=>k<w.heap.size ∧ ¬Bl zs k) w bv 3 (rowsOf Dk.cellO qs))
 (hdata : ∀q∈qs,ReadsP (fun k _=>k<w.heap.size ∧ ¬Bl zs k) w q.2 q.1.data) (hkinds:Dk.Kinds (qs.map (·.1))) (hs:Dk.wt (Dk.onto (·.2) zs)+2*Dk.wtB (qs.map (·.1))≤17592186044416) (k t:Int) :
 Calls Tryz.prog 18 #[.pointer (some ⟨d,0,none⟩), .int .i64 k, .int .i64 t] w (Crashed w d b zs (Dk.crash (Dk.onto (·.2) zs) (qs.map (·.1)) k t)):=by
 obtain⟨ao,cap,rfl,hc1,hc2⟩:=hrow.1.shape
 have hrl:(rowsOf Dk.cellO qs).length=qs.length:=by simp[rowsOf]
 rw[hrl]at hl hrow hc1
 obtain⟨n,hn⟩ : ∃n,n=qs.length:=⟨_,rfl⟩
 rw[← hn]at hl hrow hc1
 obtain⟨K,hK⟩ : ∃K,K=Dk.clamp k n:=⟨_,rfl⟩
 have hKn:K≤n:=by rw[hK];unfold Dk.clamp;omega
 have hwi:=dkWithin_any k n w
 rw[← hK]at hwi
 have hB:Dk.wtB (qs.map (·.1))≤8796093022208:=by omega
 have hnB:n≤8796093022208:=by
  have:=Dk.len_wtB (qs.map (·.1))
  rw[List.length_map]at this
  omega
 -- an element,in whatever world the crash comes to
 have HEL:Hid (∀(i:Nat) (zs' : List Row) (W:World),CrashI w b zs (qs.map (·.1)) i zs' W → ∀j,j<n → ∃(b0 off:Nat) (x:Dk.Op) (ax:Option Addr) (cx:Nat),ao=some ⟨b0,off,none⟩∧(qs.map (·.1))[j]? = some x∧Reads W (.slice ax x.data.length cx) x.data∧x.data.length≤cx∧Dk.isKind x.kind∧(1≤x.no∧x.no≤4294967296) ∧
  W.cell? ⟨b0,off+j*3,none⟩=some (.int .i64 x.kind)∧W.cell? ⟨b0,off+j*3+1,none⟩=some (.int .i64 x.no)∧W.cell? ⟨b0,off+j*3+2,none⟩=some (.slice ax x.data.length cx) ∧
  Dk.wt (Dk.onto (·.2) zs')+x.data.length≤17592186044416):=by
  intro i zs' W hI j hj
  have hk:=hI.keep hf
  have hr:=hrow.keep hk
  obtain⟨q,hq⟩ : ∃q,qs[j]? = some q:=⟨_,List.getElem?_eq_getElem (by omega)⟩
  have hqm:=List.mem_of_getElem? hq
  obtain⟨b0,off,e,_,hc⟩:=ReadsR.places hr.1 (r0:=(rowsOf Dk.cellO qs)[0]'(by rw[hrl];omega)) (u0 := .int .i64 ((qs[0]'(by omega)).1.kind)) (List.getElem?_eq_getElem (by rw[hrl];omega)) (by simp[rowsOf,Dk.cellO])
  have hcell:=hc W (Below.refl _ _) j (Dk.cellO q.1 q.2) (by simp[rowsOf,hq])
  obtain⟨x,u⟩:=q
  have hd:Reads W u x.data:=((hdata _ hqm).keep hk).1
  obtain⟨ax,cx,rfl⟩:=hd.shape
  have hxm:x∈qs.map (·.1):=List.mem_map.2 ⟨_,hqm,rfl⟩
  obtain⟨k1,k2⟩:=hkinds x hxm
  refine⟨b0,off,x,ax,cx,e,by simp[hq],hd,hd.len.2.1,k1,k2,hcell 0 _ rfl,hcell 1 _ rfl,hcell 2 _ rfl, ?_⟩
  have h1:=Dk.wt_all ((qs.map (·.1)).take i) (Dk.onto (·.2) zs)
  have h2:=Dk.wtB_split (qs.map (·.1)) i
  have h3:=Dk.wtB_mem hxm
  rw[hI.is]
  omega
 have HK:=Lib.hid hK;have HN:=Lib.hid hn;have HF:=Lib.hid hf;have HL:=Lib.hid hl;have HKN:=Lib.hid hKn
 -- the end:what is buffered is gone
 have HEND:Hid (∀(zs' : List Row) (W W' : World),FilesIn W b zs' → Dk.onto (·.2) zs' = Dk.crash (Dk.onto (·.2) zs) (qs.map (·.1)) k t→Kp (fun k _=>k≠b ∧ ¬Bl zs k) w W→(∀k,Bl zs' k→Bl zs k∨w.heap.size≤k)→Lies W' d 76 #[.map (some b), .slice none 0 0]→W.grownBy W' (some d)→Crashed w d b zs (Dk.crash (Dk.onto (·.2) zs) (qs.map (·.1)) k t) (.returned (.tuple #[])) W'):=by
  intro zs' W W' h1 h2 h3 h4 h5 h6
  have hlW:Lies W d 76 #[.map (some b), .slice ao n cap]:=h3.lies hl fun _=>⟨fun e=>by subst e;exact hf.map.no_cells hl,fun hb=>by
   obtain⟨cs,hc⟩:=hf.cells hb
   rw[show w.heap[d]? = _ from hl]at hc
   cases hc⟩
  refine⟨rfl,h5,zs', h1.stays (h6.block b h1.map.lt fun e => ?_) (fun k hk=>h6.block k (h1.lt hk) fun e => ?_),h2,(h3.imp fun j o _ hq=>⟨hq.1,hq.2.2⟩).trans (Kp.of_grown h6 fun j o e _ hq=>hq.2.1 (by simpa using e.symm)),h4⟩
  ·simp only[Option.some.injEq]at e
   subst e
   exact h1.map.no_cells hlW
  ·simp only[Option.some.injEq]at e
   subst e
   obtain⟨cs,hc⟩:=h1.cells hk
   rw[show W.heap[k]? = _ from hlW]at hc
   cases hc
 have HCR:Hid (Dk.crash (Dk.onto (·.2) zs) (qs.map (·.1)) k t=match (qs.map (·.1))[K]? with
  | none=>Dk.all (Dk.onto (·.2) zs) (qs.map (·.1))
  | some x=>if x.kind=2 then Dk.done (Dk.all (Dk.onto (·.2) zs) ((qs.map (·.1)).take K)) (Dk.torn x t)else Dk.all (Dk.onto (·.2) zs) ((qs.map (·.1)).take K)):=by
  show Dk.crash _ _ k t=_
  have e:Dk.clamp k (qs.map (·.1)).length=K:=by rw[HK.out,HN.out,List.length_map]
  unfold Dk.crash
  rw[e]
  cases (qs.map (·.1))[K]? <;> rfl
 have c0:w.cell? ⟨d,0,none⟩=some (.map (some b)):=hl.cell 0 _ rfl
 have c1:w.cell? ⟨d,1,none⟩=some (.slice ao n cap):=hl.cell 1 _ rfl
 have hup:=fun u:World=>run_ops_upto u ao n cap K (by omega)
 have HSL:Hid (K=n→(qs.map (·.1)).take K=qs.map (·.1)):=fun e=>List.take_of_length_le (by rw[List.length_map,e, ← HN.out];exact Nat.le_refl _)
 have HST:Hid (CrashI w b zs (qs.map (·.1)) 0 zs w):=CrashI.start hf _
 clear hl hf hrow hdata hkinds hs hB hrl hK hn
 go_enter Tryz.func18,Tryz.ntmps18
 go_wp2_with (go_at_call 48;refine hwi.mono ?_;rintro e w' ⟨rfl,rfl⟩)
 go_loopw [25] (fun x wr => ∃(i:Nat) (zs' : List Row),x = .int .i64 (i:Int)∧i≤K∧CrashI w b zs (qs.map (·.1)) i zs' wr) (fun x _=>K - (intOf x).toNat)
 case atStart=>exact⟨0,zs,rfl,Nat.zero_le _,HST.out⟩
 case round =>
  obtain⟨i,zs', rfl,hiK,hI⟩:=hrel
  have HI:=Lib.hid hI
  have q0:wr.cell? ⟨d,0,none⟩=some (.map (some b)):=(hI.lies HF.out HL.out (by decide)).cell 0 _ rfl
  have q1:wr.cell? ⟨d,1,none⟩=some (.slice ao n cap):=(hI.lies HF.out HL.out (by decide)).cell 1 _ rfl
  have HLR:Hid (Lies wr d 76 #[.map (some b), .slice ao n cap]):=hI.lies HF.out HL.out (by decide)
  clear hI c0 c1 hwi HST
  by_cases hlt:i<K
  ·obtain⟨b0,off,x,ax,cx,rfl,hx,hrd,hcx,hkx,hnx,k0,k1,k2,hsx⟩:=HEL.out i zs' wr HI.out i (by omega)
   have HX:=Lib.hid hx;have HRD:=Lib.hid hrd;have HSX:=Lib.hid hsx
   clear hx hrd hsx
   have hint:((i:Nat):Int)<(K:Int):=by omega
   obtain⟨w2,hw2⟩ : ∃w2,wr.alloc (.cells #[.int .i64 x.kind, .int .i64 x.no, .slice ax x.data.length cx] 91)=w2:=⟨_,rfl⟩
   have hb2:Below wr.heap.size wr w2:=by rw[← hw2];exact(Below.refl _ wr).alloc (Nat.le_refl _) _
   have HL2:Hid (Lies w2 wr.heap.size 91 #[.int .i64 x.kind, .int .i64 x.no, .slice ax x.data.length cx]):=by show Lies _ _ _ _;rw[← hw2];exact Lies.new wr _ _
   have HLD:Hid (Lies w2 d 76 #[.map (some b), .slice (some ⟨b0,off,none⟩) n cap]):=HLR.out.below hb2 HLR.out.lt
   have HB2:=Lib.hid hb2
   clear hb2
   have q2:w2.cell? ⟨d,0,none⟩=some (.map (some b)):=HLD.out.cell 0 _ rfl
   have l0:w2.cell? ⟨wr.heap.size,0,none⟩=some (.int .i64 x.kind):=HL2.out.cell 0 _ rfl
   have l1:w2.cell? ⟨wr.heap.size,1,none⟩=some (.int .i64 x.no):=HL2.out.cell 1 _ rfl
   have l2:w2.cell? ⟨wr.heap.size,2,none⟩=some (.slice ax x.data.length cx):=HL2.out.cell 2 _ rfl
   go_wp2
   refine wp_region_held_drew (S:=fun W=>W.cell? ⟨d,0,none⟩=some (.map (some b))∧W.cell? ⟨wr.heap.size,0,none⟩=some (.int .i64 x.kind)∧W.cell? ⟨wr.heap.size,1,none⟩=some (.int .i64 x.no)∧W.cell? ⟨wr.heap.size,2,none⟩=some (.slice ax x.data.length cx)) (by kernel_rfl) (⟨q2,l0,l1,l2⟩) (fun hHeld => ?_)
   refine wpT 0 rfl hHeld ?_ (by intro W hSw;obtain⟨s1,s2,s3,s4⟩:=hSw;go_simp;(try with_reducible rfl))
   refine wpT 1 rfl hHeld ?_ (by intro W hSw;obtain⟨s1,s2,s3,s4⟩:=hSw;go_simp;(try with_reducible rfl))
   refine wpT 2 rfl hHeld ?_ (by intro W hSw;obtain⟨s1,s2,s3,s4⟩:=hSw;go_simp;(try with_reducible rfl))
   refine wpT 3 rfl hHeld ?_ (by intro W hSw;obtain⟨s1,s2,s3,s4⟩:=hSw;go_simp;(try with_reducible rfl))
   refine wpT 4 rfl hHeld ?_ (by intro W hSw;obtain⟨s1,s2,s3,s4⟩:=hSw;go_simp;(try with_reducible rfl))
   refine wpAnyH_ready (rs := [5]) (by kernel_rfl) (by simp) ?_
   refine AllReadyH.cons rfl (fun K hK => ?_) AllReadyH.nil
   rw[if_pos (by rfl)]
   go_simp
   go_at_call 49
   refine(dkApply_any b zs' x (.slice ax x.data.length cx) w2.drew (((HI.out.below HB2.out).below (drawn w2 1)).files) hkx hnx ((HRD.out.below HB2.out).below (drawn w2 1)) HSX.out).mono ?_
   rintro e w3 ha
   obtain rfl:=ha.1
   have HLD3:=Lib.hid (Applied.lies ha (((HI.out.below HB2.out).below (drawn w2 1)).files) (HLD.out.below (drawn w2 1) HLD.out.lt) (by decide))
   have HL23:=Lib.hid (Applied.lies ha (((HI.out.below HB2.out).below (drawn w2 1)).files) (HL2.out.below (drawn w2 1) HL2.out.lt) (by decide))
   obtain⟨zs2,hI3⟩:=CrashI.step ((HI.out.below HB2.out).below (drawn w2 1)) HX.out ha
   have HI3:=Lib.hid hI3
   clear ha hI3
   refine hK.out _ _ ⟨HLD3.out.cell 0 _ rfl,HL23.out.cell 0 _ rfl,HL23.out.cell 1 _ rfl,HL23.out.cell 2 _ rfl⟩ (fun hHeld => ?_)
   clear hK K q2 l0 l1 l2
   refine wpAnyH_done (by kernel_rfl) ?_ _
   clear hHeld q0 q1
   go_wp2
   go_roundw
   case rel=>exact⟨i+1,zs2,by simp,by omega,HI3.out⟩
   case measure=>simp[intOf];omega
  ·obtain rfl:i=K:=by omega
   have hnlt : ¬((i:Nat):Int)<(i:Int):=by omega
   have HLe:Hid (Lies wr d 76 #[.map (some b), .slice ao n cap]):=HLR
   by_cases hin:i<n
   ·obtain⟨b0,off,x,ax,cx,rfl,hx,hrd,hcx,hkx,hnx,k0,k1,k2,hsx⟩:=HEL.out i zs' wr HI.out i hin
    have HX:=Lib.hid hx;have HRD:=Lib.hid hrd;have HSX:=Lib.hid hsx
    clear hx hrd hsx
    have hint:((i:Nat):Int)<(n:Int):=by omega
    by_cases h2:x.kind=2
    ·obtain⟨xk,xn,xd⟩:=x
     simp only at h2 k0 k1 k2 hcx hkx hnx HX HRD HSX
     subst h2
     obtain⟨T0,hT0⟩ : ∃T0,T0=Dk.clamp t xd.length:=⟨_,rfl⟩
     have hTle:T0≤xd.length:=by rw[hT0];unfold Dk.clamp;omega
     have hupb:=fun u:World=>run_bytes_upto u ax xd.length cx T0 (by omega)
     obtain⟨w8,hw8⟩ : ∃w8,wr.alloc (.cells #[.int .i64 2, .int .i64 xn, .slice ax xd.length cx] 91)=w8:=⟨_,rfl⟩
     have hb8:Below wr.heap.size wr w8:=by rw[← hw8];exact(Below.refl _ wr).alloc (Nat.le_refl _) _
     have HL8:Hid (Lies w8 wr.heap.size 91 #[.int .i64 2, .int .i64 xn, .slice ax xd.length cx]):=by show Lies _ _ _ _;rw[← hw8];exact Lies.new wr _ _
     have HB8:=Lib.hid hb8;have HT0:=Lib.hid hT0
     clear hb8 hT0
     have l0:w8.cell? ⟨wr.heap.size,0,none⟩=some (.int .i64 2):=HL8.out.cell 0 _ rfl
     have l2:w8.cell? ⟨wr.heap.size,2,none⟩=some (.slice ax xd.length cx):=HL8.out.cell 2 _ rfl
     have hcx9:cx≤9223372036854775807:=HRD.out.len.2.2.1
     go_wp2
     refine wp_region_held_drew (S:=fun _=>True) (by kernel_rfl) (trivial) (fun hHeld => ?_)
     refine wpT 0 rfl hHeld ?_
     refine wpT 2 rfl hHeld ?_
     refine wpT 3 rfl hHeld ?_
     refine wpAnyH_ready (rs := [1,4]) (by kernel_rfl) (by simp) ?_
     refine AllReadyH.cons rfl (fun K hK => ?_) (AllReadyH.cons rfl (fun K hK => ?_) AllReadyH.nil)
     ·rw[if_pos (by rfl)]
      go_simp
      refine hK.out _ _ trivial (fun hHeld => ?_)
      clear hK K
      refine wpAnyH_ready (rs := [4]) (by kernel_rfl) (by simp) ?_
      refine AllReadyH.cons rfl (fun K hK => ?_) AllReadyH.nil
      rw[if_pos (by rfl)]
      go_simp
      refine hK.out _ _ trivial (fun hHeld => ?_)
      clear hK K
      refine wpT 5 rfl hHeld ?_
      refine wpAnyH_ready (rs := [6]) (by kernel_rfl) (by simp) ?_
      refine AllReadyH.cons rfl (fun K hK => ?_) AllReadyH.nil
      rw[if_pos (by rfl)]
      go_simp
      go_at_call 48
      refine(dkWithin_any t xd.length w8.drew).mono ?_
      rw[← HT0.out]
      rintro e w9 ⟨rfl,rfl⟩
      refine hK.out _ _ trivial (fun hHeld => ?_)
      clear hK K
      refine wpT 7 rfl hHeld ?_
      refine wpT 8 rfl hHeld ?_
      refine wpAnyH_ready (rs := [9]) (by kernel_rfl) (by simp) ?_
      refine ready_store 9 30 (.tmp 69) (.tmp 68) rfl rfl rfl wr.heap.size 2 91 #[.int .i64 2, .int .i64 xn, .slice ax xd.length cx] #[.int .i64 2, .int .i64 xn, .slice ax T0 cx] (.slice ax T0 cx) [.slice ax T0 cx] ?x9a ?y9a rfl (by kernel_rfl) rfl (HL8.out.below (drawn w8 1) HL8.out.lt) (Nat.le_of_ble_eq_true rfl) rfl ?k9a
      case x9a=>kernel_rfl
      case y9a=>kernel_rfl
      intro w9 hl9 hg9
      have HL9:=Lib.hid hl9;have HG9:=Lib.hid hg9
      clear hl9 hg9
      refine⟨trivial,fun hHeld => ?_⟩
      refine wpAnyH_done (by kernel_rfl) ?_ _
      clear hHeld
      have hb9:Below wr.heap.size wr w9:=(HB8.out.trans ((drawn w8 1).mono HB8.out.size)).grown HG9.out HB8.out.size (fun j e=>by cases e;exact Nat.le_refl _)
      have HB9:=Lib.hid hb9
      have HLD:=Lib.hid (HLe.out.below hb9 HLe.out.lt)
      have q9:w9.cell? ⟨d,0,none⟩=some (.map (some b)):=HLD.out.cell 0 _ rfl
      have m0:w9.cell? ⟨wr.heap.size,0,none⟩=some (.int .i64 2):=HL9.out.cell 0 _ rfl
      have m1:w9.cell? ⟨wr.heap.size,1,none⟩=some (.int .i64 xn):=HL9.out.cell 1 _ rfl
      have m2:w9.cell? ⟨wr.heap.size,2,none⟩=some (.slice ax T0 cx):=HL9.out.cell 2 _ rfl
      clear hb9 l0 l2 hw8 hupb
      go_wp2
      refine wp_region_held_drew (S:=fun W=>W.cell? ⟨d,0,none⟩=some (.map (some b))∧W.cell? ⟨wr.heap.size,0,none⟩=some (.int .i64 2)∧W.cell? ⟨wr.heap.size,1,none⟩=some (.int .i64 xn)∧W.cell? ⟨wr.heap.size,2,none⟩=some (.slice ax T0 cx)) (by kernel_rfl) (⟨q9,m0,m1,m2⟩) (fun hHeld => ?_)
      refine wpT 0 rfl hHeld ?_ (by intro W hSw;obtain⟨s1,s2,s3,s4⟩:=hSw;go_simp;(try with_reducible rfl))
      refine wpT 1 rfl hHeld ?_ (by intro W hSw;obtain⟨s1,s2,s3,s4⟩:=hSw;go_simp;(try with_reducible rfl))
      refine wpT 2 rfl hHeld ?_ (by intro W hSw;obtain⟨s1,s2,s3,s4⟩:=hSw;go_simp;(try with_reducible rfl))
      refine wpT 3 rfl hHeld ?_ (by intro W hSw;obtain⟨s1,s2,s3,s4⟩:=hSw;go_simp;(try with_reducible rfl))
      refine wpT 4 rfl hHeld ?_ (by intro W hSw;obtain⟨s1,s2,s3,s4⟩:=hSw;go_simp;(try with_reducible rfl))
      refine wpAnyH_ready (rs := [5]) (by kernel_rfl) (by simp) ?_
      refine AllReadyH.cons rfl (fun K hK => ?_) AllReadyH.nil
      rw[if_pos (by rfl)]
      go_simp
      go_at_call 49
      have hrd:Reads w9.drew (.slice ax T0 cx) (Dk.torn ⟨2,xn,xd⟩ t).data:=by show Reads _ _ (xd.take (Dk.clamp t xd.length));rw[← HT0.out];exact Reads.below (Reads.first (HRD.out.below HB9.out) T0 hTle) (drawn w9 1)
      refine(dkApply_any b zs' (Dk.torn ⟨2,xn,xd⟩ t) (.slice ax T0 cx) w9.drew (((HI.out.below HB9.out).below (drawn w9 1)).files) hkx hnx hrd (Nat.le_trans (Nat.add_le_add_left (List.length_take_le' _ _) _) HSX.out)).mono ?_
      rintro e w10 ha
      obtain rfl:=ha.1
      have HLDX:=Lib.hid (Applied.lies ha (((HI.out.below HB9.out).below (drawn w9 1)).files) (HLD.out.below (drawn w9 1) HLD.out.lt) (by decide))
      have HL9X:=Lib.hid (Applied.lies ha (((HI.out.below HB9.out).below (drawn w9 1)).files) (HL9.out.below (drawn w9 1) HL9.out.lt) (by decide))
      have hdone:=CrashI.done ((HI.out.below HB9.out).below (drawn w9 1)) ha
      obtain⟨zs2,hz1,hz2,hz3,hz4⟩:=hdone
      have HZ1:=Lib.hid hz1;have HZ2:=Lib.hid hz2;have HZ3:=Lib.hid hz3;have HZ4:=Lib.hid hz4
      clear hz1 hz2 hz3 hz4 ha hrd
      refine hK.out _ _ ⟨HLDX.out.cell 0 _ rfl,HL9X.out.cell 0 _ rfl,HL9X.out.cell 1 _ rfl,HL9X.out.cell 2 _ rfl⟩ (fun hHeld => ?_)
      clear hK K q9 m0 m1 m2
      refine wpAnyH_done (by kernel_rfl) ?_ _
      clear hHeld q0 q1
      go_wp2_with (refine store_part rfl 67 _ _ rfl d 1 76 _ #[.map (some b), .slice none 0 0] (.slice none 0 0) [.slice none 0 0] rfl rfl rfl (by kernel_rfl) rfl HLDX.out (Nat.le_of_ble_eq_true rfl) rfl ?_;intro w11 hl11 hg11)
      go_end0
      exact HEND.out zs2 w10 w11 HZ1.out (by rw[HCR.out,HX.out];exact HZ2.out.trans (if_pos rfl).symm) HZ3.out HZ4.out hl11 hg11
     ·rw[if_pos (by rfl)]
      go_simp
      refine hK.out _ _ trivial (fun hHeld => ?_)
      clear hK K
      refine wpT 5 rfl hHeld ?_
      refine wpAnyH_ready (rs := [1,6]) (by kernel_rfl) (by simp) ?_
      refine AllReadyH.cons rfl (fun K hK => ?_) (AllReadyH.cons rfl (fun K hK => ?_) AllReadyH.nil)
      ·rw[if_pos (by rfl)]
       go_simp
       refine hK.out _ _ trivial (fun hHeld => ?_)
       clear hK K
       refine wpAnyH_ready (rs := [6]) (by kernel_rfl) (by simp) ?_
       refine AllReadyH.cons rfl (fun K hK => ?_) AllReadyH.nil
       rw[if_pos (by rfl)]
       go_simp
       go_at_call 48
       refine(dkWithin_any t xd.length w8.drew).mono ?_
       rw[← HT0.out]
       rintro e w9 ⟨rfl,rfl⟩
       refine hK.out _ _ trivial (fun hHeld => ?_)
       clear hK K
       refine wpT 7 rfl hHeld ?_
       refine wpT 8 rfl hHeld ?_
       refine wpAnyH_ready (rs := [9]) (by kernel_rfl) (by simp) ?_
       refine ready_store 9 30 (.tmp 69) (.tmp 68) rfl rfl rfl wr.heap.size 2 91 #[.int .i64 2, .int .i64 xn, .slice ax xd.length cx] #[.int .i64 2, .int .i64 xn, .slice ax T0 cx] (.slice ax T0 cx) [.slice ax T0 cx] ?x9b ?y9b rfl (by kernel_rfl) rfl (HL8.out.below (drawn w8 1) HL8.out.lt) (Nat.le_of_ble_eq_true rfl) rfl ?k9b
       case x9b=>kernel_rfl
       case y9b=>kernel_rfl
       intro w9 hl9 hg9
       have HL9:=Lib.hid hl9;have HG9:=Lib.hid hg9
       clear hl9 hg9
       refine⟨trivial,fun hHeld => ?_⟩
       refine wpAnyH_done (by kernel_rfl) ?_ _
       clear hHeld
       have hb9:Below wr.heap.size wr w9:=(HB8.out.trans ((drawn w8 1).mono HB8.out.size)).grown HG9.out HB8.out.size (fun j e=>by cases e;exact Nat.le_refl _)
       have HB9:=Lib.hid hb9
       have HLD:=Lib.hid (HLe.out.below hb9 HLe.out.lt)
       have q9:w9.cell? ⟨d,0,none⟩=some (.map (some b)):=HLD.out.cell 0 _ rfl
       have m0:w9.cell? ⟨wr.heap.size,0,none⟩=some (.int .i64 2):=HL9.out.cell 0 _ rfl
       have m1:w9.cell? ⟨wr.heap.size,1,none⟩=some (.int .i64 xn):=HL9.out.cell 1 _ rfl
       have m2:w9.cell? ⟨wr.heap.size,2,none⟩=some (.slice ax T0 cx):=HL9.out.cell 2 _ rfl
       clear hb9 l0 l2 hw8 hupb
       go_wp2
       refine wp_region_held_drew (S:=fun W=>W.cell? ⟨d,0,none⟩=some (.map (some b))∧W.cell? ⟨wr.heap.size,0,none⟩=some (.int .i64 2)∧W.cell? ⟨wr.heap.size,1,none⟩=some (.int .i64 xn)∧W.cell? ⟨wr.heap.size,2,none⟩=some (.slice ax T0 cx)) (by kernel_rfl) (⟨q9,m0,m1,m2⟩) (fun hHeld => ?_)
       refine wpT 0 rfl hHeld ?_ (by intro W hSw;obtain⟨s1,s2,s3,s4⟩:=hSw;go_simp;(try with_reducible rfl))
       refine wpT 1 rfl hHeld ?_ (by intro W hSw;obtain⟨s1,s2,s3,s4⟩:=hSw;go_simp;(try with_reducible rfl))
       refine wpT 2 rfl hHeld ?_ (by intro W hSw;obtain⟨s1,s2,s3,s4⟩:=hSw;go_simp;(try with_reducible rfl))
       refine wpT 3 rfl hHeld ?_ (by intro W hSw;obtain⟨s1,s2,s3,s4⟩:=hSw;go_simp;(try with_reducible rfl))
       refine wpT 4 rfl hHeld ?_ (by intro W hSw;obtain⟨s1,s2,s3,s4⟩:=hSw;go_simp;(try with_reducible rfl))
       refine wpAnyH_ready (rs := [5]) (by kernel_rfl) (by simp) ?_
       refine AllReadyH.cons rfl (fun K hK => ?_) AllReadyH.nil
       rw[if_pos (by rfl)]
       go_simp
       go_at_call 49
       have hrd:Reads w9.drew (.slice ax T0 cx) (Dk.torn ⟨2,xn,xd⟩ t).data:=by show Reads _ _ (xd.take (Dk.clamp t xd.length));rw[← HT0.out];exact Reads.below (Reads.first (HRD.out.below HB9.out) T0 hTle) (drawn w9 1)
       refine(dkApply_any b zs' (Dk.torn ⟨2,xn,xd⟩ t) (.slice ax T0 cx) w9.drew (((HI.out.below HB9.out).below (drawn w9 1)).files) hkx hnx hrd (Nat.le_trans (Nat.add_le_add_left (List.length_take_le' _ _) _) HSX.out)).mono ?_
       rintro e w10 ha
       obtain rfl:=ha.1
       have HLDX:=Lib.hid (Applied.lies ha (((HI.out.below HB9.out).below (drawn w9 1)).files) (HLD.out.below (drawn w9 1) HLD.out.lt) (by decide))
       have HL9X:=Lib.hid (Applied.lies ha (((HI.out.below HB9.out).below (drawn w9 1)).files) (HL9.out.below (drawn w9 1) HL9.out.lt) (by decide))
       have hdone:=CrashI.done ((HI.out.below HB9.out).below (drawn w9 1)) ha
       obtain⟨zs2,hz1,hz2,hz3,hz4⟩:=hdone
       have HZ1:=Lib.hid hz1;have HZ2:=Lib.hid hz2;have HZ3:=Lib.hid hz3;have HZ4:=Lib.hid hz4
       clear hz1 hz2 hz3 hz4 ha hrd
       refine hK.out _ _ ⟨HLDX.out.cell 0 _ rfl,HL9X.out.cell 0 _ rfl,HL9X.out.cell 1 _ rfl,HL9X.out.cell 2 _ rfl⟩ (fun hHeld => ?_)
       clear hK K q9 m0 m1 m2
       refine wpAnyH_done (by kernel_rfl) ?_ _
       clear hHeld q0 q1
       go_wp2_with (refine store_part rfl 67 _ _ rfl d 1 76 _ #[.map (some b), .slice none 0 0] (.slice none 0 0) [.slice none 0 0] rfl rfl rfl (by kernel_rfl) rfl HLDX.out (Nat.le_of_ble_eq_true rfl) rfl ?_;intro w11 hl11 hg11)
       go_end0
       exact HEND.out zs2 w10 w11 HZ1.out (by rw[HCR.out,HX.out];exact HZ2.out.trans (if_pos rfl).symm) HZ3.out HZ4.out hl11 hg11
      ·rw[if_pos (by rfl)]
       go_simp
       go_at_call 48
       refine(dkWithin_any t xd.length w8.drew).mono ?_
       rw[← HT0.out]
       rintro e w9 ⟨rfl,rfl⟩
       refine hK.out _ _ trivial (fun hHeld => ?_)
       clear hK K
       refine wpAnyH_ready (rs := [1]) (by kernel_rfl) (by simp) ?_
       refine AllReadyH.cons rfl (fun K hK => ?_) AllReadyH.nil
       rw[if_pos (by rfl)]
       go_simp
       refine hK.out _ _ trivial (fun hHeld => ?_)
       clear hK K
       refine wpT 7 rfl hHeld ?_
       refine wpT 8 rfl hHeld ?_
       refine wpAnyH_ready (rs := [9]) (by kernel_rfl) (by simp) ?_
       refine ready_store 9 30 (.tmp 69) (.tmp 68) rfl rfl rfl wr.heap.size 2 91 #[.int .i64 2, .int .i64 xn, .slice ax xd.length cx] #[.int .i64 2, .int .i64 xn, .slice ax T0 cx] (.slice ax T0 cx) [.slice ax T0 cx] ?x9c ?y9c rfl (by kernel_rfl) rfl (HL8.out.below (drawn w8 1) HL8.out.lt) (Nat.le_of_ble_eq_true rfl) rfl ?k9c
       case x9c=>kernel_rfl
       case y9c=>kernel_rfl
       intro w9 hl9 hg9
       have HL9:=Lib.hid hl9;have HG9:=Lib.hid hg9
       clear hl9 hg9
       refine⟨trivial,fun hHeld => ?_⟩
       refine wpAnyH_done (by kernel_rfl) ?_ _
       clear hHeld
       have hb9:Below wr.heap.size wr w9:=(HB8.out.trans ((drawn w8 1).mono HB8.out.size)).grown HG9.out HB8.out.size (fun j e=>by cases e;exact Nat.le_refl _)
       have HB9:=Lib.hid hb9
       have HLD:=Lib.hid (HLe.out.below hb9 HLe.out.lt)
       have q9:w9.cell? ⟨d,0,none⟩=some (.map (some b)):=HLD.out.cell 0 _ rfl
       have m0:w9.cell? ⟨wr.heap.size,0,none⟩=some (.int .i64 2):=HL9.out.cell 0 _ rfl
       have m1:w9.cell? ⟨wr.heap.size,1,none⟩=some (.int .i64 xn):=HL9.out.cell 1 _ rfl
       have m2:w9.cell? ⟨wr.heap.size,2,none⟩=some (.slice ax T0 cx):=HL9.out.cell 2 _ rfl
       clear hb9 l0 l2 hw8 hupb
       go_wp2
       refine wp_region_held_drew (S:=fun W=>W.cell? ⟨d,0,none⟩=some (.map (some b))∧W.cell? ⟨wr.heap.size,0,none⟩=some (.int .i64 2)∧W.cell? ⟨wr.heap.size,1,none⟩=some (.int .i64 xn)∧W.cell? ⟨wr.heap.size,2,none⟩=some (.slice ax T0 cx)) (by kernel_rfl) (⟨q9,m0,m1,m2⟩) (fun hHeld => ?_)
       refine wpT 0 rfl hHeld ?_ (by intro W hSw;obtain⟨s1,s2,s3,s4⟩:=hSw;go_simp;(try with_reducible rfl))
       refine wpT 1 rfl hHeld ?_ (by intro W hSw;obtain⟨s1,s2,s3,s4⟩:=hSw;go_simp;(try with_reducible rfl))
       refine wpT 2 rfl hHeld ?_ (by intro W hSw;obtain⟨s1,s2,s3,s4⟩:=hSw;go_simp;(try with_reducible rfl))
       refine wpT 3 rfl hHeld ?_ (by intro W hSw;obtain⟨s1,s2,s3,s4⟩:=hSw;go_simp;(try with_reducible rfl))
       refine wpT 4 rfl hHeld ?_ (by intro W hSw;obtain⟨s1,s2,s3,s4⟩:=hSw;go_simp;(try with_reducible rfl))
       refine wpAnyH_ready (rs := [5]) (by kernel_rfl) (by simp) ?_
       refine AllReadyH.cons rfl (fun K hK => ?_) AllReadyH.nil
       rw[if_pos (by rfl)]
       go_simp
       go_at_call 49
       have hrd:Reads w9.drew (.slice ax T0 cx) (Dk.torn ⟨2,xn,xd⟩ t).data:=by show Reads _ _ (xd.take (Dk.clamp t xd.length));rw[← HT0.out];exact Reads.below (Reads.first (HRD.out.below HB9.out) T0 hTle) (drawn w9 1)
       refine(dkApply_any b zs' (Dk.torn ⟨2,xn,xd⟩ t) (.slice ax T0 cx) w9.drew (((HI.out.below HB9.out).below (drawn w9 1)).files) hkx hnx hrd (Nat.le_trans (Nat.add_le_add_left (List.length_take_le' _ _) _) HSX.out)).mono ?_
       rintro e w10 ha
       obtain rfl:=ha.1
       have HLDX:=Lib.hid (Applied.lies ha (((HI.out.below HB9.out).below (drawn w9 1)).files) (HLD.out.below (drawn w9 1) HLD.out.lt) (by decide))
       have HL9X:=Lib.hid (Applied.lies ha (((HI.out.below HB9.out).below (drawn w9 1)).files) (HL9.out.below (drawn w9 1) HL9.out.lt) (by decide))
       have hdone:=CrashI.done ((HI.out.below HB9.out).below (drawn w9 1)) ha
       obtain⟨zs2,hz1,hz2,hz3,hz4⟩:=hdone
       have HZ1:=Lib.hid hz1;have HZ2:=Lib.hid hz2;have HZ3:=Lib.hid hz3;have HZ4:=Lib.hid hz4
       clear hz1 hz2 hz3 hz4 ha hrd
       refine hK.out _ _ ⟨HLDX.out.cell 0 _ rfl,HL9X.out.cell 0 _ rfl,HL9X.out.cell 1 _ rfl,HL9X.out.cell 2 _ rfl⟩ (fun hHeld => ?_)
       clear hK K q9 m0 m1 m2
       refine wpAnyH_done (by kernel_rfl) ?_ _
       clear hHeld q0 q1
       go_wp2_with (refine store_part rfl 67 _ _ rfl d 1 76 _ #[.map (some b), .slice none 0 0] (.slice none 0 0) [.slice none 0 0] rfl rfl rfl (by kernel_rfl) rfl HLDX.out (Nat.le_of_ble_eq_true rfl) rfl ?_;intro w11 hl11 hg11)
       go_end0
       exact HEND.out zs2 w10 w11 HZ1.out (by rw[HCR.out,HX.out];exact HZ2.out.trans (if_pos rfl).symm) HZ3.out HZ4.out hl11 hg11
    ·have hb2:(x.kind == 2)=false:=by simpa using h2
     go_wp2_with (refine store_part rfl 67 _ _ rfl d 1 76 _ #[.map (some b), .slice none 0 0] (.slice none 0 0) [.slice none 0 0] rfl rfl rfl (by kernel_rfl) rfl HLe.out (Nat.le_of_ble_eq_true rfl) rfl ?_;intro w9 hl9 hg9)
     go_end0
     exact HEND.out zs' wr w9 HI.out.files (by rw[HCR.out,HX.out];simp only[if_neg h2];exact HI.out.is) HI.out.kept HI.out.blk hl9 hg9
   ·have hni : ¬((i:Nat):Int)<(n:Int):=by omega
    have hnlt2:decide (((i:Nat):Int)<(n:Int))=false:=decide_eq_false hni
    go_wp2_with (refine store_part rfl 67 _ _ rfl d 1 76 _ #[.map (some b), .slice none 0 0] (.slice none 0 0) [.slice none 0 0] rfl rfl rfl (by kernel_rfl) rfl HLe.out (Nat.le_of_ble_eq_true rfl) rfl ?_;intro w9 hl9 hg9)
    go_end0
    have hnone:(qs.map (·.1))[i]? = none:=List.getElem?_eq_none (by have:=HN.out;rw[List.length_map];omega)
    exact HEND.out zs' wr w9 HI.out.files (by rw[HCR.out,hnone,HI.out.is,HSL.out (by omega)]) HI.out.kept HI.out.blk hl9 hg9
end Go.Proofs.YtdkdjofnnnljjaaGreatDoor

namespace Go.Proofs.YtdkdjofnnnljjaaGreatDoor
open Go.RowKit
def OnlyOn(Q:Exit→Act→World→Prop):Exit→Act→World→Prop
 | .normal,a,w=>Q .normal a w
 | _,_,_=>False
theorem OnlyOn.on{Q:Exit→Act→World→Prop}{a:Act}{w:World}(h:Q .normal a w):OnlyOn Q .normal a w:=h
theorem OnlyOn.imp{Q:Exit→Act→World→Prop} : ∀(e:Exit) (a:Act) (w:World),OnlyOn Q e a w→Q e a w:=fun e a w h=>by
 cases e<;>first | exact h | exact h.elim
def plainOp(o:Oper):Bool:=match o.op with
 | .defer _=>false
 | _=>true
theorem rows_in{P:Program}{l n:Nat}{row:String}{args:Array Value}{w:World}{R:Value→World→Prop}(h:Rows P row args w R):RowsIn (Fence.wide.inRound l) n P row args w R:=fun c cs _=>by
 obtain⟨v,w', r,s⟩:=h c cs
 exact⟨v,w', r,stepsIn_wide.2 s⟩
theorem op_in_round{P:Program}{l n:Nat}{o:Oper}{a:Act}{w:World}{K:Act→World→Prop}{Q:Exit→Act→World→Prop}(hd:plainOp o=true)(h:o.wp P a w K Q):o.wpIn (Fence.wide.inRound l) n P a w K Q:=by
 have hs:o.semAt (some l) a.eval=execOp a.eval o:=Oper.semAt_some l a.eval o (fun c e=>by simp[plainOp,e]at hd)
 refine⟨fun _ _=>trivial, ?_⟩
 show o.uponIn (Fence.wide.inRound l) n P a K Q ((o.semAt (some l) a.eval).run P w)
 rw[hs]
 unfold Oper.wp at h
 revert h
 generalize (execOp a.eval o).run P w=r
 intro h
 cases r with
 | ok x w' =>
  cases x with
  | value v=>exact h
  | skip=>exact h
  | defer d=>exact h
  | enter f args=>exact⟨(fun e=>by cases e),(callsIn_wide.2 h).inRound l⟩
  | row row args=>exact⟨(fun e=>by cases e),rows_in h⟩
  | round _ _ _ _ _=>exact h.elim
  | _=>exact h.elim
 | halt x w' =>
  cases x with
  | panic v=>exact h
  | _=>exact h.elim
theorem ops_in_round{P:Program}{l n:Nat}{ops:Array Oper}{Q:Exit→Act→World→Prop}(hd : ∀(i:Nat) (o:Oper),ops[i]? = some o→plainOp o=true)(hQ : ∀a w,¬Q .outgrown a w) :
 ∀(is:List Nat) (a:Act) (w:World),wpOps P ops Q is a w→wpOpsIn (Fence.wide.inRound l) n P ops Q is a w
 | [],_,_,h=>h
 | i :: rest,a,w,h=>by
  unfold wpOps at h
  unfold wpOpsIn
  cases ho:ops[i]? with
  | none =>
   simp only[ho]at h
   exact ops_in_round hd hQ rest a w h
  | some o =>
   simp only[ho]at h
   show if _ then _ else _
   split
   ·rename_i hw
    rw[if_pos hw]at h
    rcases h with h | ⟨_,x,y,hx⟩
    ·exact Oper.wpIn_mono (fun a w h=>ops_in_round hd hQ rest a w h) (op_in_round (hd i o ho) h)
    ·exact(hQ x y hx).elim
   ·rename_i hw
    rw[if_neg hw]at h
    exact⟨fun _ _=>trivial,ops_in_round hd hQ rest _ w h⟩
theorem region_round{P:Program}{S:World→Prop}{id n l:Nat}{ops:Array Oper}{Q:Exit→Act→World→Prop}{a:Act}{w:World}(hm:P.follows .mixedOrders=true)(hd:ops.all plainOp=true)(hS:S w.drew)
 (h:S w.drew→wpAnyH P .any ops (OnlyOn Q) S ops.size (Array.replicate ops.size false) a w.drew):(Code.region id ops true).wpIn (Fence.wide.inRound l) n P Q a w:=by
 refine wpIn_mono ?_ (fun e a w hq=>OnlyOn.imp e a w hq)
 refine wpIn_region_draw fun t => ?_
 refine ops_in_round (fun i o ho => ?_) (fun _ _ h=>h) _ _ _ ?_
 ·have:=Array.all_eq_true'.1 hd o (Array.mem_of_getElem? ho)
  exact this
 ·simp only[Region.schedule,hm,Bool.true_or,if_true]
  exact wpAny_sound ops.size t _ a _ (wpAny_of_held _ _ _ _ (h hS))
end Go.Proofs.YtdkdjofnnnljjaaGreatDoor
