/- Several texts of mine in one: DkDisk DkBuf. -/
import Derived.Test.YtdkdjofnnnljjaaGreatDoorDkFiles
import Derived.Test.YtdkdjofnnnljjaaGreatDoorDkHeld
namespace Go.Proofs.YtdkdjofnnnljjaaGreatDoor
open Go.RowKit
set_option maxHeartbeats 1600000
set_option maxRecDepth 4000
theorem make_any{S:Nat→Prop}{w:World}{d:Nat}{F:Dk.Files}{B:List Dk.Op}(h:DiskAt S w d F B)(n:Int)(hq:B.length≤1099511627776) :
 Calls Tryz.prog 88 #[.pointer (some ⟨d,0,none⟩), .int .i64 n] w (HeldAt S w d F (if 1≤n∧n≤4294967296 then B ++ [⟨1,n, []⟩]else B)):=by
 have hc:=hold_any h 1 n (.slice none 0 0) [] (Reads.empty w) (by simp) hq
 obtain⟨B2,hB2⟩ : ∃B2,B2=if 1≤n∧n≤4294967296 then B ++ [⟨1,n, []⟩]else B:=⟨_,rfl⟩
 rw[← hB2]at hc ⊢
 clear hB2
 go_enter Tryz.func88,Tryz.ntmps88
 go_wp2_with (go_at_call 71;refine hc.mono ?_;rintro e w' ⟨rfl,h1,h2⟩)
 go_end0
 exact⟨rfl,h1,h2⟩
theorem add_any{S:Nat→Prop}{w:World}{d:Nat}{F:Dk.Files}{B:List Dk.Op}(h:DiskAt S w d F B)(n:Int)(v:Value)(data:List UInt8)(hd:Reads w v data)(hl:data.length≤17592186044416)(hq:B.length≤1099511627776) :
 Calls Tryz.prog 41 #[.pointer (some ⟨d,0,none⟩), .int .i64 n,v] w (HeldAt S w d F (if 1≤n∧n≤4294967296 then B ++ [⟨2,n,data⟩]else B)):=by
 obtain⟨ao,cap,rfl⟩:=hd.shape
 have hc:=hold_any h 2 n (.slice ao data.length cap) data (hd) hl hq
 obtain⟨B2,hB2⟩ : ∃B2,B2=if 1≤n∧n≤4294967296 then B ++ [⟨2,n,data⟩]else B:=⟨_,rfl⟩
 rw[← hB2]at hc ⊢
 clear hB2
 go_enter Tryz.func41,Tryz.ntmps41
 go_wp2_with (go_at_call 71;refine hc.mono ?_;rintro e w' ⟨rfl,h1,h2⟩)
 go_end0
 exact⟨rfl,h1,h2⟩
theorem drop_any{S:Nat→Prop}{w:World}{d:Nat}{F:Dk.Files}{B:List Dk.Op}(h:DiskAt S w d F B)(n:Int)(hq:B.length≤1099511627776) :
 Calls Tryz.prog 89 #[.pointer (some ⟨d,0,none⟩), .int .i64 n] w (HeldAt S w d F (if 1≤n∧n≤4294967296 then B ++ [⟨3,n, []⟩]else B)):=by
 have hc:=hold_any h 3 n (.slice none 0 0) [] (Reads.empty w) (by simp) hq
 obtain⟨B2,hB2⟩ : ∃B2,B2=if 1≤n∧n≤4294967296 then B ++ [⟨3,n, []⟩]else B:=⟨_,rfl⟩
 rw[← hB2]at hc ⊢
 clear hB2
 go_enter Tryz.func89,Tryz.ntmps89
 go_wp2_with (go_at_call 71;refine hc.mono ?_;rintro e w' ⟨rfl,h1,h2⟩)
 go_end0
 exact⟨rfl,h1,h2⟩
theorem crash_none{w:World}{d:Nat}{ao:Option Addr}{cap:Nat}(hl:Lies w d 76 #[.map none, .slice ao 0 cap])(hcap:cap≤9223372036854775807)(k t:Int) :
 Calls Tryz.prog 18 #[.pointer (some ⟨d,0,none⟩), .int .i64 k, .int .i64 t] w fun e w' => e = .returned (.tuple #[])∧Lies w' d 76 #[.map none, .slice none 0 0]∧w.grownBy w' (some d):=by
 have hwi:=dkWithin_any k 0 w
 have e0:Dk.clamp k 0=0:=by unfold Dk.clamp;omega
 rw[e0]at hwi
 have c1:w.cell? ⟨d,1,none⟩=some (.slice ao 0 cap):=hl.cell 1 _ rfl
 have hup:=fun u:World=>run_ops_upto u ao 0 cap 0 (by omega)
 have HL:=Lib.hid hl
 clear hl e0
 go_enter Tryz.func18,Tryz.ntmps18
 go_wp2_with (go_at_call 48;refine hwi.mono ?_;rintro e w' ⟨rfl,rfl⟩)
 refine wp_loop_rounds 1 ?_
 rw[rounds_succ]
 go_wp2_with (refine store_part rfl 67 _ _ rfl d 1 76 _ #[.map none, .slice none 0 0] (.slice none 0 0) [.slice none 0 0] rfl rfl rfl (by kernel_rfl) rfl HL.out (Nat.le_of_ble_eq_true rfl) rfl ?_;intro w9 hl9 hg9)
 go_end0
 exact⟨rfl,hl9,hg9⟩
theorem DiskP.buffer{S:Nat→Prop}{w:World}{d b:Nat}{bv:Value}{zs:List Row}{qs:List (Dk.Op × Value)}(h:DiskP S w d (some b) bv zs qs)(hf:FilesIn w b zs) :
 RowP (fun k _=>k<w.heap.size ∧ ¬Bl zs k) w bv 3 (rowsOf Dk.cellO qs) ∧ ∀q∈qs,ReadsP (fun k _=>k<w.heap.size ∧ ¬Bl zs k) w q.2 q.1.data:=by
 refine⟨RowP.own h.row h.sized fun g e => ?_,fun q hq=>(h.data q hq).imp fun k cs t fr e hp=>⟨lt_of_obj e,hp.2.2⟩⟩
 obtain⟨cs,hc,_⟩:=h.row.cells e
 refine⟨lt_of_obj hc,fun hb => ?_⟩
 obtain⟨cs', hc'⟩:=hf.cells hb
 rw[hc]at hc'
 cases hc'
def CrashedAt(S:Nat→Prop)(w:World)(d:Nat)(F:Dk.Files)(e:Ending)(w' : World):Prop:=e = .returned (.tuple #[])∧DiskAt (fun j=>S j∨w.heap.size≤j) w' d F []∧Kp (fun j _ => ¬S j) w w'
theorem crash_any{S:Nat→Prop}{w:World}{d:Nat}{F:Dk.Files}{B:List Dk.Op}(h:DiskAt S w d F B)(hk:Dk.Kinds B)(hs:Dk.wt F+2*Dk.wtB B≤17592186044416)(k t:Int) :
 Calls Tryz.prog 18 #[.pointer (some ⟨d,0,none⟩), .int .i64 k, .int .i64 t] w (CrashedAt S w d (Dk.crash F B k t)):=by
 obtain⟨mv,bv,zs,qs,h1,rfl,rfl⟩:=h
 rcases h1.map with ⟨rfl,rfl,rfl⟩ | ⟨b,rfl,hSb,hf⟩
 ·obtain⟨ao,cap,rfl,_,hcap⟩:=(h1.row.reads h1.sized).shape
  refine(crash_none h1.lies hcap k t).mono ?_
  rintro e w' ⟨rfl,hl,hg⟩
  have e0:Dk.crash (Dk.onto (·.2) ([]:List Row)) (([]:List (Dk.Op × Value)).map (·.1)) k t = []:=by simp[Dk.crash,Dk.onto,Dk.all]
  rw[e0]
  exact⟨rfl,⟨none, .slice none 0 0, [], [],⟨hl, .inl h1.here, .inl ⟨rfl,rfl,rfl⟩,fun k hk=>by obtain⟨z,hz,_⟩:=hk;simp at hz,OwnsR.empty _ _ _ _,fun g e=>by simp[Value.ownBlock]at e,fun q hq=>by simp at hq⟩,rfl,rfl⟩,Kp.of_grown hg fun j _ e _ hq=>hq (by simp only[Option.some.injEq]at e;exact e ▸ h1.here)⟩
 ·obtain⟨hr,hd⟩:=h1.buffer hf
  refine(crash_some h1.lies hf hr hd hk hs k t).mono ?_
  rintro e w' ⟨rfl,hl,zs', hf', he,hkp,hbl⟩
  refine⟨rfl,⟨some b, .slice none 0 0,zs', [],⟨hl, .inl h1.here, .inr ⟨b,rfl, .inl hSb,hf'⟩,fun k hk=>(hbl k hk).imp (h1.blk k) id,OwnsR.empty _ _ _ _,fun g e=>by simp[Value.ownBlock]at e,fun q hq=>by simp at hq⟩,he.symm,rfl⟩,hkp.imp fun j _ _ hS=>⟨fun e=>hS (e ▸ hSb),fun e=>hS (e ▸ h1.here),fun hb=>hS (h1.blk j hb)⟩⟩
theorem sync_any{S:Nat→Prop}{w:World}{d:Nat}{F:Dk.Files}{B:List Dk.Op}(h:DiskAt S w d F B)(hk:Dk.Kinds B)(hs:Dk.wt F+2*Dk.wtB B≤17592186044416) :
 Calls Tryz.prog 45 #[.pointer (some ⟨d,0,none⟩)] w (CrashedAt S w d (Dk.all F B)):=by
 have hc:=crash_any h hk hs 9223372036854775807 0
 rw[Dk.crash_all F B 9223372036854775807 0 (by have:=Dk.len_wtB B;omega)]at hc
 go_enter Tryz.func45,Tryz.ntmps45
 go_wp2_with (go_at_call 18;refine hc.mono ?_;rintro e w' ⟨rfl,h1,h2⟩)
 go_end0
 exact⟨rfl,h1,h2⟩
theorem sync_some{w:World}{d b:Nat}{bv:Value}{zs:List Row}{qs:List (Dk.Op × Value)}(hl:Lies w d 76 #[.map (some b),bv])(hf:FilesIn w b zs)(hrow:RowP (fun k _=>k<w.heap.size ∧ ¬Bl zs k) w bv 3 (rowsOf Dk.cellO qs))
 (hdata : ∀q∈qs,ReadsP (fun k _=>k<w.heap.size ∧ ¬Bl zs k) w q.2 q.1.data) (hkinds:Dk.Kinds (qs.map (·.1))) (hs:Dk.wt (Dk.onto (·.2) zs)+2*Dk.wtB (qs.map (·.1))≤17592186044416) :
 Calls Tryz.prog 45 #[.pointer (some ⟨d,0,none⟩)] w (Crashed w d b zs (Dk.all (Dk.onto (·.2) zs) (qs.map (·.1)))):=by
 have hc:=crash_some hl hf hrow hdata hkinds hs 9223372036854775807 0
 rw[Dk.crash_all _ (qs.map (·.1)) 9223372036854775807 0 (by have:=Dk.len_wtB (qs.map (·.1));omega)]at hc
 clear hl hf hrow hdata hkinds hs
 go_enter Tryz.func45,Tryz.ntmps45
 go_wp2_with (go_at_call 18;refine hc.mono ?_;rintro e w' ⟨rfl,h1⟩)
 go_end0
 exact⟨rfl,h1⟩
def Listed(w:World)(F:Dk.Files)(e:Ending)(w' : World):Prop := ∃v,e = .returned v∧FilesP (fun k _=>w.heap.size≤k) w' v F∧Below w.heap.size w w'
theorem files_or{w:World}{d:Nat}{mv:Option Nat}{bv:Value}{zs:List Row}(hl:Lies w d 76 #[.map mv,bv])(hf:FilesOr w mv zs)(hs:Dk.wt (Dk.onto (·.2) zs)≤1099511627776) :
 Calls Tryz.prog 25 #[.pointer (some ⟨d,0,none⟩)] w (Listed w (Dk.onto (·.2) zs)):=by
 have hc:=list_any hf hs
 have c0:w.cell? ⟨d,0,none⟩=some (.map mv):=hl.cell 0 _ rfl
 clear hl hf hs
 go_enter Tryz.func25,Tryz.ntmps25
 go_wp2_with (go_at_call 58;refine hc.mono ?_;rintro e w' ⟨v,rfl,h1,h2⟩;obtain⟨ao,cap,rfl,_,_⟩:=h1.shape)
 go_ret
 exact⟨_,rfl,h1,h2⟩
theorem files_any{S:Nat→Prop}{w:World}{d:Nat}{F:Dk.Files}{B:List Dk.Op}(h:DiskAt S w d F B)(hs:Dk.wt F≤1099511627776):Calls Tryz.prog 25 #[.pointer (some ⟨d,0,none⟩)] w (Listed w F):=by
 obtain⟨mv,bv,zs,qs,h1,rfl,rfl⟩:=h
 exact files_or h1.lies h1.files hs
theorem view_sync{S:Nat→Prop}{w w5:World}{d g b2:Nat}{mv:Option Nat}{bv:Value}{zs ys:List Row}{qs:List (Dk.Op × Value)}(h1:DiskP S w d mv bv zs qs)(hk:Dk.Kinds (qs.map (·.1)))(hs:Dk.wt (Dk.onto (·.2) zs)+2*Dk.wtB (qs.map (·.1))≤17592186044416)
 (hb:Below w.heap.size w w5) (hl:Lies w5 g 76 #[.map (some b2),bv]) (hf:FilesIn w5 b2 ys) (he:Dk.onto (·.2) ys=Dk.onto (·.2) zs) (hbl : ∀k,Bl ys k→w.heap.size≤k) :
 Calls Tryz.prog 45 #[.pointer (some ⟨g,0,none⟩)] w5 (Crashed w5 g b2 ys (Dk.all (Dk.onto (·.2) zs) (qs.map (·.1)))):=by
 have hbs:=hb.size
 have hr:RowP (fun k _=>k<w.heap.size) w bv 3 (rowsOf Dk.cellO qs):=RowP.own h1.row h1.sized fun j e=>by obtain⟨cs,hc,_⟩:=h1.row.cells e;exact lt_of_obj hc
 have hd : ∀q∈qs,ReadsP (fun k _=>k<w.heap.size) w q.2 q.1.data:=fun q hq=>(h1.data q hq).imp fun k cs t fr e _=>lt_of_obj e
 have hn : ∀k,k<w.heap.size→k<w5.heap.size ∧ ¬Bl ys k:=fun k hk=>⟨by omega,fun h=>by have:=hbl k h;omega⟩
 have:=sync_some (qs:=qs) hl hf ((hr.keep (Keep.of_below hb)).imp fun k _ _ _ _ hk=>hn k hk) (fun q hq=>((hd q hq).keep (Keep.of_below hb)).imp fun k _ _ _ _ hk=>hn k hk) hk (by rw[he];exact hs)
 rw[he]at this
 exact this
theorem view_end{w w5 w6 w7:World}{g b2:Nat}{ys:List Row}{F F2:Dk.Files}{v:Value}(hF:F2=F)(hb:Below w.heap.size w w5)(hg:w.heap.size≤g)(hb2:w.heap.size≤b2)(hbl : ∀k,Bl ys k→w.heap.size≤k)(hkp:Kp (fun k _=>k≠b2∧k≠g ∧ ¬Bl ys k) w5 w6)
 (h7:FilesP (fun k _=>w6.heap.size≤k) w7 v F2) (hb7:Below w6.heap.size w6 w7):Listed w F (.returned v) w7:=by
 subst hF
 have h5:=hb.size
 have h6:=hkp.size
 refine⟨v,rfl,h7.imp fun k _ _ _ _ hk=>by omega,hb.trans ((hkp.below h5 fun b _ hlt _=>⟨by omega,by omega,fun h=>by have:=hbl b h;omega⟩).trans (hb7.mono (by omega)))⟩
theorem view_any{S:Nat→Prop}{w:World}{d:Nat}{F:Dk.Files}{B:List Dk.Op}(h:DiskAt S w d F B)(hk:Dk.Kinds B)(hs:Dk.wt F+2*Dk.wtB B≤1099511627776) :
 Calls Tryz.prog 51 #[.pointer (some ⟨d,0,none⟩)] w (Listed w (Dk.all F B)):=by
 obtain⟨mv,bv,zs,qs,h1,rfl,rfl⟩:=h
 have hcl:=fun u (hu:FilesOr u mv zs)=>clone_files hu (by omega)
 have hwt:=Dk.wt_all (qs.map (·.1)) (Dk.onto (·.2) zs)
 obtain⟨ao,cap,rfl⟩:=h1.row.shape
 have hq3:(rowsOf Dk.cellO qs).length=qs.length:=by simp[rowsOf]
 rw[hq3]at h1
 have c0:w.cell? ⟨d,0,none⟩=some (.map mv):=h1.lies.cell 0 _ rfl
 have c1:w.cell? ⟨d,1,none⟩=some (.slice ao qs.length cap):=h1.lies.cell 1 _ rfl
 have H1:=Lib.hid h1;have HCL:=Lib.hid hcl;have HW:=Lib.hid hwt;have HS:=Lib.hid hs;have HK:=Lib.hid hk
 clear h1 hcl hwt hs hk hq3
 go_enter Tryz.func51,Tryz.ntmps51
 go_wp2
 refine wp_region_held_drew (S:=fun W=>W.cell? ⟨d,0,none⟩=some (.map mv)∧W.cell? ⟨d,1,none⟩=some (.slice ao qs.length cap)) (by kernel_rfl) (⟨c0,c1⟩) (fun hHeld => ?_)
 refine wpT 0 rfl hHeld ?_ (by intro W hSw;obtain⟨s1,s2⟩:=hSw;go_simp;(try with_reducible rfl))
 refine wpT 1 rfl hHeld ?_ (by intro W hSw;obtain⟨s1,s2⟩:=hSw;go_simp;(try with_reducible rfl))
 refine wpT 2 rfl hHeld ?_ (by intro W hSw;obtain⟨s1,s2⟩:=hSw;go_simp;(try with_reducible rfl))
 refine wpT 3 rfl hHeld ?_ (by intro W hSw;obtain⟨s1,s2⟩:=hSw;go_simp;(try with_reducible rfl))
 refine wpT 5 rfl hHeld ?_ (by intro W hSw;obtain⟨s1,s2⟩:=hSw;go_simp;(try with_reducible rfl))
 refine wpT 6 rfl hHeld ?_ (by intro W hSw;obtain⟨s1,s2⟩:=hSw;go_simp;(try with_reducible rfl))
 refine wpT 7 rfl hHeld ?_ (by intro W hSw;obtain⟨s1,s2⟩:=hSw;go_simp;(try with_reducible rfl))
 refine wpT 8 rfl hHeld ?_ (by intro W hSw;obtain⟨s1,s2⟩:=hSw;go_simp;(try with_reducible rfl))
 refine wpAnyH_ready (rs := [4,10]) (by kernel_rfl) (by simp) ?_
 refine AllReadyH.cons rfl (fun K hK => ?_) (AllReadyH.cons rfl (fun K hK => ?_) AllReadyH.nil)
 ·rw[if_pos (by rfl)]
  go_simp
  have FW:Hid (FilesOr w.drew mv zs):=H1.out.files.below (drawn w 1)
  go_at_call 78
  refine(HCL.out (w.drew) FW.out).mono ?_
  rintro e w3 ⟨rfl,⟨ys,hf3,he3,hk3⟩,hb3⟩
  have HF3:=Lib.hid hf3;have HE:=Lib.hid he3;have HB3:=Lib.hid hb3;have HK3:=Lib.hid hk3
  clear hf3 he3 hb3 hk3
  have HBW:Hid (Below w.heap.size w w3):=on (drawn w 1) HB3.out
  have HLD3:=Lib.hid (H1.out.lies.below HBW.out H1.out.lies.lt)
  refine hK.out _ _ ⟨HLD3.out.cell 0 _ rfl,HLD3.out.cell 1 _ rfl⟩ (fun hHeld => ?_)
  clear hK K
  refine wpT 9 rfl hHeld ?_
  refine wpAnyH_ready (rs := [10]) (by kernel_rfl) (by simp) ?_
  refine AllReadyH.cons rfl (fun K hK => ?_) AllReadyH.nil
  rw[if_pos (by rfl)]
  go_simp
  have HLD4:=Lib.hid (HLD3.out.alloc (.cells #[.map none, .slice none 0 0] 76))
  refine hK.out _ _ ⟨HLD4.out.cell 0 _ rfl,HLD4.out.cell 1 _ rfl⟩ (fun hHeld => ?_)
  clear hK K
  have HB4:Hid (Below w.heap.size w (w3.alloc (.cells #[.map none, .slice none 0 0] 76))):=HBW.out.alloc HBW.out.size _
  have HG0:Hid (w.heap.size≤w3.heap.size):=HBW.out.size
  have HG1:Hid (w.heap.size≠w3.heap.size):=by have:=HF3.out.map.lt;show _≠_;exact Nat.ne_of_lt this
  have HG2:Hid (¬Bl ys w3.heap.size):=fun h=>by have:=HF3.out.lt h;omega
  have HG3:Hid (w.heap.size≤w.heap.size):=Nat.le_refl _
  have HBLK:Hid (∀k,Bl ys k→w.heap.size≤k):=HK3.out
  have HF4:Hid (FilesIn (w3.alloc (.cells #[.map none, .slice none 0 0] 76)) w.heap.size ys):=HF3.out.below ((Below.refl _ w3).alloc (Nat.le_refl _) _) (Nat.le_refl _)
  refine wpAnyH_ready (rs := [11]) (by kernel_rfl) (by simp) ?_
  refine ready_store 11 76 (.tmp 3) (.tmp 15) rfl rfl rfl w3.heap.size 0 76 #[.map none, .slice none 0 0] #[.map (some w.heap.size), .slice ao qs.length cap] (.agg #[.map (some w.heap.size), .slice ao qs.length cap]) [.map (some w.heap.size), .slice ao qs.length cap] ?x11a ?y11a rfl (by kernel_rfl) rfl (Lies.new w3 76 #[.map none, .slice none 0 0]) (Nat.le_of_ble_eq_true rfl) rfl ?k11a
  case x11a=>kernel_rfl
  case y11a=>kernel_rfl
  intro w5 hl5 hg5
  have hb5:Below w.heap.size w w5:=HB4.out.grown hg5 (by have:=HB4.out.size;omega) (fun j e=>by simp only[Option.some.injEq]at e;have:=HG0.out;omega)
  have HL5:=Lib.hid hl5;have HB5:=Lib.hid hb5
  have HF5:Hid (FilesIn w5 w.heap.size ys):=(HF4.out).stays (hg5.block _ (HF4.out).map.lt (fun e=>HG1.out (Option.some.inj e))) (fun k hk=>hg5.block k ((HF4.out).lt hk) (fun e=>by simp only[Option.some.injEq]at e;exact HG2.out (e ▸ hk)))
  have HLD5:=Lib.hid (H1.out.lies.below hb5 H1.out.lies.lt)
  clear hl5 hg5 hb5
  refine⟨⟨HLD5.out.cell 0 _ rfl,HLD5.out.cell 1 _ rfl⟩,fun hHeld => ?_⟩
  refine wpAnyH_done (by kernel_rfl) ?_ _
  clear hHeld c0 c1
  have hsy:=view_sync H1.out HK.out (by have:=HS.out;omega) HB5.out HL5.out HF5.out HE.out HBLK.out
  have HSY:=Lib.hid hsy
  clear hsy
  go_wp2_with (first
   | (go_at_call 45;refine HSY.out.mono ?_;rintro e w6 ⟨rfl,hl6,zs2,hf6,he6,hk6,hb6⟩;have HL6:=Lib.hid hl6;have HF6:=Lib.hid hf6;have HE6:=Lib.hid he6;have HK6:=Lib.hid hk6;clear hl6 hf6 he6 hk6 hb6)
   | (go_at_call 25;refine(files_or HL6.out (.inr ⟨_,rfl,HF6.out⟩) (by rw[HE6.out];have:=HW.out;have:=HS.out;omega)).mono ?_;rintro e w7 ⟨v,rfl,h7,hb7⟩;obtain⟨ao7,cap7,rfl,_,_⟩:=h7.shape))
  go_ret
  exact view_end HE6.out HB5.out HG0.out HG3.out HBLK.out HK6.out h7 hb7
 ·rw[if_pos (by rfl)]
  go_simp
  have HB2:Hid (Below w.heap.size w (w.drew.alloc (.cells #[.map none, .slice none 0 0] 76))):=(drawn w 1).alloc (Nat.le_refl _) _
  have HLD2:=Lib.hid (H1.out.lies.below HB2.out H1.out.lies.lt)
  refine hK.out _ _ ⟨HLD2.out.cell 0 _ rfl,HLD2.out.cell 1 _ rfl⟩ (fun hHeld => ?_)
  clear hK K
  refine wpAnyH_ready (rs := [4]) (by kernel_rfl) (by simp) ?_
  refine AllReadyH.cons rfl (fun K hK => ?_) AllReadyH.nil
  rw[if_pos (by rfl)]
  go_simp
  have FW:Hid (FilesOr (w.drew.alloc (.cells #[.map none, .slice none 0 0] 76)) mv zs):=H1.out.files.below HB2.out
  go_at_call 78
  refine(HCL.out (w.drew.alloc (.cells #[.map none, .slice none 0 0] 76)) FW.out).mono ?_
  rintro e w3 ⟨rfl,⟨ys,hf3,he3,hk3⟩,hb3⟩
  have HF3:=Lib.hid hf3;have HE:=Lib.hid he3;have HB3:=Lib.hid hb3;have HK3:=Lib.hid hk3
  clear hf3 he3 hb3 hk3
  have HBW:Hid (Below w.heap.size w w3):=HB2.out.trans (HB3.out.mono HB2.out.size)
  have HLD3:=Lib.hid (H1.out.lies.below HBW.out H1.out.lies.lt)
  refine hK.out _ _ ⟨HLD3.out.cell 0 _ rfl,HLD3.out.cell 1 _ rfl⟩ (fun hHeld => ?_)
  clear hK K
  refine wpT 9 rfl hHeld ?_
  have HSA:Hid ((w.drew.alloc (.cells #[.map none, .slice none 0 0] 76)).heap.size=w.heap.size+1):=World.size_alloc w.drew _
  have HG0:Hid (w.heap.size≤w.heap.size):=Nat.le_refl _
  have HG1:Hid (w.heap.size+1≠w.heap.size):=by show _≠_;omega
  have HG2:Hid (¬Bl ys w.heap.size):=fun h=>by have h2:=HK3.out _ h;rw[HSA.out]at h2;omega
  have HG3:Hid (w.heap.size≤w.heap.size+1):=Nat.le_succ _
  have HBLK:Hid (∀k,Bl ys k→w.heap.size≤k):=fun k hk=>by have h2:=HK3.out k hk;rw[HSA.out]at h2;omega
  have HL4:Hid (Lies w3 w.heap.size 76 #[.map none, .slice none 0 0]):=(Lies.new w.drew 76 #[.map none, .slice none 0 0]).below HB3.out (Nat.lt_of_lt_of_le (Nat.lt_succ_self _) (Nat.le_of_eq HSA.out.symm))
  have HF4:Hid (FilesIn w3 (w.heap.size+1) ys):=by show FilesIn _ _ _;rw[← HSA.out];exact HF3.out
  refine wpAnyH_ready (rs := [11]) (by kernel_rfl) (by simp) ?_
  refine ready_store 11 76 (.tmp 3) (.tmp 15) rfl rfl rfl w.heap.size 0 76 #[.map none, .slice none 0 0] #[.map (some (w.heap.size+1)), .slice ao qs.length cap] (.agg #[.map (some (w.heap.size+1)), .slice ao qs.length cap]) [.map (some (w.heap.size+1)), .slice ao qs.length cap] ?x11b ?y11b rfl (by kernel_rfl) rfl HL4.out (Nat.le_of_ble_eq_true rfl) rfl ?k11b
  case x11b=>kernel_rfl
  case y11b=>kernel_rfl
  intro w5 hl5 hg5
  have hb5:Below w.heap.size w w5:=HBW.out.grown hg5 (by have:=HBW.out.size;omega) (fun j e=>by simp only[Option.some.injEq]at e;have:=HG0.out;omega)
  have HL5:=Lib.hid hl5;have HB5:=Lib.hid hb5
  have HF5:Hid (FilesIn w5 (w.heap.size+1) ys):=(HF4.out).stays (hg5.block _ (HF4.out).map.lt (fun e=>HG1.out (Option.some.inj e))) (fun k hk=>hg5.block k ((HF4.out).lt hk) (fun e=>by simp only[Option.some.injEq]at e;exact HG2.out (e ▸ hk)))
  have HLD5:=Lib.hid (H1.out.lies.below hb5 H1.out.lies.lt)
  clear hl5 hg5 hb5
  refine⟨⟨HLD5.out.cell 0 _ rfl,HLD5.out.cell 1 _ rfl⟩,fun hHeld => ?_⟩
  refine wpAnyH_done (by kernel_rfl) ?_ _
  clear hHeld c0 c1
  have hsy:=view_sync H1.out HK.out (by have:=HS.out;omega) HB5.out HL5.out HF5.out HE.out HBLK.out
  have HSY:=Lib.hid hsy
  clear hsy
  go_wp2_with (first
   | (go_at_call 45;refine HSY.out.mono ?_;rintro e w6 ⟨rfl,hl6,zs2,hf6,he6,hk6,hb6⟩;have HL6:=Lib.hid hl6;have HF6:=Lib.hid hf6;have HE6:=Lib.hid he6;have HK6:=Lib.hid hk6;clear hl6 hf6 he6 hk6 hb6)
   | (go_at_call 25;refine(files_or HL6.out (.inr ⟨_,rfl,HF6.out⟩) (by rw[HE6.out];have:=HW.out;have:=HS.out;omega)).mono ?_;rintro e w7 ⟨v,rfl,h7,hb7⟩;obtain⟨ao7,cap7,rfl,_,_⟩:=h7.shape))
  go_ret
  exact view_end HE6.out HB5.out HG0.out HG3.out HBLK.out HK6.out h7 hb7
end Go.Proofs.YtdkdjofnnnljjaaGreatDoor

namespace Go.Proofs.YtdkdjofnnnljjaaGreatDoor
open Go.RowKit
set_option maxHeartbeats 1600000
set_option maxRecDepth 4000
theorem clone_ops(v:Value)(rs:List (Array Value))(w:World)(hv:ReadsR w v 3 rs)(hz:Sized 3 rs)(hn:rs.length≤1099511627776) :
 Calls Tryz.prog 60 #[v] w fun e w' => ∃v', e = .returned v' ∧ OwnsR w' w.heap.size 91 3 v' rs∧Below w.heap.size w w' := by
 have hq : ∀(w:World) (a:Option Addr) (n c n' c' : Nat),(binOp .eql 67 (.slice a n c) (.slice none n' c')).run Tryz.prog w = .ok (.bool a.isNone) w:=fun w a n c n' c' => Lib.run_eql_slice_nil w _ _ a n c n' c' Tryz.underlying67
 obtain⟨ao,cap,rfl,hc1,hc2⟩:=hv.shape
 cases ao with
 | none =>
  obtain⟨_,h1,h2,_⟩:=ReadsR.len hv
  have h3:=h2 rfl
  obtain rfl:rs = []:=List.eq_nil_of_length_eq_zero (by omega)
  go_enter Tryz.func60,Tryz.ntmps60
  go_wp2
  go_ret
  exact⟨_,rfl,OwnsR.empty _ _ _ _,Below.refl _ _⟩
 | some a =>
  have HV:Hid (ReadsR (w.alloc (.cells #[] 91)) (.slice (some a) rs.length cap) 3 rs):=ReadsR.below hv ((Below.refl _ w).alloc (Nat.le_refl _) _)
  obtain⟨n,hnn⟩ : ∃n,n=rs.length:=⟨_,rfl⟩
  rw[← hnn]at hn HV ⊢
  have HN:=Lib.hid hnn;have HZ:=Lib.hid hz
  clear hv hc1 hnn hz
  go_enter Tryz.func60,Tryz.ntmps60
  go_wp2_with (at_builtin;refine append_rows rfl _ _ 67 91 3 40 _ rfl Tryz.underlying67 info_op rfl (by decide) w.heap.size [] rs _ _ rfl rfl (World.ownsRow_made w #[] 0 (Nat.le_refl _) (Nat.zero_le _) (by simp)) HV.out HZ.out (by rw[← HN.out];simp;omega) (by rw[← HN.out];simp;omega) w ((Below.refl _ w).alloc (Nat.le_refl _) _) (Nat.le_refl _) ?_;intro v' w' ho' hb' _)
  all_goals
   rw[List.nil_append]at ho'
   obtain⟨ao', cap', hs'⟩:=ho'.shape
   have HO:=Lib.hid ho'
   rw[← HN.out]at hs'
   clear ho'
   subst hs'
   go_wp2
   go_ret
   exact⟨_,rfl,HO.out,hb'⟩
theorem flat_set(u:Value) : ∀(ps:List (Dk.Op × Value)) (i:Nat) (q:Dk.Op × Value),ps[i]? = some q→(flatR (rowsOf Dk.cellO ps)).set (i*3+2) u=flatR (rowsOf Dk.cellO (ps.set i (q.1,u)))
 | [],i,q,h=>by simp at h
 | p :: r,0,q,h=>by
  simp at h
  subst h
  rfl
 | p :: r,i+1,q,h=>by
  have ih:=flat_set u r i q (by simpa using h)
  have e:flatR (rowsOf Dk.cellO (p :: r))=(Dk.cellO p.1 p.2).toList++flatR (rowsOf Dk.cellO r):=rfl
  have e2:flatR (rowsOf Dk.cellO ((p :: r).set (i+1) (q.1,u)))=(Dk.cellO p.1 p.2).toList++flatR (rowsOf Dk.cellO (r.set i (q.1,u))):=rfl
  rw[e,e2, ← ih,List.set_append_right _ _ (by show 3≤_;omega)]
  congr 2
  show(i+1)*3+2 - 3=i*3+2
  omega
structure BufI(w:World)(g n cap:Nat)(qs:List (Dk.Op × Value))(i:Nat)(ps:List (Dk.Op × Value))(W:World):Prop where
 own:OwnsR W w.heap.size 91 3 (.slice (some ⟨g,0,none⟩) n cap) (rowsOf Dk.cellO ps)
 same:ps.map (·.1)=qs.map (·.1)
 new : ∀(j:Nat) (q:Dk.Op × Value),j<i→ps[j]? = some q→ReadsP (fun k t=>t=5∧w.heap.size≤k) W q.2 q.1.data
 left : ∀j,i≤j→ps[j]? = qs[j]?
 below:Below w.heap.size w W
theorem BufI.cell{w W:World}{g n cap:Nat}{qs ps:List (Dk.Op × Value)}{i:Nat}(h:BufI w g n cap qs i ps W)(hz:Sized 3 (rowsOf Dk.cellO ps)){q:Dk.Op × Value}(hq:ps[i]? = some q):W.cell? ⟨g,i*3+2,none⟩=some q.2:=by
 have h1:(flatR (rowsOf Dk.cellO ps))[i*3+2]? = some q.2:=flatR_at hz (r:=Dk.cellO q.1 q.2) (by simp[rowsOf,hq]) rfl
 have:=World.ownsRow.cells h.own (g:=g) rfl _ _ h1
 rwa[Addr.add_lit,Nat.zero_add]at this
theorem BufI.block{w W:World}{g n cap:Nat}{qs ps:List (Dk.Op × Value)}{i:Nat}(h:BufI w g n cap qs i ps W) : ∃cur,Lies W g 91 cur∧cur.size=cap*3∧n≤cap∧cur.toList.take (n*3)=flatR (rowsOf Dk.cellO ps)∧w.heap.size≤g∧cap≤maxLen:=by
 rcases h.own.2 with ⟨e,_⟩ | ⟨g', cap', cur,e,hb,hg,hc,hm,hs,ht⟩
 ·cases e
 ·simp only[Value.slice.injEq,Option.some.injEq,Addr.mk.injEq,and_true]at e
  obtain⟨rfl,e1,rfl⟩:=e
  rw[← e1]at hc ht
  exact⟨cur,hg,hs,hc,ht,hb,hm⟩
theorem BufI.step{w W W1 W2:World}{g n cap:Nat}{qs ps:List (Dk.Op × Value)}{i:Nat}(h:BufI w g n cap qs i ps W){q:Dk.Op × Value}(hq:ps[i]? = some q)(hn:n=qs.length){u:Value}(hb1:Below W.heap.size W W1)(ho1:Owns W1 W.heap.size 5 u q.1.data){cur:Array Value}(hcur:Lies W g 91 cur)
 (hl2:Lies W2 g 91 (cur.setIfInBounds (i*3+2) u)) (hg2:W1.grownBy W2 (some g)):BufI w g n cap qs (i+1) (ps.set i (q.1,u)) W2:=by
 obtain⟨cur', hc1,hsz,hnc,htk,hge,hmx⟩:=h.block
 have e2:some (Obj.cells cur 91 (0,0))=some (Obj.cells cur' 91 (0,0)):=(show W.heap[g]? = _ from hcur).symm.trans hc1
 cases e2
 have hil:=(List.getElem?_eq_some_iff.1 hq).1
 have hpl:ps.length=n:=by have:=congrArg List.length h.same;simpa[hn] using this
 have hWs:=h.below.size
 have h1s:=hb1.size
 have keep1 : ∀(j:Nat) (q' : Dk.Op × Value),j<i→ps[j]? = some q' → ReadsP (fun k t=>t=5∧w.heap.size≤k) W2 q'.2 q'.1.data:=fun j q' hj hq' =>
  ((h.new j q' hj hq').keep (Keep.of_below hb1)).keep (Keep.of_grown hg2 fun b cs t fr e hc hp=>by
    simp only[Option.some.injEq]at e
    subst e
    have:=(hb1.block g hcur.lt).trans hcur
    rw[this]at hc
    cases hc
    exact absurd hp.1 (by decide))
 refine⟨?_, ?_,fun j q' hj hq' => ?_,fun j hj => ?_,h.below.trans ((hb1.mono hWs).grown hg2 (by omega) fun j e=>by simp only[Option.some.injEq]at e;omega)⟩
 ·refine⟨?_, .inr ⟨g,cap,_,by simp[rowsOf,hpl],hge,hl2,by simp[rowsOf,hpl];exact hnc,hmx,by simp[hsz], ?_⟩⟩
  ·have:=h.own.1
   have e:=flat_set u ps i q hq
   rw[← e,List.length_set,this]
   simp[rowsOf]
  ·rw[Array.toList_setIfInBounds,List.take_set, ← flat_set u ps i q hq]
   have:(rowsOf Dk.cellO (ps.set i (q.1,u))).length*3=n*3:=by simp[rowsOf,hpl]
   rw[this,htk]
 ·rw[← h.same]
  apply List.ext_getElem?
  intro j
  rw[List.getElem?_map,List.getElem?_map]
  by_cases hji:i=j
  ·subst hji
   rw[List.getElem?_set_self hil,hq]
   rfl
  ·rw[List.getElem?_set_ne hji]
 ·by_cases hji:i=j
  ·subst hji
   rw[List.getElem?_set_self hil]at hq'
   simp only[Option.some.injEq]at hq'
   subst hq'
   have ho2:Owns W2 W.heap.size 5 u q.1.data:=ho1.stays fun k e=>by
    obtain⟨cs,hc,hk⟩:=ho1.cells e
    refine hg2.block k (lt_of_obj hc) fun e' => ?_
    simp only[Option.some.injEq]at e'
    have:=hcur.lt
    omega
   exact ReadsP.own ho2 fun k e=>by obtain⟨cs,hc,hk⟩:=ho2.cells e;exact⟨rfl,by omega⟩
  ·rw[List.getElem?_set_ne hji]at hq'
   exact keep1 j q' (by omega) hq'
 ·rw[List.getElem?_set,if_neg (by omega)]
  exact h.left j (by omega)
def BufferedAt(w:World)(B:List Dk.Op)(e:Ending)(w' : World):Prop := ∃v,e = .returned v∧OpsP (fun k _=>w.heap.size≤k) w' v B∧Below w.heap.size w w'
theorem buffered_any{S:Nat→Prop}{w:World}{d:Nat}{F:Dk.Files}{B:List Dk.Op}(h:DiskAt S w d F B)(hs:Dk.wtB B≤1099511627776) :
 Calls Tryz.prog 28 #[.pointer (some ⟨d,0,none⟩)] w (BufferedAt w B):=by
 obtain⟨mv,bv,zs,qs,h1,rfl,rfl⟩:=h
 have hq3:(rowsOf Dk.cellO qs).length=qs.length:=by simp[rowsOf]
 have hlw:=Dk.len_wtB (qs.map (·.1))
 rw[List.length_map]at hlw
 have hcl:=clone_ops bv _ w (h1.row.reads h1.sized) h1.sized (by rw[hq3];omega)
 obtain⟨ao,cap,rfl⟩:=h1.row.shape
 rw[hq3]at h1 hcl
 have c1:w.cell? ⟨d,1,none⟩=some (.slice ao qs.length cap):=h1.lies.cell 1 _ rfl
 obtain⟨n,hn⟩ : ∃n,n=qs.length:=⟨_,rfl⟩
 rw[← hn]at c1 hcl hlw
 have H1:=Lib.hid h1;have HN:=Lib.hid hn;have HS:=Lib.hid hs;have HCL:=Lib.hid hcl
 clear h1 hn hq3 hs hcl
 by_cases h0:n=0
 ·subst h0
  have hq:qs = []:=List.eq_nil_of_length_eq_zero HN.out.symm
  subst hq
  go_enter Tryz.func28,Tryz.ntmps28
  go_wp2_with (go_at_call 60;refine HCL.out.mono ?_;rintro e w1 ⟨v1,rfl,ho1,hb1⟩;obtain⟨ao1,cap1,rfl⟩:=ho1.shape)
  refine wp_loop_rounds 1 ?_
  rw[rounds_succ]
  go_wp2
  go_ret
  refine⟨_,rfl,⟨[],rfl,RowP.own ho1 (Sized.nil 3) fun g e=>by obtain⟨cs,hc,hg⟩:=ho1.cells e;exact hg,fun q hq=>by simp at hq⟩,hb1⟩
 ·go_enter Tryz.func28,Tryz.ntmps28
  go_wp2_with (go_at_call 60;refine HCL.out.mono ?_;rintro e w1 ⟨v1,rfl,ho1,hb1⟩;obtain⟨g,cap1,rfl⟩ : ∃g cap1,v1 = .slice (some ⟨g,0,none⟩) n cap1:=(by
   rcases ho1.2 with ⟨_,e0⟩ | ⟨g,cp,cur,e,_⟩
   ·exact absurd (by rw[HN.out, ← e0];simp[rowsOf]) h0
   ·exact⟨g,cp,by rw[e,HN.out];simp[rowsOf]⟩))
  have HI0:Hid (BufI w g n cap1 qs 0 qs w1):=⟨ho1,rfl,fun j q hj=>by omega,fun j _=>rfl,hb1⟩
  have hn9:n≤1099511627776:=by have:=HS.out;omega
  clear ho1 hb1 c1 hlw
  go_loopw [14] (fun x wr => ∃(i:Nat) (ps:List (Dk.Op × Value)),x = .int .i64 (i:Int)∧i≤n∧BufI w g n cap1 qs i ps wr) (fun x _=>n - (intOf x).toNat)
  case atStart=>exact⟨0,qs,rfl,Nat.zero_le _,HI0.out⟩
  case round =>
   obtain⟨i,ps,rfl,hin,hI⟩:=hrel
   have HI:=Lib.hid hI
   clear hI HI0
   by_cases hlt:i<n
   ·have hint:((i:Nat):Int)<(n:Int):=by omega
    obtain⟨q,hq⟩ : ∃q,qs[i]? = some q:=⟨_,List.getElem?_eq_getElem (by have:=HN.out;omega)⟩
    have hp:ps[i]? = some q:=(HI.out.left i (Nat.le_refl _)).trans hq
    have hd:=(H1.out.data q (List.mem_of_getElem? hq)).1
    have hzs:Sized 3 (rowsOf Dk.cellO ps):=rowsOf_sized Dk.cellO_ok fun p hp' => by
     obtain⟨j,hj⟩:=List.getElem?_of_mem hp'
     by_cases hji:j<i
     ·exact(HI.out.new j p hji hj).one
     ·have:=(HI.out.left j (by omega)).symm.trans hj
      exact(H1.out.data p (List.mem_of_getElem? this)).one
    obtain⟨x,u⟩:=q
    have hd:Reads w u x.data:=hd
    obtain⟨ax,cx,rfl⟩:=hd.shape
    have hdl:x.data.length≤1099511627776:=by
     have hm:x∈qs.map (·.1):=List.mem_map.2 ⟨_,List.mem_of_getElem? hq,rfl⟩
     have:=Dk.wtB_mem hm
     have:=HS.out
     omega
    have ci:wr.cell? ⟨g,i*3+2,none⟩=some (.slice ax x.data.length cx):=HI.out.cell hzs hp
    obtain⟨cur,hcur,hsz,hnc,_,hge,hmx⟩:=HI.out.block
    have HCUR:=Lib.hid hcur;have HP:=Lib.hid hp;have HD:=Lib.hid (hd.below HI.out.below)
    clear hd hq hzs hp hcur
    go_wp2_with (first
     | (go_at_call 61;refine(clone_any (.slice ax x.data.length cx) x.data wr HD.out (by omega)).mono ?_;rintro e w3 ⟨v3,rfl,ho3,hb3⟩;obtain⟨ao3,cap3,rfl⟩:=ho3.reads.shape;have HO3:=Lib.hid ho3;have HB3:=Lib.hid hb3;clear ho3 hb3)
     | (refine store_part rfl 30 _ _ rfl g (i*3+2) 91 cur (cur.setIfInBounds (i*3+2) (.slice ao3 x.data.length cap3)) (.slice ao3 x.data.length cap3) [(.slice ao3 x.data.length cap3)] rfl rfl rfl (by kernel_rfl) rfl (HCUR.out.below HB3.out HCUR.out.lt) (by simp;omega) (by rw[Array.toList_setIfInBounds,List.set_eq_take_append_cons_drop,if_pos (by simp;omega)];simp) ?_;intro w6 hl6 hg6;have HI6:=Lib.hid (HI.out.step HP.out HN.out HB3.out HO3.out HCUR.out hl6 hg6);clear hl6 hg6))
    clear ci
    go_roundw
    case rel=>exact⟨i+1,_,by simp,by omega,HI6.out⟩
    case measure=>simp[intOf];omega
   ·have hint : ¬((i:Nat):Int)<(n:Int):=by omega
    go_wp2
    go_ret
    have hI:=HI.out
    have hpl:ps.length=n:=by have:=congrArg List.length hI.same;simpa[HN.out] using this
    have hall : ∀q∈ps,ReadsP (fun k _=>w.heap.size≤k) wr q.2 q.1.data:=fun q hq=>by
     obtain⟨j,hj⟩:=List.getElem?_of_mem hq
     have hjl:=(List.getElem?_eq_some_iff.1 hj).1
     exact(hI.new j q (by omega) hj).imp fun k cs t fr _ hp=>hp.2
    exact⟨_,rfl,⟨ps,hI.same.symm,RowP.own hI.own (rowsOf_sized Dk.cellO_ok fun q hq=>(hall q hq).one) fun g e=>by obtain⟨cs,hc,hg⟩:=hI.own.cells e;exact hg,hall⟩,hI.below⟩
end Go.Proofs.YtdkdjofnnnljjaaGreatDoor
