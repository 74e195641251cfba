/- (*Disk).hold, Make, Add, Drop. Written by a program. -/
import Derived.Test.YtdkdjofnnnljjaaGreatDoorPDkHold
namespace Go.Proofs.YtdkdjofnnnljjaaGreatDoor
open Go.RowKit
set_option maxHeartbeats 1600000
set_option maxRecDepth 4000
def HeldAt(S:Nat→Prop)(w:World)(d:Nat)(F:Dk.Files)(B:List Dk.Op)(e:Ending)(w' : World):Prop :=
 e = .returned (.tuple #[])∧DiskAt (fun j=>S j∨w.heap.size≤j) w' d F B∧Kp (fun j _ => ¬S j) w w'
theorem hold_out{S:Nat→Prop}{w:World}{d:Nat}{F:Dk.Files}{B:List Dk.Op}(h:DiskAt S w d F B)(k n:Int)(v:Value)(hn : ¬(1≤n∧n≤4294967296)) :
 Calls Tryz.prog 71 #[.pointer (some ⟨d,0,none⟩), .int .i64 k, .int .i64 n,v] w (HeldAt S w d F B):=by
 have HE:Hid (HeldAt S w d F B (.returned (.tuple #[])) w):=⟨rfl,h.imp fun j _ hS => .inl hS,Kp.refl _ _⟩
 clear h
 by_cases h1:n<1
 ·go_enter Tryz.func71,Tryz.ntmps71
  go_wp2
  go_end0
  exact HE.out
 ·have h2:4294967296<n:=by omega
  clear hn
  go_enter Tryz.func71,Tryz.ntmps71
  go_wp2
  go_end0
  exact HE.out
theorem hold_some{S:Nat→Prop}{w:World}{d:Nat}{b:Nat}{bv:Value}{zs:List Row}{qs:List (Dk.Op × Value)}(h:DiskP S w d (some b) bv zs qs)(k n:Int)(v:Value)(data:List UInt8)(hd:Reads w v data)(hl:data.length≤17592186044416)(hq:qs.length≤1099511627776)(hn:1≤n)(hn2:n≤4294967296) :
 Calls Tryz.prog 71 #[.pointer (some ⟨d,0,none⟩), .int .i64 k, .int .i64 n,v] w (HeldAt S w d (Dk.onto (·.2) zs) (qs.map (·.1) ++ [⟨k,n,data⟩])):=by
 obtain⟨ao,cap,rfl⟩:=hd.shape
 obtain⟨S2,hS2⟩ : ∃S2,S2=S:=⟨_,rfl⟩
 have H2:Hid (DiskP S2 w d (some b) bv zs qs∧Reads w (.slice ao data.length cap) data):=⟨hS2 ▸ h,hd⟩
 have HB:Hid (∀(u u3:World),DiskP S2 u d (some b) bv zs qs→Below u.heap.size u u3→OwnsR u3 0 91 3 bv (rowsOf Dk.cellO qs)):=fun u u3 hu hb=>OwnsR.keep hu.row hb (Nat.le_refl _)
 have HC:Hid (∀(u u3:World) (o:Obj) (u5:World),DiskP S2 u d (some b) bv zs qs→Below u.heap.size u u3→(u3.alloc o).grownBy u5 bv.ownBlock→Lies u5 d 76 #[.map (some b),bv]):=fun u u3 o u5 hu hb hg =>
  ((hu.lies.below hb hu.lies.lt).alloc o).kept hg (((hu.lies.below hb hu.lies.lt).alloc o).not_row (by decide) ((OwnsR.keep hu.row hb (Nat.le_refl _)).alloc o))
 have HE:Hid (∀(u w6:World) (bv' : Value) {v3:Value},DiskP (fun j=>S2 j∨w.heap.size≤j) w6 d (some b) bv' zs (qs ++ [(⟨k,n,data⟩,v3)])∧Kp (fun j _ => ¬S2 j) w w6→DiskAt (fun j=>S j∨w.heap.size≤j) w6 d (Dk.onto (·.2) zs) (qs.map (·.1) ++ [⟨k,n,data⟩])∧Kp (fun j _ => ¬S j) w w6):=fun u w6 bv' v3 hh=>by
  subst hS2
  exact⟨⟨_,bv', zs,_,hh.1,rfl,by simp⟩,hh.2⟩
 have c0:w.cell? ⟨d,0,none⟩=some (.map (some b)):=h.lies.cell 0 _ rfl
 have c1:w.cell? ⟨d,1,none⟩=some bv:=h.lies.cell 1 _ rfl
 clear h hd hS2
 have eqlSome : ∀(x:Nat) (u:World),(binOp .eql 74 (.map (some x)) (.map none)).run Tryz.prog u = .ok (.bool false) u:=fun _ _=>by kernel_rfl
 have eqlNil : ∀u:World,(binOp .eql 74 (.map none) (.map none)).run Tryz.prog u = .ok (.bool true) u:=fun _=>by kernel_rfl
 go_enter Tryz.func71,Tryz.ntmps71
 go_wp2
 refine wp_region_held_drew (S:=fun _=>True) (by kernel_rfl) (trivial) (fun hHeld => ?_)
 refine wpT 0 rfl hHeld ?_
 refine wpT 1 rfl hHeld ?_
 refine wpT 2 rfl hHeld ?_
 refine wpT 3 rfl hHeld ?_
 refine wpT 5 rfl hHeld ?_
 refine wpT 6 rfl hHeld ?_
 refine wpT 7 rfl hHeld ?_
 refine wpAnyH_ready (rs := [4,8]) (by kernel_rfl) (by simp) ?_
 refine AllReadyH.cons rfl (fun K hK => ?_) (AllReadyH.cons rfl (fun K hK => ?_) AllReadyH.nil)
 ·rw[if_pos (by rfl)]
  go_simp
  refine hK.out _ _ trivial (fun hHeld => ?_)
  clear hK K
  refine wpAnyH_ready (rs := [8]) (by kernel_rfl) (by simp) ?_
  refine AllReadyH.cons rfl (fun K hK => ?_) AllReadyH.nil
  rw[if_pos (by rfl)]
  go_simp
  go_at_call 61
  refine(clone_any (.slice ao data.length cap) data w.drew (Reads.below H2.out.2 (drawn w 1)) (by omega)).mono ?_
  rintro e w3 ⟨v3,rfl,ho3,hb3⟩
  obtain⟨ao3,cap3,rfl⟩:=ho3.reads.shape
  have HO3:=Lib.hid ho3;have HB3:=Lib.hid (on (drawn w 1) hb3)
  clear ho3 hb3
  refine hK.out _ _ trivial (fun hHeld => ?_)
  clear hK K
  refine wpT 9 rfl hHeld ?_
  refine wpAnyH_ready (rs := [10]) (by kernel_rfl) (by simp) ?_
  refine AllReadyH.cons rfl (fun K hK => ?_) AllReadyH.nil
  rw[if_pos (by rfl)]
  go_simp
  refine hK.out _ _ trivial (fun hHeld => ?_)
  clear hK K
  obtain⟨v5,w5,hrun,ho5,hg5,ha5⟩:=run_append_rows_at (P:=Tryz.prog) (w:=w3.alloc (.cells (Dk.cellO ⟨k,n,data⟩ (.slice ao3 data.length cap3)) 91)) 67 67 91 3 40 _ Tryz.underlying67 info_op rfl (by decide) 0 (rowsOf Dk.cellO qs) [Dk.cellO ⟨k,n,data⟩ (.slice ao3 data.length cap3)] bv _ ((HB.out w w3 H2.out.1 HB3.out).alloc _) (ReadsR.single (Lies.new w3 _ _)) (fun r hr=>by obtain rfl:=List.mem_singleton.1 hr;exact⟨rfl,(Dk.cellO_ok ⟨k,n,data⟩ (.slice ao3 data.length cap3)).2 rfl⟩) (by simp[rowsOf];omega) (by simp[rowsOf];omega) (Nat.zero_le _)
  obtain⟨ao5,cap5,rfl⟩:=OwnsR.shape ho5
  have ho5' : OwnsR w5 0 91 3 (.slice ao5 (rowsOf Dk.cellO qs ++ [Dk.cellO ⟨k,n,data⟩ (.slice ao3 data.length cap3)]).length cap5) (rowsOf Dk.cellO (qs ++ [(⟨k,n,data⟩, .slice ao3 data.length cap3)])):=by rw[show rowsOf Dk.cellO (qs ++ [(⟨k,n,data⟩, .slice ao3 data.length cap3)])=rowsOf Dk.cellO qs ++ [Dk.cellO ⟨k,n,data⟩ (.slice ao3 data.length cap3)] by simp[rowsOf]];exact ho5
  have HO5:=Lib.hid ho5'; have HG5:=Lib.hid hg5;have HA5:=Lib.hid ha5;have HRUN:=Lib.hid hrun
  have hl5:=HC.out w w3 _ w5 H2.out.1 HB3.out HG5.out
  clear ho5 ho5' hg5 ha5 hrun
  refine wpAnyH_ready (rs := [11]) (by kernel_rfl) (by simp) ?_
  refine ready_append 11 (.tmp 31) (.tmp 37) 67 rfl rfl rfl bv (.slice (some ⟨w3.heap.size,0,none⟩) 1 1) (.slice ao5 (rowsOf Dk.cellO qs ++ [Dk.cellO ⟨k,n,data⟩ (.slice ao3 data.length cap3)]).length cap5) w5 ?s11a ?x11a HRUN.out ⟨trivial,fun hHeld => ?_⟩
  case s11a=>kernel_rfl
  case x11a=>kernel_rfl
  refine wpT 12 rfl hHeld ?_
  refine wpT 13 rfl hHeld ?_
  refine wpAnyH_ready (rs := [14]) (by kernel_rfl) (by simp) ?_
  refine ready_store 14 67 (.tmp 40) (.tmp 38) rfl rfl rfl d 1 76 #[.map (some b),bv] #[.map (some b), .slice ao5 (rowsOf Dk.cellO qs ++ [Dk.cellO ⟨k,n,data⟩ (.slice ao3 data.length cap3)]).length cap5] (.slice ao5 (rowsOf Dk.cellO qs ++ [Dk.cellO ⟨k,n,data⟩ (.slice ao3 data.length cap3)]).length cap5) [.slice ao5 (rowsOf Dk.cellO qs ++ [Dk.cellO ⟨k,n,data⟩ (.slice ao3 data.length cap3)]).length cap5] ?x14a ?y14a rfl (by kernel_rfl) rfl hl5 (Nat.le_of_ble_eq_true rfl) rfl ?k14a
  case x14a=>kernel_rfl
  case y14a=>kernel_rfl
  intro w6 hl6 hg6
  have HL6:=Lib.hid hl6;have HG6:=Lib.hid hg6
  clear hl6 hg6 hl5
  refine⟨trivial,fun hHeld => ?_⟩
  refine wpAnyH_done (by kernel_rfl) ?_ _
  clear hHeld
  go_wp2
  go_end0
  exact⟨rfl,HE.out w w6 _ (H2.out.1.hold ⟨k,n,data⟩ HB3.out HO3.out _ HO5.out HG5.out HA5.out HL6.out HG6.out)⟩
 ·rw[if_pos (by rfl)]
  go_simp
  go_at_call 61
  refine(clone_any (.slice ao data.length cap) data w.drew (Reads.below H2.out.2 (drawn w 1)) (by omega)).mono ?_
  rintro e w3 ⟨v3,rfl,ho3,hb3⟩
  obtain⟨ao3,cap3,rfl⟩:=ho3.reads.shape
  have HO3:=Lib.hid ho3;have HB3:=Lib.hid (on (drawn w 1) hb3)
  clear ho3 hb3
  refine hK.out _ _ trivial (fun hHeld => ?_)
  clear hK K
  refine wpT 9 rfl hHeld ?_
  have q3:w3.cell? ⟨d,1,none⟩=some bv:=(H2.out.1.lies.below HB3.out H2.out.1.lies.lt).cell 1 _ rfl
  refine wpAnyH_ready (rs := [4,10]) (by kernel_rfl) (by simp) ?_
  refine AllReadyH.cons rfl (fun K hK => ?_) (AllReadyH.cons rfl (fun K hK => ?_) AllReadyH.nil)
  ·rw[if_pos (by rfl)]
   go_simp
   refine hK.out _ _ trivial (fun hHeld => ?_)
   clear hK K
   clear q3
   refine wpAnyH_ready (rs := [10]) (by kernel_rfl) (by simp) ?_
   refine AllReadyH.cons rfl (fun K hK => ?_) AllReadyH.nil
   rw[if_pos (by rfl)]
   go_simp
   refine hK.out _ _ trivial (fun hHeld => ?_)
   clear hK K
   obtain⟨v5,w5,hrun,ho5,hg5,ha5⟩:=run_append_rows_at (P:=Tryz.prog) (w:=w3.alloc (.cells (Dk.cellO ⟨k,n,data⟩ (.slice ao3 data.length cap3)) 91)) 67 67 91 3 40 _ Tryz.underlying67 info_op rfl (by decide) 0 (rowsOf Dk.cellO qs) [Dk.cellO ⟨k,n,data⟩ (.slice ao3 data.length cap3)] bv _ ((HB.out w w3 H2.out.1 HB3.out).alloc _) (ReadsR.single (Lies.new w3 _ _)) (fun r hr=>by obtain rfl:=List.mem_singleton.1 hr;exact⟨rfl,(Dk.cellO_ok ⟨k,n,data⟩ (.slice ao3 data.length cap3)).2 rfl⟩) (by simp[rowsOf];omega) (by simp[rowsOf];omega) (Nat.zero_le _)
   obtain⟨ao5,cap5,rfl⟩:=OwnsR.shape ho5
   have ho5' : OwnsR w5 0 91 3 (.slice ao5 (rowsOf Dk.cellO qs ++ [Dk.cellO ⟨k,n,data⟩ (.slice ao3 data.length cap3)]).length cap5) (rowsOf Dk.cellO (qs ++ [(⟨k,n,data⟩, .slice ao3 data.length cap3)])):=by rw[show rowsOf Dk.cellO (qs ++ [(⟨k,n,data⟩, .slice ao3 data.length cap3)])=rowsOf Dk.cellO qs ++ [Dk.cellO ⟨k,n,data⟩ (.slice ao3 data.length cap3)] by simp[rowsOf]];exact ho5
   have HO5:=Lib.hid ho5'; have HG5:=Lib.hid hg5;have HA5:=Lib.hid ha5;have HRUN:=Lib.hid hrun
   have hl5:=HC.out w w3 _ w5 H2.out.1 HB3.out HG5.out
   clear ho5 ho5' hg5 ha5 hrun
   refine wpAnyH_ready (rs := [11]) (by kernel_rfl) (by simp) ?_
   refine ready_append 11 (.tmp 31) (.tmp 37) 67 rfl rfl rfl bv (.slice (some ⟨w3.heap.size,0,none⟩) 1 1) (.slice ao5 (rowsOf Dk.cellO qs ++ [Dk.cellO ⟨k,n,data⟩ (.slice ao3 data.length cap3)]).length cap5) w5 ?s11b ?x11b HRUN.out ⟨trivial,fun hHeld => ?_⟩
   case s11b=>kernel_rfl
   case x11b=>kernel_rfl
   refine wpT 12 rfl hHeld ?_
   refine wpT 13 rfl hHeld ?_
   refine wpAnyH_ready (rs := [14]) (by kernel_rfl) (by simp) ?_
   refine ready_store 14 67 (.tmp 40) (.tmp 38) rfl rfl rfl d 1 76 #[.map (some b),bv] #[.map (some b), .slice ao5 (rowsOf Dk.cellO qs ++ [Dk.cellO ⟨k,n,data⟩ (.slice ao3 data.length cap3)]).length cap5] (.slice ao5 (rowsOf Dk.cellO qs ++ [Dk.cellO ⟨k,n,data⟩ (.slice ao3 data.length cap3)]).length cap5) [.slice ao5 (rowsOf Dk.cellO qs ++ [Dk.cellO ⟨k,n,data⟩ (.slice ao3 data.length cap3)]).length cap5] ?x14b ?y14b rfl (by kernel_rfl) rfl hl5 (Nat.le_of_ble_eq_true rfl) rfl ?k14b
   case x14b=>kernel_rfl
   case y14b=>kernel_rfl
   intro w6 hl6 hg6
   have HL6:=Lib.hid hl6;have HG6:=Lib.hid hg6
   clear hl6 hg6 hl5
   refine⟨trivial,fun hHeld => ?_⟩
   refine wpAnyH_done (by kernel_rfl) ?_ _
   clear hHeld
   go_wp2
   go_end0
   exact⟨rfl,HE.out w w6 _ (H2.out.1.hold ⟨k,n,data⟩ HB3.out HO3.out _ HO5.out HG5.out HA5.out HL6.out HG6.out)⟩
  ·rw[if_pos (by rfl)]
   go_simp
   refine hK.out _ _ trivial (fun hHeld => ?_)
   clear hK K
   clear q3
   have q4:(w3.alloc (.cells #[.int .i64 k, .int .i64 n, .slice ao3 data.length cap3] 91)).cell? ⟨d,1,none⟩=some bv:=((H2.out.1.lies.below HB3.out H2.out.1.lies.lt).alloc _).cell 1 _ rfl
   refine wpAnyH_ready (rs := [4]) (by kernel_rfl) (by simp) ?_
   refine AllReadyH.cons rfl (fun K hK => ?_) AllReadyH.nil
   rw[if_pos (by rfl)]
   go_simp
   refine hK.out _ _ trivial (fun hHeld => ?_)
   clear hK K
   clear q4
   obtain⟨v5,w5,hrun,ho5,hg5,ha5⟩:=run_append_rows_at (P:=Tryz.prog) (w:=w3.alloc (.cells (Dk.cellO ⟨k,n,data⟩ (.slice ao3 data.length cap3)) 91)) 67 67 91 3 40 _ Tryz.underlying67 info_op rfl (by decide) 0 (rowsOf Dk.cellO qs) [Dk.cellO ⟨k,n,data⟩ (.slice ao3 data.length cap3)] bv _ ((HB.out w w3 H2.out.1 HB3.out).alloc _) (ReadsR.single (Lies.new w3 _ _)) (fun r hr=>by obtain rfl:=List.mem_singleton.1 hr;exact⟨rfl,(Dk.cellO_ok ⟨k,n,data⟩ (.slice ao3 data.length cap3)).2 rfl⟩) (by simp[rowsOf];omega) (by simp[rowsOf];omega) (Nat.zero_le _)
   obtain⟨ao5,cap5,rfl⟩:=OwnsR.shape ho5
   have ho5' : OwnsR w5 0 91 3 (.slice ao5 (rowsOf Dk.cellO qs ++ [Dk.cellO ⟨k,n,data⟩ (.slice ao3 data.length cap3)]).length cap5) (rowsOf Dk.cellO (qs ++ [(⟨k,n,data⟩, .slice ao3 data.length cap3)])):=by rw[show rowsOf Dk.cellO (qs ++ [(⟨k,n,data⟩, .slice ao3 data.length cap3)])=rowsOf Dk.cellO qs ++ [Dk.cellO ⟨k,n,data⟩ (.slice ao3 data.length cap3)] by simp[rowsOf]];exact ho5
   have HO5:=Lib.hid ho5'; have HG5:=Lib.hid hg5;have HA5:=Lib.hid ha5;have HRUN:=Lib.hid hrun
   have hl5:=HC.out w w3 _ w5 H2.out.1 HB3.out HG5.out
   clear ho5 ho5' hg5 ha5 hrun
   refine wpAnyH_ready (rs := [11]) (by kernel_rfl) (by simp) ?_
   refine ready_append 11 (.tmp 31) (.tmp 37) 67 rfl rfl rfl bv (.slice (some ⟨w3.heap.size,0,none⟩) 1 1) (.slice ao5 (rowsOf Dk.cellO qs ++ [Dk.cellO ⟨k,n,data⟩ (.slice ao3 data.length cap3)]).length cap5) w5 ?s11c ?x11c HRUN.out ⟨trivial,fun hHeld => ?_⟩
   case s11c=>kernel_rfl
   case x11c=>kernel_rfl
   refine wpT 12 rfl hHeld ?_
   refine wpT 13 rfl hHeld ?_
   refine wpAnyH_ready (rs := [14]) (by kernel_rfl) (by simp) ?_
   refine ready_store 14 67 (.tmp 40) (.tmp 38) rfl rfl rfl d 1 76 #[.map (some b),bv] #[.map (some b), .slice ao5 (rowsOf Dk.cellO qs ++ [Dk.cellO ⟨k,n,data⟩ (.slice ao3 data.length cap3)]).length cap5] (.slice ao5 (rowsOf Dk.cellO qs ++ [Dk.cellO ⟨k,n,data⟩ (.slice ao3 data.length cap3)]).length cap5) [.slice ao5 (rowsOf Dk.cellO qs ++ [Dk.cellO ⟨k,n,data⟩ (.slice ao3 data.length cap3)]).length cap5] ?x14c ?y14c rfl (by kernel_rfl) rfl hl5 (Nat.le_of_ble_eq_true rfl) rfl ?k14c
   case x14c=>kernel_rfl
   case y14c=>kernel_rfl
   intro w6 hl6 hg6
   have HL6:=Lib.hid hl6;have HG6:=Lib.hid hg6
   clear hl6 hg6 hl5
   refine⟨trivial,fun hHeld => ?_⟩
   refine wpAnyH_done (by kernel_rfl) ?_ _
   clear hHeld
   go_wp2
   go_end0
   exact⟨rfl,HE.out w w6 _ (H2.out.1.hold ⟨k,n,data⟩ HB3.out HO3.out _ HO5.out HG5.out HA5.out HL6.out HG6.out)⟩
theorem hold_none{S:Nat→Prop}{w:World}{d:Nat} {bv:Value}{zs:List Row}{qs:List (Dk.Op × Value)}(h:DiskP S w d none bv zs qs)(k n:Int)(v:Value)(data:List UInt8)(hd:Reads w v data)(hl:data.length≤17592186044416)(hq:qs.length≤1099511627776)(hn:1≤n)(hn2:n≤4294967296) :
 Calls Tryz.prog 71 #[.pointer (some ⟨d,0,none⟩), .int .i64 k, .int .i64 n,v] w (HeldAt S w d (Dk.onto (·.2) zs) (qs.map (·.1) ++ [⟨k,n,data⟩])):=by
 obtain⟨ao,cap,rfl⟩:=hd.shape
 have hzq:zs = []∧qs = []:=by
  rcases h.map with ⟨_,h1,h2⟩ | ⟨b,e,_⟩
  ·exact⟨h1,h2⟩
  ·cases e
 have HZ:=Lib.hid hzq
 clear hzq
 have hmm := @run_makeMap Tryz.prog
 obtain⟨w1,hw1⟩ : ∃w1,w.alloc (.map #[] 0)=w1:=⟨_,rfl⟩
 have hb1:Below w.heap.size w w1:=by rw[← hw1];exact(Below.refl _ w).alloc (Nat.le_refl _) _
 have hf1:FilesIn w1 w.heap.size []:=by rw[← hw1];exact FilesIn.new w
 have HL1:Hid (Lies w1 d 76 #[.map none,bv]):=h.lies.below hb1 h.lies.lt
 have HB1:=Lib.hid hb1;have HF1:=Lib.hid hf1;have HP:=Lib.hid h;have HD:=Lib.hid hd
 have c0:w.cell? ⟨d,0,none⟩=some (.map none):=h.lies.cell 0 _ rfl
 have q1:w1.cell? ⟨d,1,none⟩=some bv:=HL1.out.cell 1 _ rfl
 clear h hd hb1 hf1
 obtain⟨S2,hS2⟩ : ∃S2:Nat→Prop,S2=fun j=>S j∨w.heap.size≤j:=⟨_,rfl⟩
 have HS2:=Lib.hid hS2
 clear hS2
 have eqlSome : ∀(x:Nat) (u:World),(binOp .eql 74 (.map (some x)) (.map none)).run Tryz.prog u = .ok (.bool false) u:=fun _ _=>by kernel_rfl
 have eqlNil : ∀u:World,(binOp .eql 74 (.map none) (.map none)).run Tryz.prog u = .ok (.bool true) u:=fun _=>by kernel_rfl
 go_enter Tryz.func71,Tryz.ntmps71
 go_wp2_with (refine store_part rfl 74 _ _ rfl d 0 76 _ #[.map (some w.heap.size),bv] (.map (some w.heap.size)) [.map (some w.heap.size)] rfl rfl rfl (by kernel_rfl) rfl HL1.out (Nat.le_of_ble_eq_true rfl) rfl ?_;intro w2 hl2 hg2)
 obtain⟨b,hb⟩ : ∃b,w.heap.size=b:=⟨_,rfl⟩
 have HK:Hid (Kp (fun j _ => ¬S j) w w2):=(Kp.all HB1.out).trans (Kp.of_grown hg2 fun j _ e _ hq=>hq (by simp only[Option.some.injEq]at e;exact e ▸ HP.out.here))
 have hH2:DiskP S2 w2 d (some b) bv zs qs:=by
  rw[HS2.out, ← hb,HZ.out.1,HZ.out.2]
  have hdl:=HP.out.lies.lt
  refine⟨hl2, .inl HP.out.here, .inr ⟨_,rfl, .inr (Nat.le_refl _),HF1.out.stays (hg2.block _ HF1.out.map.lt (by simp;omega)) (fun k hk=>by obtain⟨z,hz,_⟩:=hk;simp at hz)⟩,fun k hk=>by obtain⟨z,hz,_⟩:=hk;simp at hz, ?_,fun g e => .inl (HP.out.rowS g e),fun q hq=>by simp at hq⟩
  have h0:=HP.out.row
  rw[HZ.out.2]at h0
  refine h0.stays fun g e => ?_
  obtain⟨cs,hc,_⟩:=h0.cells e
  have hne:g≠d:=fun e' => by subst e'; rw[show w.heap[g]? = _ from HP.out.lies]at hc;cases hc
  have hg1:=HB1.out.block g (lt_of_obj hc)
  rw[hg2.block g (by have:=HB1.out.size;have:=lt_of_obj hc;omega) (by simpa using hne),hg1]
 have H2:Hid (DiskP S2 w2 d (some b) bv zs qs∧Reads w2 (.slice ao data.length cap) data):=⟨hH2,(HD.out.below HB1.out).kept_of HL1.out (fun j x=>by
  match j with
  | 0=>simp
  | 1 =>
   obtain⟨ao', cap', e⟩:=HP.out.row.shape
   simp[e]
  | j+2=>simp) hg2⟩
 have HSZ:Hid (w.heap.size≤w2.heap.size):=Nat.le_trans HB1.out.size hg2.size
 have c1:w2.cell? ⟨d,1,none⟩=some bv:=hH2.lies.cell 1 _ rfl
 clear hH2 hl2 hg2 q1 hb c0 hmm
 have HB:Hid (∀(u u3:World),DiskP S2 u d (some b) bv zs qs→Below u.heap.size u u3→OwnsR u3 0 91 3 bv (rowsOf Dk.cellO qs)):=fun u u3 hu hb=>OwnsR.keep hu.row hb (Nat.le_refl _)
 have HC:Hid (∀(u u3:World) (o:Obj) (u5:World),DiskP S2 u d (some b) bv zs qs→Below u.heap.size u u3→(u3.alloc o).grownBy u5 bv.ownBlock→Lies u5 d 76 #[.map (some b),bv]):=fun u u3 o u5 hu hb hg =>
  ((hu.lies.below hb hu.lies.lt).alloc o).kept hg (((hu.lies.below hb hu.lies.lt).alloc o).not_row (by decide) ((OwnsR.keep hu.row hb (Nat.le_refl _)).alloc o))
 have HE:Hid (∀(u w6:World) (bv' : Value) {v3:Value},DiskP (fun j=>S2 j∨w2.heap.size≤j) w6 d (some b) bv' zs (qs ++ [(⟨k,n,data⟩,v3)])∧Kp (fun j _ => ¬S2 j) w2 w6→DiskAt (fun j=>S j∨w.heap.size≤j) w6 d (Dk.onto (·.2) zs) (qs.map (·.1) ++ [⟨k,n,data⟩])∧Kp (fun j _ => ¬S j) w w6):=fun u w6 bv' v3 hh=>by
  obtain⟨hh1,hh2⟩:=hh
  refine⟨⟨_,bv', zs,_,hh1.imp fun j _ hj => ?_,rfl,by simp⟩,HK.out.then hh2 fun g o e hS => ?_⟩
  ·rw[HS2.out]at hj
   have:=HSZ.out
   rcases hj with (hj | hj) | hj
   ·exact .inl hj
   ·exact .inr hj
   ·right;omega
  ·rw[HS2.out]
   rintro(h | h)
   ·exact hS h
   ·have:=lt_of_obj e;omega
 refine wp_region_held_drew (S:=fun _=>True) (by kernel_rfl) (trivial) (fun hHeld => ?_)
 refine wpT 0 rfl hHeld ?_
 refine wpT 1 rfl hHeld ?_
 refine wpT 2 rfl hHeld ?_
 refine wpT 3 rfl hHeld ?_
 refine wpT 5 rfl hHeld ?_
 refine wpT 6 rfl hHeld ?_
 refine wpT 7 rfl hHeld ?_
 refine wpAnyH_ready (rs := [4,8]) (by kernel_rfl) (by simp) ?_
 refine AllReadyH.cons rfl (fun K hK => ?_) (AllReadyH.cons rfl (fun K hK => ?_) AllReadyH.nil)
 ·rw[if_pos (by rfl)]
  go_simp
  refine hK.out _ _ trivial (fun hHeld => ?_)
  clear hK K
  refine wpAnyH_ready (rs := [8]) (by kernel_rfl) (by simp) ?_
  refine AllReadyH.cons rfl (fun K hK => ?_) AllReadyH.nil
  rw[if_pos (by rfl)]
  go_simp
  go_at_call 61
  refine(clone_any (.slice ao data.length cap) data w2.drew (Reads.below H2.out.2 (drawn w2 1)) (by omega)).mono ?_
  rintro e w3 ⟨v3,rfl,ho3,hb3⟩
  obtain⟨ao3,cap3,rfl⟩:=ho3.reads.shape
  have HO3:=Lib.hid ho3;have HB3:=Lib.hid (on (drawn w2 1) hb3)
  clear ho3 hb3
  refine hK.out _ _ trivial (fun hHeld => ?_)
  clear hK K
  refine wpT 9 rfl hHeld ?_
  refine wpAnyH_ready (rs := [10]) (by kernel_rfl) (by simp) ?_
  refine AllReadyH.cons rfl (fun K hK => ?_) AllReadyH.nil
  rw[if_pos (by rfl)]
  go_simp
  refine hK.out _ _ trivial (fun hHeld => ?_)
  clear hK K
  obtain⟨v5,w5,hrun,ho5,hg5,ha5⟩:=run_append_rows_at (P:=Tryz.prog) (w:=w3.alloc (.cells (Dk.cellO ⟨k,n,data⟩ (.slice ao3 data.length cap3)) 91)) 67 67 91 3 40 _ Tryz.underlying67 info_op rfl (by decide) 0 (rowsOf Dk.cellO qs) [Dk.cellO ⟨k,n,data⟩ (.slice ao3 data.length cap3)] bv _ ((HB.out w2 w3 H2.out.1 HB3.out).alloc _) (ReadsR.single (Lies.new w3 _ _)) (fun r hr=>by obtain rfl:=List.mem_singleton.1 hr;exact⟨rfl,(Dk.cellO_ok ⟨k,n,data⟩ (.slice ao3 data.length cap3)).2 rfl⟩) (by simp[rowsOf];omega) (by simp[rowsOf];omega) (Nat.zero_le _)
  obtain⟨ao5,cap5,rfl⟩:=OwnsR.shape ho5
  have ho5' : OwnsR w5 0 91 3 (.slice ao5 (rowsOf Dk.cellO qs ++ [Dk.cellO ⟨k,n,data⟩ (.slice ao3 data.length cap3)]).length cap5) (rowsOf Dk.cellO (qs ++ [(⟨k,n,data⟩, .slice ao3 data.length cap3)])):=by rw[show rowsOf Dk.cellO (qs ++ [(⟨k,n,data⟩, .slice ao3 data.length cap3)])=rowsOf Dk.cellO qs ++ [Dk.cellO ⟨k,n,data⟩ (.slice ao3 data.length cap3)] by simp[rowsOf]];exact ho5
  have HO5:=Lib.hid ho5'; have HG5:=Lib.hid hg5;have HA5:=Lib.hid ha5;have HRUN:=Lib.hid hrun
  have hl5:=HC.out w2 w3 _ w5 H2.out.1 HB3.out HG5.out
  clear ho5 ho5' hg5 ha5 hrun
  refine wpAnyH_ready (rs := [11]) (by kernel_rfl) (by simp) ?_
  refine ready_append 11 (.tmp 31) (.tmp 37) 67 rfl rfl rfl bv (.slice (some ⟨w3.heap.size,0,none⟩) 1 1) (.slice ao5 (rowsOf Dk.cellO qs ++ [Dk.cellO ⟨k,n,data⟩ (.slice ao3 data.length cap3)]).length cap5) w5 ?s11a ?x11a HRUN.out ⟨trivial,fun hHeld => ?_⟩
  case s11a=>kernel_rfl
  case x11a=>kernel_rfl
  refine wpT 12 rfl hHeld ?_
  refine wpT 13 rfl hHeld ?_
  refine wpAnyH_ready (rs := [14]) (by kernel_rfl) (by simp) ?_
  refine ready_store 14 67 (.tmp 40) (.tmp 38) rfl rfl rfl d 1 76 #[.map (some b),bv] #[.map (some b), .slice ao5 (rowsOf Dk.cellO qs ++ [Dk.cellO ⟨k,n,data⟩ (.slice ao3 data.length cap3)]).length cap5] (.slice ao5 (rowsOf Dk.cellO qs ++ [Dk.cellO ⟨k,n,data⟩ (.slice ao3 data.length cap3)]).length cap5) [.slice ao5 (rowsOf Dk.cellO qs ++ [Dk.cellO ⟨k,n,data⟩ (.slice ao3 data.length cap3)]).length cap5] ?x14a ?y14a rfl (by kernel_rfl) rfl hl5 (Nat.le_of_ble_eq_true rfl) rfl ?k14a
  case x14a=>kernel_rfl
  case y14a=>kernel_rfl
  intro w6 hl6 hg6
  have HL6:=Lib.hid hl6;have HG6:=Lib.hid hg6
  clear hl6 hg6 hl5
  refine⟨trivial,fun hHeld => ?_⟩
  refine wpAnyH_done (by kernel_rfl) ?_ _
  clear hHeld
  go_wp2
  go_end0
  exact⟨rfl,HE.out w2 w6 _ (H2.out.1.hold ⟨k,n,data⟩ HB3.out HO3.out _ HO5.out HG5.out HA5.out HL6.out HG6.out)⟩
 ·rw[if_pos (by rfl)]
  go_simp
  go_at_call 61
  refine(clone_any (.slice ao data.length cap) data w2.drew (Reads.below H2.out.2 (drawn w2 1)) (by omega)).mono ?_
  rintro e w3 ⟨v3,rfl,ho3,hb3⟩
  obtain⟨ao3,cap3,rfl⟩:=ho3.reads.shape
  have HO3:=Lib.hid ho3;have HB3:=Lib.hid (on (drawn w2 1) hb3)
  clear ho3 hb3
  refine hK.out _ _ trivial (fun hHeld => ?_)
  clear hK K
  refine wpT 9 rfl hHeld ?_
  have q3:w3.cell? ⟨d,1,none⟩=some bv:=(H2.out.1.lies.below HB3.out H2.out.1.lies.lt).cell 1 _ rfl
  refine wpAnyH_ready (rs := [4,10]) (by kernel_rfl) (by simp) ?_
  refine AllReadyH.cons rfl (fun K hK => ?_) (AllReadyH.cons rfl (fun K hK => ?_) AllReadyH.nil)
  ·rw[if_pos (by rfl)]
   go_simp
   refine hK.out _ _ trivial (fun hHeld => ?_)
   clear hK K
   clear q3
   refine wpAnyH_ready (rs := [10]) (by kernel_rfl) (by simp) ?_
   refine AllReadyH.cons rfl (fun K hK => ?_) AllReadyH.nil
   rw[if_pos (by rfl)]
   go_simp
   refine hK.out _ _ trivial (fun hHeld => ?_)
   clear hK K
   obtain⟨v5,w5,hrun,ho5,hg5,ha5⟩:=run_append_rows_at (P:=Tryz.prog) (w:=w3.alloc (.cells (Dk.cellO ⟨k,n,data⟩ (.slice ao3 data.length cap3)) 91)) 67 67 91 3 40 _ Tryz.underlying67 info_op rfl (by decide) 0 (rowsOf Dk.cellO qs) [Dk.cellO ⟨k,n,data⟩ (.slice ao3 data.length cap3)] bv _ ((HB.out w2 w3 H2.out.1 HB3.out).alloc _) (ReadsR.single (Lies.new w3 _ _)) (fun r hr=>by obtain rfl:=List.mem_singleton.1 hr;exact⟨rfl,(Dk.cellO_ok ⟨k,n,data⟩ (.slice ao3 data.length cap3)).2 rfl⟩) (by simp[rowsOf];omega) (by simp[rowsOf];omega) (Nat.zero_le _)
   obtain⟨ao5,cap5,rfl⟩:=OwnsR.shape ho5
   have ho5' : OwnsR w5 0 91 3 (.slice ao5 (rowsOf Dk.cellO qs ++ [Dk.cellO ⟨k,n,data⟩ (.slice ao3 data.length cap3)]).length cap5) (rowsOf Dk.cellO (qs ++ [(⟨k,n,data⟩, .slice ao3 data.length cap3)])):=by rw[show rowsOf Dk.cellO (qs ++ [(⟨k,n,data⟩, .slice ao3 data.length cap3)])=rowsOf Dk.cellO qs ++ [Dk.cellO ⟨k,n,data⟩ (.slice ao3 data.length cap3)] by simp[rowsOf]];exact ho5
   have HO5:=Lib.hid ho5'; have HG5:=Lib.hid hg5;have HA5:=Lib.hid ha5;have HRUN:=Lib.hid hrun
   have hl5:=HC.out w2 w3 _ w5 H2.out.1 HB3.out HG5.out
   clear ho5 ho5' hg5 ha5 hrun
   refine wpAnyH_ready (rs := [11]) (by kernel_rfl) (by simp) ?_
   refine ready_append 11 (.tmp 31) (.tmp 37) 67 rfl rfl rfl bv (.slice (some ⟨w3.heap.size,0,none⟩) 1 1) (.slice ao5 (rowsOf Dk.cellO qs ++ [Dk.cellO ⟨k,n,data⟩ (.slice ao3 data.length cap3)]).length cap5) w5 ?s11b ?x11b HRUN.out ⟨trivial,fun hHeld => ?_⟩
   case s11b=>kernel_rfl
   case x11b=>kernel_rfl
   refine wpT 12 rfl hHeld ?_
   refine wpT 13 rfl hHeld ?_
   refine wpAnyH_ready (rs := [14]) (by kernel_rfl) (by simp) ?_
   refine ready_store 14 67 (.tmp 40) (.tmp 38) rfl rfl rfl d 1 76 #[.map (some b),bv] #[.map (some b), .slice ao5 (rowsOf Dk.cellO qs ++ [Dk.cellO ⟨k,n,data⟩ (.slice ao3 data.length cap3)]).length cap5] (.slice ao5 (rowsOf Dk.cellO qs ++ [Dk.cellO ⟨k,n,data⟩ (.slice ao3 data.length cap3)]).length cap5) [.slice ao5 (rowsOf Dk.cellO qs ++ [Dk.cellO ⟨k,n,data⟩ (.slice ao3 data.length cap3)]).length cap5] ?x14b ?y14b rfl (by kernel_rfl) rfl hl5 (Nat.le_of_ble_eq_true rfl) rfl ?k14b
   case x14b=>kernel_rfl
   case y14b=>kernel_rfl
   intro w6 hl6 hg6
   have HL6:=Lib.hid hl6;have HG6:=Lib.hid hg6
   clear hl6 hg6 hl5
   refine⟨trivial,fun hHeld => ?_⟩
   refine wpAnyH_done (by kernel_rfl) ?_ _
   clear hHeld
   go_wp2
   go_end0
   exact⟨rfl,HE.out w2 w6 _ (H2.out.1.hold ⟨k,n,data⟩ HB3.out HO3.out _ HO5.out HG5.out HA5.out HL6.out HG6.out)⟩
  ·rw[if_pos (by rfl)]
   go_simp
   refine hK.out _ _ trivial (fun hHeld => ?_)
   clear hK K
   clear q3
   have q4:(w3.alloc (.cells #[.int .i64 k, .int .i64 n, .slice ao3 data.length cap3] 91)).cell? ⟨d,1,none⟩=some bv:=((H2.out.1.lies.below HB3.out H2.out.1.lies.lt).alloc _).cell 1 _ rfl
   refine wpAnyH_ready (rs := [4]) (by kernel_rfl) (by simp) ?_
   refine AllReadyH.cons rfl (fun K hK => ?_) AllReadyH.nil
   rw[if_pos (by rfl)]
   go_simp
   refine hK.out _ _ trivial (fun hHeld => ?_)
   clear hK K
   clear q4
   obtain⟨v5,w5,hrun,ho5,hg5,ha5⟩:=run_append_rows_at (P:=Tryz.prog) (w:=w3.alloc (.cells (Dk.cellO ⟨k,n,data⟩ (.slice ao3 data.length cap3)) 91)) 67 67 91 3 40 _ Tryz.underlying67 info_op rfl (by decide) 0 (rowsOf Dk.cellO qs) [Dk.cellO ⟨k,n,data⟩ (.slice ao3 data.length cap3)] bv _ ((HB.out w2 w3 H2.out.1 HB3.out).alloc _) (ReadsR.single (Lies.new w3 _ _)) (fun r hr=>by obtain rfl:=List.mem_singleton.1 hr;exact⟨rfl,(Dk.cellO_ok ⟨k,n,data⟩ (.slice ao3 data.length cap3)).2 rfl⟩) (by simp[rowsOf];omega) (by simp[rowsOf];omega) (Nat.zero_le _)
   obtain⟨ao5,cap5,rfl⟩:=OwnsR.shape ho5
   have ho5' : OwnsR w5 0 91 3 (.slice ao5 (rowsOf Dk.cellO qs ++ [Dk.cellO ⟨k,n,data⟩ (.slice ao3 data.length cap3)]).length cap5) (rowsOf Dk.cellO (qs ++ [(⟨k,n,data⟩, .slice ao3 data.length cap3)])):=by rw[show rowsOf Dk.cellO (qs ++ [(⟨k,n,data⟩, .slice ao3 data.length cap3)])=rowsOf Dk.cellO qs ++ [Dk.cellO ⟨k,n,data⟩ (.slice ao3 data.length cap3)] by simp[rowsOf]];exact ho5
   have HO5:=Lib.hid ho5'; have HG5:=Lib.hid hg5;have HA5:=Lib.hid ha5;have HRUN:=Lib.hid hrun
   have hl5:=HC.out w2 w3 _ w5 H2.out.1 HB3.out HG5.out
   clear ho5 ho5' hg5 ha5 hrun
   refine wpAnyH_ready (rs := [11]) (by kernel_rfl) (by simp) ?_
   refine ready_append 11 (.tmp 31) (.tmp 37) 67 rfl rfl rfl bv (.slice (some ⟨w3.heap.size,0,none⟩) 1 1) (.slice ao5 (rowsOf Dk.cellO qs ++ [Dk.cellO ⟨k,n,data⟩ (.slice ao3 data.length cap3)]).length cap5) w5 ?s11c ?x11c HRUN.out ⟨trivial,fun hHeld => ?_⟩
   case s11c=>kernel_rfl
   case x11c=>kernel_rfl
   refine wpT 12 rfl hHeld ?_
   refine wpT 13 rfl hHeld ?_
   refine wpAnyH_ready (rs := [14]) (by kernel_rfl) (by simp) ?_
   refine ready_store 14 67 (.tmp 40) (.tmp 38) rfl rfl rfl d 1 76 #[.map (some b),bv] #[.map (some b), .slice ao5 (rowsOf Dk.cellO qs ++ [Dk.cellO ⟨k,n,data⟩ (.slice ao3 data.length cap3)]).length cap5] (.slice ao5 (rowsOf Dk.cellO qs ++ [Dk.cellO ⟨k,n,data⟩ (.slice ao3 data.length cap3)]).length cap5) [.slice ao5 (rowsOf Dk.cellO qs ++ [Dk.cellO ⟨k,n,data⟩ (.slice ao3 data.length cap3)]).length cap5] ?x14c ?y14c rfl (by kernel_rfl) rfl hl5 (Nat.le_of_ble_eq_true rfl) rfl ?k14c
   case x14c=>kernel_rfl
   case y14c=>kernel_rfl
   intro w6 hl6 hg6
   have HL6:=Lib.hid hl6;have HG6:=Lib.hid hg6
   clear hl6 hg6 hl5
   refine⟨trivial,fun hHeld => ?_⟩
   refine wpAnyH_done (by kernel_rfl) ?_ _
   clear hHeld
   go_wp2
   go_end0
   exact⟨rfl,HE.out w2 w6 _ (H2.out.1.hold ⟨k,n,data⟩ HB3.out HO3.out _ HO5.out HG5.out HA5.out HL6.out HG6.out)⟩
theorem hold_any{S:Nat→Prop}{w:World}{d:Nat}{F:Dk.Files}{B:List Dk.Op}(h:DiskAt S w d F B)(k n:Int)(v:Value)(data:List UInt8)(hd:Reads w v data)(hl:data.length≤17592186044416)(hq:B.length≤1099511627776) :
 Calls Tryz.prog 71 #[.pointer (some ⟨d,0,none⟩), .int .i64 k, .int .i64 n,v] w (HeldAt S w d F (if 1≤n∧n≤4294967296 then B ++ [⟨k,n,data⟩]else B)):=by
 by_cases hn:1≤n∧n≤4294967296
 ·rw[if_pos hn]
  obtain⟨mv,bv,zs,qs,h1,rfl,rfl⟩:=h
  rw[List.length_map]at hq
  cases mv with
  | none=>exact hold_none h1 k n v data hd hl hq hn.1 hn.2
  | some b=>exact hold_some h1 k n v data hd hl hq hn.1 hn.2
 ·rw[if_neg hn]
  exact hold_out h k n v hn
end Go.Proofs.YtdkdjofnnnljjaaGreatDoor
