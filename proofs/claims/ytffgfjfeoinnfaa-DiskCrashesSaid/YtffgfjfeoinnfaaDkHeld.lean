/- (*Disk).hold, Make, Add, Drop. Written by a program. -/
import Derived.Test.YtffgfjfeoinnfaaDkHold
namespace Go.Proofs.Ytffgfjfeoinnfaa
open Go.RowKit

/-- What hold leaves. -/
def HeldAt (S : Nat → Prop) (w : World) (d : Nat) (F : Dk.Files) (B : List Dk.Op) (e : Ending) (w' : World) : Prop :=
  e = .returned (.tuple #[]) ∧ DiskAt (fun j => S j ∨ w.heap.size ≤ j) w' d F B ∧ Kp (fun j _ => ¬ S j) w w'

set_option maxRecDepth 4000 in
set_option maxHeartbeats 1600000 in
theorem hold_nil (k n : Int) (v : Value) (w : World) : Calls Try.prog 31 #[.pointer none, .int .i64 k, .int .i64 n, v] w (Says w (.tuple #[])) := by
  go_enter Try.func31, Try.ntmps31
  go_wp2
  go_end0
  exact ⟨rfl, rfl⟩
set_option maxRecDepth 4000 in
set_option maxHeartbeats 1600000 in
theorem hold_out {S : Nat → Prop} {w : World} {d : Nat} {F : Dk.Files} {B : List Dk.Op} (h : DiskAt S w d F B) (k n : Int) (v : Value) (hn : ¬ (1 ≤ n ∧ n ≤ 4294967296)) :
    Calls Try.prog 31 #[.pointer (some ⟨d, 0, none⟩), .int .i64 k, .int .i64 n, v] w (HeldAt S w d F B) := by
  have HE : Hid (HeldAt S w d F B (.returned (.tuple #[])) w) := ⟨rfl, h.imp fun j _ hS => .inl hS, Kp.refl _ _⟩
  clear h
  by_cases h1 : n < 1
  · go_enter Try.func31, Try.ntmps31
    go_wp2
    go_end0
    exact HE.out
  · have h2 : 4294967296 < n := by omega
    clear hn
    go_enter Try.func31, Try.ntmps31
    go_wp2
    go_end0
    exact HE.out

set_option maxRecDepth 4000 in
set_option maxHeartbeats 1600000 in
theorem hold_some {S : Nat → Prop} {w : World} {d : Nat} {b : Nat} {bv : Value} {zs : List Row} {qs : List (Dk.Op × Value)} (h : DiskP S w d (some b) bv zs qs) (k n : Int) (v : Value) (data : List UInt8) (hd : Reads w v data) (hl : data.length ≤ 17592186044416) (hq : qs.length ≤ 1099511627776) (hn : 1 ≤ n) (hn2 : n ≤ 4294967296) :
    Calls Try.prog 31 #[.pointer (some ⟨d, 0, none⟩), .int .i64 k, .int .i64 n, v] w (HeldAt S w d (Dk.onto (·.2) zs) (qs.map (·.1) ++ [⟨k, n, data⟩])) := by
  obtain ⟨ao, cap, rfl⟩ := hd.shape
  obtain ⟨S2, hS2⟩ : ∃ S2, S2 = S := ⟨_, rfl⟩
  have H2 : Hid (DiskP S2 w d (some b) bv zs qs ∧ Reads w (.slice ao data.length cap) data) := ⟨hS2 ▸ h, hd⟩
  have HB : Hid (∀ (u u3 : World), DiskP S2 u d (some b) bv zs qs → Below u.heap.size u u3 → OwnsR u3 0 53 3 bv (rowsOf Dk.cellO qs)) := fun u u3 hu hb => OwnsR.keep hu.row hb (Nat.le_refl _)
  have HC : Hid (∀ (u u3 : World) (o : Obj) (u5 : World), DiskP S2 u d (some b) bv zs qs → Below u.heap.size u u3 → (u3.alloc o).grownBy u5 bv.ownBlock → Lies u5 d 51 #[.map (some b), bv]) := fun u u3 o u5 hu hb hg =>
    ((hu.lies.below hb hu.lies.lt).alloc o).kept hg (((hu.lies.below hb hu.lies.lt).alloc o).not_row (by decide) ((OwnsR.keep hu.row hb (Nat.le_refl _)).alloc o))
  have HE : Hid (∀ (u w6 : World) (bv' : Value) {v3 : Value}, DiskP (fun j => S2 j ∨ w.heap.size ≤ j) w6 d (some b) bv' zs (qs ++ [(⟨k, n, data⟩, v3)]) ∧ Kp (fun j _ => ¬ S2 j) w w6 → DiskAt (fun j => S j ∨ w.heap.size ≤ j) w6 d (Dk.onto (·.2) zs) (qs.map (·.1) ++ [⟨k, n, data⟩]) ∧ Kp (fun j _ => ¬ S j) w w6) := fun u w6 bv' v3 hh => by
    subst hS2
    exact ⟨⟨_, bv', zs, _, hh.1, rfl, by simp⟩, hh.2⟩
  have c0 : w.cell? ⟨d, 0, none⟩ = some (.map (some b)) := h.lies.cell 0 _ rfl
  have c1 : w.cell? ⟨d, 1, none⟩ = some bv := h.lies.cell 1 _ rfl
  clear h hd hS2
  have eqlSome : ∀ (x : Nat) (u : World), (binOp .eql 49 (.map (some x)) (.map none)).run Try.prog u = .ok (.bool false) u := fun _ _ => by kernel_rfl
  have eqlNil : ∀ u : World, (binOp .eql 49 (.map none) (.map none)).run Try.prog u = .ok (.bool true) u := fun _ => by kernel_rfl
  go_enter Try.func31, Try.ntmps31
  go_wp2
  refine wp_region_held_drew (S := fun _ => True) (by kernel_rfl) (trivial) (fun hHeld => ?_)
  refine wpAnyH_take (i := 0) (v := ?v0) rfl (by kernel_rfl) (by kernel_rfl) (by kernel_rfl) (fun _ _ _ h => h) (Or.inl ⟨by rfl, ?hy0⟩) hHeld ?rest0
  case hy0 => (intro W hSw; go_simp; (try with_reducible rfl))
  refine wpAnyH_take (i := 1) (v := ?v1) rfl (by kernel_rfl) (by kernel_rfl) (by kernel_rfl) (fun _ _ _ h => h) (Or.inl ⟨by rfl, ?hy1⟩) hHeld ?rest1
  case hy1 => (intro W hSw; go_simp; (try with_reducible rfl))
  refine wpAnyH_take (i := 2) (v := ?v2) rfl (by kernel_rfl) (by kernel_rfl) (by kernel_rfl) (fun _ _ _ h => h) (Or.inl ⟨by rfl, ?hy2⟩) hHeld ?rest2
  case hy2 => (intro W hSw; go_simp; (try with_reducible rfl))
  refine wpAnyH_take (i := 3) (v := ?v3) rfl (by kernel_rfl) (by kernel_rfl) (by kernel_rfl) (fun _ _ _ h => h) (Or.inl ⟨by rfl, ?hy3⟩) hHeld ?rest3
  case hy3 => (intro W hSw; go_simp; (try with_reducible rfl))
  refine wpAnyH_take (i := 5) (v := ?v5) rfl (by kernel_rfl) (by kernel_rfl) (by kernel_rfl) (fun _ _ _ h => h) (Or.inl ⟨by rfl, ?hy5⟩) hHeld ?rest5
  case hy5 => (intro W hSw; go_simp; (try with_reducible rfl))
  refine wpAnyH_take (i := 6) (v := ?v6) rfl (by kernel_rfl) (by kernel_rfl) (by kernel_rfl) (fun _ _ _ h => h) (Or.inl ⟨by rfl, ?hy6⟩) hHeld ?rest6
  case hy6 => (intro W hSw; go_simp; (try with_reducible rfl))
  refine wpAnyH_take (i := 7) (v := ?v7) rfl (by kernel_rfl) (by kernel_rfl) (by kernel_rfl) (fun _ _ _ h => h) (Or.inl ⟨by rfl, ?hy7⟩) hHeld ?rest7
  case hy7 => (intro W hSw; go_simp; (try with_reducible rfl))
  refine wpAnyH_ready (rs := [4, 8]) (by kernel_rfl) (by simp) ?_
  refine AllReadyH.cons rfl (fun K hK => ?_) (AllReadyH.cons rfl (fun K hK => ?_) AllReadyH.nil)
  · rw [if_pos (by rfl)]
    go_simp
    refine hK.out _ _ trivial (fun hHeld => ?_)
    clear hK K
    refine wpAnyH_ready (rs := [8]) (by kernel_rfl) (by simp) ?_
    refine AllReadyH.cons rfl (fun K hK => ?_) AllReadyH.nil
    rw [if_pos (by rfl)]
    go_simp
    go_at_call 27
    refine (clone_any (.slice ao data.length cap) data w.drew (Reads.below H2.out.2 (drawn w 1)) (by omega)).mono ?_
    rintro e w3 ⟨v3, rfl, ho3, hb3⟩
    obtain ⟨ao3, cap3, rfl⟩ := ho3.reads.shape
    have HO3 := Lib.hid ho3; have HB3 := Lib.hid (on (drawn w 1) hb3)
    clear ho3 hb3
    refine hK.out _ _ trivial (fun hHeld => ?_)
    clear hK K
    refine wpAnyH_take (i := 9) (v := ?v9a) rfl (by kernel_rfl) (by kernel_rfl) (by kernel_rfl) (fun _ _ _ h => h) (Or.inl ⟨by rfl, ?hy9a⟩) hHeld ?rest9a
    case hy9a => (intro W hSw; go_simp; (try with_reducible rfl))
    refine wpAnyH_ready (rs := [10]) (by kernel_rfl) (by simp) ?_
    refine AllReadyH.cons rfl (fun K hK => ?_) AllReadyH.nil
    rw [if_pos (by rfl)]
    go_simp
    refine hK.out _ _ trivial (fun hHeld => ?_)
    clear hK K
    obtain ⟨v5, w5, hrun, ho5, hg5, ha5⟩ := run_append_rows_at (P := Try.prog) (w := w3.alloc (.cells (Dk.cellO ⟨k, n, data⟩ (.slice ao3 data.length cap3)) 53)) 29 29 53 3 40 _ Try.underlying29 info_op rfl (by decide) 0 (rowsOf Dk.cellO qs) [Dk.cellO ⟨k, n, data⟩ (.slice ao3 data.length cap3)] bv _ ((HB.out w w3 H2.out.1 HB3.out).alloc _) (ReadsR.single (Lies.new w3 _ _)) (fun r hr => by obtain rfl := List.mem_singleton.1 hr; exact ⟨rfl, (Dk.cellO_ok ⟨k, n, data⟩ (.slice ao3 data.length cap3)).2 rfl⟩) (by simp [rowsOf]; omega) (by simp [rowsOf]; omega) (Nat.zero_le _)
    obtain ⟨ao5, cap5, rfl⟩ := OwnsR.shape ho5
    have ho5' : OwnsR w5 0 53 3 (.slice ao5 (rowsOf Dk.cellO qs ++ [Dk.cellO ⟨k, n, data⟩ (.slice ao3 data.length cap3)]).length cap5) (rowsOf Dk.cellO (qs ++ [(⟨k, n, data⟩, .slice ao3 data.length cap3)])) := by rw [show rowsOf Dk.cellO (qs ++ [(⟨k, n, data⟩, .slice ao3 data.length cap3)]) = rowsOf Dk.cellO qs ++ [Dk.cellO ⟨k, n, data⟩ (.slice ao3 data.length cap3)] by simp [rowsOf]]; exact ho5
    have HO5 := Lib.hid ho5'; have HG5 := Lib.hid hg5; have HA5 := Lib.hid ha5; have HRUN := Lib.hid hrun
    have hl5 := HC.out w w3 _ w5 H2.out.1 HB3.out HG5.out
    clear ho5 ho5' hg5 ha5 hrun
    refine wpAnyH_ready (rs := [11]) (by kernel_rfl) (by simp) ?_
    refine ready_append 11 (.tmp 31) (.tmp 37) 29 rfl rfl rfl bv (.slice (some ⟨w3.heap.size, 0, none⟩) 1 1) (.slice ao5 (rowsOf Dk.cellO qs ++ [Dk.cellO ⟨k, n, data⟩ (.slice ao3 data.length cap3)]).length cap5) w5 ?s11a ?x11a HRUN.out ⟨trivial, fun hHeld => ?_⟩
    case s11a => kernel_rfl
    case x11a => kernel_rfl
    refine wpAnyH_take (i := 12) (v := ?v12a) rfl (by kernel_rfl) (by kernel_rfl) (by kernel_rfl) (fun _ _ _ h => h) (Or.inl ⟨by rfl, ?hy12a⟩) hHeld ?rest12a
    case hy12a => (intro W hSw; go_simp; (try with_reducible rfl))
    refine wpAnyH_take (i := 13) (v := ?v13a) rfl (by kernel_rfl) (by kernel_rfl) (by kernel_rfl) (fun _ _ _ h => h) (Or.inl ⟨by rfl, ?hy13a⟩) hHeld ?rest13a
    case hy13a => (intro W hSw; go_simp; (try with_reducible rfl))
    refine wpAnyH_ready (rs := [14]) (by kernel_rfl) (by simp) ?_
    refine ready_store 14 29 (.tmp 40) (.tmp 38) rfl rfl rfl d 1 51 #[.map (some b), bv] #[.map (some b), .slice ao5 (rowsOf Dk.cellO qs ++ [Dk.cellO ⟨k, n, data⟩ (.slice ao3 data.length cap3)]).length cap5] (.slice ao5 (rowsOf Dk.cellO qs ++ [Dk.cellO ⟨k, n, data⟩ (.slice ao3 data.length cap3)]).length cap5) [.slice ao5 (rowsOf Dk.cellO qs ++ [Dk.cellO ⟨k, n, data⟩ (.slice ao3 data.length cap3)]).length cap5] ?x14a ?y14a rfl (by kernel_rfl) rfl hl5 (Nat.le_of_ble_eq_true rfl) rfl ?k14a
    case x14a => kernel_rfl
    case y14a => kernel_rfl
    intro w6 hl6 hg6
    have HL6 := Lib.hid hl6; have HG6 := Lib.hid hg6
    clear hl6 hg6 hl5
    refine ⟨trivial, fun hHeld => ?_⟩
    refine wpAnyH_done (by kernel_rfl) ?_ _
    clear hHeld
    go_wp2
    go_end0
    exact ⟨rfl, HE.out w w6 _ (H2.out.1.hold ⟨k, n, data⟩ HB3.out HO3.out _ HO5.out HG5.out HA5.out HL6.out HG6.out)⟩
  · rw [if_pos (by rfl)]
    go_simp
    go_at_call 27
    refine (clone_any (.slice ao data.length cap) data w.drew (Reads.below H2.out.2 (drawn w 1)) (by omega)).mono ?_
    rintro e w3 ⟨v3, rfl, ho3, hb3⟩
    obtain ⟨ao3, cap3, rfl⟩ := ho3.reads.shape
    have HO3 := Lib.hid ho3; have HB3 := Lib.hid (on (drawn w 1) hb3)
    clear ho3 hb3
    refine hK.out _ _ trivial (fun hHeld => ?_)
    clear hK K
    refine wpAnyH_take (i := 9) (v := ?v9b) rfl (by kernel_rfl) (by kernel_rfl) (by kernel_rfl) (fun _ _ _ h => h) (Or.inl ⟨by rfl, ?hy9b⟩) hHeld ?rest9b
    case hy9b => (intro W hSw; go_simp; (try with_reducible rfl))
    have q3 : w3.cell? ⟨d, 1, none⟩ = some bv := (H2.out.1.lies.below HB3.out H2.out.1.lies.lt).cell 1 _ rfl
    refine wpAnyH_ready (rs := [4, 10]) (by kernel_rfl) (by simp) ?_
    refine AllReadyH.cons rfl (fun K hK => ?_) (AllReadyH.cons rfl (fun K hK => ?_) AllReadyH.nil)
    · rw [if_pos (by rfl)]
      go_simp
      refine hK.out _ _ trivial (fun hHeld => ?_)
      clear hK K
      clear q3
      refine wpAnyH_ready (rs := [10]) (by kernel_rfl) (by simp) ?_
      refine AllReadyH.cons rfl (fun K hK => ?_) AllReadyH.nil
      rw [if_pos (by rfl)]
      go_simp
      refine hK.out _ _ trivial (fun hHeld => ?_)
      clear hK K
      obtain ⟨v5, w5, hrun, ho5, hg5, ha5⟩ := run_append_rows_at (P := Try.prog) (w := w3.alloc (.cells (Dk.cellO ⟨k, n, data⟩ (.slice ao3 data.length cap3)) 53)) 29 29 53 3 40 _ Try.underlying29 info_op rfl (by decide) 0 (rowsOf Dk.cellO qs) [Dk.cellO ⟨k, n, data⟩ (.slice ao3 data.length cap3)] bv _ ((HB.out w w3 H2.out.1 HB3.out).alloc _) (ReadsR.single (Lies.new w3 _ _)) (fun r hr => by obtain rfl := List.mem_singleton.1 hr; exact ⟨rfl, (Dk.cellO_ok ⟨k, n, data⟩ (.slice ao3 data.length cap3)).2 rfl⟩) (by simp [rowsOf]; omega) (by simp [rowsOf]; omega) (Nat.zero_le _)
      obtain ⟨ao5, cap5, rfl⟩ := OwnsR.shape ho5
      have ho5' : OwnsR w5 0 53 3 (.slice ao5 (rowsOf Dk.cellO qs ++ [Dk.cellO ⟨k, n, data⟩ (.slice ao3 data.length cap3)]).length cap5) (rowsOf Dk.cellO (qs ++ [(⟨k, n, data⟩, .slice ao3 data.length cap3)])) := by rw [show rowsOf Dk.cellO (qs ++ [(⟨k, n, data⟩, .slice ao3 data.length cap3)]) = rowsOf Dk.cellO qs ++ [Dk.cellO ⟨k, n, data⟩ (.slice ao3 data.length cap3)] by simp [rowsOf]]; exact ho5
      have HO5 := Lib.hid ho5'; have HG5 := Lib.hid hg5; have HA5 := Lib.hid ha5; have HRUN := Lib.hid hrun
      have hl5 := HC.out w w3 _ w5 H2.out.1 HB3.out HG5.out
      clear ho5 ho5' hg5 ha5 hrun
      refine wpAnyH_ready (rs := [11]) (by kernel_rfl) (by simp) ?_
      refine ready_append 11 (.tmp 31) (.tmp 37) 29 rfl rfl rfl bv (.slice (some ⟨w3.heap.size, 0, none⟩) 1 1) (.slice ao5 (rowsOf Dk.cellO qs ++ [Dk.cellO ⟨k, n, data⟩ (.slice ao3 data.length cap3)]).length cap5) w5 ?s11b ?x11b HRUN.out ⟨trivial, fun hHeld => ?_⟩
      case s11b => kernel_rfl
      case x11b => kernel_rfl
      refine wpAnyH_take (i := 12) (v := ?v12b) rfl (by kernel_rfl) (by kernel_rfl) (by kernel_rfl) (fun _ _ _ h => h) (Or.inl ⟨by rfl, ?hy12b⟩) hHeld ?rest12b
      case hy12b => (intro W hSw; go_simp; (try with_reducible rfl))
      refine wpAnyH_take (i := 13) (v := ?v13b) rfl (by kernel_rfl) (by kernel_rfl) (by kernel_rfl) (fun _ _ _ h => h) (Or.inl ⟨by rfl, ?hy13b⟩) hHeld ?rest13b
      case hy13b => (intro W hSw; go_simp; (try with_reducible rfl))
      refine wpAnyH_ready (rs := [14]) (by kernel_rfl) (by simp) ?_
      refine ready_store 14 29 (.tmp 40) (.tmp 38) rfl rfl rfl d 1 51 #[.map (some b), bv] #[.map (some b), .slice ao5 (rowsOf Dk.cellO qs ++ [Dk.cellO ⟨k, n, data⟩ (.slice ao3 data.length cap3)]).length cap5] (.slice ao5 (rowsOf Dk.cellO qs ++ [Dk.cellO ⟨k, n, data⟩ (.slice ao3 data.length cap3)]).length cap5) [.slice ao5 (rowsOf Dk.cellO qs ++ [Dk.cellO ⟨k, n, data⟩ (.slice ao3 data.length cap3)]).length cap5] ?x14b ?y14b rfl (by kernel_rfl) rfl hl5 (Nat.le_of_ble_eq_true rfl) rfl ?k14b
      case x14b => kernel_rfl
      case y14b => kernel_rfl
      intro w6 hl6 hg6
      have HL6 := Lib.hid hl6; have HG6 := Lib.hid hg6
      clear hl6 hg6 hl5
      refine ⟨trivial, fun hHeld => ?_⟩
      refine wpAnyH_done (by kernel_rfl) ?_ _
      clear hHeld
      go_wp2
      go_end0
      exact ⟨rfl, HE.out w w6 _ (H2.out.1.hold ⟨k, n, data⟩ HB3.out HO3.out _ HO5.out HG5.out HA5.out HL6.out HG6.out)⟩
    · rw [if_pos (by rfl)]
      go_simp
      refine hK.out _ _ trivial (fun hHeld => ?_)
      clear hK K
      clear q3
      have q4 : (w3.alloc (.cells #[.int .i64 k, .int .i64 n, .slice ao3 data.length cap3] 53)).cell? ⟨d, 1, none⟩ = some bv := ((H2.out.1.lies.below HB3.out H2.out.1.lies.lt).alloc _).cell 1 _ rfl
      refine wpAnyH_ready (rs := [4]) (by kernel_rfl) (by simp) ?_
      refine AllReadyH.cons rfl (fun K hK => ?_) AllReadyH.nil
      rw [if_pos (by rfl)]
      go_simp
      refine hK.out _ _ trivial (fun hHeld => ?_)
      clear hK K
      clear q4
      obtain ⟨v5, w5, hrun, ho5, hg5, ha5⟩ := run_append_rows_at (P := Try.prog) (w := w3.alloc (.cells (Dk.cellO ⟨k, n, data⟩ (.slice ao3 data.length cap3)) 53)) 29 29 53 3 40 _ Try.underlying29 info_op rfl (by decide) 0 (rowsOf Dk.cellO qs) [Dk.cellO ⟨k, n, data⟩ (.slice ao3 data.length cap3)] bv _ ((HB.out w w3 H2.out.1 HB3.out).alloc _) (ReadsR.single (Lies.new w3 _ _)) (fun r hr => by obtain rfl := List.mem_singleton.1 hr; exact ⟨rfl, (Dk.cellO_ok ⟨k, n, data⟩ (.slice ao3 data.length cap3)).2 rfl⟩) (by simp [rowsOf]; omega) (by simp [rowsOf]; omega) (Nat.zero_le _)
      obtain ⟨ao5, cap5, rfl⟩ := OwnsR.shape ho5
      have ho5' : OwnsR w5 0 53 3 (.slice ao5 (rowsOf Dk.cellO qs ++ [Dk.cellO ⟨k, n, data⟩ (.slice ao3 data.length cap3)]).length cap5) (rowsOf Dk.cellO (qs ++ [(⟨k, n, data⟩, .slice ao3 data.length cap3)])) := by rw [show rowsOf Dk.cellO (qs ++ [(⟨k, n, data⟩, .slice ao3 data.length cap3)]) = rowsOf Dk.cellO qs ++ [Dk.cellO ⟨k, n, data⟩ (.slice ao3 data.length cap3)] by simp [rowsOf]]; exact ho5
      have HO5 := Lib.hid ho5'; have HG5 := Lib.hid hg5; have HA5 := Lib.hid ha5; have HRUN := Lib.hid hrun
      have hl5 := HC.out w w3 _ w5 H2.out.1 HB3.out HG5.out
      clear ho5 ho5' hg5 ha5 hrun
      refine wpAnyH_ready (rs := [11]) (by kernel_rfl) (by simp) ?_
      refine ready_append 11 (.tmp 31) (.tmp 37) 29 rfl rfl rfl bv (.slice (some ⟨w3.heap.size, 0, none⟩) 1 1) (.slice ao5 (rowsOf Dk.cellO qs ++ [Dk.cellO ⟨k, n, data⟩ (.slice ao3 data.length cap3)]).length cap5) w5 ?s11c ?x11c HRUN.out ⟨trivial, fun hHeld => ?_⟩
      case s11c => kernel_rfl
      case x11c => kernel_rfl
      refine wpAnyH_take (i := 12) (v := ?v12c) rfl (by kernel_rfl) (by kernel_rfl) (by kernel_rfl) (fun _ _ _ h => h) (Or.inl ⟨by rfl, ?hy12c⟩) hHeld ?rest12c
      case hy12c => (intro W hSw; go_simp; (try with_reducible rfl))
      refine wpAnyH_take (i := 13) (v := ?v13c) rfl (by kernel_rfl) (by kernel_rfl) (by kernel_rfl) (fun _ _ _ h => h) (Or.inl ⟨by rfl, ?hy13c⟩) hHeld ?rest13c
      case hy13c => (intro W hSw; go_simp; (try with_reducible rfl))
      refine wpAnyH_ready (rs := [14]) (by kernel_rfl) (by simp) ?_
      refine ready_store 14 29 (.tmp 40) (.tmp 38) rfl rfl rfl d 1 51 #[.map (some b), bv] #[.map (some b), .slice ao5 (rowsOf Dk.cellO qs ++ [Dk.cellO ⟨k, n, data⟩ (.slice ao3 data.length cap3)]).length cap5] (.slice ao5 (rowsOf Dk.cellO qs ++ [Dk.cellO ⟨k, n, data⟩ (.slice ao3 data.length cap3)]).length cap5) [.slice ao5 (rowsOf Dk.cellO qs ++ [Dk.cellO ⟨k, n, data⟩ (.slice ao3 data.length cap3)]).length cap5] ?x14c ?y14c rfl (by kernel_rfl) rfl hl5 (Nat.le_of_ble_eq_true rfl) rfl ?k14c
      case x14c => kernel_rfl
      case y14c => kernel_rfl
      intro w6 hl6 hg6
      have HL6 := Lib.hid hl6; have HG6 := Lib.hid hg6
      clear hl6 hg6 hl5
      refine ⟨trivial, fun hHeld => ?_⟩
      refine wpAnyH_done (by kernel_rfl) ?_ _
      clear hHeld
      go_wp2
      go_end0
      exact ⟨rfl, HE.out w w6 _ (H2.out.1.hold ⟨k, n, data⟩ HB3.out HO3.out _ HO5.out HG5.out HA5.out HL6.out HG6.out)⟩


set_option maxRecDepth 4000 in
set_option maxHeartbeats 1600000 in
theorem hold_none {S : Nat → Prop} {w : World} {d : Nat}  {bv : Value} {zs : List Row} {qs : List (Dk.Op × Value)} (h : DiskP S w d none bv zs qs) (k n : Int) (v : Value) (data : List UInt8) (hd : Reads w v data) (hl : data.length ≤ 17592186044416) (hq : qs.length ≤ 1099511627776) (hn : 1 ≤ n) (hn2 : n ≤ 4294967296) :
    Calls Try.prog 31 #[.pointer (some ⟨d, 0, none⟩), .int .i64 k, .int .i64 n, v] w (HeldAt S w d (Dk.onto (·.2) zs) (qs.map (·.1) ++ [⟨k, n, data⟩])) := by
  obtain ⟨ao, cap, rfl⟩ := hd.shape
  have hzq : zs = [] ∧ qs = [] := by
    rcases h.map with ⟨_, h1, h2⟩ | ⟨b, e, _⟩
    · exact ⟨h1, h2⟩
    · cases e
  have HZ := Lib.hid hzq
  clear hzq
  have hmm := @run_makeMap Try.prog
  obtain ⟨w1, hw1⟩ : ∃ w1, w.alloc (.map #[] 0) = w1 := ⟨_, rfl⟩
  have hb1 : Below w.heap.size w w1 := by rw [← hw1]; exact (Below.refl _ w).alloc (Nat.le_refl _) _
  have hf1 : FilesIn w1 w.heap.size [] := by rw [← hw1]; exact FilesIn.new w
  have HL1 : Hid (Lies w1 d 51 #[.map none, bv]) := h.lies.below hb1 h.lies.lt
  have HB1 := Lib.hid hb1; have HF1 := Lib.hid hf1; have HP := Lib.hid h; have HD := Lib.hid hd
  have c0 : w.cell? ⟨d, 0, none⟩ = some (.map none) := h.lies.cell 0 _ rfl
  have q1 : w1.cell? ⟨d, 1, none⟩ = some bv := HL1.out.cell 1 _ rfl
  clear h hd hb1 hf1
  obtain ⟨S2, hS2⟩ : ∃ S2 : Nat → Prop, S2 = fun j => S j ∨ w.heap.size ≤ j := ⟨_, rfl⟩
  have HS2 := Lib.hid hS2
  clear hS2
  have eqlSome : ∀ (x : Nat) (u : World), (binOp .eql 49 (.map (some x)) (.map none)).run Try.prog u = .ok (.bool false) u := fun _ _ => by kernel_rfl
  have eqlNil : ∀ u : World, (binOp .eql 49 (.map none) (.map none)).run Try.prog u = .ok (.bool true) u := fun _ => by kernel_rfl
  go_enter Try.func31, Try.ntmps31
  go_wp2_with (refine store_part rfl 49 _ _ rfl d 0 51 _ #[.map (some w.heap.size), bv] (.map (some w.heap.size)) [.map (some w.heap.size)] rfl rfl rfl (by kernel_rfl) rfl HL1.out (Nat.le_of_ble_eq_true rfl) rfl ?_; intro w2 hl2 hg2)
  obtain ⟨b, hb⟩ : ∃ b, w.heap.size = b := ⟨_, rfl⟩
  have HK : Hid (Kp (fun j _ => ¬ S j) w w2) := (Kp.all HB1.out).trans (Kp.of_grown hg2 fun j _ e _ hq => hq (by simp only [Option.some.injEq] at e; exact e ▸ HP.out.here))
  have hH2 : DiskP S2 w2 d (some b) bv zs qs := by
    rw [HS2.out, ← hb, HZ.out.1, HZ.out.2]
    have hdl := HP.out.lies.lt
    refine ⟨hl2, .inl HP.out.here, .inr ⟨_, rfl, .inr (Nat.le_refl _), HF1.out.stays (hg2.block _ HF1.out.map.lt (by simp; omega)) (fun k hk => by obtain ⟨z, hz, _⟩ := hk; simp at hz)⟩, fun k hk => by obtain ⟨z, hz, _⟩ := hk; simp at hz, ?_, fun g e => .inl (HP.out.rowS g e), fun q hq => by simp at hq⟩
    have h0 := HP.out.row
    rw [HZ.out.2] at h0
    refine h0.stays fun g e => ?_
    obtain ⟨cs, hc, _⟩ := h0.cells e
    have hne : g ≠ d := fun e' => by subst e'; rw [show w.heap[g]? = _ from HP.out.lies] at hc; cases hc
    have hg1 := HB1.out.block g (lt_of_obj hc)
    rw [hg2.block g (by have := HB1.out.size; have := lt_of_obj hc; omega) (by simpa using hne), hg1]
  have H2 : Hid (DiskP S2 w2 d (some b) bv zs qs ∧ Reads w2 (.slice ao data.length cap) data) := ⟨hH2, (HD.out.below HB1.out).kept_of HL1.out (fun j x => by
    match j with
    | 0 => simp
    | 1 =>
      obtain ⟨ao', cap', e⟩ := HP.out.row.shape
      simp [e]
    | j + 2 => simp) hg2⟩
  have HSZ : Hid (w.heap.size ≤ w2.heap.size) := Nat.le_trans HB1.out.size hg2.size
  have c1 : w2.cell? ⟨d, 1, none⟩ = some bv := hH2.lies.cell 1 _ rfl
  clear hH2 hl2 hg2 q1 hb c0 hmm
  have HB : Hid (∀ (u u3 : World), DiskP S2 u d (some b) bv zs qs → Below u.heap.size u u3 → OwnsR u3 0 53 3 bv (rowsOf Dk.cellO qs)) := fun u u3 hu hb => OwnsR.keep hu.row hb (Nat.le_refl _)
  have HC : Hid (∀ (u u3 : World) (o : Obj) (u5 : World), DiskP S2 u d (some b) bv zs qs → Below u.heap.size u u3 → (u3.alloc o).grownBy u5 bv.ownBlock → Lies u5 d 51 #[.map (some b), bv]) := fun u u3 o u5 hu hb hg =>
    ((hu.lies.below hb hu.lies.lt).alloc o).kept hg (((hu.lies.below hb hu.lies.lt).alloc o).not_row (by decide) ((OwnsR.keep hu.row hb (Nat.le_refl _)).alloc o))
  have HE : Hid (∀ (u w6 : World) (bv' : Value) {v3 : Value}, DiskP (fun j => S2 j ∨ w2.heap.size ≤ j) w6 d (some b) bv' zs (qs ++ [(⟨k, n, data⟩, v3)]) ∧ Kp (fun j _ => ¬ S2 j) w2 w6 → DiskAt (fun j => S j ∨ w.heap.size ≤ j) w6 d (Dk.onto (·.2) zs) (qs.map (·.1) ++ [⟨k, n, data⟩]) ∧ Kp (fun j _ => ¬ S j) w w6) := fun u w6 bv' v3 hh => by
    obtain ⟨hh1, hh2⟩ := hh
    refine ⟨⟨_, bv', zs, _, hh1.imp fun j _ hj => ?_, rfl, by simp⟩, HK.out.then hh2 fun g o e hS => ?_⟩
    · rw [HS2.out] at hj
      have := HSZ.out
      rcases hj with (hj | hj) | hj
      · exact .inl hj
      · exact .inr hj
      · right; omega
    · rw [HS2.out]
      rintro (h | h)
      · exact hS h
      · have := lt_of_obj e; omega
  refine wp_region_held_drew (S := fun _ => True) (by kernel_rfl) (trivial) (fun hHeld => ?_)
  refine wpAnyH_take (i := 0) (v := ?v0) rfl (by kernel_rfl) (by kernel_rfl) (by kernel_rfl) (fun _ _ _ h => h) (Or.inl ⟨by rfl, ?hy0⟩) hHeld ?rest0
  case hy0 => (intro W hSw; go_simp; (try with_reducible rfl))
  refine wpAnyH_take (i := 1) (v := ?v1) rfl (by kernel_rfl) (by kernel_rfl) (by kernel_rfl) (fun _ _ _ h => h) (Or.inl ⟨by rfl, ?hy1⟩) hHeld ?rest1
  case hy1 => (intro W hSw; go_simp; (try with_reducible rfl))
  refine wpAnyH_take (i := 2) (v := ?v2) rfl (by kernel_rfl) (by kernel_rfl) (by kernel_rfl) (fun _ _ _ h => h) (Or.inl ⟨by rfl, ?hy2⟩) hHeld ?rest2
  case hy2 => (intro W hSw; go_simp; (try with_reducible rfl))
  refine wpAnyH_take (i := 3) (v := ?v3) rfl (by kernel_rfl) (by kernel_rfl) (by kernel_rfl) (fun _ _ _ h => h) (Or.inl ⟨by rfl, ?hy3⟩) hHeld ?rest3
  case hy3 => (intro W hSw; go_simp; (try with_reducible rfl))
  refine wpAnyH_take (i := 5) (v := ?v5) rfl (by kernel_rfl) (by kernel_rfl) (by kernel_rfl) (fun _ _ _ h => h) (Or.inl ⟨by rfl, ?hy5⟩) hHeld ?rest5
  case hy5 => (intro W hSw; go_simp; (try with_reducible rfl))
  refine wpAnyH_take (i := 6) (v := ?v6) rfl (by kernel_rfl) (by kernel_rfl) (by kernel_rfl) (fun _ _ _ h => h) (Or.inl ⟨by rfl, ?hy6⟩) hHeld ?rest6
  case hy6 => (intro W hSw; go_simp; (try with_reducible rfl))
  refine wpAnyH_take (i := 7) (v := ?v7) rfl (by kernel_rfl) (by kernel_rfl) (by kernel_rfl) (fun _ _ _ h => h) (Or.inl ⟨by rfl, ?hy7⟩) hHeld ?rest7
  case hy7 => (intro W hSw; go_simp; (try with_reducible rfl))
  refine wpAnyH_ready (rs := [4, 8]) (by kernel_rfl) (by simp) ?_
  refine AllReadyH.cons rfl (fun K hK => ?_) (AllReadyH.cons rfl (fun K hK => ?_) AllReadyH.nil)
  · rw [if_pos (by rfl)]
    go_simp
    refine hK.out _ _ trivial (fun hHeld => ?_)
    clear hK K
    refine wpAnyH_ready (rs := [8]) (by kernel_rfl) (by simp) ?_
    refine AllReadyH.cons rfl (fun K hK => ?_) AllReadyH.nil
    rw [if_pos (by rfl)]
    go_simp
    go_at_call 27
    refine (clone_any (.slice ao data.length cap) data w2.drew (Reads.below H2.out.2 (drawn w2 1)) (by omega)).mono ?_
    rintro e w3 ⟨v3, rfl, ho3, hb3⟩
    obtain ⟨ao3, cap3, rfl⟩ := ho3.reads.shape
    have HO3 := Lib.hid ho3; have HB3 := Lib.hid (on (drawn w2 1) hb3)
    clear ho3 hb3
    refine hK.out _ _ trivial (fun hHeld => ?_)
    clear hK K
    refine wpAnyH_take (i := 9) (v := ?v9a) rfl (by kernel_rfl) (by kernel_rfl) (by kernel_rfl) (fun _ _ _ h => h) (Or.inl ⟨by rfl, ?hy9a⟩) hHeld ?rest9a
    case hy9a => (intro W hSw; go_simp; (try with_reducible rfl))
    refine wpAnyH_ready (rs := [10]) (by kernel_rfl) (by simp) ?_
    refine AllReadyH.cons rfl (fun K hK => ?_) AllReadyH.nil
    rw [if_pos (by rfl)]
    go_simp
    refine hK.out _ _ trivial (fun hHeld => ?_)
    clear hK K
    obtain ⟨v5, w5, hrun, ho5, hg5, ha5⟩ := run_append_rows_at (P := Try.prog) (w := w3.alloc (.cells (Dk.cellO ⟨k, n, data⟩ (.slice ao3 data.length cap3)) 53)) 29 29 53 3 40 _ Try.underlying29 info_op rfl (by decide) 0 (rowsOf Dk.cellO qs) [Dk.cellO ⟨k, n, data⟩ (.slice ao3 data.length cap3)] bv _ ((HB.out w2 w3 H2.out.1 HB3.out).alloc _) (ReadsR.single (Lies.new w3 _ _)) (fun r hr => by obtain rfl := List.mem_singleton.1 hr; exact ⟨rfl, (Dk.cellO_ok ⟨k, n, data⟩ (.slice ao3 data.length cap3)).2 rfl⟩) (by simp [rowsOf]; omega) (by simp [rowsOf]; omega) (Nat.zero_le _)
    obtain ⟨ao5, cap5, rfl⟩ := OwnsR.shape ho5
    have ho5' : OwnsR w5 0 53 3 (.slice ao5 (rowsOf Dk.cellO qs ++ [Dk.cellO ⟨k, n, data⟩ (.slice ao3 data.length cap3)]).length cap5) (rowsOf Dk.cellO (qs ++ [(⟨k, n, data⟩, .slice ao3 data.length cap3)])) := by rw [show rowsOf Dk.cellO (qs ++ [(⟨k, n, data⟩, .slice ao3 data.length cap3)]) = rowsOf Dk.cellO qs ++ [Dk.cellO ⟨k, n, data⟩ (.slice ao3 data.length cap3)] by simp [rowsOf]]; exact ho5
    have HO5 := Lib.hid ho5'; have HG5 := Lib.hid hg5; have HA5 := Lib.hid ha5; have HRUN := Lib.hid hrun
    have hl5 := HC.out w2 w3 _ w5 H2.out.1 HB3.out HG5.out
    clear ho5 ho5' hg5 ha5 hrun
    refine wpAnyH_ready (rs := [11]) (by kernel_rfl) (by simp) ?_
    refine ready_append 11 (.tmp 31) (.tmp 37) 29 rfl rfl rfl bv (.slice (some ⟨w3.heap.size, 0, none⟩) 1 1) (.slice ao5 (rowsOf Dk.cellO qs ++ [Dk.cellO ⟨k, n, data⟩ (.slice ao3 data.length cap3)]).length cap5) w5 ?s11a ?x11a HRUN.out ⟨trivial, fun hHeld => ?_⟩
    case s11a => kernel_rfl
    case x11a => kernel_rfl
    refine wpAnyH_take (i := 12) (v := ?v12a) rfl (by kernel_rfl) (by kernel_rfl) (by kernel_rfl) (fun _ _ _ h => h) (Or.inl ⟨by rfl, ?hy12a⟩) hHeld ?rest12a
    case hy12a => (intro W hSw; go_simp; (try with_reducible rfl))
    refine wpAnyH_take (i := 13) (v := ?v13a) rfl (by kernel_rfl) (by kernel_rfl) (by kernel_rfl) (fun _ _ _ h => h) (Or.inl ⟨by rfl, ?hy13a⟩) hHeld ?rest13a
    case hy13a => (intro W hSw; go_simp; (try with_reducible rfl))
    refine wpAnyH_ready (rs := [14]) (by kernel_rfl) (by simp) ?_
    refine ready_store 14 29 (.tmp 40) (.tmp 38) rfl rfl rfl d 1 51 #[.map (some b), bv] #[.map (some b), .slice ao5 (rowsOf Dk.cellO qs ++ [Dk.cellO ⟨k, n, data⟩ (.slice ao3 data.length cap3)]).length cap5] (.slice ao5 (rowsOf Dk.cellO qs ++ [Dk.cellO ⟨k, n, data⟩ (.slice ao3 data.length cap3)]).length cap5) [.slice ao5 (rowsOf Dk.cellO qs ++ [Dk.cellO ⟨k, n, data⟩ (.slice ao3 data.length cap3)]).length cap5] ?x14a ?y14a rfl (by kernel_rfl) rfl hl5 (Nat.le_of_ble_eq_true rfl) rfl ?k14a
    case x14a => kernel_rfl
    case y14a => kernel_rfl
    intro w6 hl6 hg6
    have HL6 := Lib.hid hl6; have HG6 := Lib.hid hg6
    clear hl6 hg6 hl5
    refine ⟨trivial, fun hHeld => ?_⟩
    refine wpAnyH_done (by kernel_rfl) ?_ _
    clear hHeld
    go_wp2
    go_end0
    exact ⟨rfl, HE.out w2 w6 _ (H2.out.1.hold ⟨k, n, data⟩ HB3.out HO3.out _ HO5.out HG5.out HA5.out HL6.out HG6.out)⟩
  · rw [if_pos (by rfl)]
    go_simp
    go_at_call 27
    refine (clone_any (.slice ao data.length cap) data w2.drew (Reads.below H2.out.2 (drawn w2 1)) (by omega)).mono ?_
    rintro e w3 ⟨v3, rfl, ho3, hb3⟩
    obtain ⟨ao3, cap3, rfl⟩ := ho3.reads.shape
    have HO3 := Lib.hid ho3; have HB3 := Lib.hid (on (drawn w2 1) hb3)
    clear ho3 hb3
    refine hK.out _ _ trivial (fun hHeld => ?_)
    clear hK K
    refine wpAnyH_take (i := 9) (v := ?v9b) rfl (by kernel_rfl) (by kernel_rfl) (by kernel_rfl) (fun _ _ _ h => h) (Or.inl ⟨by rfl, ?hy9b⟩) hHeld ?rest9b
    case hy9b => (intro W hSw; go_simp; (try with_reducible rfl))
    have q3 : w3.cell? ⟨d, 1, none⟩ = some bv := (H2.out.1.lies.below HB3.out H2.out.1.lies.lt).cell 1 _ rfl
    refine wpAnyH_ready (rs := [4, 10]) (by kernel_rfl) (by simp) ?_
    refine AllReadyH.cons rfl (fun K hK => ?_) (AllReadyH.cons rfl (fun K hK => ?_) AllReadyH.nil)
    · rw [if_pos (by rfl)]
      go_simp
      refine hK.out _ _ trivial (fun hHeld => ?_)
      clear hK K
      clear q3
      refine wpAnyH_ready (rs := [10]) (by kernel_rfl) (by simp) ?_
      refine AllReadyH.cons rfl (fun K hK => ?_) AllReadyH.nil
      rw [if_pos (by rfl)]
      go_simp
      refine hK.out _ _ trivial (fun hHeld => ?_)
      clear hK K
      obtain ⟨v5, w5, hrun, ho5, hg5, ha5⟩ := run_append_rows_at (P := Try.prog) (w := w3.alloc (.cells (Dk.cellO ⟨k, n, data⟩ (.slice ao3 data.length cap3)) 53)) 29 29 53 3 40 _ Try.underlying29 info_op rfl (by decide) 0 (rowsOf Dk.cellO qs) [Dk.cellO ⟨k, n, data⟩ (.slice ao3 data.length cap3)] bv _ ((HB.out w2 w3 H2.out.1 HB3.out).alloc _) (ReadsR.single (Lies.new w3 _ _)) (fun r hr => by obtain rfl := List.mem_singleton.1 hr; exact ⟨rfl, (Dk.cellO_ok ⟨k, n, data⟩ (.slice ao3 data.length cap3)).2 rfl⟩) (by simp [rowsOf]; omega) (by simp [rowsOf]; omega) (Nat.zero_le _)
      obtain ⟨ao5, cap5, rfl⟩ := OwnsR.shape ho5
      have ho5' : OwnsR w5 0 53 3 (.slice ao5 (rowsOf Dk.cellO qs ++ [Dk.cellO ⟨k, n, data⟩ (.slice ao3 data.length cap3)]).length cap5) (rowsOf Dk.cellO (qs ++ [(⟨k, n, data⟩, .slice ao3 data.length cap3)])) := by rw [show rowsOf Dk.cellO (qs ++ [(⟨k, n, data⟩, .slice ao3 data.length cap3)]) = rowsOf Dk.cellO qs ++ [Dk.cellO ⟨k, n, data⟩ (.slice ao3 data.length cap3)] by simp [rowsOf]]; exact ho5
      have HO5 := Lib.hid ho5'; have HG5 := Lib.hid hg5; have HA5 := Lib.hid ha5; have HRUN := Lib.hid hrun
      have hl5 := HC.out w2 w3 _ w5 H2.out.1 HB3.out HG5.out
      clear ho5 ho5' hg5 ha5 hrun
      refine wpAnyH_ready (rs := [11]) (by kernel_rfl) (by simp) ?_
      refine ready_append 11 (.tmp 31) (.tmp 37) 29 rfl rfl rfl bv (.slice (some ⟨w3.heap.size, 0, none⟩) 1 1) (.slice ao5 (rowsOf Dk.cellO qs ++ [Dk.cellO ⟨k, n, data⟩ (.slice ao3 data.length cap3)]).length cap5) w5 ?s11b ?x11b HRUN.out ⟨trivial, fun hHeld => ?_⟩
      case s11b => kernel_rfl
      case x11b => kernel_rfl
      refine wpAnyH_take (i := 12) (v := ?v12b) rfl (by kernel_rfl) (by kernel_rfl) (by kernel_rfl) (fun _ _ _ h => h) (Or.inl ⟨by rfl, ?hy12b⟩) hHeld ?rest12b
      case hy12b => (intro W hSw; go_simp; (try with_reducible rfl))
      refine wpAnyH_take (i := 13) (v := ?v13b) rfl (by kernel_rfl) (by kernel_rfl) (by kernel_rfl) (fun _ _ _ h => h) (Or.inl ⟨by rfl, ?hy13b⟩) hHeld ?rest13b
      case hy13b => (intro W hSw; go_simp; (try with_reducible rfl))
      refine wpAnyH_ready (rs := [14]) (by kernel_rfl) (by simp) ?_
      refine ready_store 14 29 (.tmp 40) (.tmp 38) rfl rfl rfl d 1 51 #[.map (some b), bv] #[.map (some b), .slice ao5 (rowsOf Dk.cellO qs ++ [Dk.cellO ⟨k, n, data⟩ (.slice ao3 data.length cap3)]).length cap5] (.slice ao5 (rowsOf Dk.cellO qs ++ [Dk.cellO ⟨k, n, data⟩ (.slice ao3 data.length cap3)]).length cap5) [.slice ao5 (rowsOf Dk.cellO qs ++ [Dk.cellO ⟨k, n, data⟩ (.slice ao3 data.length cap3)]).length cap5] ?x14b ?y14b rfl (by kernel_rfl) rfl hl5 (Nat.le_of_ble_eq_true rfl) rfl ?k14b
      case x14b => kernel_rfl
      case y14b => kernel_rfl
      intro w6 hl6 hg6
      have HL6 := Lib.hid hl6; have HG6 := Lib.hid hg6
      clear hl6 hg6 hl5
      refine ⟨trivial, fun hHeld => ?_⟩
      refine wpAnyH_done (by kernel_rfl) ?_ _
      clear hHeld
      go_wp2
      go_end0
      exact ⟨rfl, HE.out w2 w6 _ (H2.out.1.hold ⟨k, n, data⟩ HB3.out HO3.out _ HO5.out HG5.out HA5.out HL6.out HG6.out)⟩
    · rw [if_pos (by rfl)]
      go_simp
      refine hK.out _ _ trivial (fun hHeld => ?_)
      clear hK K
      clear q3
      have q4 : (w3.alloc (.cells #[.int .i64 k, .int .i64 n, .slice ao3 data.length cap3] 53)).cell? ⟨d, 1, none⟩ = some bv := ((H2.out.1.lies.below HB3.out H2.out.1.lies.lt).alloc _).cell 1 _ rfl
      refine wpAnyH_ready (rs := [4]) (by kernel_rfl) (by simp) ?_
      refine AllReadyH.cons rfl (fun K hK => ?_) AllReadyH.nil
      rw [if_pos (by rfl)]
      go_simp
      refine hK.out _ _ trivial (fun hHeld => ?_)
      clear hK K
      clear q4
      obtain ⟨v5, w5, hrun, ho5, hg5, ha5⟩ := run_append_rows_at (P := Try.prog) (w := w3.alloc (.cells (Dk.cellO ⟨k, n, data⟩ (.slice ao3 data.length cap3)) 53)) 29 29 53 3 40 _ Try.underlying29 info_op rfl (by decide) 0 (rowsOf Dk.cellO qs) [Dk.cellO ⟨k, n, data⟩ (.slice ao3 data.length cap3)] bv _ ((HB.out w2 w3 H2.out.1 HB3.out).alloc _) (ReadsR.single (Lies.new w3 _ _)) (fun r hr => by obtain rfl := List.mem_singleton.1 hr; exact ⟨rfl, (Dk.cellO_ok ⟨k, n, data⟩ (.slice ao3 data.length cap3)).2 rfl⟩) (by simp [rowsOf]; omega) (by simp [rowsOf]; omega) (Nat.zero_le _)
      obtain ⟨ao5, cap5, rfl⟩ := OwnsR.shape ho5
      have ho5' : OwnsR w5 0 53 3 (.slice ao5 (rowsOf Dk.cellO qs ++ [Dk.cellO ⟨k, n, data⟩ (.slice ao3 data.length cap3)]).length cap5) (rowsOf Dk.cellO (qs ++ [(⟨k, n, data⟩, .slice ao3 data.length cap3)])) := by rw [show rowsOf Dk.cellO (qs ++ [(⟨k, n, data⟩, .slice ao3 data.length cap3)]) = rowsOf Dk.cellO qs ++ [Dk.cellO ⟨k, n, data⟩ (.slice ao3 data.length cap3)] by simp [rowsOf]]; exact ho5
      have HO5 := Lib.hid ho5'; have HG5 := Lib.hid hg5; have HA5 := Lib.hid ha5; have HRUN := Lib.hid hrun
      have hl5 := HC.out w2 w3 _ w5 H2.out.1 HB3.out HG5.out
      clear ho5 ho5' hg5 ha5 hrun
      refine wpAnyH_ready (rs := [11]) (by kernel_rfl) (by simp) ?_
      refine ready_append 11 (.tmp 31) (.tmp 37) 29 rfl rfl rfl bv (.slice (some ⟨w3.heap.size, 0, none⟩) 1 1) (.slice ao5 (rowsOf Dk.cellO qs ++ [Dk.cellO ⟨k, n, data⟩ (.slice ao3 data.length cap3)]).length cap5) w5 ?s11c ?x11c HRUN.out ⟨trivial, fun hHeld => ?_⟩
      case s11c => kernel_rfl
      case x11c => kernel_rfl
      refine wpAnyH_take (i := 12) (v := ?v12c) rfl (by kernel_rfl) (by kernel_rfl) (by kernel_rfl) (fun _ _ _ h => h) (Or.inl ⟨by rfl, ?hy12c⟩) hHeld ?rest12c
      case hy12c => (intro W hSw; go_simp; (try with_reducible rfl))
      refine wpAnyH_take (i := 13) (v := ?v13c) rfl (by kernel_rfl) (by kernel_rfl) (by kernel_rfl) (fun _ _ _ h => h) (Or.inl ⟨by rfl, ?hy13c⟩) hHeld ?rest13c
      case hy13c => (intro W hSw; go_simp; (try with_reducible rfl))
      refine wpAnyH_ready (rs := [14]) (by kernel_rfl) (by simp) ?_
      refine ready_store 14 29 (.tmp 40) (.tmp 38) rfl rfl rfl d 1 51 #[.map (some b), bv] #[.map (some b), .slice ao5 (rowsOf Dk.cellO qs ++ [Dk.cellO ⟨k, n, data⟩ (.slice ao3 data.length cap3)]).length cap5] (.slice ao5 (rowsOf Dk.cellO qs ++ [Dk.cellO ⟨k, n, data⟩ (.slice ao3 data.length cap3)]).length cap5) [.slice ao5 (rowsOf Dk.cellO qs ++ [Dk.cellO ⟨k, n, data⟩ (.slice ao3 data.length cap3)]).length cap5] ?x14c ?y14c rfl (by kernel_rfl) rfl hl5 (Nat.le_of_ble_eq_true rfl) rfl ?k14c
      case x14c => kernel_rfl
      case y14c => kernel_rfl
      intro w6 hl6 hg6
      have HL6 := Lib.hid hl6; have HG6 := Lib.hid hg6
      clear hl6 hg6 hl5
      refine ⟨trivial, fun hHeld => ?_⟩
      refine wpAnyH_done (by kernel_rfl) ?_ _
      clear hHeld
      go_wp2
      go_end0
      exact ⟨rfl, HE.out w2 w6 _ (H2.out.1.hold ⟨k, n, data⟩ HB3.out HO3.out _ HO5.out HG5.out HA5.out HL6.out HG6.out)⟩


theorem hold_any {S : Nat → Prop} {w : World} {d : Nat} {F : Dk.Files} {B : List Dk.Op} (h : DiskAt S w d F B) (k n : Int) (v : Value) (data : List UInt8) (hd : Reads w v data) (hl : data.length ≤ 17592186044416) (hq : B.length ≤ 1099511627776) :
    Calls Try.prog 31 #[.pointer (some ⟨d, 0, none⟩), .int .i64 k, .int .i64 n, v] w (HeldAt S w d F (if 1 ≤ n ∧ n ≤ 4294967296 then B ++ [⟨k, n, data⟩] else B)) := by
  by_cases hn : 1 ≤ n ∧ n ≤ 4294967296
  · rw [if_pos hn]
    obtain ⟨mv, bv, zs, qs, h1, rfl, rfl⟩ := h
    rw [List.length_map] at hq
    cases mv with
    | none => exact hold_none h1 k n v data hd hl hq hn.1 hn.2
    | some b => exact hold_some h1 k n v data hd hl hq hn.1 hn.2
  · rw [if_neg hn]
    exact hold_out h k n v hn

end Go.Proofs.Ytffgfjfeoinnfaa
