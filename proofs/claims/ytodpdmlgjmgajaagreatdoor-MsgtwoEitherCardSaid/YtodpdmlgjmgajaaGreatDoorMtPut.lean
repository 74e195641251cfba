/- A message encoded in V2: its elements put one behind the other. -/
import Derived.Test.YtodpdmlgjmgajaaGreatDoorMtMem
import Derived.Test.YtodpdmlgjmgajaaGreatDoorGMp
namespace Go.Proofs.YtodpdmlgjmgajaaGreatDoor
open Go.RowKit

set_option maxRecDepth 4000 in
set_option maxHeartbeats 1600000 in
theorem putMt_num (g k : Nat) (x : Int) (w : World) (B o : Nat) (u : Value) (pre : List UInt8) (hw : Wrt w B o u pre) (hB : B ≤ w.heap.size) (hlen : pre.length ≤ 70368744177664) (hc : w.cell? ⟨g, k, none⟩ = some (.int .i64 x)) (h0 : -9223372036854775808 ≤ x) (h1 : x ≤ 9223372036854775807) :
    Calls Tryz.prog 21 #[.pointer (some ⟨o, 0, none⟩), .iface 68 (.pointer (some ⟨g, k, none⟩))] w (PutGot w B o (pre ++ enc x.toNat)) := by
  have ha := isInt_num
  go_enter Tryz.func21, Tryz.ntmps21
  go_wp2_with fail
  refine (wnum_any x _ B o u pre hw hB (by omega) h0 h1).mono ?_
  rintro e2 w2 ⟨rfl, v2, hw2, hg2⟩
  have hs2 := Spares.of_grew hw hg2
  have hb2 := hw.below hg2 hB
  go_wp2
  go_end0
  exact ⟨rfl, v2, hw2, hs2, hb2⟩

set_option maxRecDepth 4000 in
set_option maxHeartbeats 1600000 in
theorem putMt_list (g : Nat) (m : Ms.Msg) (ve vi : Value) (w : World) (B o : Nat) (u : Value) (pre : List UInt8) (hw : Wrt w B o u pre) (hB : B ≤ w.heap.size) (hlen : pre.length ≤ 1000000000) (hl : Msgs w g m ve vi)
    (he : ∀ W, Below B w W → ReadsE W ve m.ents) (hf : ∀ e ∈ m.ents, e.Fits ∧ e.cmd.Short 1000) (hn : m.ents.length ≤ 1000000) :
    Calls Tryz.prog 21 #[.pointer (some ⟨o, 0, none⟩), .iface 77 (.pointer (some ⟨g, 8, none⟩))] w (Put w B o (pre ++ En.bytes 2 m.ents)) := by
  have hi := isInt_list
  have ha := isList_list
  have p8 := Msgs.c8 hl
  go_enter Tryz.func21, Tryz.ntmps21
  go_wp2_with fail
  refine (entPut_any 2 ve m.ents _ B o u pre rfl hw hB he hf hn hlen).mono ?_
  rintro e2 w2 ⟨rfl, v2, hw2, hb2⟩
  go_wp2
  go_end0
  exact ⟨rfl, v2, hw2, hb2⟩

set_option maxRecDepth 4000 in
set_option maxHeartbeats 1600000 in
theorem putMt_img (g : Nat) (m : Ms.Msg) (ve vi : Value) (w : World) (B o : Nat) (u : Value) (pre : List UInt8) (hw : Wrt w B o u pre) (hB : B ≤ w.heap.size) (hlen : pre.length ≤ 70368744177664) (hl : Msgs w g m ve vi)
    (hi : ∀ W, Below B w W → Reads W vi m.img) (hn : m.img.length ≤ 1048576) :
    Calls Tryz.prog 21 #[.pointer (some ⟨o, 0, none⟩), .iface 80 (.pointer (some ⟨g, 9, none⟩))] w (Put w B o (pre ++ Pk.text m.img)) := by
  have h1 := isInt_img
  have h2 := isList_img
  have ha := isImg_img
  have p9 := Msgs.c9 hl
  go_enter Tryz.func21, Tryz.ntmps21
  go_wp2_with fail
  refine (wraw_out vi m.img _ B o u pre hw hB hlen hn hi).mono ?_
  rintro e2 w2 ⟨rfl, v2, hw2, hb2⟩
  go_wp2
  go_end0
  exact ⟨rfl, v2, hw2, hb2⟩

set_option maxRecDepth 4000 in
set_option maxHeartbeats 3200000 in
theorem putMt_prop (g : Nat) (m : Ms.Msg) (x : En.Ent) (ve vi : Value) (w : World) (B o : Nat) (u : Value) (pre : List UInt8) (hw : Wrt w B o u pre) (hB : B ≤ w.heap.size) (hlen : pre.length ≤ 1000000000) (hl : Msgs w g m ve vi)
    (he : ∀ W, Below B w W → ReadsE W ve m.ents) (hx : m.ents = [x]) (hf : x.Fits) (hs : x.cmd.Short 1000) :
    Calls Tryz.prog 21 #[.pointer (some ⟨o, 0, none⟩), .iface 79 (.agg #[.pointer (some ⟨g, 0, none⟩)])] w (Put w B o (pre ++ Mt.one x)) := by
  have h1 := isInt_prop
  have h2 := isList_prop
  have h3 := isImg_prop
  have ha := isProp_prop
  have hrd := he w (Below.refl _ _)
  rw [hx] at hrd
  obtain ⟨ao, cap, rfl, hc1, hc2⟩ := ReadsE.shape hrd
  obtain ⟨bg, off, rfl, hgl, hcell⟩ := ReadsE.places hrd (by simp)
  have hat := fun W (h : Below w.heap.size w W) => hcell W h 0 x rfl
  have ho := hw.lies.lt
  obtain ⟨w1, e1, hl1, hb1, hz1⟩ : ∃ w1, w.alloc (.cells #[.pointer (some ⟨g, 0, none⟩)] 79) = w1 ∧ Lies w1 w.heap.size 79 #[.pointer (some ⟨g, 0, none⟩)] ∧ Below w.heap.size w w1 ∧ w1.heap.size = w.heap.size + 1 :=
    ⟨_, rfl, Lies.new _ _ _, (Below.refl _ w).alloc (Nat.le_refl _) _, by simp⟩
  have q0 := hl1.cell 0 _ rfl
  have p8 := Msgs.c8 (hl.below hb1 hl.lt)
  have HC := Lib.hid (hat w1 hb1); have HW1 := Lib.hid (hw.grown hb1); have HB1 := Lib.hid (hb1.mono hB)
  have HZ1 := Lib.hid hz1
  clear hl1 hb1 hat hcell hrd he hz1
  go_enter Tryz.func21, Tryz.ntmps21
  go_wp2_with (first
    | (refine load_ent rfl _ rfl bg (off + 0 * 10) x rfl HC.out ?_)
    | (refine store_ent (by rfl) _ _ (by rfl) w1.heap.size En.zero x (by rfl) (by rfl) (Lies.new _ _ _) ?_; intro w3 hl3 hg3
       have hb := fresh_below hg3
       have HB3 := Lib.hid (HB1.out.trans (hb.mono (Nat.le_trans hB HB1.out.size))); have HW3 := Lib.hid (HW1.out.grown hb); have HL3 := Lib.hid hl3
       clear hl3 hg3 hb
       obtain ⟨c0, c1, c2, c3, c4, c5, c6, c7, c8, c9⟩ := Ents.ten HL3.out)
    | fail)
  have hoe : w1.heap.size ≠ o := by have := HZ1.out; omega
  refine (wnum_any x.index _ B o u pre HW3.out (Nat.le_trans hB HB3.out.size) (by omega) hf.i0 hf.i1).mono ?_
  rintro e4 w4 ⟨rfl, u4, hw4, hg4⟩
  have HB4 := Lib.hid (HB3.out.trans (HW3.out.below hg4 (Nat.le_trans hB HB3.out.size)))
  have HL4 := Lib.hid (Spares.of_grew HW3.out hg4 _ _ _ hoe (by decide) HL3.out); have HW4 := Lib.hid hw4
  clear hw4 hg4 c0 c1 c2 c3 c4 c5 c6 c7 c8 c9
  have hn1 := enc_nine (n := x.index.toNat) (by have := hf.i1; omega)
  obtain ⟨c0, c1, c2, c3, c4, c5, c6, c7, c8, c9⟩ := Ents.ten HL4.out
  go_wp2_with fail
  refine (cput_at 2 x.cmd _ B o u4 _ rfl HW4.out (by rw [List.length_append]; omega) (Nat.le_trans hB HB4.out.size) hf.cmd hs).mono ?_
  rintro e7 w7 ⟨rfl, u7, hw7, _, hb7⟩
  have HB7 := Lib.hid (HB4.out.trans hb7); have HW7 := Lib.hid hw7
  clear hw7 hb7 c0 c1 c2 c3 c4 c5 c6 c7 c8 c9
  go_wp2
  go_end0
  exact ⟨rfl, u7, by have := HW7.out; unfold Mt.one; rwa [List.append_assoc] at this, HB7.out⟩

/-- An element put; where it is a number, all other blocks lie as they lay. -/
theorem putMt_any (e : Mt.El) (g : Nat) (m : Ms.Msg) (ve vi : Value) (w : World) (B o : Nat) (u : Value) (pre : List UInt8) (hc : Ms.check m = 0) (hk : e ∈ Mt.head ++ Mt.elems m.kind) (hw : Wrt w B o u pre) (hB : B ≤ w.heap.size) (hlen : pre.length ≤ 1000000000) (hl : Msgs w g m ve vi)
    (he : ∀ W, Below B w W → ReadsE W ve m.ents) (hi : ∀ W, Below B w W → Reads W vi m.img) (hf : ∀ e ∈ m.ents, e.Fits ∧ e.cmd.Short 1000) :
    Calls Tryz.prog 21 #[.pointer (some ⟨o, 0, none⟩), Mt.ev g e] w (fun en w' => Put w B o (pre ++ Mt.ebytes m e) en w' ∧ (∀ k, e = .num k → Spares o w w')) := by
  have hlen2 := Ms.good_len (Ms.check_good hc)
  cases e with
  | num k =>
    have hk8 : k < 8 := Mt.all_ok _ _ hk
    obtain ⟨h0, h1⟩ := Mt.val_good hc k hk8
    refine (putMt_num g k (Mt.val m k) w B o u pre hw hB (by omega) (hl.cell _ _ (Mt.cells_val m ve vi hk8)) (by omega) h1).mono ?_
    rintro en w2 ⟨rfl, v2, hw2, hs2, hb2⟩
    exact ⟨⟨rfl, v2, hw2, hb2⟩, fun _ _ => hs2⟩
  | list => exact (putMt_list g m ve vi w B o u pre hw hB hlen hl he hf (by omega)).mono fun en w2 h => ⟨h, fun k hk => by cases hk⟩
  | img => exact (putMt_img g m ve vi w B o u pre hw hB (by omega) hl hi (by omega)).mono fun en w2 h => ⟨h, fun k hk => by cases hk⟩
  | prop =>
    obtain ⟨x, hx, _⟩ := Mt.good_sole hc (Mt.prop_five hk)
    have hfx := hf x (by rw [hx]; simp)
    refine (putMt_prop g m x ve vi w B o u pre hw hB hlen hl he hx hfx.1 hfx.2).mono fun en w2 h => ⟨?_, fun k hk => by cases hk⟩
    rw [show Mt.ebytes m .prop = Mt.one x by unfold Mt.ebytes; rw [hx]; simp]
    exact h

end Go.Proofs.YtodpdmlgjmgajaaGreatDoor
