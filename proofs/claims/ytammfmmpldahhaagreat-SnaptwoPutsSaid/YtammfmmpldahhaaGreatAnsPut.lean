/- Put and Encode of an answer. -/
import Derived.Test.YtammfmmpldahhaaGreatAnsChk
import Derived.Test.YtammfmmpldahhaaGreatAnsMath
import Derived.Test.YtammfmmpldahhaaGreatGCm
import Derived.Deep.RegionHeld3
namespace Go.Proofs.YtammfmmpldahhaaGreat
open Go.RowKit

set_option maxRecDepth 4000 in
set_option maxHeartbeats 800000 in
theorem wflag_spares (b : Bool) (w : World) (B o : Nat) (v : Value) (l : List UInt8) (hw : Wrt w B o v l) (hB : B ≤ w.heap.size) (hlen : l.length ≤ 70368744177664) :
    Calls Tryz.prog 92 #[.pointer (some ⟨o, 0, none⟩), .bool b] w (PutGot w B o (l ++ Pk.flag b)) := by
  have hc := hw.lies.cell 0 v rfl
  cases b with
  | false =>
    go_enter Tryz.func92, Tryz.ntmps92
    go_wp2_with (at_builtin; refine append_bytes rfl _ _ 28 5 rfl Tryz.underlying28 info_u8 B l (Pk.flag false) v _ rfl rfl (hw.owns.alloc _) (Reads.one w _ 0 0 rfl) (by simp [Pk.flag]; omega) w ((Below.refl _ w).alloc hB _) hB ?_; intro v2 w2 ho2 hb2 hg2; obtain ⟨ao2, cap2, rfl⟩ := ho2.reads.shape; have hl2 := (hw.lies.alloc (.cells #[.int .u8 0] 5)).kept hg2 (hw.lies.not_row (by decide) hw.owns); have hc2 := hl2.cell 0 v rfl; have hf2 := hl2.free 0)
    have hw1 : Wrt (w.alloc (.cells #[.int .u8 0] 5)) B o v l := ⟨hw.base, hw.lies.alloc _, hw.owns.alloc _⟩
    have hp := Wr.put (by decide) hw1 ho2 hg2
    have hq := ((Below.refl B w).alloc hB (.cells #[.int .u8 0] 5)).trans (hp.2.below hw.base hw.row (by simp; omega))
    have hsp := (Spares.of_below (o := o) ((Below.refl _ w).alloc (Nat.le_refl _) (.cells #[.int .u8 0] 5))).trans (Spares.of_grew hw1 hp.2)
    go_end0
    simp only [List.length_append] at hp hq hsp
    exact ⟨rfl, _, hp.1, hsp, hq⟩
  | true =>
    go_enter Tryz.func92, Tryz.ntmps92
    go_wp2_with (at_builtin; refine append_bytes rfl _ _ 28 5 rfl Tryz.underlying28 info_u8 B l (Pk.flag true) v _ rfl rfl (hw.owns.alloc _) (Reads.one w _ 1 1 rfl) (by simp [Pk.flag]; omega) w ((Below.refl _ w).alloc hB _) hB ?_; intro v2 w2 ho2 hb2 hg2; obtain ⟨ao2, cap2, rfl⟩ := ho2.reads.shape; have hl2 := (hw.lies.alloc (.cells #[.int .u8 1] 5)).kept hg2 (hw.lies.not_row (by decide) hw.owns); have hc2 := hl2.cell 0 v rfl; have hf2 := hl2.free 0)
    have hw1 : Wrt (w.alloc (.cells #[.int .u8 1] 5)) B o v l := ⟨hw.base, hw.lies.alloc _, hw.owns.alloc _⟩
    have hp := Wr.put (by decide) hw1 ho2 hg2
    have hq := ((Below.refl B w).alloc hB (.cells #[.int .u8 1] 5)).trans (hp.2.below hw.base hw.row (by simp; omega))
    have hsp := (Spares.of_below (o := o) ((Below.refl _ w).alloc (Nat.le_refl _) (.cells #[.int .u8 1] 5))).trans (Spares.of_grew hw1 hp.2)
    go_end0
    simp only [List.length_append] at hp hq hsp
    exact ⟨rfl, _, hp.1, hsp, hq⟩

theorem wnum_spares (n : Int) (w : World) (B o : Nat) (v : Value) (l : List UInt8) (hw : Wrt w B o v l) (hB : B ≤ w.heap.size) (hlen : l.length ≤ 70368744177664) (h0 : -9223372036854775808 ≤ n) (h1 : n ≤ 9223372036854775807) :
    Calls Tryz.prog 23 #[.pointer (some ⟨o, 0, none⟩), .int .i64 n] w (PutGot w B o (l ++ enc n.toNat)) := by
  refine (wnum_any n w B o v l hw hB (by omega) h0 h1).mono ?_
  rintro e w1 ⟨h, v1, hw1, hg1⟩
  exact ⟨h, v1, hw1, Spares.of_grew hw hg1, hw.below hg1 hB⟩

set_option maxRecDepth 4000 in
set_option maxHeartbeats 3200000 in
theorem awrite_any (v : Int) (a : An.Ans) (w : World) (B o g : Nat) (u : Value) (hw : Wrt w B o u []) (hB : B ≤ w.heap.size) (hg : Lies w g 3 #[.int .i64 v]) (hgo : g ≠ o) (hf : a.Fits) (hs : a.val.length ≤ 1000) :
    Calls Tryz.prog 77 #[.pointer (some ⟨o, 0, none⟩), .agg (An.cells a), More g] w (PutGot w B o (An.bytes v a)) := by
  have ho := hw.lies.lt
  obtain ⟨w1, e1, hl1, hB1, hz1⟩ := box_ans w a
  have hbo : w.heap.size ≠ o := by omega
  obtain ⟨p0, p1, p2, p3, p4, p5⟩ := Anss.every hl1
  have n1 := enc_nine (n := a.client.toNat) (by have := hf.c1; omega)
  have n2 := enc_nine (n := a.seq.toNat) (by have := hf.q1; omega)
  have n3 := enc_nine (n := a.err.toNat) (by have := hf.e1; omega)
  have n4 : (Pk.flag a.found).length = 1 := rfl
  have n5 : (Pk.text a.val).length ≤ 1009 := by have := enc_nine (n := a.val.length) (by omega); simp [Pk.text]; omega
  have HN := Lib.hid (And.intro n1 (And.intro n2 (And.intro n3 (And.intro n4 n5))))
  clear n1 n2 n3 n4 n5
  have HBY : Hid (An.bytes v a = enc a.client.toNat ++ enc a.seq.toNat ++ enc a.err.toNat ++ Pk.flag a.found ++ Pk.text a.val ++ An.tail v a) := rfl
  have HF := Lib.hid hf
  have HL1 := Lib.hid hl1; have HB1 := Lib.hid (hB1.mono hB)
  have HW1 := Lib.hid (hw.grown hB1)
  have HG1 := Lib.hid (hg.below hB1 hg.lt)
  have HS1 := Lib.hid (Spares.of_below (o := o) hB1)
  have HZ1 := Lib.hid (Nat.le_trans hB hB1.size)
  clear hl1 hB1 hz1 hw hg hf
  go_enter Tryz.func77, Tryz.ntmps77
  go_wp2_with fail
  refine (wnum_spares a.client _ B o u [] HW1.out HZ1.out (by simp) HF.out.c0 HF.out.c1).mono ?_
  rintro e w2 ⟨rfl, u2, hw2, hs2, hb2⟩
  have hl2 := hs2 _ _ _ hbo (by decide) HL1.out
  obtain ⟨q0, q1, q2, q3, q4, q5⟩ := Anss.every hl2
  have HL2 := Lib.hid hl2
  have HG2 := Lib.hid (hs2 _ _ _ hgo (by decide) HG1.out)
  have HW2 := Lib.hid hw2
  have HB2 := Lib.hid (HB1.out.trans hb2)
  have HS2 := Lib.hid (HS1.out.trans hs2)
  clear hl2 hw2 hs2 hb2 p0 p1 p2 p3 p4 p5
  go_wp2_with fail
  refine (wnum_spares a.seq _ B o u2 _ HW2.out (Nat.le_trans hB HB2.out.size) (by have := HN.out; simp only [List.length_append, List.length_nil]; omega) HF.out.q0 HF.out.q1).mono ?_
  rintro e w3 ⟨rfl, u3, hw3, hs3, hb3⟩
  have hl3 := hs3 _ _ _ hbo (by decide) HL2.out
  obtain ⟨p0, p1, p2, p3, p4, p5⟩ := Anss.every hl3
  have HL3 := Lib.hid hl3
  have HG3 := Lib.hid (hs3 _ _ _ hgo (by decide) HG2.out)
  have HW3 := Lib.hid hw3
  have HB3 := Lib.hid (HB2.out.trans hb3)
  have HS3 := Lib.hid (HS2.out.trans hs3)
  clear hl3 hw3 hs3 hb3 q0 q1 q2 q3 q4 q5
  go_wp2_with fail
  refine (wnum_spares a.err _ B o u3 _ HW3.out (Nat.le_trans hB HB3.out.size) (by have := HN.out; simp only [List.length_append, List.length_nil]; omega) HF.out.e0 HF.out.e1).mono ?_
  rintro e w4 ⟨rfl, u4, hw4, hs4, hb4⟩
  have hl4 := hs4 _ _ _ hbo (by decide) HL3.out
  obtain ⟨q0, q1, q2, q3, q4, q5⟩ := Anss.every hl4
  have HL4 := Lib.hid hl4
  have HG4 := Lib.hid (hs4 _ _ _ hgo (by decide) HG3.out)
  have HW4 := Lib.hid hw4
  have HB4 := Lib.hid (HB3.out.trans hb4)
  have HS4 := Lib.hid (HS3.out.trans hs4)
  clear hl4 hw4 hs4 hb4 p0 p1 p2 p3 p4 p5
  go_wp2_with fail
  refine (wflag_spares a.found _ B o u4 _ HW4.out (Nat.le_trans hB HB4.out.size) (by have := HN.out; simp only [List.length_append, List.length_nil]; omega)).mono ?_
  rintro e w5 ⟨rfl, u5, hw5, hs5, hb5⟩
  have hl5 := hs5 _ _ _ hbo (by decide) HL4.out
  obtain ⟨p0, p1, p2, p3, p4, p5⟩ := Anss.every hl5
  have HL5 := Lib.hid hl5
  have HG5 := Lib.hid (hs5 _ _ _ hgo (by decide) HG4.out)
  have HW5 := Lib.hid hw5
  have HB5 := Lib.hid (HB4.out.trans hb5)
  have HS5 := Lib.hid (HS4.out.trans hs5)
  clear hl5 hw5 hs5 hb5 q0 q1 q2 q3 q4 q5
  go_wp2_with fail
  refine (wtext_spares a.val _ B o u5 _ HW5.out (Nat.le_trans hB HB5.out.size) (by have := HN.out; simp only [List.length_append, List.length_nil]; omega) (by omega)).mono ?_
  rintro e w6 ⟨rfl, u6, hw6, hs6, hb6⟩
  have hl6 := hs6 _ _ _ hbo (by decide) HL5.out
  obtain ⟨q0, q1, q2, q3, q4, q5⟩ := Anss.every hl6
  have HL6 := Lib.hid hl6
  have HG6 := Lib.hid (hs6 _ _ _ hgo (by decide) HG5.out)
  have HW6 := Lib.hid hw6
  have HB6 := Lib.hid (HB5.out.trans hb6)
  have HS6 := Lib.hid (HS5.out.trans hs6)
  clear hl6 hw6 hs6 hb6 p0 p1 p2 p3 p4 p5
  go_wp2_with fail
  refine (more_any v g _ HG6.out).mono ?_
  rintro e w7 ⟨rfl, rfl⟩
  by_cases hv : v = 2
  · have hv2 : (v == 2) = true := by simpa using hv
    rw [hv2]
    go_wp2_with fail
    refine (wnum_spares a.rev _ B o u6 _ HW6.out (Nat.le_trans hB HB6.out.size) (by have := HN.out; simp only [List.length_append, List.length_nil]; omega) HF.out.r0 HF.out.r1).mono ?_
    rintro e w7 ⟨rfl, u7, hw7, hs7, hb7⟩
    go_wp2
    go_end0
    refine ⟨rfl, u7, ?_, HS6.out.trans hs7, HB6.out.trans hb7⟩
    rw [HBY.out, show An.tail v a = enc a.rev.toNat from if_pos hv]
    rw [List.nil_append] at hw7
    exact hw7
  · have hv2 : (v == 2) = false := by simpa using hv
    rw [hv2]
    go_wp2
    go_end0
    refine ⟨rfl, u6, ?_, HS6.out, HB6.out⟩
    have hw6 := HW6.out
    rw [HBY.out, show An.tail v a = [] from if_neg hv, List.append_nil]
    rw [List.nil_append] at hw6
    exact hw6

set_option maxRecDepth 4000 in
set_option maxHeartbeats 1600000 in
theorem aput_any (v : Int) (a : An.Ans) (w : World) (B o : Nat) (u : Value) (hw : Wrt w B o u []) (hB : B ≤ w.heap.size) (hf : a.Fits) (hs : a.val.length ≤ 1000) :
    Calls Tryz.prog 48 #[.pointer (some ⟨o, 0, none⟩), .int .i64 v, .agg (An.cells a)] w (PutGot w B o (An.bytes v a)) := by
  have ho := hw.lies.lt
  obtain ⟨w1, e1, hl1, hB1, hz1⟩ := box_ans w a
  obtain ⟨p0, p1, p2, p3, p4, p5⟩ := Anss.every hl1
  have HL1 := Lib.hid hl1; have HB1 := Lib.hid (hB1.mono hB)
  have HW1 := Lib.hid (hw.grown hB1)
  have HS1 := Lib.hid (Spares.of_below (o := o) hB1)
  have HZ1 := Lib.hid hB1.size
  have hbo : w.heap.size ≠ o := by omega
  clear hl1 hB1 hz1 hw
  go_enter Tryz.func48, Tryz.ntmps48
  go_wp2
  have HL1d := Lib.hid (HL1.out.below (Below.refl _ _).drew HL1.out.lt)
  have HW1d := Lib.hid (HW1.out.grown (Below.refl _ _).drew)
  go_region_held3 (fun w' => w'.cell? ⟨w.heap.size, 0, none⟩ = some (.int .i64 a.client) ∧ w'.cell? ⟨w.heap.size, 1, none⟩ = some (.int .i64 a.seq) ∧ w'.cell? ⟨w.heap.size, 2, none⟩ = some (.int .i64 a.err) ∧ w'.cell? ⟨w.heap.size, 3, none⟩ = some (.bool a.found) ∧
    w'.cell? ⟨w.heap.size, 4, none⟩ = some (.string ⟨a.val.toArray⟩) ∧ w'.cell? ⟨w.heap.size, 5, none⟩ = some (.int .i64 a.rev)) (first | go_keep | exact K3) (first
      | (go_at_call 78; refine (longer_any v _).mono ?_; rintro e3 w3 ⟨rfl, hg3, hb3⟩
         have K3 := Anss.every (HL1d.out.below hb3 HL1d.out.lt))
      | (go_at_call 77; refine (awrite_any v a _ B o _ u (HW1d.out.grown hb3) (Nat.le_trans hB (Nat.le_trans HZ1.out hb3.size)) hg3 (by have := HZ1.out; simp; omega) hf hs).mono ?_; rintro e4 w4 ⟨rfl, u4, hw4, hs4, hb4⟩
         have K3 := Anss.every (hs4 _ _ _ hbo (by decide) (HL1d.out.below hb3 HL1d.out.lt))))
  all_goals
    go_wp2
    go_end0
    exact ⟨rfl, u4, hw4, HS1.out.trans ((Spares.of_below (Below.refl _ _).drew).trans ((Spares.of_below hb3).trans hs4)), HB1.out.drew.trans ((hb3.mono (Nat.le_trans hB HZ1.out)).trans hb4)⟩

/-- What an encoding gives. -/
def AEncd (w : World) (v : Int) (a : An.Ans) (e : Ending) (w' : World) : Prop :=
  Below w.heap.size w w' ∧ ∃ u, e = .returned (.tuple #[u, .int .i64 (An.checkIn v a)]) ∧ Reads w' u (if An.checkIn v a = 0 then An.bytes v a else [])

end Go.Proofs.YtammfmmpldahhaaGreat
