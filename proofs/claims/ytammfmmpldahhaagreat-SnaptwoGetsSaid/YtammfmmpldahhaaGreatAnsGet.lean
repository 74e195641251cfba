/- Get and Decode of an answer. -/
import Derived.Test.YtammfmmpldahhaaGreatAnsChk
import Derived.Test.YtammfmmpldahhaaGreatAnsMath
import Derived.Test.YtammfmmpldahhaaGreatGCm
namespace Go.Proofs.YtammfmmpldahhaaGreat
open Go.RowKit

theorem rflagged_any (w : World) (B o : Nat) (v : Value) (b : List UInt8) (p : Nat) (er : Int) (x : Bool) (q : Nat) (e : Int) (hr : Rdr w B o v b p er) (hx : e ≠ 0 → x = false) (h : Hid (An.rflg b p er = (x, (q : Int), e))) :
    Calls Tryz.prog 96 #[.pointer (some ⟨o, 0, none⟩)] w (Gave w B o v b q e (.bool x)) := by
  by_cases h0 : er = 0
  · subst h0
    exact rflag_is w B o v b p x q e hr hx h.out
  · have h1 := h.out
    unfold An.rflg at h1
    rw [if_neg h0] at h1
    simp only [Prod.mk.injEq] at h1
    obtain ⟨rfl, h2, rfl⟩ := h1
    obtain rfl : p = q := by omega
    exact rflag_err _ w B o v b p hr h0

/-- The store behind a reading. -/
theorem aget_end {w w2 : World} {B o b : Nat} {v : Value} {s : List UInt8} {q : Nat} {e : Int} {a a' : An.Ans} (i : Nat) (x : Value) (he : (An.cells a).setIfInBounds i x = An.cells a') (hB : B ≤ b) (hBw : B ≤ w.heap.size) (hbo : b ≠ o) (hg : w.grownBy w2 (some o)) (hl : Anss w b a) (hr : Rdr w2 B o v s q e) :
    Anss (w2.setCell ⟨b, i, none⟩ x) b a' ∧ Rdr (w2.setCell ⟨b, i, none⟩ x) B o v s q e ∧ Saves o b w (w2.setCell ⟨b, i, none⟩ x) ∧ Below B w (w2.setCell ⟨b, i, none⟩ x) := by
  have hl2 : Anss w2 b a := hl.kept hg (by intro e; cases e; exact hbo rfl)
  refine ⟨?_, hr.beside' (grown_set w2 b i x) hbo (fun h => hl2.not_row (by decide) hr.owns h.symm), ?_, ?_⟩
  · have := hl2.set i x
    rw [he] at this
    exact this
  · exact (Saves.of_grown hg).trans (Saves.of_grown2 (grown_set w2 b i x))
  · have h3 := (Below.refl B w).grown hg hBw (by rintro k hk; cases hk; exact hr.base)
    exact h3.grown (grown_set w2 b i x) (Nat.le_trans hBw h3.size) (by rintro k hk; cases hk; exact hB)

/-- What there was ahead of the call's own two blocks stays, the reader's block aside. -/
theorem saves_end {w w2 w3 w4 : World} {o b r : Nat} (hB : Below w.heap.size w w2) (h : Saves o b w2 w3) (hg : w3.grownBy w4 (some r)) (hb : w.heap.size ≤ b) (hr : w.heap.size ≤ r) : Saves o o w w4 := fun k T vs h1 _ hl => by
  have := hl.lt
  exact (h k T vs h1 (by omega) (hl.below hB hl.lt)).kept hg (by simp; omega)

/-- What a Get gives. -/
def AGot (w : World) (B o : Nat) (u : Value) (s : List UInt8) (t : An.Ans × Nat × Int) (e : Ending) (w' : World) : Prop :=
  e = .returned (.agg (An.cells t.1)) ∧ Rdr w' B o u s t.2.1 t.2.2 ∧ Below B w w' ∧ Saves o o w w'

set_option maxRecDepth 4000 in
set_option maxHeartbeats 3200000 in
theorem aread_any (v : Int) (w : World) (B o g : Nat) (u : Value) (s : List UInt8) (p : Nat) (er : Int) (hr : Rdr w B o u s p er) (hB : B ≤ w.heap.size) (hg : Lies w g 3 #[.int .i64 v]) (hgo : g ≠ o) :
    Calls Tryz.prog 86 #[.pointer (some ⟨o, 0, none⟩), More g] w (AGot w B o u s (An.get v s p er)) := by
  have ho := hr.lies.lt
  have hgl := hg.lt
  obtain ⟨n1, p1, f1, h1, x1, _, _, i1, _⟩ := An.rnum_res' s p er hr.inn
  obtain ⟨n2, p2, f2, h2, x2, _, _, i2, _⟩ := An.rnum_res' s p1 f1 i1
  obtain ⟨n3, p3, f3, h3, x3, _, _, i3, _⟩ := An.rnum_res' s p2 f2 i2
  obtain ⟨b4, p4, f4, h4, x4, i4, _⟩ := An.rflg_res' s p3 f3 i3
  obtain ⟨s5, p5, f5, h5, x5, _, i5, _⟩ := An.rtxt_res' s p4 f4 i4
  obtain ⟨n6, p6, f6, h6, x6, _, _, i6, _⟩ := An.rnum_res' s p5 f5 i5
  have HG5x := Lib.hid (An.get5_eq h1 h2 h3 h4 h5)
  have H1 := Lib.hid h1; have H2 := Lib.hid h2; have H3 := Lib.hid h3; have H4 := Lib.hid h4; have H5 := Lib.hid h5; have H6 := Lib.hid h6
  clear h1 h2 h3 h4 h5 h6 i1 i2 i3 i4 i5 i6
  obtain ⟨w1, e1, hl1, hB1, hz1⟩ := box_ans w An.zero
  obtain ⟨w2, e2, hl2, hB2, hz2⟩ := box_ans w1 An.zero
  dsimp only [An.cells, An.zero] at e1 e2
  have hz1' : w1.heap.size = w.heap.size + 1 := hz1
  have HBa := hB1.trans (hB2.mono (by omega))
  have HR2 := Lib.hid ((hr.kept hB1).kept hB2)
  have HK2 := Lib.hid (hl1.below hB2 hl1.lt)
  rw [hz1'] at hl2
  have HL2 := Lib.hid hl2
  have HG2 := Lib.hid ((hg.below hB1 hg.lt).below hB2 (by omega))
  have HB2 := Lib.hid (HBa.mono hB)
  have HBA := Lib.hid HBa
  have HS2 := Lib.hid (Saves.refl o (w.heap.size + 1) w2)
  have hbo : (w.heap.size + 1) ≠ o := by omega
  have hBb : B ≤ (w.heap.size + 1) := by omega
  clear hl1 hB1 hz1 hl2 hB2 hz2 HBa hr hg
  go_enter Tryz.func86, Tryz.ntmps86
  go_wp2_with fail
  refine (rnumber_any _ B o u s p er n1 p1 f1 HR2.out x1 H1).mono ?_
  rintro e3 v3 ⟨rfl, hr, hg⟩
  have k3 : Anss v3 (w.heap.size + 1) (⟨0, 0, 0, false, [], 0⟩ : An.Ans) := HL2.out.kept hg (by simp; omega)
  have c3 := k3.cell 0 _ rfl
  have d3 := k3.free 0
  obtain ⟨hl', hr', hs', hb'⟩ := aget_end (a' := (⟨n1, 0, 0, false, [], 0⟩ : An.Ans)) 0 (.int .i64 n1) (An.set_client _ _) hBb (Nat.le_trans hB HB2.out.size) hbo hg HL2.out hr
  go_wp2_with fail
  generalize v3.setCell ⟨w.heap.size + 1, 0, none⟩ (.int .i64 n1) = w3 at hl' hr' hs' hb' ⊢
  have HL3 := Lib.hid hl'; have HR3 := Lib.hid hr'; have HB3 := Lib.hid (HB2.out.trans hb')
  have HS3 := Lib.hid (HS2.out.trans hs')
  have HK3 := Lib.hid (hs' _ _ _ (by omega) (by omega) HK2.out)
  have HG3 := Lib.hid (hs' _ _ _ hgo (by omega) HG2.out)
  clear hl' hr' hs' hb' hg hr k3 c3 d3
  refine (rnumber_any _ B o u s p1 f1 n2 p2 f2 HR3.out x2 H2).mono ?_
  rintro e4 v4 ⟨rfl, hr, hg⟩
  have k4 : Anss v4 (w.heap.size + 1) (⟨n1, 0, 0, false, [], 0⟩ : An.Ans) := HL3.out.kept hg (by simp; omega)
  have c4 := k4.cell 1 _ rfl
  have d4 := k4.free 1
  obtain ⟨hl', hr', hs', hb'⟩ := aget_end (a' := (⟨n1, n2, 0, false, [], 0⟩ : An.Ans)) 1 (.int .i64 n2) (An.set_seq _ _) hBb (Nat.le_trans hB HB3.out.size) hbo hg HL3.out hr
  go_wp2_with fail
  generalize v4.setCell ⟨w.heap.size + 1, 1, none⟩ (.int .i64 n2) = w4 at hl' hr' hs' hb' ⊢
  have HL4 := Lib.hid hl'; have HR4 := Lib.hid hr'; have HB4 := Lib.hid (HB3.out.trans hb')
  have HS4 := Lib.hid (HS3.out.trans hs')
  have HK4 := Lib.hid (hs' _ _ _ (by omega) (by omega) HK3.out)
  have HG4 := Lib.hid (hs' _ _ _ hgo (by omega) HG3.out)
  clear hl' hr' hs' hb' hg hr k4 c4 d4
  refine (rnumber_any _ B o u s p2 f2 n3 p3 f3 HR4.out x3 H3).mono ?_
  rintro e5 v5 ⟨rfl, hr, hg⟩
  have k5 : Anss v5 (w.heap.size + 1) (⟨n1, n2, 0, false, [], 0⟩ : An.Ans) := HL4.out.kept hg (by simp; omega)
  have c5 := k5.cell 2 _ rfl
  have d5 := k5.free 2
  obtain ⟨hl', hr', hs', hb'⟩ := aget_end (a' := (⟨n1, n2, n3, false, [], 0⟩ : An.Ans)) 2 (.int .i64 n3) (An.set_err _ _) hBb (Nat.le_trans hB HB4.out.size) hbo hg HL4.out hr
  go_wp2_with fail
  generalize v5.setCell ⟨w.heap.size + 1, 2, none⟩ (.int .i64 n3) = w5 at hl' hr' hs' hb' ⊢
  have HL5 := Lib.hid hl'; have HR5 := Lib.hid hr'; have HB5 := Lib.hid (HB4.out.trans hb')
  have HS5 := Lib.hid (HS4.out.trans hs')
  have HK5 := Lib.hid (hs' _ _ _ (by omega) (by omega) HK4.out)
  have HG5 := Lib.hid (hs' _ _ _ hgo (by omega) HG4.out)
  clear hl' hr' hs' hb' hg hr k5 c5 d5
  refine (rflagged_any _ B o u s p3 f3 b4 p4 f4 HR5.out x4 H4).mono ?_
  rintro e6 v6 ⟨rfl, hr, hg⟩
  have k6 : Anss v6 (w.heap.size + 1) (⟨n1, n2, n3, false, [], 0⟩ : An.Ans) := HL5.out.kept hg (by simp; omega)
  have c6 := k6.cell 3 _ rfl
  have d6 := k6.free 3
  obtain ⟨hl', hr', hs', hb'⟩ := aget_end (a' := (⟨n1, n2, n3, b4, [], 0⟩ : An.Ans)) 3 (.bool b4) (An.set_found _ _) hBb (Nat.le_trans hB HB5.out.size) hbo hg HL5.out hr
  go_wp2_with fail
  generalize v6.setCell ⟨w.heap.size + 1, 3, none⟩ (.bool b4) = w6 at hl' hr' hs' hb' ⊢
  have HL6 := Lib.hid hl'; have HR6 := Lib.hid hr'; have HB6 := Lib.hid (HB5.out.trans hb')
  have HS6 := Lib.hid (HS5.out.trans hs')
  have HK6 := Lib.hid (hs' _ _ _ (by omega) (by omega) HK5.out)
  have HG6 := Lib.hid (hs' _ _ _ hgo (by omega) HG5.out)
  clear hl' hr' hs' hb' hg hr k6 c6 d6
  refine (rtextual_any _ B o u s p4 f4 s5 p5 f5 HR6.out x5 H5).mono ?_
  rintro e7 v7 ⟨rfl, hr, hg⟩
  have k7 : Anss v7 (w.heap.size + 1) (⟨n1, n2, n3, b4, [], 0⟩ : An.Ans) := HL6.out.kept hg (by simp; omega)
  have c7 := k7.cell 4 _ rfl
  have d7 := k7.free 4
  obtain ⟨hl', hr', hs', hb'⟩ := aget_end (a' := (⟨n1, n2, n3, b4, s5, 0⟩ : An.Ans)) 4 (.string ⟨s5.toArray⟩) (An.set_val _ _) hBb (Nat.le_trans hB HB6.out.size) hbo hg HL6.out hr
  go_wp2_with fail
  generalize v7.setCell ⟨w.heap.size + 1, 4, none⟩ (.string ⟨s5.toArray⟩) = w7 at hl' hr' hs' hb' ⊢
  have HL7 := Lib.hid hl'; have HR7 := Lib.hid hr'; have HB7 := Lib.hid (HB6.out.trans hb')
  have HS7 := Lib.hid (HS6.out.trans hs')
  have HK7 := Lib.hid (hs' _ _ _ (by omega) (by omega) HK6.out)
  have HG7 := Lib.hid (hs' _ _ _ hgo (by omega) HG6.out)
  clear hl' hr' hs' hb' hg hr k7 c7 d7
  refine (more_any v g _ HG7.out).mono ?_
  rintro e8 w8 ⟨rfl, rfl⟩
  have hwb : (w.heap.size + 1) ≠ w.heap.size := by omega
  by_cases hv : v = 2
  · have hv2 : (v == 2) = true := by simpa using hv
    rw [hv2]
    have HGT : Hid (An.get v s p er = ((⟨n1, n2, n3, b4, s5, n6⟩ : An.Ans), p6, f6)) := by show _ = _; rw [hv]; exact An.get_two HG5x.out H6.out
    clear hv hv2
    go_wp2_with fail
    refine (rnumber_any _ B o u s p5 f5 n6 p6 f6 HR7.out x6 H6).mono ?_
    rintro e8 v8 ⟨rfl, hr, hg⟩
    have k8 : Anss v8 (w.heap.size + 1) (⟨n1, n2, n3, b4, s5, 0⟩ : An.Ans) := HL7.out.kept hg (by simp; omega)
    have c8 := k8.cell 5 _ rfl
    have d8 := k8.free 5
    obtain ⟨hl', hr', hs', hb'⟩ := aget_end (a' := (⟨n1, n2, n3, b4, s5, n6⟩ : An.Ans)) 5 (.int .i64 n6) (An.set_rev _ _) hBb (Nat.le_trans hB HB7.out.size) hbo hg HL7.out hr
    have KE := Anss.every hl'
    obtain ⟨z0, z1, z2, z3, z4, z5⟩ := KE
    have HLe := Lib.hid hl'; have HRe := Lib.hid hr'; have HBe := Lib.hid (HB7.out.trans hb')
    have HSe := Lib.hid (HS7.out.trans hs')
    have HKe := Lib.hid (hs' _ _ _ (by omega) (by omega) HK7.out)
    clear hl' hr' hs' hb' hg hr k8
    go_wp2_with (refine store_ans (by rfl) _ _ (by rfl) w.heap.size An.zero (⟨n1, n2, n3, b4, s5, n6⟩ : An.Ans) (by rfl) (by rfl) HKe.out ?_; intro w9 hl9 hg9)
    refine ret_ans1 rfl rfl hl9 rfl ?_
    rw [HGT.out]
    exact ⟨rfl, HRe.out.beside' hg9 (by omega) (fun h => HKe.out.not_row (by decide) HRe.out.owns h.symm), HBe.out.grown hg9 (Nat.le_trans hB HBe.out.size) (by rintro j hj; cases hj; exact hB), saves_end HBA.out HSe.out hg9 (by omega) (by omega)⟩
  · have hv2 : (v == 2) = false := by simpa using hv
    rw [hv2]
    have HGT : Hid (An.get v s p er = ((⟨n1, n2, n3, b4, s5, 0⟩ : An.Ans), p5, f5)) := An.get_one hv HG5x.out
    clear hv hv2
    obtain ⟨p0, p1, p2, p3, p4, p5⟩ := Anss.every HL7.out
    go_wp2_with (refine store_ans (by rfl) _ _ (by rfl) w.heap.size An.zero (⟨n1, n2, n3, b4, s5, 0⟩ : An.Ans) (by rfl) (by rfl) HK7.out ?_; intro w9 hl9 hg9)
    refine ret_ans1 rfl rfl hl9 rfl ?_
    rw [HGT.out]
    exact ⟨rfl, HR7.out.beside' hg9 (by omega) (fun h => HK7.out.not_row (by decide) HR7.out.owns h.symm), HB7.out.grown hg9 (Nat.le_trans hB HB7.out.size) (by rintro j hj; cases hj; exact hB), saves_end HBA.out HS7.out hg9 (by omega) (by omega)⟩

set_option maxRecDepth 4000 in
set_option maxHeartbeats 1600000 in
theorem agot_any (v : Int) (w : World) (B o : Nat) (u : Value) (s : List UInt8) (p : Nat) (er : Int) (hr : Rdr w B o u s p er) (hB : B ≤ w.heap.size) :
    Calls Tryz.prog 65 #[.pointer (some ⟨o, 0, none⟩), .int .i64 v] w (AGot w B o u s (An.get v s p er)) := by
  have ho := hr.lies.lt
  obtain ⟨w1, e1, hl1, hB1, hz1⟩ := box_ans w An.zero
  dsimp only [An.cells, An.zero] at e1
  have HR1 := Lib.hid (hr.kept hB1)
  have HL1 := Lib.hid hl1; have HB1 := Lib.hid hB1; have HZ1 := Lib.hid hz1
  clear hl1 hB1 hz1 hr
  go_enter Tryz.func65, Tryz.ntmps65
  go_wp2_with fail
  refine (longer_any v _).mono ?_
  rintro e2 w2 ⟨rfl, hg2, hB2⟩
  have HR2 := Lib.hid (HR1.out.kept hB2)
  have HL2 := Lib.hid (HL1.out.below hB2 HL1.out.lt)
  have HB2 := Lib.hid (HB1.out.trans (hB2.mono HB1.out.size))
  have HG2 := Lib.hid hg2
  have hz2 := HB2.out.size
  clear hB2 hg2
  go_wp2_with fail
  refine (aread_any v _ B o w1.heap.size u s p er HR2.out (Nat.le_trans hB hz2) HG2.out (by have := HZ1.out; omega)).mono ?_
  rintro e3 w3 ⟨rfl, hr3, hB3, hS3⟩
  have HR3 := Lib.hid hr3
  have HL3 := Lib.hid (hS3 _ _ _ (by omega) (by omega) HL2.out)
  have HB3 := Lib.hid ((HB2.out.mono hB).trans hB3)
  have HS3 := Lib.hid hS3
  clear hr3 hB3 hS3
  obtain ⟨t, ht⟩ : ∃ t, t = An.get v s p er := ⟨_, rfl⟩
  rw [← ht] at HR3 ⊢
  have HT := Lib.hid ht
  clear ht
  go_wp2_with (refine store_ans (by rfl) _ _ (by rfl) w.heap.size An.zero t.1 (by rfl) (by rfl) HL3.out ?_; intro w9 hl9 hg9)
  refine ret_ans1 rfl rfl hl9 rfl ?_
  rw [← HT.out]
  exact ⟨rfl, HR3.out.beside' hg9 (by omega) (fun h => HL3.out.not_row (by decide) HR3.out.owns h.symm), HB3.out.grown hg9 (Nat.le_trans hB HB3.out.size) (by rintro j hj; cases hj; exact hB), fun k T vs h1 _ hl => by
    have := hl.lt
    exact (HS3.out k T vs h1 h1 (hl.below HB2.out hl.lt)).kept hg9 (by simp; omega)⟩

/-- What a decoding gives. -/
def ADecd (w : World) (r : An.Ans × Int) (e : Ending) (w' : World) : Prop := e = .returned (.tuple #[.agg (An.cells r.1), .int .i64 r.2]) ∧ Below w.heap.size w w'

end Go.Proofs.YtammfmmpldahhaaGreat
