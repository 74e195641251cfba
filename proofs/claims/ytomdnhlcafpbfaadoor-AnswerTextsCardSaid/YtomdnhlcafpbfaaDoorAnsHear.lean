/- Parse of an answer. -/
import Derived.Test.YtomdnhlcafpbfaaDoorAnsText
import Derived.Test.YtomdnhlcafpbfaaDoorGCm
namespace Go.Proofs.YtomdnhlcafpbfaaDoor
open Go.RowKit

/-- The store behind a word's reading. -/
theorem ahear_end {w wk w' : World} {b r : Nat} {a a' : An.Ans} {T : TypeId} {vs : Array Value} (i : Nat) (x : Value) (he : (An.cells a).setIfInBounds i x = An.cells a') (HB : Below w.heap.size w wk) (hb : Below wk.heap.size wk w') (hl : Anss wk b a) (hbw : w.heap.size ≤ b) (hr : Lies wk r T vs) (hrb : r ≠ b) :
    Anss (w'.setCell ⟨b, i, none⟩ x) b a' ∧ Below w.heap.size w (w'.setCell ⟨b, i, none⟩ x) ∧ Lies (w'.setCell ⟨b, i, none⟩ x) r T vs := by
  refine ⟨?_, ?_, ?_⟩
  · have := (hl.below hb hl.lt).set i x
    rw [he] at this
    exact this
  · have h1 := HB.trans (hb.mono HB.size)
    exact h1.grown (grown_set w' b i x) h1.size (by rintro k hk; cases hk; exact hbw)
  · exact (hr.below hb hr.lt).kept (grown_set w' b i x) (by simp; omega)

theorem eq_yes (s : ByteArray) : (s.toList == [121, 101, 115]) = decide (s.data.toList = [121, 101, 115]) := by
  rw [ByteArray.toList_eq]
  by_cases h : s.data.toList = [121, 101, 115]
  · rw [decide_eq_true h, h]; simp
  · rw [decide_eq_false h, beq_eq_false_iff_ne]; exact h

set_option maxRecDepth 4000 in
set_option maxHeartbeats 3200000 in
theorem ahear_any (u0 u1 u2 u3 u4 u5 : ByteArray) (v : Value) (w : World) (he : ErrsIn w) (hrd : ReadsS w v [u0, u1, u2, u3, u4, u5]) (hs : ∀ u ∈ [u0, u1, u2, u3, u4, u5], u.size ≤ 200000000000) :
    Calls Tryd.prog 35 #[v] w (Looks w (.agg (An.cells (An.hear [u0.data.toList, u1.data.toList, u2.data.toList, u3.data.toList, u4.data.toList, u5.data.toList])))) := by
  have hs0 := hs u0 (by simp)
  have hs1 := hs u1 (by simp)
  have hs2 := hs u2 (by simp)
  have hs3 := hs u3 (by simp)
  have hs5 := hs u5 (by simp)
  obtain ⟨ao, cap, rfl⟩ := hrd.shape
  rw [show [u0, u1, u2, u3, u4, u5].length = 6 from rfl] at hrd ⊢
  obtain ⟨b, off, rfl, _, hcap, hcm, hbl, hcells⟩ := hrd.place (by simp)
  rw [show [u0, u1, u2, u3, u4, u5].length = 6 from rfl] at hcap
  unfold maxLen at hcm
  have HRD := Lib.hid hrd
  have HCS : Hid (∀ W, Below w.heap.size w W → W.cell? ⟨b, off, none⟩ = some (.string u0) ∧ W.cell? ⟨b, off + 1, none⟩ = some (.string u1) ∧ W.cell? ⟨b, off + 2, none⟩ = some (.string u2) ∧ W.cell? ⟨b, off + 3, none⟩ = some (.string u3) ∧ W.cell? ⟨b, off + 4, none⟩ = some (.string u4) ∧ W.cell? ⟨b, off + 5, none⟩ = some (.string u5)) := by
    intro W hW
    obtain ⟨b', off', hbo, _, _, _, _, hc⟩ := (HRD.out.below hW).place (by simp)
    cases hbo
    exact ⟨hc 0 u0 rfl, hc 1 u1 rfl, hc 2 u2 rfl, hc 3 u3 rfl, hc 4 u4 rfl, hc 5 u5 rfl⟩
  have HE := Lib.hid he
  clear hcells hrd he hs
  obtain ⟨x0, hx0⟩ : ∃ x, x = Cm.heardN u0.data.toList := ⟨_, rfl⟩
  obtain ⟨x1, hx1⟩ : ∃ x, x = Cm.heardN u1.data.toList := ⟨_, rfl⟩
  obtain ⟨x2, hx2⟩ : ∃ x, x = Cm.heardN u2.data.toList := ⟨_, rfl⟩
  obtain ⟨x3, hx3⟩ : ∃ x, x = Cm.heardN u3.data.toList := ⟨_, rfl⟩
  obtain ⟨t4, ht4⟩ : ∃ x, x = decide (u4.data.toList = [121, 101, 115]) := ⟨_, rfl⟩
  obtain ⟨x5, hx5⟩ : ∃ x, x = Cm.heardS u5.data.toList := ⟨_, rfl⟩
  have HRES : Hid (An.hear [u0.data.toList, u1.data.toList, u2.data.toList, u3.data.toList, u4.data.toList, u5.data.toList] = ⟨x0, x1, x2, t4, x5, x3⟩) := by
    show _ = _
    rw [hx0, hx1, hx2, hx3, ht4, hx5]
    rfl
  obtain ⟨er, her⟩ := Cm.told_tuple u5
  rw [← hx5] at her
  have hcmp := eq_yes u4
  rw [← ht4] at hcmp
  have H0 := Lib.hid hx0; have H1 := Lib.hid hx1; have H2 := Lib.hid hx2; have H3 := Lib.hid hx3; have H5 := Lib.hid her
  clear hx0 hx1 hx2 hx3 hx5 her ht4
  obtain ⟨w1, e1, hl1, hB1, hz1⟩ := box_ans w An.zero
  obtain ⟨w2, e2, hl2, hB2, hz2⟩ := box_ans w1 An.zero
  dsimp only [An.cells, An.zero] at e1 e2
  have hz1' : w1.heap.size = w.heap.size + 1 := hz1
  rw [hz1'] at hl2
  have HK2 := Lib.hid (hl1.below hB2 hl1.lt)
  have HL2 := Lib.hid hl2
  have HB2 := Lib.hid (hB1.trans (hB2.mono (by omega)))
  clear hl1 hB1 hz1 hl2 hB2 hz2
  obtain ⟨s0, s1, s2, s3, s4, s5⟩ := HCS.out _ HB2.out
  go_enter Tryd.func35, Tryd.ntmps35
  go_wp2_with fail
  refine (atoi_any u0 _ (HE.out.below HB2.out) (by omega)).mono ?_
  rintro e3 v3 ⟨ev3, rfl, hb⟩
  rw [← H0.out]
  have k3 : Anss v3 (w.heap.size + 1) (⟨0, 0, 0, false, [], 0⟩ : An.Ans) := HL2.out.below hb HL2.out.lt
  have c3 := k3.cell 0 _ rfl
  have d3 := k3.free 0
  obtain ⟨hl', hb', hk'⟩ := ahear_end (a' := (⟨x0, 0, 0, false, [], 0⟩ : An.Ans)) 0 (.int .i64 x0) (An.set_client _ _) HB2.out hb HL2.out (by omega) HK2.out (by omega)
  clear s0 s1 s2 s3 s4 s5
  obtain ⟨s0, s1, s2, s3, s4, s5⟩ := HCS.out _ hb'
  go_wp2_with fail
  generalize hW : v3.setCell ⟨w.heap.size + 1, 0, none⟩ (.int .i64 x0) = w3 at hl' hb' hk' s0 s1 s2 s3 s4 s5 ⊢
  have HL3 := Lib.hid hl'; have HB3 := Lib.hid hb'; have HK3 := Lib.hid hk'
  clear hl' hb' hk' k3 c3 d3
  clear hW
  refine (atoi_any u1 _ (HE.out.below HB3.out) (by omega)).mono ?_
  rintro e4 v4 ⟨ev4, rfl, hb⟩
  rw [← H1.out]
  have k4 : Anss v4 (w.heap.size + 1) (⟨x0, 0, 0, false, [], 0⟩ : An.Ans) := HL3.out.below hb HL3.out.lt
  have c4 := k4.cell 1 _ rfl
  have d4 := k4.free 1
  obtain ⟨hl', hb', hk'⟩ := ahear_end (a' := (⟨x0, x1, 0, false, [], 0⟩ : An.Ans)) 1 (.int .i64 x1) (An.set_seq _ _) HB3.out hb HL3.out (by omega) HK3.out (by omega)
  clear s0 s1 s2 s3 s4 s5
  obtain ⟨s0, s1, s2, s3, s4, s5⟩ := HCS.out _ hb'
  go_wp2_with fail
  generalize hW : v4.setCell ⟨w.heap.size + 1, 1, none⟩ (.int .i64 x1) = w4 at hl' hb' hk' s0 s1 s2 s3 s4 s5 ⊢
  have HL4 := Lib.hid hl'; have HB4 := Lib.hid hb'; have HK4 := Lib.hid hk'
  clear hl' hb' hk' k4 c4 d4
  clear hW
  refine (atoi_any u2 _ (HE.out.below HB4.out) (by omega)).mono ?_
  rintro e5 v5 ⟨ev5, rfl, hb⟩
  rw [← H2.out]
  have k5 : Anss v5 (w.heap.size + 1) (⟨x0, x1, 0, false, [], 0⟩ : An.Ans) := HL4.out.below hb HL4.out.lt
  have c5 := k5.cell 2 _ rfl
  have d5 := k5.free 2
  obtain ⟨hl', hb', hk'⟩ := ahear_end (a' := (⟨x0, x1, x2, false, [], 0⟩ : An.Ans)) 2 (.int .i64 x2) (An.set_err _ _) HB4.out hb HL4.out (by omega) HK4.out (by omega)
  clear s0 s1 s2 s3 s4 s5
  obtain ⟨s0, s1, s2, s3, s4, s5⟩ := HCS.out _ hb'
  go_wp2_with fail
  generalize hW : v5.setCell ⟨w.heap.size + 1, 2, none⟩ (.int .i64 x2) = w5 at hl' hb' hk' s0 s1 s2 s3 s4 s5 ⊢
  have HL5 := Lib.hid hl'; have HB5 := Lib.hid hb'; have HK5 := Lib.hid hk'
  clear hl' hb' hk' k5 c5 d5
  clear hW
  refine (atoi_any u3 _ (HE.out.below HB5.out) (by omega)).mono ?_
  rintro e6 v6 ⟨ev6, rfl, hb⟩
  rw [← H3.out]
  have k6 : Anss v6 (w.heap.size + 1) (⟨x0, x1, x2, false, [], 0⟩ : An.Ans) := HL5.out.below hb HL5.out.lt
  have c6 := k6.cell 5 _ rfl
  have d6 := k6.free 5
  obtain ⟨hl', hb', hk'⟩ := ahear_end (a' := (⟨x0, x1, x2, false, [], x3⟩ : An.Ans)) 5 (.int .i64 x3) (An.set_rev _ _) HB5.out hb HL5.out (by omega) HK5.out (by omega)
  clear s0 s1 s2 s3 s4 s5
  obtain ⟨s0, s1, s2, s3, s4, s5⟩ := HCS.out _ hb'
  have k7 : Anss (v6.setCell ⟨w.heap.size + 1, 5, none⟩ (.int .i64 x3)) (w.heap.size + 1) (⟨x0, x1, x2, false, [], x3⟩ : An.Ans) := hl'
  generalize hW6 : v6.setCell ⟨w.heap.size + 1, 5, none⟩ (.int .i64 x3) = w6 at hl' hb' hk' k7 s0 s1 s2 s3 s4 s5
  have c7 := k7.cell 3 _ rfl
  have d7 := k7.free 3
  obtain ⟨hl'', hb'', hk''⟩ := ahear_end (a' := (⟨x0, x1, x2, t4, [], x3⟩ : An.Ans)) 3 (.bool t4) (An.set_found _ _) hb' (Below.refl _ _) hl' (by omega) hk' (by omega)
  obtain ⟨y0, y1, y2, y3, y4, y5⟩ := HCS.out _ hb''
  go_wp2_with fail
  generalize hW : w6.setCell ⟨w.heap.size + 1, 3, none⟩ (.bool t4) = w7 at hl'' hb'' hk'' y0 y1 y2 y3 y4 y5 ⊢
  have HL7 := Lib.hid hl''; have HB7 := Lib.hid hb''; have HK7 := Lib.hid hk''
  clear hl'' hb'' hk'' hl' hb' hk' k6 c6 d6 k7 c7 d7 hW hW6 s0 s1 s2 s3 s4 s5
  refine (unquote_any u5 _ (by omega)).mono ?_
  rintro e8 v8 ⟨rfl, hb⟩
  rw [H5.out]
  have k8 : Anss v8 (w.heap.size + 1) (⟨x0, x1, x2, t4, [], x3⟩ : An.Ans) := HL7.out.below hb HL7.out.lt
  have c8 := k8.cell 4 _ rfl
  have d8 := k8.free 4
  obtain ⟨hl', hb', hk'⟩ := ahear_end (a' := (⟨x0, x1, x2, t4, x5, x3⟩ : An.Ans)) 4 (.string ⟨x5.toArray⟩) (An.set_val _ _) HB7.out hb HL7.out (by omega) HK7.out (by omega)
  clear y0 y1 y2 y3 y4 y5
  obtain ⟨s0, s1, s2, s3, s4, s5⟩ := HCS.out _ hb'
  obtain ⟨p0, p1, p2, p3, p4, p5⟩ := Anss.every hl'
  have HLe := Lib.hid hl'; have HBe := Lib.hid hb'; have HKe := Lib.hid hk'
  clear hl' hb' hk' hb
  go_wp2_with (refine store_ans (by rfl) _ _ (by rfl) w.heap.size An.zero (⟨x0, x1, x2, t4, x5, x3⟩ : An.Ans) (by rfl) (by rfl) HKe.out ?_; intro w9 hl9 hg9)
  refine ret_ans1 rfl rfl hl9 rfl ?_
  rw [HRES.out]
  exact ⟨rfl, HBe.out.grown hg9 HBe.out.size (by rintro j hj; cases hj; exact Nat.le_refl _)⟩

/-- What Parse tells. -/
def AParsed (w : World) (r : An.Ans × Int) (e : Ending) (w' : World) : Prop := e = .returned (.tuple #[.agg (An.cells r.1), .int .i64 r.2]) ∧ Below w.heap.size w w'

theorem six_of {us : List ByteArray} (h : us.length = 6) : ∃ u0 u1 u2 u3 u4 u5, us = [u0, u1, u2, u3, u4, u5] := by
  match us, h with
  | [u0, u1, u2, u3, u4, u5], _ => exact ⟨u0, u1, u2, u3, u4, u5, rfl⟩

set_option maxRecDepth 4000 in
set_option maxHeartbeats 3200000 in
theorem aparse_any (s : ByteArray) (w : World) (hp : PowIn w) (he : ErrsIn w) (hs : s.size ≤ 1000000) :
    Calls Tryd.prog 18 #[.string s] w (AParsed w (An.parse s)) := by
  obtain ⟨w1, e1, hl1, hB1, hz1⟩ := box_ans w An.zero
  dsimp only [An.cells, An.zero] at e1
  have HL1 := Lib.hid hl1; have HB1 := Lib.hid hB1
  have HP := Lib.hid hp; have HE := Lib.hid he
  clear hl1 hB1 hz1 hp he
  obtain ⟨r, hr⟩ : ∃ r, r = An.parse s := ⟨_, rfl⟩
  rw [← hr]
  unfold An.parse at hr
  have HRES := Lib.hid hr
  clear hr
  go_enter Tryd.func18, Tryd.ntmps18
  go_wp2_with fail
  refine (words_any s _ (by omega)).mono ?_
  rintro e w2 ⟨hB2, hW⟩
  have HL2 := Lib.hid (HL1.out.below hB2 HL1.out.lt)
  have HB2 := Lib.hid (HB1.out.trans (hB2.mono HB1.out.size))
  have hz2 : w.heap.size < w2.heap.size := HL2.out.lt
  clear hB2
  by_cases hok : Qt.lineOk s = true
  · rw [if_pos hok] at hW
    obtain ⟨v, us, rfl, hrd, hus⟩ := hW
    by_cases h6 : us.length = 6
    · obtain ⟨u0, u1, u2, u3, u4, u5, rfl⟩ := six_of h6
      have HUS : Hid (Qt.words s = [u0.data.toList, u1.data.toList, u2.data.toList, u3.data.toList, u4.data.toList, u5.data.toList]) := hus.symm
      have HRES2 : Hid (r = if An.text (An.hear (Qt.words s)) = s.data.toList then (An.hear (Qt.words s), 0) else (An.zero, 3)) := by
        show _ = _
        rw [HRES.out, if_pos ⟨hok, by rw [HUS.out]; rfl⟩]
      have HSM : Hid (∀ u ∈ [u0, u1, u2, u3, u4, u5], u.size ≤ 200000000000) := by
        intro u hu
        have hm : u.data.toList ∈ Qt.words s := by rw [← hus]; exact List.mem_map_of_mem hu
        have h1 := Cm.words_small s _ hm
        have h2 : u.data.toList.length = u.size := rfl
        omega
      obtain ⟨c, hc⟩ : ∃ c, c = An.hear (Qt.words s) := ⟨_, rfl⟩
      have HFT : Hid (c.Fits ∧ c.val.length ≤ 4000000) := by
        rw [hc]
        exact ⟨An.hear_fits _, by have := An.hear_len s; omega⟩
      rw [← hc] at HRES2
      have HC := Lib.hid hc
      obtain ⟨ao, cap, rfl⟩ := hrd.shape
      rw [show [u0, u1, u2, u3, u4, u5].length = 6 from rfl] at hrd ⊢
      have HRD := Lib.hid hrd
      clear hus h6 hrd hok hc
      go_wp2_with fail
      refine (ahear_any u0 u1 u2 u3 u4 u5 _ _ (HE.out.below HB2.out) HRD.out HSM.out).mono ?_
      rintro e w3 ⟨rfl, hB3⟩
      rw [← HUS.out, ← HC.out]
      have HL3 := Lib.hid (HL2.out.below hB3 HL2.out.lt)
      have HB3 := Lib.hid (HB2.out.trans (hB3.mono HB2.out.size))
      have hz3 := hB3.size
      clear hB3
      go_wp2_with (refine store_ans (by rfl) _ _ (by rfl) w3.heap.size An.zero c (by rfl) (by rfl) (Lies.new _ _ _) ?_; intro w4 hl4 hg4; obtain ⟨p0, p1, p2, p3, p4, p5⟩ := Anss.every hl4)
      have hB4 : Below w3.heap.size w3 w4 := ((Below.refl _ w3).alloc (Nat.le_refl _) _).grown hg4 (by simp) (by rintro j hj; cases hj; exact Nat.le_refl _)
      have HC4 := Lib.hid hl4
      have HL4 := Lib.hid (HL3.out.below hB4 HL3.out.lt)
      have HB4 := Lib.hid (HB3.out.trans (hB4.mono HB3.out.size))
      clear hl4 hB4 hg4
      refine (atext_any c _ (HP.out.below HB4.out) HFT.out.1 (by have := HFT.out.2; omega)).mono ?_
      rintro e w5 ⟨rfl, hB5⟩
      obtain ⟨q0, q1, q2, q3, q4, q5⟩ := Anss.every (HC4.out.below hB5 HC4.out.lt)
      have HL5 := Lib.hid (HL4.out.below hB5 HL4.out.lt)
      have HB5 := Lib.hid (HB4.out.trans (hB5.mono HB4.out.size))
      clear hB5 p0 p1 p2 p3 p4 p5
      obtain ⟨T, hT⟩ : ∃ T, T = ByteArray.mk (An.text c).toArray := ⟨_, rfl⟩
      rw [← hT]
      by_cases ht : An.text c = s.data.toList
      · have HZ : Hid (r = (c, 0)) := by show _ = _; rw [HRES2.out, if_pos ht]
        have hTs : T = s := by rw [hT, ht]
        clear ht hT
        subst hTs
        have hcmp' : (T.toList == T.toList) = true := by simp
        go_wp2_with (refine store_ans (by rfl) _ _ (by rfl) w.heap.size An.zero c (by rfl) (by rfl) HL5.out ?_; intro w6 hl6 hg6)
        refine ret_ans2 rfl rfl hl6 rfl ?_
        rw [HZ.out]
        exact ⟨rfl, HB5.out.grown hg6 HB5.out.size (by rintro j hj; cases hj; exact Nat.le_refl _)⟩
      · have HZ : Hid (r = (An.zero, 3)) := by show _ = _; rw [HRES2.out, if_neg ht]
        have hcmp' : (T.toList == s.toList) = false := Qt.ne_list (by rw [hT]; intro e; exact ht (by rw [← e]))
        clear ht hT
        go_wp2_with (refine store_ans (by rfl) _ _ (by rfl) w.heap.size An.zero An.zero (by rfl) (by rfl) HL5.out ?_; intro w6 hl6 hg6)
        refine ret_ans2 rfl rfl hl6 rfl ?_
        rw [HZ.out]
        exact ⟨rfl, HB5.out.grown hg6 HB5.out.size (by rintro j hj; cases hj; exact Nat.le_refl _)⟩
    · have HZ : Hid (r = (An.zero, 3)) := by
        show _ = _
        rw [HRES.out, if_neg]
        rintro ⟨_, h⟩
        rw [← hus, List.length_map] at h
        exact h6 h
      obtain ⟨ao, cap, rfl⟩ := hrd.shape
      obtain ⟨N, hN⟩ : ∃ N, N = us.length := ⟨_, rfl⟩
      rw [← hN] at h6 ⊢
      have hne : ((N : Int) != 6) = true := by simp; omega
      clear hus hrd hN h6
      go_wp2_with (refine store_ans (by rfl) _ _ (by rfl) w.heap.size An.zero An.zero (by rfl) (by rfl) HL2.out ?_; intro w6 hl6 hg6)
      refine ret_ans2 rfl rfl hl6 rfl ?_
      rw [HZ.out]
      exact ⟨rfl, HB2.out.grown hg6 HB2.out.size (by rintro j hj; cases hj; exact Nat.le_refl _)⟩
  · rw [if_neg hok] at hW
    subst hW
    have HZ : Hid (r = (An.zero, 3)) := by show _ = _; rw [HRES.out, if_neg (fun h => hok h.1)]
    go_wp2_with (refine store_ans (by rfl) _ _ (by rfl) w.heap.size An.zero An.zero (by rfl) (by rfl) HL2.out ?_; intro w6 hl6 hg6)
    refine ret_ans2 rfl rfl hl6 rfl ?_
    rw [HZ.out]
    exact ⟨rfl, HB2.out.grown hg6 HB2.out.size (by rintro j hj; cases hj; exact Nat.le_refl _)⟩

end Go.Proofs.YtomdnhlcafpbfaaDoor
