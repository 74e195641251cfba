/- Several texts of mine in one: MsEq MsChk. -/
import Derived.Test.YtndicjpbanmpjaaGreatDoorGMa
import Derived.Test.YtndicjpbanmpjaaGreatDoorGEr
import Derived.Test.YtndicjpbanmpjaaGreatDoorGNum
import Derived.Test.YtndicjpbanmpjaaGreatDoorEnChk
namespace Go.Proofs.YtndicjpbanmpjaaGreatDoor
open Go.RowKit

set_option maxRecDepth 4000 in
set_option maxHeartbeats 400000 in
theorem equalB_any (v u : Value) (l m : List UInt8) (w : World) (hv : Reads w v l) (hu : Reads w u m) :
    Calls Tryz.prog 42 #[v, u] w (Looks w (.bool (l == m))) := by
  obtain ⟨ao, cap, rfl⟩ := hv.shape
  obtain ⟨ao2, cap2, rfl⟩ := hu.shape
  have c1 := run_string_of (P := Tryz.prog) l Tryz.underlying25 Tryz.underlying5 Tryz.underlying9 hv
  have c2 := run_string_of (P := Tryz.prog) m Tryz.underlying25 Tryz.underlying5 Tryz.underlying9 hu
  go_enter Tryz.func42, Tryz.ntmps42
  go_wp2
  go_ret
  exact ⟨ret_bool rfl, Below.refl _ _⟩
theorem sameB_any (v u : Value) (l m : List UInt8) (w : World) (hv : Reads w v l) (hu : Reads w u m) :
    Calls Tryz.prog 11 #[v, u] w (Looks w (.bool (l == m))) := by
  refine (same_any v u l m w hv hu).mono ?_
  rintro e w' ⟨rfl, k, rfl⟩
  exact ⟨rfl, drawn w k⟩

set_option maxRecDepth 4000 in
set_option maxHeartbeats 3200000 in
theorem equalE_any (v u : Value) (l m : List En.Ent) (w : World) (hv : ReadsE w v l) (hu : ReadsE w u m) :
    Calls Tryz.prog 98 #[v, u] w (Looks w (.bool (decide (l = m)))) := by
  obtain ⟨ao, cap, rfl, hc1, hc2⟩ := ReadsE.shape hv
  obtain ⟨bo, bcap, rfl, hd1, hd2⟩ := ReadsE.shape hu
  have HP := Lib.hid (fun h => ReadsE.places hv h)
  have HQ := Lib.hid (fun h => ReadsE.places hu h)
  obtain ⟨r, hr⟩ : ∃ r, r = decide (l = m) := ⟨_, rfl⟩
  rw [← hr]
  have HR := Lib.hid hr
  obtain ⟨n, hnn⟩ : ∃ n, n = l.length := ⟨_, rfl⟩
  obtain ⟨p, hpp⟩ : ∃ p, p = m.length := ⟨_, rfl⟩
  rw [← hnn] at hc1 ⊢
  rw [← hpp] at hd1 ⊢
  have HN := Lib.hid hnn
  have HM := Lib.hid hpp
  have hnb : n < 9223372036854775808 := by omega
  have hpb : p < 9223372036854775808 := by omega
  clear hv hu hnn hpp hr
  by_cases hnp : n = p
  · subst hnp
    have hne : ((n : Int) != (n : Int)) = false := by simp
    go_enter Tryz.func98, Tryz.ntmps98
    go_wp2
    go_loopw [5, 13] (fun _ i wr => ∃ k : Nat, i = .int .i64 (k : Int) ∧ k ≤ n ∧ Hid (l.take k = m.take k) ∧ Below w.heap.size w wr) (fun _ i _ => n - (intOf i).toNat)
    case atStart => exact ⟨0, rfl, by omega, by show _ = _; simp, Below.refl _ _⟩
    case round =>
      obtain ⟨k, rfl, hk, HI, hB⟩ := hrel
      have HB := Lib.hid hB
      clear hB
      by_cases hlt : k < n
      · obtain ⟨a, ha⟩ : ∃ e, l[k]? = some e := ⟨_, List.getElem?_eq_getElem (by have := HN.out; omega)⟩
        obtain ⟨b, hb⟩ : ∃ e, m[k]? = some e := ⟨_, List.getElem?_eq_getElem (by have := HM.out; omega)⟩
        obtain ⟨g, off, rfl, hgl, hcell⟩ := HP.out (by have := HN.out; omega)
        obtain ⟨h, oof, rfl, hhl, hdell⟩ := HQ.out (by have := HM.out; omega)
        obtain ⟨c0, c1, c2, c3, c4, c5, c6, c7, c8, c9⟩ := hcell wr HB.out k a ha
        obtain ⟨d0, d1, d2, d3, d4, d5, d6, d7, d8, d9⟩ := hdell wr HB.out k b hb
        have HA := Lib.hid ha; have HBB := Lib.hid hb
        have hgd := guard_ent
        have hneq := fun W => run_neq_ent W a b
        obtain ⟨t, ht⟩ : ∃ t, t = decide (a = b) := ⟨_, rfl⟩
        rw [← ht] at hneq
        have HT := Lib.hid ht
        dsimp only [En.cells] at hneq
        clear hcell hdell ha hb ht
        cases t with
        | true =>
          have HZ : Hid (l.take (k + 1) = m.take (k + 1)) := by
            show _ = _
            rw [List.take_add_one, List.take_add_one, HA.out, HBB.out, HI.out, of_decide_eq_true HT.out.symm]
          simp only [Bool.not_true] at hneq
          go_wp2
          go_quiet (fail)
          all_goals
            go_wp2
            go_roundw
            case rel => exact ⟨k + 1, by go_num, by omega, HZ.out, HB.out.trans ((drawn wr _).mono HB.out.size)⟩
            case measure => simp [intOf]; omega
        | false =>
          have HZ : Hid (r = false) := by
            show _ = _
            rw [HR.out]
            refine decide_eq_false fun h => ?_
            have h1 := HA.out
            rw [h, HBB.out] at h1
            exact of_decide_eq_false HT.out.symm (Option.some.inj h1).symm
          simp only [Bool.not_false] at hneq
          go_wp2
          go_quiet (fail)
          all_goals
            go_wp2
            go_ret
            exact ⟨by rw [HZ.out]; rfl, HB.out.trans ((drawn wr _).mono HB.out.size)⟩
      · have HZ : Hid (r = true) := by
          show _ = _
          rw [HR.out]
          refine decide_eq_true ?_
          have := HI.out
          rwa [List.take_of_length_le (by have := HN.out; omega), List.take_of_length_le (by have := HM.out; omega)] at this
        go_wp2
        go_ret
        exact ⟨by rw [HZ.out]; rfl, HB.out⟩
  · have hne : ((n : Int) != (p : Int)) = true := by simp; omega
    have HZ : Hid (r = false) := by
      show _ = _
      rw [HR.out]
      exact decide_eq_false fun h => hnp (by rw [HN.out, HM.out, h])
    go_enter Tryz.func98, Tryz.ntmps98
    go_wp2
    go_ret
    exact ⟨by rw [HZ.out]; rfl, Below.refl _ _⟩

theorem Ms.ext_iff (a b : Ms.Msg) : a = b ↔ a.kind = b.kind ∧ a.frm = b.frm ∧ a.dst = b.dst ∧ a.bal = b.bal ∧ a.index = b.index ∧ a.commit = b.commit ∧ a.version = b.version ∧ a.ents = b.ents ∧ a.img = b.img := by
  obtain ⟨a1, a2, a3, a4, a5, a6, a7, a8, a9⟩ := a
  obtain ⟨b1, b2, b3, b4, b5, b6, b7, b8, b9⟩ := b
  simp only [Ms.Msg.mk.injEq]

set_option maxRecDepth 4000 in
set_option maxHeartbeats 3200000 in
theorem sameM_any (m m' : Ms.Msg) (ve vi ve' vi' : Value) (w : World) (he : ReadsE w ve m.ents) (hi : Reads w vi m.img) (he' : ReadsE w ve' m'.ents) (hi' : Reads w vi' m'.img) :
    Calls Tryz.prog 82 #[.agg (Ms.cells m ve vi), .agg (Ms.cells m' ve' vi')] w (Looks w (.bool (decide (m = m')))) := by
  obtain ⟨w1, e1, hl1, hk1, hB1, hz1⟩ := box_msgs w m ve vi m' ve' vi'
  obtain ⟨p0, p1, p2, p3, p4, p5, p6, p7, p8, p9⟩ := Msgs.ten hl1
  obtain ⟨q0, q1, q2, q3, q4, q5, q6, q7, q8, q9⟩ := Msgs.ten hk1
  have HCE := Lib.hid (equalE_any ve ve' m.ents m'.ents w1 (he.below hB1) (he'.below hB1))
  have HI := Lib.hid (hi.below hB1); have HI' := Lib.hid (hi'.below hB1)
  have HL := Lib.hid hl1; have HK := Lib.hid hk1; have HB := Lib.hid hB1
  have hgd := guard_bal
  have heq := fun W => run_eql_bal W m.bal m'.bal
  obtain ⟨r, hr⟩ : ∃ r, r = decide (m = m') := ⟨_, rfl⟩
  rw [← hr]
  have HR := Lib.hid hr
  have HE := Lib.hid (Ms.ext_iff m m')
  obtain ⟨z, hz⟩ : ∃ z, z = decide (m.bal = m'.bal) := ⟨_, rfl⟩
  rw [← hz] at heq
  have HZZ := Lib.hid hz
  dsimp only [Bl.cells] at heq
  clear hl1 hk1 hB1 hz1 he hi he' hi' hr hz
  by_cases h0 : m.kind = m'.kind
  rotate_left
  · have d0 : (m.kind == m'.kind) = false := by simpa using h0
    have HZ : Hid (r = false) := HR.out.trans (decide_eq_false fun h => h0 ((HE.out.1 h).1))
    clear h0
    go_enter Tryz.func82, Tryz.ntmps82
    go_wp2
    go_ret
    exact ⟨by rw [HZ.out]; rfl, HB.out⟩
  have d0 : (m.kind == m'.kind) = true := by simpa using h0
  have H0 := Lib.hid h0
  clear h0
  by_cases h1 : m.frm = m'.frm
  rotate_left
  · have d1 : (m.frm == m'.frm) = false := by simpa using h1
    have HZ : Hid (r = false) := HR.out.trans (decide_eq_false fun h => h1 ((HE.out.1 h).2.1))
    clear h1
    go_enter Tryz.func82, Tryz.ntmps82
    go_wp2
    go_ret
    exact ⟨by rw [HZ.out]; rfl, HB.out⟩
  have d1 : (m.frm == m'.frm) = true := by simpa using h1
  have H1 := Lib.hid h1
  clear h1
  by_cases h2 : m.dst = m'.dst
  rotate_left
  · have d2 : (m.dst == m'.dst) = false := by simpa using h2
    have HZ : Hid (r = false) := HR.out.trans (decide_eq_false fun h => h2 ((HE.out.1 h).2.2.1))
    clear h2
    go_enter Tryz.func82, Tryz.ntmps82
    go_wp2
    go_ret
    exact ⟨by rw [HZ.out]; rfl, HB.out⟩
  have d2 : (m.dst == m'.dst) = true := by simpa using h2
  have H2 := Lib.hid h2
  clear h2
  cases z with
  | false =>
    have HZ : Hid (r = false) := HR.out.trans (decide_eq_false fun h => of_decide_eq_false HZZ.out.symm ((HE.out.1 h).2.2.2.1))
    go_enter Tryz.func82, Tryz.ntmps82
    go_wp2
    go_ret
    exact ⟨by rw [HZ.out]; rfl, HB.out⟩
  | true =>
    have H3 := Lib.hid (of_decide_eq_true HZZ.out.symm)
    by_cases h4 : m.index = m'.index
    rotate_left
    · have d4 : (m.index == m'.index) = false := by simpa using h4
      have HZ : Hid (r = false) := HR.out.trans (decide_eq_false fun h => h4 ((HE.out.1 h).2.2.2.2.1))
      clear h4
      go_enter Tryz.func82, Tryz.ntmps82
      go_wp2
      go_ret
      exact ⟨by rw [HZ.out]; rfl, HB.out⟩
    have d4 : (m.index == m'.index) = true := by simpa using h4
    have H4 := Lib.hid h4
    clear h4
    by_cases h5 : m.commit = m'.commit
    rotate_left
    · have d5 : (m.commit == m'.commit) = false := by simpa using h5
      have HZ : Hid (r = false) := HR.out.trans (decide_eq_false fun h => h5 ((HE.out.1 h).2.2.2.2.2.1))
      clear h5
      go_enter Tryz.func82, Tryz.ntmps82
      go_wp2
      go_ret
      exact ⟨by rw [HZ.out]; rfl, HB.out⟩
    have d5 : (m.commit == m'.commit) = true := by simpa using h5
    have H5 := Lib.hid h5
    clear h5
    by_cases h6 : m.version = m'.version
    rotate_left
    · have d6 : (m.version == m'.version) = false := by simpa using h6
      have HZ : Hid (r = false) := HR.out.trans (decide_eq_false fun h => h6 ((HE.out.1 h).2.2.2.2.2.2.1))
      clear h6
      go_enter Tryz.func82, Tryz.ntmps82
      go_wp2
      go_ret
      exact ⟨by rw [HZ.out]; rfl, HB.out⟩
    have d6 : (m.version == m'.version) = true := by simpa using h6
    have H6 := Lib.hid h6
    clear h6
    go_enter Tryz.func82, Tryz.ntmps82
    obtain ⟨x, hx⟩ : ∃ x, x = decide (m.ents = m'.ents) := ⟨_, rfl⟩
    obtain ⟨y, hy⟩ : ∃ y, y = (m.img == m'.img) := ⟨_, rfl⟩
    rw [← hx] at HCE
    have HX := Lib.hid hx; have HY := Lib.hid hy
    clear hx hy
    go_wp2_with fail
    refine HCE.out.mono ?_
    rintro e2 w2 ⟨rfl, hB2⟩
    have HI2 := Lib.hid (HI.out.below hB2); have HI2' := Lib.hid (HI'.out.below hB2)
    have c9 := Msgs.c9 (HL.out.below hB2 HL.out.lt)
    have c9' := Msgs.c9 (HK.out.below hB2 HK.out.lt)
    have HB2 := Lib.hid (HB.out.trans (hB2.mono HB.out.size))
    clear hB2 p0 p1 p2 p3 p4 p5 p6 p7 p8 p9 q0 q1 q2 q3 q4 q5 q6 q7 q8 q9
    cases x with
    | false =>
      have HZ : Hid (r = false) := HR.out.trans (decide_eq_false fun h => of_decide_eq_false HX.out.symm (HE.out.1 h).2.2.2.2.2.2.2.1)
      go_wp2
      go_ret
      exact ⟨by rw [HZ.out]; rfl, HB2.out⟩
    | true =>
      have HZ : Hid (r = y) := by
        show _ = _
        rw [HR.out, HY.out]
        have hxx := of_decide_eq_true HX.out.symm
        by_cases hb : m.img = m'.img
        · rw [decide_eq_true (HE.out.2 ⟨H0.out, H1.out, H2.out, H3.out, H4.out, H5.out, H6.out, hxx, hb⟩)]
          exact (by simpa using hb : (m.img == m'.img) = true).symm
        · rw [decide_eq_false fun h => hb (HE.out.1 h).2.2.2.2.2.2.2.2]
          exact (by simpa using hb : (m.img == m'.img) = false).symm
      go_wp2_with fail
      refine (equalB_any vi vi' m.img m'.img _ HI2.out HI2'.out).mono ?_
      rintro e3 w3 ⟨rfl, hB3⟩
      rw [← HY.out]
      go_wp2
      go_ret
      exact ⟨by rw [HZ.out]; rfl, HB2.out.trans (hB3.mono HB2.out.size)⟩

set_option maxRecDepth 4000 in
set_option maxHeartbeats 3200000 in
theorem refSameM_any (m m' : Ms.Msg) (ve vi ve' vi' : Value) (w : World) (he : ReadsE w ve m.ents) (hi : Reads w vi m.img) (he' : ReadsE w ve' m'.ents) (hi' : Reads w vi' m'.img) :
    Calls Tryz.prog 13 #[.agg (Ms.cells m ve vi), .agg (Ms.cells m' ve' vi')] w (Looks w (.bool (decide (m = m')))) := by
  obtain ⟨w1, e1, hl1, hk1, hB1, hz1⟩ := box_msgs w m ve vi m' ve' vi'
  obtain ⟨p0, p1, p2, p3, p4, p5, p6, p7, p8, p9⟩ := Msgs.ten hl1
  obtain ⟨q0, q1, q2, q3, q4, q5, q6, q7, q8, q9⟩ := Msgs.ten hk1
  have HCE := Lib.hid (sameE_any ve ve' m.ents m'.ents w1 (he.below hB1) (he'.below hB1))
  have HI := Lib.hid (hi.below hB1); have HI' := Lib.hid (hi'.below hB1)
  have HL := Lib.hid hl1; have HK := Lib.hid hk1; have HB := Lib.hid hB1
  have hgd := guard_bal
  have heq := fun W => run_eql_bal W m.bal m'.bal
  obtain ⟨r, hr⟩ : ∃ r, r = decide (m = m') := ⟨_, rfl⟩
  rw [← hr]
  have HR := Lib.hid hr
  have HE := Lib.hid (Ms.ext_iff m m')
  obtain ⟨z, hz⟩ : ∃ z, z = decide (m.bal = m'.bal) := ⟨_, rfl⟩
  rw [← hz] at heq
  have HZZ := Lib.hid hz
  dsimp only [Bl.cells] at heq
  clear hl1 hk1 hB1 hz1 he hi he' hi' hr hz
  by_cases h0 : m.kind = m'.kind
  rotate_left
  · have d0 : (m.kind == m'.kind) = false := by simpa using h0
    have HZ : Hid (r = false) := HR.out.trans (decide_eq_false fun h => h0 ((HE.out.1 h).1))
    clear h0
    go_enter Tryz.func13, Tryz.ntmps13
    go_wp2
    go_ret
    exact ⟨by rw [HZ.out]; rfl, HB.out⟩
  have d0 : (m.kind == m'.kind) = true := by simpa using h0
  have H0 := Lib.hid h0
  clear h0
  by_cases h1 : m.frm = m'.frm
  rotate_left
  · have d1 : (m.frm == m'.frm) = false := by simpa using h1
    have HZ : Hid (r = false) := HR.out.trans (decide_eq_false fun h => h1 ((HE.out.1 h).2.1))
    clear h1
    go_enter Tryz.func13, Tryz.ntmps13
    go_wp2
    go_ret
    exact ⟨by rw [HZ.out]; rfl, HB.out⟩
  have d1 : (m.frm == m'.frm) = true := by simpa using h1
  have H1 := Lib.hid h1
  clear h1
  by_cases h2 : m.dst = m'.dst
  rotate_left
  · have d2 : (m.dst == m'.dst) = false := by simpa using h2
    have HZ : Hid (r = false) := HR.out.trans (decide_eq_false fun h => h2 ((HE.out.1 h).2.2.1))
    clear h2
    go_enter Tryz.func13, Tryz.ntmps13
    go_wp2
    go_ret
    exact ⟨by rw [HZ.out]; rfl, HB.out⟩
  have d2 : (m.dst == m'.dst) = true := by simpa using h2
  have H2 := Lib.hid h2
  clear h2
  cases z with
  | false =>
    have HZ : Hid (r = false) := HR.out.trans (decide_eq_false fun h => of_decide_eq_false HZZ.out.symm ((HE.out.1 h).2.2.2.1))
    go_enter Tryz.func13, Tryz.ntmps13
    go_wp2
    go_ret
    exact ⟨by rw [HZ.out]; rfl, HB.out⟩
  | true =>
    have H3 := Lib.hid (of_decide_eq_true HZZ.out.symm)
    by_cases h4 : m.index = m'.index
    rotate_left
    · have d4 : (m.index == m'.index) = false := by simpa using h4
      have HZ : Hid (r = false) := HR.out.trans (decide_eq_false fun h => h4 ((HE.out.1 h).2.2.2.2.1))
      clear h4
      go_enter Tryz.func13, Tryz.ntmps13
      go_wp2
      go_ret
      exact ⟨by rw [HZ.out]; rfl, HB.out⟩
    have d4 : (m.index == m'.index) = true := by simpa using h4
    have H4 := Lib.hid h4
    clear h4
    by_cases h5 : m.commit = m'.commit
    rotate_left
    · have d5 : (m.commit == m'.commit) = false := by simpa using h5
      have HZ : Hid (r = false) := HR.out.trans (decide_eq_false fun h => h5 ((HE.out.1 h).2.2.2.2.2.1))
      clear h5
      go_enter Tryz.func13, Tryz.ntmps13
      go_wp2
      go_ret
      exact ⟨by rw [HZ.out]; rfl, HB.out⟩
    have d5 : (m.commit == m'.commit) = true := by simpa using h5
    have H5 := Lib.hid h5
    clear h5
    by_cases h6 : m.version = m'.version
    rotate_left
    · have d6 : (m.version == m'.version) = false := by simpa using h6
      have HZ : Hid (r = false) := HR.out.trans (decide_eq_false fun h => h6 ((HE.out.1 h).2.2.2.2.2.2.1))
      clear h6
      go_enter Tryz.func13, Tryz.ntmps13
      go_wp2
      go_ret
      exact ⟨by rw [HZ.out]; rfl, HB.out⟩
    have d6 : (m.version == m'.version) = true := by simpa using h6
    have H6 := Lib.hid h6
    clear h6
    go_enter Tryz.func13, Tryz.ntmps13
    obtain ⟨x, hx⟩ : ∃ x, x = decide (m.ents = m'.ents) := ⟨_, rfl⟩
    obtain ⟨y, hy⟩ : ∃ y, y = (m.img == m'.img) := ⟨_, rfl⟩
    rw [← hx] at HCE
    have HX := Lib.hid hx; have HY := Lib.hid hy
    clear hx hy
    go_wp2_with fail
    refine HCE.out.mono ?_
    rintro e2 w2 ⟨rfl, hB2⟩
    have HI2 := Lib.hid (HI.out.below hB2); have HI2' := Lib.hid (HI'.out.below hB2)
    have c9 := Msgs.c9 (HL.out.below hB2 HL.out.lt)
    have c9' := Msgs.c9 (HK.out.below hB2 HK.out.lt)
    have HB2 := Lib.hid (HB.out.trans (hB2.mono HB.out.size))
    clear hB2 p0 p1 p2 p3 p4 p5 p6 p7 p8 p9 q0 q1 q2 q3 q4 q5 q6 q7 q8 q9
    cases x with
    | false =>
      have HZ : Hid (r = false) := HR.out.trans (decide_eq_false fun h => of_decide_eq_false HX.out.symm (HE.out.1 h).2.2.2.2.2.2.2.1)
      go_wp2
      go_ret
      exact ⟨by rw [HZ.out]; rfl, HB2.out⟩
    | true =>
      have HZ : Hid (r = y) := by
        show _ = _
        rw [HR.out, HY.out]
        have hxx := of_decide_eq_true HX.out.symm
        by_cases hb : m.img = m'.img
        · rw [decide_eq_true (HE.out.2 ⟨H0.out, H1.out, H2.out, H3.out, H4.out, H5.out, H6.out, hxx, hb⟩)]
          exact (by simpa using hb : (m.img == m'.img) = true).symm
        · rw [decide_eq_false fun h => hb (HE.out.1 h).2.2.2.2.2.2.2.2]
          exact (by simpa using hb : (m.img == m'.img) = false).symm
      go_wp2_with fail
      refine (sameB_any vi vi' m.img m'.img _ HI2.out HI2'.out).mono ?_
      rintro e3 w3 ⟨rfl, hB3⟩
      rw [← HY.out]
      go_wp2
      go_ret
      exact ⟨by rw [HZ.out]; rfl, HB2.out.trans (hB3.mono HB2.out.size)⟩

end Go.Proofs.YtndicjpbanmpjaaGreatDoor


namespace Go.Proofs.YtndicjpbanmpjaaGreatDoor
open Go.RowKit

/-- What own tells: the entries and the image read as the message's own. -/
def Owned (w : World) (m : Ms.Msg) (e : Ending) (w' : World) : Prop :=
  Below w.heap.size w w' ∧ ∃ (eo : Option Addr) (ec : Nat) (io : Option Addr) (ic : Nat), e = .returned (.agg (Ms.cells (Ms.own m) (.slice eo (Ms.own m).ents.length ec) (.slice io (Ms.own m).img.length ic))) ∧
    ReadsE w' (.slice eo (Ms.own m).ents.length ec) (Ms.own m).ents ∧ Reads w' (.slice io (Ms.own m).img.length ic) (Ms.own m).img
theorem owned_own (m : Ms.Msg) (ve vi : Value) (w : World) (hF : FieldsIn w) (he : ReadsE w ve m.ents) (hi : Reads w vi m.img) :
    Calls Tryz.prog 77 #[.agg (Ms.cells m ve vi)] w (Owned w m) := by
  obtain ⟨eo, ec, rfl, _, _⟩ := ReadsE.shape he
  obtain ⟨io, ic, rfl⟩ := hi.shape
  refine (own_any m eo _ ec io _ ic w hF).mono ?_
  rintro e w' ⟨rfl, hb⟩
  refine ⟨hb, ?_⟩
  have h1 : ∃ eo' ec', (if Ms.he m.kind = true then Value.slice eo m.ents.length ec else .slice none 0 0) = .slice eo' (Ms.own m).ents.length ec' ∧ ReadsE w' (.slice eo' (Ms.own m).ents.length ec') (Ms.own m).ents := by
    rw [show (Ms.own m).ents = if Ms.he m.kind = true then m.ents else [] from rfl]
    by_cases h : Ms.he m.kind = true
    · rw [if_pos h, if_pos h]; exact ⟨_, _, rfl, he.below hb⟩
    · rw [if_neg h, if_neg h]; exact ⟨_, _, rfl, ReadsR.empty w' 10⟩
  have h2 : ∃ io' ic', (if Ms.hm m.kind = true then Value.slice io m.img.length ic else .slice none 0 0) = .slice io' (Ms.own m).img.length ic' ∧ Reads w' (.slice io' (Ms.own m).img.length ic') (Ms.own m).img := by
    rw [show (Ms.own m).img = if Ms.hm m.kind = true then m.img else [] from rfl]
    by_cases h : Ms.hm m.kind = true
    · rw [if_pos h, if_pos h]; exact ⟨_, _, rfl, hi.below hb⟩
    · rw [if_neg h, if_neg h]; exact ⟨_, _, rfl, Reads.empty w'⟩
  obtain ⟨eo', ec', e1, r1⟩ := h1
  obtain ⟨io', ic', e2, r2⟩ := h2
  exact ⟨eo', ec', io', ic', by rw [e1, e2], r1, r2⟩

set_option maxRecDepth 4000 in
set_option maxHeartbeats 3200000 in
theorem checkM_any (m : Ms.Msg) (ve vi : Value) (w : World) (hF : FieldsIn w) (hW : WordsIn w) (he : ReadsE w ve m.ents) (hi : Reads w vi m.img) (hs : ∀ e ∈ m.ents, e.cmd.Short 140737488355328) :
    Calls Tryz.prog 57 #[.agg (Ms.cells m ve vi)] w (Looks w (.int .i64 (Ms.check m))) := by
  obtain ⟨w1, e1, hl1, hB1, hz1⟩ := box_msg w m ve vi
  obtain ⟨p0, p1, p2, p3, p4, p5, p6, p7, p8, p9⟩ := Msgs.ten hl1
  have HM1 := Lib.hid hl1; have HB1 := Lib.hid hB1; have HS := Lib.hid hz1
  have HF1 := Lib.hid (hF.below hB1); have HW1 := Lib.hid (hW.below hB1)
  have HE1 := Lib.hid (he.below hB1); have HI1 := Lib.hid (hi.below hB1)
  have HSS : Hid (∀ e ∈ (Ms.own m).ents, e.cmd.Short 140737488355328) := by
    intro e h
    by_cases hk : Ms.he m.kind = true
    · rw [show (Ms.own m).ents = m.ents from if_pos hk] at h; exact hs e h
    · rw [show (Ms.own m).ents = [] from if_neg hk] at h; simp at h
  obtain ⟨r, hr⟩ : ∃ r, r = Ms.check m := ⟨_, rfl⟩
  rw [← hr]
  unfold Ms.check at hr
  have HR := Lib.hid hr
  have HMASK := Lib.hid (Ms.mask_zero m.kind)
  clear hl1 hB1 hz1 hF hW he hi hs hr
  go_enter Tryz.func57, Tryz.ntmps57
  go_wp2_with fail
  refine (owned_own m ve vi _ HF1.out HE1.out HI1.out).mono ?_
  rintro e2 w2 ⟨hb, eo, ec, io, ic, rfl, hre, hri⟩
  have HM2 := Lib.hid (HM1.out.below hb HM1.out.lt); have HF2 := Lib.hid (HF1.out.below hb); have HW2 := Lib.hid (HW1.out.below hb)
  have HE2 := Lib.hid (HE1.out.below hb); have HI2 := Lib.hid (HI1.out.below hb); have HB2 := Lib.hid (HB1.out.trans (hb.mono HB1.out.size))
  have HRE2 := Lib.hid hre; have HRI2 := Lib.hid hri
  have hs2 : w.heap.size < w2.heap.size := by have := hb.size; have := HS.out; omega
  have HS2 := Lib.hid hs2
  clear hb hre hri hs2 p0 p1 p2 p3 p4 p5 p6 p7 p8 p9
  go_wp2_with (first
    | (refine store_msg (by rfl) _ _ (by rfl) w2.heap.size Ms.zero _ _ (Ms.own m) (.slice eo (Ms.own m).ents.length ec) (.slice io (Ms.own m).img.length ic) (by rfl) (by rfl) rfl rfl (Lies.new _ _ _) ?_
       intro w3 hl3 hg3
       have hb := fresh_below hg3
       have HM3 := Lib.hid (HM2.out.below hb HM2.out.lt); have HO3 := Lib.hid hl3; have HF3 := Lib.hid (HF2.out.below hb); have HW3 := Lib.hid (HW2.out.below hb)
       have HE3 := Lib.hid (HE2.out.below hb); have HI3 := Lib.hid (HI2.out.below hb); have HB3 := Lib.hid (HB2.out.trans (hb.mono HB2.out.size))
       have HRE3 := Lib.hid (HRE2.out.below hb); have HRI3 := Lib.hid (HRI2.out.below hb)
       clear hl3 hg3 hb
       obtain ⟨p0, p1, p2, p3, p4, p5, p6, p7, p8, p9⟩ := Msgs.ten HM3.out)
    | fail)
  refine (fieldsOf_any m.kind _ HF3.out).mono ?_
  rintro e4 w4 ⟨rfl, rfl⟩
  have hmask := HMASK.out
  cases hk : Ms.known m.kind with
  | false =>
    have HZ : Hid (r = 5) := by show _ = _; rw [HR.out, if_pos hk]
    rw [hk] at hmask
    simp only [Bool.not_false] at hmask
    clear hk
    go_wp2
    go_ret
    exact ⟨by rw [HZ.out]; rfl, HB3.out⟩
  | true =>
    have HR2 := Lib.hid (HR.out.trans (if_neg (by rw [hk]; simp)))
    rw [hk] at hmask
    simp only [Bool.not_true] at hmask
    clear hk
    go_wp2_with fail
    refine (nodesM_any m.frm m.dst _).mono ?_
    rintro e4 w4 ⟨rfl, rfl⟩
    clear hmask
    obtain ⟨x, hx⟩ : ∃ x, x = Ms.nodes m.frm m.dst := ⟨_, rfl⟩
    obtain ⟨y, hy⟩ : ∃ y, y = Ms.ranged m := ⟨_, rfl⟩
    have hcall := rangedM_any m ve vi w3 HF3.out
    rw [← hy] at hcall
    rw [← hx]
    have HRR : Hid (r = if (x && y) = false then 6 else if Ms.long m = true then 2 else if En.check 0 (Ms.own m).ents ≠ 0 then En.check 0 (Ms.own m).ents else if (decide (Ms.own m = m) && Ms.whole m) = false then 3 else 0) := by
      show _ = _; rw [hx, hy]; exact HR2.out
    have HCALL := Lib.hid hcall
    clear hx hy hcall
    cases x with
    | false =>
      have HZ : Hid (r = 6) := HRR.out.trans (if_pos rfl)
      go_wp2
      go_ret
      exact ⟨by rw [HZ.out]; rfl, HB3.out⟩
    | true =>
      go_wp2_with fail
      refine HCALL.out.mono ?_
      rintro e5 w5 ⟨rfl, hb⟩
      have HM5 := Lib.hid (HM3.out.below hb HM3.out.lt); have HO5 := Lib.hid (HO3.out.below hb HO3.out.lt); have HF5 := Lib.hid (HF3.out.below hb); have HW5 := Lib.hid (HW3.out.below hb)
      have HE5 := Lib.hid (HE3.out.below hb); have HI5 := Lib.hid (HI3.out.below hb); have HB5 := Lib.hid (HB3.out.trans (hb.mono HB3.out.size))
      have HRE5 := Lib.hid (HRE3.out.below hb); have HRI5 := Lib.hid (HRI3.out.below hb)
      clear hb p0 p1 p2 p3 p4 p5 p6 p7 p8 p9
      cases y with
      | false =>
        have HZ : Hid (r = 6) := HRR.out.trans (if_pos rfl)
        go_wp2
        go_ret
        exact ⟨by rw [HZ.out]; rfl, HB5.out⟩
      | true =>
        have HR6 := Lib.hid (HRR.out.trans (if_neg (by simp)))
        have q8 := Msgs.c8 HO5.out
        have q9 := Msgs.c9 HO5.out
        have HCE := Lib.hid (checkE_any _ _ _ HRE5.out HW5.out HSS.out)
        obtain ⟨l, hl⟩ : ∃ l, l = En.check 0 (Ms.own m).ents := ⟨_, rfl⟩
        have HL := Lib.hid hl
        have HLONG : Hid (Ms.long m = (decide (256 < (Ms.own m).ents.length) || decide (32768 < (Ms.own m).img.length))) := rfl
        rw [← hl] at HCE HR6
        obtain ⟨n, hn⟩ : ∃ n, n = (Ms.own m).ents.length := ⟨_, rfl⟩
        obtain ⟨k, hkk⟩ : ∃ k, k = (Ms.own m).img.length := ⟨_, rfl⟩
        have HN := Lib.hid hn; have HK := Lib.hid hkk
        have hnb := (HRE5.out.len).2
        have hkb := (HRI5.out.len).2
        rw [← hn] at hnb q8 HCE HLONG
        rw [← hkk] at hkb q9 HLONG
        clear hl hn hkk
        by_cases h1 : 256 < n
        · have d1 : decide ((256 : Int) < (n : Int)) = true := by simp; omega
          have HZ : Hid (r = 2) := HR6.out.trans (if_pos (by rw [HLONG.out, decide_eq_true h1]; rfl))
          go_wp2
          go_ret
          exact ⟨by rw [HZ.out]; rfl, HB5.out⟩
        · have d1 : decide ((256 : Int) < (n : Int)) = false := by simp; omega
          by_cases h2 : 32768 < k
          · have d2 : decide ((32768 : Int) < (k : Int)) = true := by simp; omega
            have HZ : Hid (r = 2) := HR6.out.trans (if_pos (by rw [HLONG.out, decide_eq_true h2]; simp))
            go_wp2
            go_ret
            exact ⟨by rw [HZ.out]; rfl, HB5.out⟩
          · have d2 : decide ((32768 : Int) < (k : Int)) = false := by simp; omega
            have HR7 := Lib.hid (HR6.out.trans (if_neg (by rw [HLONG.out, decide_eq_false h1, decide_eq_false h2]; simp)))
            go_wp2_with fail
            refine HCE.out.mono ?_
            rintro e7 w7 ⟨rfl, hb⟩
            have HM7 := Lib.hid (HM5.out.below hb HM5.out.lt); have HO7 := Lib.hid (HO5.out.below hb HO5.out.lt)
            have HE7 := Lib.hid (HE5.out.below hb); have HI7 := Lib.hid (HI5.out.below hb); have HB7 := Lib.hid (HB5.out.trans (hb.mono HB5.out.size))
            have HRE7 := Lib.hid (HRE5.out.below hb); have HRI7 := Lib.hid (HRI5.out.below hb)
            clear hb q8 q9 d1 d2 h1 h2 hnb hkb
            by_cases h0 : l = 0
            · subst h0
              have HR8 := Lib.hid (HR7.out.trans (if_neg (by simp)))
              have hsame := sameM_any (Ms.own m) m _ _ _ _ w7 HRE7.out HRI7.out HE7.out HI7.out
              obtain ⟨x, hx⟩ : ∃ x, x = decide (Ms.own m = m) := ⟨_, rfl⟩
              obtain ⟨y, hy⟩ : ∃ y, y = Ms.whole m := ⟨_, rfl⟩
              rw [← hx] at hsame
              have HR9 : Hid (r = if (x && y) = false then 3 else 0) := by show _ = _; rw [hx, hy]; exact HR8.out
              have HSAME := Lib.hid hsame; have HY := Lib.hid hy
              clear hx hy hsame
              obtain ⟨p0, p1, p2, p3, p4, p5, p6, p7, p8, p9⟩ := Msgs.ten HM7.out
              obtain ⟨q0, q1, q2, q3, q4, q5, q6, q7, q8, q9⟩ := Msgs.ten HO7.out
              go_wp2_with fail
              refine HSAME.out.mono ?_
              rintro e8 w8 ⟨rfl, hb⟩
              have HM8 := Lib.hid (HM7.out.below hb HM7.out.lt)
              have HE8 := Lib.hid (HE7.out.below hb); have HI8 := Lib.hid (HI7.out.below hb); have HB8 := Lib.hid (HB7.out.trans (hb.mono HB7.out.size))
              clear hb p0 p1 p2 p3 p4 p5 p6 p7 p8 p9 q0 q1 q2 q3 q4 q5 q6 q7 q8 q9
              cases x with
              | false =>
                have HZ : Hid (r = 3) := HR9.out.trans (if_pos rfl)
                go_wp2
                go_ret
                exact ⟨by rw [HZ.out]; rfl, HB8.out⟩
              | true =>
                obtain ⟨p0, p1, p2, p3, p4, p5, p6, p7, p8, p9⟩ := Msgs.ten HM8.out
                go_wp2_with fail
                refine (wholeM_any m ve vi _ HE8.out HI8.out).mono ?_
                rintro e9 w9 ⟨rfl, hb⟩
                have HB9 := Lib.hid (HB8.out.trans (hb.mono HB8.out.size))
                clear hb p0 p1 p2 p3 p4 p5 p6 p7 p8 p9
                rw [← HY.out]
                cases y with
                | false =>
                  have HZ : Hid (r = 3) := HR9.out.trans (if_pos rfl)
                  go_wp2
                  go_ret
                  exact ⟨by rw [HZ.out]; rfl, HB9.out⟩
                | true =>
                  have HZ : Hid (r = 0) := HR9.out.trans (if_neg (by simp))
                  go_wp2
                  go_ret
                  exact ⟨by rw [HZ.out]; rfl, HB9.out⟩
            · have hne : (l != 0) = true := by simpa using h0
              have HZ : Hid (r = l) := HR7.out.trans (if_pos h0)
              go_wp2
              go_ret
              exact ⟨by rw [HZ.out]; rfl, HB7.out⟩

set_option maxRecDepth 4000 in
set_option maxHeartbeats 1600000 in
theorem olderM_any (m : Ms.Msg) (ve vi : Value) (w : World) (hF : FieldsIn w) (hW : WordsIn w) (he : ReadsE w ve m.ents) (hi : Reads w vi m.img) (hs : ∀ e ∈ m.ents, e.cmd.Short 140737488355328) :
    Calls Tryz.prog 51 #[.agg (Ms.cells m ve vi)] w (Looks w (.int .i64 (Ms.older m))) := by
  obtain ⟨w1, e1, hl1, hB1, hz1⟩ := box_msg w m ve vi
  obtain ⟨p0, p1, p2, p3, p4, p5, p6, p7, p8, p9⟩ := Msgs.ten hl1
  have HM1 := Lib.hid hl1; have HB1 := Lib.hid hB1
  have HF1 := Lib.hid (hF.below hB1)
  have HE1 := Lib.hid (he.below hB1)
  have HC1 := Lib.hid (checkM_any m ve vi w1 HF1.out (hW.below hB1) HE1.out (hi.below hB1) hs)
  obtain ⟨r, hr⟩ : ∃ r, r = Ms.older m := ⟨_, rfl⟩
  rw [← hr]
  unfold Ms.older at hr
  obtain ⟨c, hc⟩ : ∃ c, c = Ms.check m := ⟨_, rfl⟩
  rw [← hc] at hr HC1
  have HR := Lib.hid hr
  obtain ⟨b1, _, _, _, _, _⟩ := Ms.bits m.kind
  obtain ⟨x, hx⟩ : ∃ x, x = Ms.hv m.kind := ⟨_, rfl⟩
  rw [← hx] at b1
  have HX := Lib.hid hx; have HBT := Lib.hid b1
  clear hl1 hB1 hz1 hF hW he hi hs hr hc b1 hx
  go_enter Tryz.func51, Tryz.ntmps51
  go_wp2_with fail
  refine HC1.out.mono ?_
  rintro e2 w2 ⟨rfl, hb⟩
  have HM2 := Lib.hid (HM1.out.below hb HM1.out.lt); have HF2 := Lib.hid (HF1.out.below hb)
  have HE2 := Lib.hid (HE1.out.below hb); have HB2 := Lib.hid (HB1.out.trans (hb.mono HB1.out.size))
  clear hb p0 p1 p2 p3 p4 p5 p6 p7 p8 p9
  by_cases h0 : c = 0
  · subst h0
    have HR2 := Lib.hid (HR.out.trans (if_neg (by simp)))
    obtain ⟨p0, p1, p2, p3, p4, p5, p6, p7, p8, p9⟩ := Msgs.ten HM2.out
    go_wp2_with fail
    refine (hasM_any m ve vi 1 x _ HF2.out HBT.out).mono ?_
    rintro e3 w3 ⟨rfl, hb⟩
    have HM3 := Lib.hid (HM2.out.below hb HM2.out.lt)
    have HE3 := Lib.hid (HE2.out.below hb); have HB3 := Lib.hid (HB2.out.trans (hb.mono HB2.out.size))
    clear hb p0 p1 p2 p3 p4 p5 p6 p7 p8 p9
    obtain ⟨p0, p1, p2, p3, p4, p5, p6, p7, p8, p9⟩ := Msgs.ten HM3.out
    have HHAS := Lib.hid (hasE_any 1 ve m.ents w3 HE3.out)
    obtain ⟨y, hy⟩ : ∃ y, y = En.has 1 m.ents := ⟨_, rfl⟩
    rw [← hy] at HHAS
    have HN : Hid (Ms.newer m = ((x && decide (m.version ≠ 1)) || !y)) := by show _ = _; rw [hy, HX.out]; rfl
    clear hy
    by_cases hver : x = true ∧ m.version ≠ 1
    · have hx := hver.1
      subst hx
      have dv : (m.version != 1) = true := by simpa using hver.2
      have HZ : Hid (r = 8) := HR2.out.trans (if_pos (by rw [HN.out, decide_eq_true hver.2]; rfl))
      clear hver
      go_wp2
      go_ret
      exact ⟨by rw [HZ.out]; rfl, HB3.out⟩
    · have HN2 : Hid (Ms.newer m = !y) := by
        show _ = _
        rw [HN.out]
        cases x with
        | false => rfl
        | true => rw [decide_eq_false (fun h => hver ⟨rfl, h⟩)]; rfl
      have hfin : ∀ (Q : Prop), (x = false → Q) → (x = true → (m.version != 1) = false → Q) → Q := by
        intro Q a b
        cases x with
        | false => exact a rfl
        | true => exact b rfl (by simpa using fun h => hver ⟨rfl, h⟩)
      clear hver
      refine hfin _ ?_ ?_
      · intro hx
        subst hx
        go_wp2_with fail
        refine HHAS.out.mono ?_
        rintro e4 w4 ⟨rfl, hb⟩
        have HB4 := Lib.hid (HB3.out.trans (hb.mono HB3.out.size))
        clear hb p0 p1 p2 p3 p4 p5 p6 p7 p8 p9
        cases y with
        | false =>
          have HZ : Hid (r = 8) := HR2.out.trans (if_pos (by rw [HN2.out]; rfl))
          go_wp2
          go_ret
          exact ⟨by rw [HZ.out]; rfl, HB4.out⟩
        | true =>
          have HZ : Hid (r = 0) := HR2.out.trans (if_neg (by rw [HN2.out]; simp))
          go_wp2
          go_ret
          exact ⟨by rw [HZ.out]; rfl, HB4.out⟩
      · intro hx dv
        subst hx
        go_wp2_with fail
        refine HHAS.out.mono ?_
        rintro e4 w4 ⟨rfl, hb⟩
        have HB4 := Lib.hid (HB3.out.trans (hb.mono HB3.out.size))
        clear hb p0 p1 p2 p3 p4 p5 p6 p7 p8 p9
        cases y with
        | false =>
          have HZ : Hid (r = 8) := HR2.out.trans (if_pos (by rw [HN2.out]; rfl))
          go_wp2
          go_ret
          exact ⟨by rw [HZ.out]; rfl, HB4.out⟩
        | true =>
          have HZ : Hid (r = 0) := HR2.out.trans (if_neg (by rw [HN2.out]; simp))
          go_wp2
          go_ret
          exact ⟨by rw [HZ.out]; rfl, HB4.out⟩
  · have hne : (c != 0) = true := by simpa using h0
    have HZ : Hid (r = c) := HR.out.trans (if_pos h0)
    go_wp2
    go_ret
    exact ⟨by rw [HZ.out]; rfl, HB2.out⟩

end Go.Proofs.YtndicjpbanmpjaaGreatDoor
