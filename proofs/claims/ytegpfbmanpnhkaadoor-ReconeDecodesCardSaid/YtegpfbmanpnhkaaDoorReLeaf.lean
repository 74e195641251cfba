/- Leaves of a record's Check: its ballot, index, image; whether two records are the same. -/
import Derived.Test.YtegpfbmanpnhkaaDoorReMem
import Derived.Test.YtegpfbmanpnhkaaDoorGBl
import Derived.Test.YtegpfbmanpnhkaaDoorGMc
import Derived.Test.YtegpfbmanpnhkaaDoorGMb
namespace Go.Proofs.YtegpfbmanpnhkaaDoor
open Go.RowKit

set_option maxRecDepth 4000 in
set_option maxHeartbeats 800000 in
theorem reBal_any (b : Bl.Bal) (w : World) : Calls Tryd.prog 36 #[.agg (Bl.cells b)] w (Looks w (.int .i64 (if Ms.owned b = true then 0 else 6))) := by
  obtain ⟨w1, e1, hl1, hB1, hz1⟩ := box_bal w b
  obtain ⟨p0, p1⟩ := Bals.both hl1
  have HL1 := Lib.hid hl1; have HB1 := Lib.hid hB1
  obtain ⟨r, hr⟩ : ∃ r : Int, r = if Ms.owned b = true then 0 else 6 := ⟨_, rfl⟩
  rw [← hr]
  unfold Ms.owned at hr
  have hmay := bmay_any b w1
  obtain ⟨t, ht⟩ : ∃ t, t = Bl.may b := ⟨_, rfl⟩
  rw [← ht] at hr hmay
  have hg := guard_bal
  have heq := fun W => run_eql_bal W b Bl.zero
  obtain ⟨z, hz⟩ : ∃ z, z = decide (b = Bl.zero) := ⟨_, rfl⟩
  rw [← hz] at heq
  rw [show decide (b ≠ Bl.zero) = !z by rw [hz, decide_not]] at hr
  dsimp only [Bl.cells, Bl.zero] at heq
  clear hl1 hB1 hz1 ht hz
  cases t with
  | false =>
    have HR : Hid (r = 6) := hr
    clear hr
    go_enter Tryd.func36, Tryd.ntmps36
    go_wp2_with fail
    refine hmay.mono ?_
    rintro e w2 ⟨rfl, hB2⟩
    go_wp2
    go_ret
    exact ⟨by rw [HR.out]; rfl, HB1.out.trans (hB2.mono HB1.out.size)⟩
  | true =>
    cases z with
    | false =>
      have HR : Hid (r = 0) := hr
      clear hr
      go_enter Tryd.func36, Tryd.ntmps36
      go_wp2_with fail
      refine hmay.mono ?_
      rintro e w2 ⟨rfl, hB2⟩
      obtain ⟨q0, q1⟩ := Bals.both (HL1.out.below hB2 HL1.out.lt)
      have HB2 := Lib.hid (HB1.out.trans (hB2.mono HB1.out.size))
      clear hB2 p0 p1
      go_wp2
      go_ret
      exact ⟨by rw [HR.out]; rfl, HB2.out⟩
    | true =>
      have HR : Hid (r = 6) := hr
      clear hr
      go_enter Tryd.func36, Tryd.ntmps36
      go_wp2_with fail
      refine hmay.mono ?_
      rintro e w2 ⟨rfl, hB2⟩
      obtain ⟨q0, q1⟩ := Bals.both (HL1.out.below hB2 HL1.out.lt)
      have HB2 := Lib.hid (HB1.out.trans (hB2.mono HB1.out.size))
      clear hB2 p0 p1
      go_wp2
      go_ret
      exact ⟨by rw [HR.out]; rfl, HB2.out⟩

set_option maxRecDepth 4000 in
set_option maxHeartbeats 800000 in
theorem reIndex_any (n : Int) (w : World) : Calls Tryd.prog 37 #[.int .i64 n] w (Says w (.int .i64 (if Ms.within n 1 4294967296 = true then 0 else 6))) := by
  obtain ⟨r, hr⟩ : ∃ r : Int, r = if Ms.within n 1 4294967296 = true then 0 else 6 := ⟨_, rfl⟩
  rw [← hr]
  unfold Ms.within at hr
  by_cases h1 : n < 1
  · have HR : Hid (r = 6) := by show _ = _; rw [hr, decide_eq_false (show ¬ 1 ≤ n by omega)]; rfl
    clear hr
    go_enter Tryd.func37, Tryd.ntmps37
    go_wp2
    go_ret
    exact ⟨by rw [HR.out]; rfl, rfl⟩
  · rw [decide_eq_true (show 1 ≤ n by omega)] at hr
    by_cases h2 : 4294967296 < n
    · have HR : Hid (r = 6) := by show _ = _; rw [hr, decide_eq_false (show ¬ n ≤ 4294967296 by omega)]; rfl
      clear hr
      go_enter Tryd.func37, Tryd.ntmps37
      go_wp2
      go_ret
      exact ⟨by rw [HR.out]; rfl, rfl⟩
    · have HR : Hid (r = 0) := by show _ = _; rw [hr, decide_eq_true (show n ≤ 4294967296 by omega)]; rfl
      clear hr
      go_enter Tryd.func37, Tryd.ntmps37
      go_wp2
      go_ret
      exact ⟨by rw [HR.out]; rfl, rfl⟩

set_option maxRecDepth 4000 in
set_option maxHeartbeats 800000 in
theorem reImage_any (u : Value) (l : List UInt8) (w : World) (hu : Reads w u l) : Calls Tryd.prog 39 #[u] w (Says w (.int .i64 (if decide (32768 < l.length) = true then 2 else 0))) := by
  obtain ⟨ao, cap, rfl⟩ := hu.shape
  have hlen := hu.len
  obtain ⟨n, hn⟩ : ∃ n, n = l.length := ⟨_, rfl⟩
  rw [← hn] at hlen ⊢
  have hnb : n ≤ 9223372036854775807 := by omega
  clear hu hn hlen
  by_cases h : 32768 < n
  · rw [decide_eq_true h, if_pos rfl]
    have d : decide ((32768 : Int) < (n : Int)) = true := by simp; omega
    clear h
    go_enter Tryd.func39, Tryd.ntmps39
    go_wp2
    go_ret
    exact ⟨rfl, rfl⟩
  · rw [decide_eq_false h, if_neg (by simp)]
    have d : decide ((32768 : Int) < (n : Int)) = false := by simp; omega
    clear h
    go_enter Tryd.func39, Tryd.ntmps39
    go_wp2
    go_ret
    exact ⟨rfl, rfl⟩

theorem Re.ext_iff (a b : Re.Rec) : a = b ↔ a.kind = b.kind ∧ a.bal = b.bal ∧ a.index = b.index ∧ a.cmd = b.cmd ∧ a.img = b.img := by
  obtain ⟨k, b1, i, c, m⟩ := a
  obtain ⟨k', b1', i', c', m'⟩ := b
  simp only [Re.Rec.mk.injEq]

/-! Same. -/
set_option maxRecDepth 4000 in
set_option maxHeartbeats 1600000 in
theorem sameRe_any (m m' : Re.Rec) (vi vi' : Value) (w : World) (hi : Reads w vi m.img) (hi' : Reads w vi' m'.img) :
    Calls Tryd.prog 10 #[.agg (Re.cells m vi), .agg (Re.cells m' vi')] w (Looks w (.bool (decide (m = m')))) := by
  obtain ⟨w1, e1, hl1, hk1, hB1, hz1⟩ := box_recs w m vi m' vi'
  obtain ⟨p0, p1, p2, p3, p4, p5, p6, p7, p8, p9, p10, p11⟩ := Recs.all hl1
  obtain ⟨q0, q1, q2, q3, q4, q5, q6, q7, q8, q9, q10, q11⟩ := Recs.all hk1
  have HCI := Lib.hid (equalB_any vi vi' m.img m'.img w1 (hi.below hB1) (hi'.below hB1))
  have HB := Lib.hid hB1
  have hgb := guard_bal
  have hgc := guard_cmd
  have heb := fun W => run_eql_bal W m.bal m'.bal
  have hec := fun W => run_eql_cmd W m.cmd m'.cmd
  obtain ⟨r, hr⟩ : ∃ r, r = decide (m = m') := ⟨_, rfl⟩
  rw [← hr]
  have HR := Lib.hid hr
  have HE := Lib.hid (Re.ext_iff m m')
  obtain ⟨z, hz⟩ : ∃ z, z = decide (m.bal = m'.bal) := ⟨_, rfl⟩
  rw [← hz] at heb
  obtain ⟨y, hy⟩ : ∃ y, y = decide (m.cmd = m'.cmd) := ⟨_, rfl⟩
  rw [← hy] at hec
  have HZZ := Lib.hid hz; have HYY := Lib.hid hy
  dsimp only [Bl.cells] at heb
  dsimp only [Cm.cells] at hec
  clear hl1 hk1 hB1 hz1 hi hi' hr hz hy
  by_cases h0 : m.kind = m'.kind
  rotate_left
  · have d0 : (m.kind == m'.kind) = false := by simpa using h0
    have HZ : Hid (r = false) := HR.out.trans (decide_eq_false fun h => h0 ((HE.out.1 h).1))
    clear h0
    go_enter Tryd.func10, Tryd.ntmps10
    go_wp2
    go_ret
    exact ⟨by rw [HZ.out]; rfl, HB.out⟩
  have d0 : (m.kind == m'.kind) = true := by simpa using h0
  have H0 := Lib.hid h0
  clear h0
  cases z with
  | false =>
    have HZ : Hid (r = false) := HR.out.trans (decide_eq_false fun h => of_decide_eq_false HZZ.out.symm ((HE.out.1 h).2.1))
    go_enter Tryd.func10, Tryd.ntmps10
    go_wp2
    go_ret
    exact ⟨by rw [HZ.out]; rfl, HB.out⟩
  | true =>
    have H1 := Lib.hid (of_decide_eq_true HZZ.out.symm)
    by_cases h2 : m.index = m'.index
    rotate_left
    · have d2 : (m.index == m'.index) = false := by simpa using h2
      have HZ : Hid (r = false) := HR.out.trans (decide_eq_false fun h => h2 ((HE.out.1 h).2.2.1))
      clear h2
      go_enter Tryd.func10, Tryd.ntmps10
      go_wp2
      go_ret
      exact ⟨by rw [HZ.out]; rfl, HB.out⟩
    have d2 : (m.index == m'.index) = true := by simpa using h2
    have H2 := Lib.hid h2
    clear h2
    cases y with
    | false =>
      have HZ : Hid (r = false) := HR.out.trans (decide_eq_false fun h => of_decide_eq_false HYY.out.symm ((HE.out.1 h).2.2.2.1))
      go_enter Tryd.func10, Tryd.ntmps10
      go_wp2
      go_ret
      exact ⟨by rw [HZ.out]; rfl, HB.out⟩
    | true =>
      have H3 := Lib.hid (of_decide_eq_true HYY.out.symm)
      have HZ : Hid (r = (m.img == m'.img)) := by
        show _ = _
        rw [HR.out]
        cases hx : m.img == m'.img with
        | false => exact decide_eq_false fun h => by rw [(HE.out.1 h).2.2.2.2] at hx; simp at hx
        | true => exact decide_eq_true (HE.out.2 ⟨H0.out, H1.out, H2.out, H3.out, by simpa using hx⟩)
      obtain ⟨x, hx⟩ : ∃ x, x = (m.img == m'.img) := ⟨_, rfl⟩
      rw [← hx] at HZ HCI
      clear hx
      go_enter Tryd.func10, Tryd.ntmps10
      go_wp2_with fail
      refine HCI.out.mono ?_
      rintro e w5 ⟨rfl, hB5⟩
      go_wp2
      go_ret
      exact ⟨by rw [HZ.out]; rfl, HB.out.trans (hB5.mono HB.out.size)⟩

set_option maxRecDepth 4000 in
set_option maxHeartbeats 1600000 in
theorem refSameRe_any (m m' : Re.Rec) (vi vi' : Value) (w : World) (hi : Reads w vi m.img) (hi' : Reads w vi' m'.img) :
    Calls Tryd.prog 11 #[.agg (Re.cells m vi), .agg (Re.cells m' vi')] w (Looks w (.bool (decide (m = m')))) := by
  obtain ⟨w1, e1, hl1, hk1, hB1, hz1⟩ := box_recs w m vi m' vi'
  obtain ⟨p0, p1, p2, p3, p4, p5, p6, p7, p8, p9, p10, p11⟩ := Recs.all hl1
  obtain ⟨q0, q1, q2, q3, q4, q5, q6, q7, q8, q9, q10, q11⟩ := Recs.all hk1
  have HCI := Lib.hid (sameB_any vi vi' m.img m'.img w1 (hi.below hB1) (hi'.below hB1))
  have HB := Lib.hid hB1
  have hgb := guard_bal
  have hgc := guard_cmd
  have heb := fun W => run_eql_bal W m.bal m'.bal
  have hec := fun W => run_eql_cmd W m.cmd m'.cmd
  obtain ⟨r, hr⟩ : ∃ r, r = decide (m = m') := ⟨_, rfl⟩
  rw [← hr]
  have HR := Lib.hid hr
  have HE := Lib.hid (Re.ext_iff m m')
  obtain ⟨z, hz⟩ : ∃ z, z = decide (m.bal = m'.bal) := ⟨_, rfl⟩
  rw [← hz] at heb
  obtain ⟨y, hy⟩ : ∃ y, y = decide (m.cmd = m'.cmd) := ⟨_, rfl⟩
  rw [← hy] at hec
  have HZZ := Lib.hid hz; have HYY := Lib.hid hy
  dsimp only [Bl.cells] at heb
  dsimp only [Cm.cells] at hec
  clear hl1 hk1 hB1 hz1 hi hi' hr hz hy
  by_cases h0 : m.kind = m'.kind
  rotate_left
  · have d0 : (m.kind == m'.kind) = false := by simpa using h0
    have HZ : Hid (r = false) := HR.out.trans (decide_eq_false fun h => h0 ((HE.out.1 h).1))
    clear h0
    go_enter Tryd.func11, Tryd.ntmps11
    go_wp2
    go_ret
    exact ⟨by rw [HZ.out]; rfl, HB.out⟩
  have d0 : (m.kind == m'.kind) = true := by simpa using h0
  have H0 := Lib.hid h0
  clear h0
  cases z with
  | false =>
    have HZ : Hid (r = false) := HR.out.trans (decide_eq_false fun h => of_decide_eq_false HZZ.out.symm ((HE.out.1 h).2.1))
    go_enter Tryd.func11, Tryd.ntmps11
    go_wp2
    go_ret
    exact ⟨by rw [HZ.out]; rfl, HB.out⟩
  | true =>
    have H1 := Lib.hid (of_decide_eq_true HZZ.out.symm)
    by_cases h2 : m.index = m'.index
    rotate_left
    · have d2 : (m.index == m'.index) = false := by simpa using h2
      have HZ : Hid (r = false) := HR.out.trans (decide_eq_false fun h => h2 ((HE.out.1 h).2.2.1))
      clear h2
      go_enter Tryd.func11, Tryd.ntmps11
      go_wp2
      go_ret
      exact ⟨by rw [HZ.out]; rfl, HB.out⟩
    have d2 : (m.index == m'.index) = true := by simpa using h2
    have H2 := Lib.hid h2
    clear h2
    cases y with
    | false =>
      have HZ : Hid (r = false) := HR.out.trans (decide_eq_false fun h => of_decide_eq_false HYY.out.symm ((HE.out.1 h).2.2.2.1))
      go_enter Tryd.func11, Tryd.ntmps11
      go_wp2
      go_ret
      exact ⟨by rw [HZ.out]; rfl, HB.out⟩
    | true =>
      have H3 := Lib.hid (of_decide_eq_true HYY.out.symm)
      have HZ : Hid (r = (m.img == m'.img)) := by
        show _ = _
        rw [HR.out]
        cases hx : m.img == m'.img with
        | false => exact decide_eq_false fun h => by rw [(HE.out.1 h).2.2.2.2] at hx; simp at hx
        | true => exact decide_eq_true (HE.out.2 ⟨H0.out, H1.out, H2.out, H3.out, by simpa using hx⟩)
      obtain ⟨x, hx⟩ : ∃ x, x = (m.img == m'.img) := ⟨_, rfl⟩
      rw [← hx] at HZ HCI
      clear hx
      go_enter Tryd.func11, Tryd.ntmps11
      go_wp2_with fail
      refine HCI.out.mono ?_
      rintro e w5 ⟨rfl, hB5⟩
      go_wp2
      go_ret
      exact ⟨by rw [HZ.out]; rfl, HB.out.trans (hB5.mono HB.out.size)⟩

end Go.Proofs.YtegpfbmanpnhkaaDoor
