/- The laws CmdEncodes, CmdDecodes. -/
import Derived.Test.YteaebmgnofmemaaDoorCmdCame
import Derived.Test.YteaebmgnofmemaaDoorCmdBytes
import Derived.Test.YteaebmgnofmemaaDoorCmdBack
import Derived.Test.YteaebmgnofmemaaDoorGNum
namespace Go.Proofs.YteaebmgnofmemaaDoor
open Go.RowKit

set_option maxRecDepth 4000 in
set_option maxHeartbeats 3200000 in
theorem cmdEncodes_any (v : Int) (c : Cm.Cmd) (w : World) (hv : WordsIn w) (hp : PowIn w) (hl : c.Short 9223372036854775807) (hf : c.Fits) : Calls Tryd.prog 4 #[.int .i64 v, .agg (Cm.cells c)] w (Truly w) := by
  obtain ⟨w1, e1, hl1, hB1, hz1⟩ := box_cmd w c
  obtain ⟨p0, p1, p2, p3, p4, p5, p6⟩ := Cmds.all hl1
  have HL1 := Lib.hid hl1; have HB1 := Lib.hid hB1
  have HV := Lib.hid hv; have HP := Lib.hid hp
  clear hl1 hB1 hz1 hv hp
  go_enter Tryd.func4, Tryd.ntmps4
  go_wp2_with fail
  refine (large_any c _ hl).mono ?_
  rintro e w2 ⟨rfl, hB2⟩
  obtain ⟨t, ht⟩ : ∃ t, t = (decide (300 < c.key.length) || (decide (300 < c.old.length) || decide (300 < c.val.length))) := ⟨_, rfl⟩
  rw [← ht]
  have HT := Lib.hid ht
  have hl2 := HL1.out.below hB2 HL1.out.lt
  obtain ⟨q0, q1, q2, q3, q4, q5, q6⟩ := Cmds.all hl2
  have HL2 := Lib.hid hl2
  have HB2 := Lib.hid (HB1.out.trans (hB2.mono HB1.out.size))
  clear ht hB2 hl2 p0 p1 p2 p3 p4 p5 p6
  cases t with
  | true =>
    go_wp2_with fail
    refine (awake_any _ (HV.out.below HB2.out) (HP.out.below HB2.out)).mono ?_
    rintro e w3 ⟨rfl, hB3⟩
    go_wp2
    go_ret
    exact truly_of (HB2.out.trans (hB3.mono HB2.out.size))
  | false =>
    have hs3 := Cm.short_of HT.out.symm
    go_wp2_with fail
    refine (encode_any v c _ (HV.out.below HB2.out) hf (hs3.mono (by omega))).mono ?_
    rintro e w3 ⟨hB3, u, rfl, hu⟩
    have hl3 := HL2.out.below hB3 HL2.out.lt
    obtain ⟨p0, p1, p2, p3, p4, p5, p6⟩ := Cmds.all hl3
    have HL3 := Lib.hid hl3
    have HB3 := Lib.hid (HB2.out.trans (hB3.mono HB2.out.size))
    clear hB3 hl3 q0 q1 q2 q3 q4 q5 q6
    go_wp2_with fail
    refine (refHasCmd_any v c _ (hs3.mono (by omega))).mono ?_
    rintro e w4 ⟨rfl, hB4⟩
    have HU4 := Lib.hid (hu.below hB4)
    have hl4 := HL3.out.below hB4 HL3.out.lt
    obtain ⟨q0, q1, q2, q3, q4, q5, q6⟩ := Cmds.all hl4
    have HL4 := Lib.hid hl4
    have HB4 := Lib.hid (HB3.out.trans (hB4.mono HB3.out.size))
    clear hB4 hl4 hu p0 p1 p2 p3 p4 p5 p6
    obtain ⟨z, hz⟩ : ∃ z, z = Cm.checkIn v c := ⟨_, rfl⟩
    rw [← hz] at HU4 ⊢
    have HZ := Lib.hid hz
    clear hz
    have hzz : (z != z) = false := by simp
    by_cases h0 : z = 0
    · subst h0
      have hu4 := HU4.out
      rw [if_pos rfl] at hu4
      have hdec := Cm.decode_bytes v c HZ.out.symm hf hs3 (by omega)
      have hlen := Cm.bytes_len v c hf (hs3.mono (by omega))
      obtain ⟨hmay, hchk, _⟩ := Cm.checkIn_ok HZ.out.symm
      have hkn := (Cm.check_ok hchk).1
      have hv12 : v = 1 ∨ v = 2 := (Vs.may_or v).elim (fun x => x.2) (fun x => by rw [hmay] at x; cases x.1)
      have hk0 : 1 ≤ c.kind ∧ c.kind ≤ 8 := by simpa [Cm.known] using hkn
      have HX := Lib.hid (And.intro hdec (And.intro hlen (And.intro hv12 hk0)))
      have HU := Lib.hid hu4
      clear hu4 HU4 hdec hlen hmay hchk hkn hv12 hk0
      go_wp2_with fail
      refine (decode_any v u (Cm.bytes v c) _ (HV.out.below HB4.out) HU.out (by have := HX.out.2.1; omega)).mono ?_
      rintro e w5 ⟨rfl, hB5⟩
      rw [HX.out.1]
      have HL5 := Lib.hid (HL4.out.below hB5 HL4.out.lt)
      have HB5 := Lib.hid (HB4.out.trans (hB5.mono HB4.out.size))
      have HU5 := Lib.hid (HU.out.below hB5)
      clear hB5 q0 q1 q2 q3 q4 q5 q6
      go_wp2_with (refine store_cmd (by rfl) _ _ (by rfl) w5.heap.size Cm.zero c (by rfl) (by rfl) (Lies.new _ _ _) ?_; intro w6 hl6 hg6; obtain ⟨p0, p1, p2, p3, p4, p5, p6⟩ := Cmds.all ((HL5.out.alloc _).kept hg6 (by have := HL5.out.lt; simp; omega)))
      have hb6 : Below w5.heap.size w5 w6 := ((Below.refl _ w5).alloc (Nat.le_refl _) _).grown hg6 (by simp) (by rintro j hj; cases hj; exact Nat.le_refl _)
      have HL6 := Lib.hid (HL5.out.below hb6 HL5.out.lt)
      have HB6 := Lib.hid (HB5.out.trans (hb6.mono HB5.out.size))
      have HU6 := Lib.hid (HU5.out.below hb6)
      have HC6 := Lib.hid hl6
      clear hb6 hl6 hg6
      refine (refBytesCmd_any v c _ HX.out.2.2.1 HX.out.2.2.2.1 HX.out.2.2.2.2 hf (hs3.mono (by omega))).mono ?_
      rintro e w7 ⟨u7, rfl, ho7, hB7⟩
      have HL7 := Lib.hid (HL6.out.below hB7 HL6.out.lt)
      have HC7 := Lib.hid (HC6.out.below hB7 HC6.out.lt)
      have HB7 := Lib.hid (HB6.out.trans (hB7.mono HB6.out.size))
      have HU7 := Lib.hid (HU6.out.below hB7)
      have HO7 := Lib.hid ho7.reads
      clear hB7 ho7 p0 p1 p2 p3 p4 p5 p6
      go_wp2_with fail
      refine (same_any u u7 (Cm.bytes v c) (Cm.bytes v c) _ HU7.out HO7.out).mono ?_
      rintro e w8 ⟨rfl, n8, hw8⟩
      have hB8 : Below w7.heap.size w7 w8 := by rw [hw8]; exact drawn _ _
      rw [show (Cm.bytes v c == Cm.bytes v c) = true by simp]
      obtain ⟨p0, p1, p2, p3, p4, p5, p6⟩ := Cmds.all (HL7.out.below hB8 HL7.out.lt)
      obtain ⟨q0, q1, q2, q3, q4, q5, q6⟩ := Cmds.all (HC7.out.below hB8 HC7.out.lt)
      have HB8 := Lib.hid (HB7.out.trans (hB8.mono HB7.out.size))
      have heq : ∀ W, (binOp .eql 23 (.agg (Cm.cells c)) (.agg (Cm.cells c))).run Tryd.prog W = .ok (.bool true) W := fun W => by rw [run_eql_cmd]; simp
      have hgd := guard_cmd
      dsimp only [Cm.cells] at heq
      clear hB8 hw8
      go_wp2_with fail
      refine (awake_any _ (HV.out.below HB8.out) (HP.out.below HB8.out)).mono ?_
      rintro e w9 ⟨rfl, hB9⟩
      go_wp2
      go_ret
      exact truly_of (HB8.out.trans (hB9.mono HB8.out.size))
    · have hu4 := HU4.out
      rw [if_neg h0] at hu4
      obtain ⟨ao, cap, rfl⟩ := hu4.shape
      have hne : (z != 0) = true := by simpa using h0
      clear hu4 HU4
      go_wp2_with fail
      refine (awake_any _ (HV.out.below HB4.out) (HP.out.below HB4.out)).mono ?_
      rintro e w9 ⟨rfl, hB9⟩
      go_wp2
      go_ret
      exact truly_of (HB4.out.trans (hB9.mono HB4.out.size))

set_option maxRecDepth 4000 in
set_option maxHeartbeats 3200000 in
theorem cmdDecodes_any (v : Int) (u : Value) (s : List UInt8) (w : World) (hv : WordsIn w) (hp : PowIn w) (hu : Reads w u s) : Calls Tryd.prog 5 #[.int .i64 v, u] w (Truly w) := by
  obtain ⟨ao, cap, hshape⟩ := hu.shape
  have HV := Lib.hid hv; have HP := Lib.hid hp; have HU := Lib.hid hu
  clear hv hp hu
  subst hshape
  by_cases h5 : 500 < s.length
  · have h5' : (500 : Int) < (s.length : Int) := by omega
    go_enter Tryd.func5, Tryd.ntmps5
    go_wp2_with fail
    refine (awake_any _ HV.out HP.out).mono ?_
    rintro e w3 ⟨rfl, hB3⟩
    go_wp2
    go_ret
    exact truly_of hB3
  · have h5' : ¬ (500 : Int) < (s.length : Int) := by omega
    go_enter Tryd.func5, Tryd.ntmps5
    go_wp2_with fail
    refine (decode_any v _ s _ HV.out HU.out (by omega)).mono ?_
    rintro e w2 ⟨rfl, hB2⟩
    have HOK := Lib.hid (Cm.decode_ok v s)
    have HNO := Lib.hid (Cm.decode_none v s)
    have HVER : Hid (Vs.may v = false → Cm.decode v s = (Cm.zero, 8)) := fun h => by unfold Cm.decode; rw [if_pos h]
    have HINV : Hid (∀ c, Cm.decode v s = (c, 0) → c.Fits ∧ c.Short s.length) := by
      intro c hc
      unfold Cm.decode at hc
      by_cases h1 : Vs.may v = false
      · rw [if_pos h1] at hc; cases hc
      · rw [if_neg h1] at hc
        by_cases h2 : Cm.done s (Cm.get v s 0 0).2.1 (Cm.get v s 0 0).2.2 = 0
        · rw [if_neg (by simpa using h2)] at hc
          by_cases h3 : Cm.checkIn v (Cm.get v s 0 0).1 = 0
          · rw [if_neg (by simpa using h3)] at hc
            cases hc
            have := Cm.get_inv v s
            exact ⟨this.2.2, this.2.1⟩
          · rw [if_pos h3] at hc
            simp only [Prod.mk.injEq] at hc
            exact absurd hc.2 h3
        · rw [if_pos h2] at hc
          simp only [Prod.mk.injEq] at hc
          exact absurd hc.2 h2
    obtain ⟨r, hr⟩ : ∃ r, r = Cm.decode v s := ⟨_, rfl⟩
    rw [← hr] at HOK HNO HVER HINV ⊢
    obtain ⟨c, er⟩ := r
    dsimp only at HOK HNO ⊢
    clear hr
    have HB2 := Lib.hid hB2
    have HU2 := Lib.hid (HU.out.below hB2)
    clear hB2
    by_cases hvv : v < 1 ∨ 2 < v
    · have hmay : Vs.may v = false := by simp [Vs.may]; omega
      have hz := HVER.out hmay
      simp only [Prod.mk.injEq] at hz
      obtain ⟨rfl, rfl⟩ := hz
      clear HOK HNO HVER HINV hmay
      by_cases h1 : v < 1
      · have d1 : decide (v < 1) = true := decide_eq_true h1
        go_wp2_with (refine store_cmd (by rfl) _ _ (by rfl) w2.heap.size Cm.zero Cm.zero (by rfl) (by rfl) (Lies.new _ _ _) ?_; intro w3 hl3 hg3; have p0 : w3.cell? ⟨w2.heap.size, 0, none⟩ = some (.int .i64 0) := Lies.cell hl3 0 _ rfl; have p1 : w3.cell? ⟨w2.heap.size, 1, none⟩ = some (.int .i64 0) := Lies.cell hl3 1 _ rfl; have p2 : w3.cell? ⟨w2.heap.size, 2, none⟩ = some (.int .i64 0) := Lies.cell hl3 2 _ rfl; have p3 : w3.cell? ⟨w2.heap.size, 3, none⟩ = some (.string ⟨#[]⟩) := Lies.cell hl3 3 _ rfl; have p4 : w3.cell? ⟨w2.heap.size, 4, none⟩ = some (.string ⟨#[]⟩) := Lies.cell hl3 4 _ rfl; have p5 : w3.cell? ⟨w2.heap.size, 5, none⟩ = some (.string ⟨#[]⟩) := Lies.cell hl3 5 _ rfl; have p6 : w3.cell? ⟨w2.heap.size, 6, none⟩ = some (.int .i64 0) := Lies.cell hl3 6 _ rfl)
        have hb3 : Below w2.heap.size w2 w3 := ((Below.refl _ w2).alloc (Nat.le_refl _) _).grown hg3 (by simp) (by rintro j hj; cases hj; exact Nat.le_refl _)
        have HB3 := Lib.hid (HB2.out.trans (hb3.mono HB2.out.size))
        refine (awake_any _ (HV.out.below HB3.out) (HP.out.below HB3.out)).mono ?_
        rintro e w9 ⟨rfl, hB9⟩
        go_wp2
        go_ret
        exact truly_of (HB3.out.trans (hB9.mono HB3.out.size))
      · have d1 : decide (v < 1) = false := decide_eq_false h1
        have d2 : decide (2 < v) = true := decide_eq_true (by omega)
        go_wp2_with (refine store_cmd (by rfl) _ _ (by rfl) w2.heap.size Cm.zero Cm.zero (by rfl) (by rfl) (Lies.new _ _ _) ?_; intro w3 hl3 hg3; have p0 : w3.cell? ⟨w2.heap.size, 0, none⟩ = some (.int .i64 0) := Lies.cell hl3 0 _ rfl; have p1 : w3.cell? ⟨w2.heap.size, 1, none⟩ = some (.int .i64 0) := Lies.cell hl3 1 _ rfl; have p2 : w3.cell? ⟨w2.heap.size, 2, none⟩ = some (.int .i64 0) := Lies.cell hl3 2 _ rfl; have p3 : w3.cell? ⟨w2.heap.size, 3, none⟩ = some (.string ⟨#[]⟩) := Lies.cell hl3 3 _ rfl; have p4 : w3.cell? ⟨w2.heap.size, 4, none⟩ = some (.string ⟨#[]⟩) := Lies.cell hl3 4 _ rfl; have p5 : w3.cell? ⟨w2.heap.size, 5, none⟩ = some (.string ⟨#[]⟩) := Lies.cell hl3 5 _ rfl; have p6 : w3.cell? ⟨w2.heap.size, 6, none⟩ = some (.int .i64 0) := Lies.cell hl3 6 _ rfl)
        have hb3 : Below w2.heap.size w2 w3 := ((Below.refl _ w2).alloc (Nat.le_refl _) _).grown hg3 (by simp) (by rintro j hj; cases hj; exact Nat.le_refl _)
        have HB3 := Lib.hid (HB2.out.trans (hb3.mono HB2.out.size))
        refine (awake_any _ (HV.out.below HB3.out) (HP.out.below HB3.out)).mono ?_
        rintro e w9 ⟨rfl, hB9⟩
        go_wp2
        go_ret
        exact truly_of (HB3.out.trans (hB9.mono HB3.out.size))
    · have hv1 : v = 1 ∨ v = 2 := by omega
      by_cases he : er = 0
      · subst he
        obtain ⟨_, hchk, hhas, hby⟩ := HOK.out rfl
        obtain ⟨hfit, hsh⟩ := HINV.out c rfl
        have hkn := (Cm.check_ok hchk).1
        have hk0 : 1 ≤ c.kind ∧ c.kind ≤ 8 := by simpa [Cm.known] using hkn
        have HX := Lib.hid (And.intro hchk (And.intro hhas (And.intro hby (And.intro hk0.1 hk0.2))))
        have HS := Lib.hid (hsh.mono (show s.length ≤ 1000 by omega))
        have HFI := Lib.hid hfit
        clear hchk hhas hby hfit hsh hkn hk0 HOK HNO HVER HINV
        rcases hv1 with rfl | rfl
        all_goals
          go_wp2_with (refine store_cmd (by rfl) _ _ (by rfl) w2.heap.size Cm.zero c (by rfl) (by rfl) (Lies.new _ _ _) ?_; intro w3 hl3 hg3; obtain ⟨p0, p1, p2, p3, p4, p5, p6⟩ := Cmds.all hl3)
          have hb3 : Below w2.heap.size w2 w3 := ((Below.refl _ w2).alloc (Nat.le_refl _) _).grown hg3 (by simp) (by rintro j hj; cases hj; exact Nat.le_refl _)
          have HB3 := Lib.hid (HB2.out.trans (hb3.mono HB2.out.size))
          have HU3 := Lib.hid (HU2.out.below hb3)
          have HC3 := Lib.hid hl3
          clear hb3 hl3 hg3
          refine (refCheck_any c _ (HS.out.mono (by omega))).mono ?_
          rintro e w4 ⟨rfl, hB4⟩
          rw [HX.out.1]
          have HC4 := Lib.hid (HC3.out.below hB4 HC3.out.lt)
          have HB4 := Lib.hid (HB3.out.trans (hB4.mono HB3.out.size))
          have HU4 := Lib.hid (HU3.out.below hB4)
          obtain ⟨q0, q1, q2, q3, q4, q5, q6⟩ := Cmds.all HC4.out
          clear hB4 p0 p1 p2 p3 p4 p5 p6
          go_wp2_with fail
          refine (refHas_any _ c.kind _).mono ?_
          rintro e w5 ⟨rfl, rfl⟩
          rw [HX.out.2.1]
          go_wp2_with fail
          refine (refBytesCmd_any _ c _ (by decide) HX.out.2.2.2.1 HX.out.2.2.2.2 HFI.out HS.out).mono ?_
          rintro e w7 ⟨u7, rfl, ho7, hB7⟩
          rw [HX.out.2.2.1] at ho7
          have HB7 := Lib.hid (HB4.out.trans (hB7.mono HB4.out.size))
          have HU7 := Lib.hid (HU4.out.below hB7)
          have HO7 := Lib.hid ho7.reads
          clear hB7 ho7
          go_wp2_with fail
          refine (same_any u7 _ s s _ HO7.out HU7.out).mono ?_
          rintro e w8 ⟨rfl, n8, hw8⟩
          rw [show (s == s) = true by simp]
          have HB8 := Lib.hid (HB7.out.trans ((show Below w7.heap.size w7 w8 by rw [hw8]; exact drawn _ _).mono HB7.out.size))
          clear hw8
          go_wp2_with fail
          refine (awake_any _ (HV.out.below HB8.out) (HP.out.below HB8.out)).mono ?_
          rintro e w9 ⟨rfl, hB9⟩
          go_wp2
          go_ret
          exact truly_of (HB8.out.trans (hB9.mono HB8.out.size))
      · obtain rfl : c = Cm.zero := HNO.out he
        have hne : (er != 0) = true := by simpa using he
        clear HOK HNO HVER HINV
        rcases hv1 with rfl | rfl
        all_goals
          go_wp2_with (refine store_cmd (by rfl) _ _ (by rfl) w2.heap.size Cm.zero Cm.zero (by rfl) (by rfl) (Lies.new _ _ _) ?_; intro w3 hl3 hg3; have p0 : w3.cell? ⟨w2.heap.size, 0, none⟩ = some (.int .i64 0) := Lies.cell hl3 0 _ rfl; have p1 : w3.cell? ⟨w2.heap.size, 1, none⟩ = some (.int .i64 0) := Lies.cell hl3 1 _ rfl; have p2 : w3.cell? ⟨w2.heap.size, 2, none⟩ = some (.int .i64 0) := Lies.cell hl3 2 _ rfl; have p3 : w3.cell? ⟨w2.heap.size, 3, none⟩ = some (.string ⟨#[]⟩) := Lies.cell hl3 3 _ rfl; have p4 : w3.cell? ⟨w2.heap.size, 4, none⟩ = some (.string ⟨#[]⟩) := Lies.cell hl3 4 _ rfl; have p5 : w3.cell? ⟨w2.heap.size, 5, none⟩ = some (.string ⟨#[]⟩) := Lies.cell hl3 5 _ rfl; have p6 : w3.cell? ⟨w2.heap.size, 6, none⟩ = some (.int .i64 0) := Lies.cell hl3 6 _ rfl)
          have hb3 : Below w2.heap.size w2 w3 := ((Below.refl _ w2).alloc (Nat.le_refl _) _).grown hg3 (by simp) (by rintro j hj; cases hj; exact Nat.le_refl _)
          have HB3 := Lib.hid (HB2.out.trans (hb3.mono HB2.out.size))
          refine (awake_any _ (HV.out.below HB3.out) (HP.out.below HB3.out)).mono ?_
          rintro e w9 ⟨rfl, hB9⟩
          go_wp2
          go_ret
          exact truly_of (HB3.out.trans (hB9.mono HB3.out.size))

end Go.Proofs.YteaebmgnofmemaaDoor
