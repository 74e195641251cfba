/- The law CmdRefuses. -/
import Derived.Test.YteaebmgnofmemaaDoorCmdEncs
import Derived.Deep.RegionHeld3
namespace Go.Proofs.YteaebmgnofmemaaDoor
open Go.RowKit

namespace Cm
theorem refuse_flat (c : Cmd) (hp : c.Pos) (hf : c.Fits) {m : Nat} (hs : c.Short m) (hm : m ≤ 9223372036854775807) (h : c.old = []) : (decode 1 (bytes 1 c)).2 = checkIn 1 c := by
  rw [decode_own 1 c rfl hp hf hs hm, restrict_flat c h]
  split
  · rfl
  · rename_i hn; simp at hn; rw [hn]
theorem refuse_ok (c : Cmd) (hp : c.Pos) (hf : c.Fits) {m : Nat} (hs : c.Short m) (hm : m ≤ 9223372036854775807) (h : check c = 0) : (decode 2 (bytes 2 c)).2 = checkIn 2 c := by
  rw [decode_own 2 c rfl hp hf hs hm, restrict_alone 2 (by omega) c (check_ok h).2]
  split
  · rfl
  · rename_i hn; simp at hn; rw [hn]
theorem refuse_bad (c : Cmd) (hp : c.Pos) (hf : c.Fits) {m : Nat} (hs : c.Short m) (hm : m ≤ 9223372036854775807) (hk : known c.kind = true) (h0 : check c ≠ 0) (h3 : check c ≠ 3) : (decode 2 (bytes 2 c)).2 ≠ 0 := by
  have h := check_restrict 2 (by omega) c hk h0 h3
  have h2 : checkIn 2 (restrict 2 c) ≠ 0 := fun e => h (checkIn_ok e).2.1
  rw [decode_own 2 c rfl hp hf hs hm, if_pos h2]
  exact h2
end Cm

theorem Cmds.both {w : World} {b d : Nat} {c x : Cm.Cmd} (h : Cmds w b c) (k : Cmds w d x) : w.cell? ⟨b, 0, none⟩ = some (.int .i64 c.kind) ∧ w.cell? ⟨b, 1, none⟩ = some (.int .i64 c.client) ∧ w.cell? ⟨b, 2, none⟩ = some (.int .i64 c.seq) ∧ w.cell? ⟨b, 3, none⟩ = some (.string ⟨c.key.toArray⟩) ∧ w.cell? ⟨b, 4, none⟩ = some (.string ⟨c.val.toArray⟩) ∧ w.cell? ⟨b, 5, none⟩ = some (.string ⟨c.old.toArray⟩) ∧ w.cell? ⟨b, 6, none⟩ = some (.int .i64 c.node) ∧
    w.cell? ⟨d, 0, none⟩ = some (.int .i64 x.kind) ∧ w.cell? ⟨d, 1, none⟩ = some (.int .i64 x.client) ∧ w.cell? ⟨d, 2, none⟩ = some (.int .i64 x.seq) ∧ w.cell? ⟨d, 3, none⟩ = some (.string ⟨x.key.toArray⟩) ∧ w.cell? ⟨d, 4, none⟩ = some (.string ⟨x.val.toArray⟩) ∧ w.cell? ⟨d, 5, none⟩ = some (.string ⟨x.old.toArray⟩) ∧ w.cell? ⟨d, 6, none⟩ = some (.int .i64 x.node) :=
  ⟨h.cell 0 _ rfl, h.cell 1 _ rfl, h.cell 2 _ rfl, h.cell 3 _ rfl, h.cell 4 _ rfl, h.cell 5 _ rfl, h.cell 6 _ rfl, k.cell 0 _ rfl, k.cell 1 _ rfl, k.cell 2 _ rfl, k.cell 3 _ rfl, k.cell 4 _ rfl, k.cell 5 _ rfl, k.cell 6 _ rfl⟩

theorem run_neq_cmd (w : World) (c : Cm.Cmd) : (binOp .neq 23 (.agg (Cm.cells c)) (.agg (Cm.cells c))).run Tryd.prog w = .ok (.bool false) w := by
  have hu := Tryd.underlying23
  obtain ⟨k, cl, sq, nd, ky, od, vl⟩ := c
  dsimp only [Cm.cells]
  go_simp

set_option maxRecDepth 4000 in
set_option maxHeartbeats 3200000 in
theorem cmdRefuses_1 (c : Cm.Cmd) (w : World) (hv : WordsIn w) (hp : PowIn w) (hl : c.Short 9223372036854775807) (hf : c.Fits) (hpos : c.Pos) (hs3 : c.Short 300) (ho : c.old = []) (hk0 : 1 ≤ c.kind) (hk1 : c.kind ≤ 8) : Calls Tryd.prog 6 #[.int .i64 1, .agg (Cm.cells c)] w (Truly w) := by
  have HER : Hid ((Cm.decode 1 (Cm.bytes 1 c)).2 = Cm.checkIn 1 c) := Cm.refuse_flat c hpos hf hs3 (by omega) ho
  have HRS : Hid (Cm.restrict 1 c = c) := Cm.restrict_flat c ho
  have hE : (ByteArray.mk c.old.toArray).toList.isEmpty = true := by rw [str_empty, ho]; rfl
  clear ho
  have HGB := Lib.hid (Cm.get_back 1 c hpos hf hs3 (by omega))
  obtain ⟨g0, g1, g2, g3⟩ := hpos
  have d0 : decide (c.kind < 0) = false := decide_eq_false (by omega)
  have d1 : decide (c.client < 0) = false := decide_eq_false (by omega)
  have d2 : decide (c.seq < 0) = false := decide_eq_false (by omega)
  have d3 : decide (c.node < 0) = false := decide_eq_false (by omega)
  have d4 : decide (c.kind < 1) = false := decide_eq_false (by omega)
  have d5 : decide (8 < c.kind) = false := decide_eq_false (by omega)
  have HK := Lib.hid (And.intro hk0 hk1)
  have HF := Lib.hid hf; have HS := Lib.hid hs3
  have HLEN := Lib.hid (Cm.bytes_len 1 c hf (hs3.mono (by omega)))
  have HLG : Hid ((decide (300 < c.key.length) || (decide (300 < c.old.length) || decide (300 < c.val.length))) = false) := by
    show _ = _
    obtain ⟨z1, z2, z3⟩ := hs3
    simp; omega
  clear g0 g1 g2 g3 hk0 hk1 hf hs3
  obtain ⟨w1, e1, hl1, hB1, hz1⟩ := box_cmd w c
  obtain ⟨p0, p1, p2, p3, p4, p5, p6⟩ := Cmds.all hl1
  have HL1 := Lib.hid hl1; have HB1 := Lib.hid hB1
  have HV := Lib.hid hv; have HP := Lib.hid hp
  clear hl1 hB1 hz1 hv hp
  go_enter Tryd.func6, Tryd.ntmps6
  go_wp2_with fail
  refine (large_any c _ hl).mono ?_
  rintro e w2 ⟨rfl, hB2⟩
  rw [HLG.out]
  have hl2 := HL1.out.below hB2 HL1.out.lt
  obtain ⟨q0, q1, q2, q3, q4, q5, q6⟩ := Cmds.all hl2
  have HL2 := Lib.hid hl2
  have HB2 := Lib.hid (HB1.out.trans (hB2.mono HB1.out.size))
  clear hB2 hl2 p0 p1 p2 p3 p4 p5 p6
  obtain ⟨SO, hSO⟩ : ∃ SO, SO = ByteArray.mk c.old.toArray := ⟨_, rfl⟩
  rw [← hSO] at q5 hE
  clear hSO
  obtain ⟨w4, e4, hw4, hB4⟩ : ∃ w4, w2.alloc (.cells #[.slice none 0 0] 42) = w4 ∧ Wrt w4 w2.heap.size w2.heap.size (.slice none 0 0) [] ∧ Below w2.heap.size w2 w4 :=
    ⟨_, rfl, Wr.fresh _ _ _ _ (Nat.le_refl _), (Below.refl _ _).alloc (Nat.le_refl _) _⟩
  have hl4 := HL2.out.below hB4 HL2.out.lt
  obtain ⟨p0, p1, p2, p3, p4, p5, p6⟩ := Cmds.all hl4
  have hsz : w.heap.size < w2.heap.size := HL2.out.lt
  have HW4 := Lib.hid hw4
  have HL4 := Lib.hid hl4
  have HB4 := Lib.hid (HB2.out.trans (hB4.mono HB2.out.size))
  have hz4 : w2.heap.size ≤ w4.heap.size := hB4.size
  clear hw4 hB4 hl4
  go_wp2_with fail
  refine (cput_any 1 c _ w2.heap.size w2.heap.size _ rfl HW4.out hz4 HF.out (HS.out.mono (by omega))).mono ?_
  rintro e5 w5 ⟨rfl, u5, hw5, _, hb5⟩
  have HL5 := Lib.hid (HL4.out.below hb5 hsz)
  have HB5 := Lib.hid (HB4.out.trans (hb5.mono (Nat.le_of_lt hsz)))
  have HW5 := Lib.hid hw5
  have hz5 : w4.heap.size ≤ w5.heap.size := hb5.size
  clear hw5 hb5 p0 p1 p2 p3 p4 p5 p6
  go_wp2_with fail
  refine (wbytes_any _ w2.heap.size w2.heap.size u5 _ HW5.out (by have := HLEN.out; omega)).mono ?_
  rintro e6 w6 ⟨u6, rfl, ho6, hb6⟩
  have HU6 := Lib.hid ho6.reads
  have HL6 := Lib.hid (HL5.out.below hb6 HL5.out.lt)
  have HW6 := Lib.hid (HW5.out.grown hb6)
  have HB6 := Lib.hid (HB5.out.trans (hb6.mono HB5.out.size))
  have hz6 : w5.heap.size ≤ w6.heap.size := hb6.size
  clear ho6 hb6
  go_wp2_with fail
  refine (newreader_any u6 (Cm.bytes 1 c) _ w6.heap.size (Nat.le_refl _) HU6.out (by have := HLEN.out; omega)).mono ?_
  rintro e7 w7 ⟨o7, rv, rfl, ho7, hr7, hb7⟩
  have HL7 := Lib.hid (HL6.out.below hb7 HL6.out.lt)
  have HW7 := Lib.hid (HW6.out.grown hb7)
  have HB7 := Lib.hid (HB6.out.trans (hb7.mono HB6.out.size))
  have HR7 := Lib.hid hr7
  have HB67 := Lib.hid hb7
  have hz7 : w6.heap.size ≤ w7.heap.size := hb7.size
  clear hr7 hb7
  go_wp2_with fail
  refine (cget_any 1 _ w6.heap.size o7 rv (Cm.bytes 1 c) 0 0 rfl HR7.out hz7).mono ?_
  rintro e8 w8 ⟨rfl, _, hb8⟩
  rw [HGB.out]
  have hlt6 : w.heap.size < w6.heap.size := by omega
  have HL8 := Lib.hid (HL7.out.below hb8 hlt6)
  have HW8 := Lib.hid (HW6.out.grown (HB67.out.trans hb8))
  have HB8 := Lib.hid (HB7.out.trans (hb8.mono (by omega)))
  have hz8 : w7.heap.size ≤ w8.heap.size := hb8.size
  have hwlt : w2.heap.size < w8.heap.size := HW8.out.lies.lt
  clear hb8
  obtain ⟨X, hX⟩ : ∃ X, X = Cm.restrict 1 c := ⟨_, rfl⟩
  rw [← hX]
  have HX := Lib.hid hX
  clear hX
  go_wp2_with (refine store_cmd (by rfl) _ _ (by rfl) w8.heap.size Cm.zero X (by rfl) (by rfl) (Lies.new _ _ _) ?_; intro w9 hl9 hg9; obtain ⟨p0, p1, p2, p3, p4, p5, p6⟩ := Cmds.all ((HL8.out.alloc _).kept hg9 (by have := HL8.out.lt; simp; omega)))
  have hb9 : Below w8.heap.size w8 w9 := ((Below.refl _ w8).alloc (Nat.le_refl _) _).grown hg9 (by simp) (by rintro j hj; cases hj; exact Nat.le_refl _)
  have HL9 := Lib.hid (HL8.out.below hb9 HL8.out.lt)
  have HW9 := Lib.hid (HW8.out.grown hb9)
  have HB9 := Lib.hid (HB8.out.trans (hb9.mono HB8.out.size))
  have HX9 := Lib.hid (show Cmds w9 w8.heap.size c by have h := hl9; rw [HX.out, HRS.out] at h; exact h)
  have hz9 : w8.heap.size ≤ w9.heap.size := hb9.size
  clear hl9 hg9 hb9
  refine (refBytesCmd_any 1 c _ (by decide) HK.out.1 HK.out.2 HF.out (HS.out.mono (by omega))).mono ?_
  rintro e10 w10 ⟨u10, rfl, ho10, hb10⟩
  have HL10 := Lib.hid (HL9.out.below hb10 HL9.out.lt)
  have HW10 := Lib.hid (HW9.out.grown hb10)
  have HB10 := Lib.hid (HB9.out.trans (hb10.mono HB9.out.size))
  have HX10 := Lib.hid (HX9.out.below hb10 HX9.out.lt)
  have HU10 := Lib.hid ho10.reads
  clear ho10 hb10 p0 p1 p2 p3 p4 p5 p6
  go_wp2_with fail
  refine (decode_any 1 u10 (Cm.bytes 1 c) _ (HV.out.below HB10.out) HU10.out (by have := HLEN.out; omega)).mono ?_
  rintro e11 w11 ⟨rfl, hb11⟩
  obtain ⟨r, hr⟩ : ∃ r, r = Cm.decode 1 (Cm.bytes 1 c) := ⟨_, rfl⟩
  rw [← hr] at HER ⊢
  clear hr
  obtain ⟨D, er⟩ := r
  dsimp only at HER ⊢
  have HL11 := Lib.hid (HL10.out.below hb11 HL10.out.lt)
  have HW11 := Lib.hid (HW10.out.grown hb11)
  have HB11 := Lib.hid (HB10.out.trans (hb11.mono HB10.out.size))
  have HX11 := Lib.hid (HX10.out.below hb11 HX10.out.lt)
  clear hb11
  go_wp2_with (refine store_cmd (by rfl) _ _ (by rfl) w11.heap.size Cm.zero D (by rfl) (by rfl) (Lies.new _ _ _) ?_; intro w12 hl12 hg12)
  have hb12 : Below w11.heap.size w11 w12 := ((Below.refl _ w11).alloc (Nat.le_refl _) _).grown hg12 (by simp) (by rintro j hj; cases hj; exact Nat.le_refl _)
  have HL12 := Lib.hid (HL11.out.below hb12 HL11.out.lt)
  have HW12 := Lib.hid (HW11.out.grown hb12)
  have HB12 := Lib.hid (HB11.out.trans (hb12.mono HB11.out.size))
  have HX12 := Lib.hid (HX11.out.below hb12 HX11.out.lt)
  obtain ⟨p0, p1, p2, p3, p4, p5, p6⟩ := Cmds.all HL12.out
  obtain ⟨y0, y1, y2, y3, y4, y5, y6⟩ := Cmds.all HX12.out
  clear hl12 hg12 hb12
  have hgd := guard_cmd
  have hneq := fun W => run_neq_cmd W c
  dsimp only [Cm.cells] at hneq
  go_region_held3 (fun w' => w'.cell? ⟨w.heap.size, 0, none⟩ = some (.int .i64 c.kind) ∧ w'.cell? ⟨w.heap.size, 1, none⟩ = some (.int .i64 c.client) ∧ w'.cell? ⟨w.heap.size, 2, none⟩ = some (.int .i64 c.seq) ∧ w'.cell? ⟨w.heap.size, 3, none⟩ = some (.string ⟨c.key.toArray⟩) ∧ w'.cell? ⟨w.heap.size, 4, none⟩ = some (.string ⟨c.val.toArray⟩) ∧ w'.cell? ⟨w.heap.size, 5, none⟩ = some (.string ⟨c.old.toArray⟩) ∧ w'.cell? ⟨w.heap.size, 6, none⟩ = some (.int .i64 c.node) ∧
        w'.cell? ⟨w8.heap.size, 0, none⟩ = some (.int .i64 c.kind) ∧ w'.cell? ⟨w8.heap.size, 1, none⟩ = some (.int .i64 c.client) ∧ w'.cell? ⟨w8.heap.size, 2, none⟩ = some (.int .i64 c.seq) ∧ w'.cell? ⟨w8.heap.size, 3, none⟩ = some (.string ⟨c.key.toArray⟩) ∧ w'.cell? ⟨w8.heap.size, 4, none⟩ = some (.string ⟨c.val.toArray⟩) ∧ w'.cell? ⟨w8.heap.size, 5, none⟩ = some (.string ⟨c.old.toArray⟩) ∧ w'.cell? ⟨w8.heap.size, 6, none⟩ = some (.int .i64 c.node)) (first | go_keep | exact K13 | exact K14 | exact K15) (first
      | (go_at_call 22; refine (wbytes_any _ w2.heap.size w2.heap.size u5 _ (HW12.out.grown (Below.refl _ _).drew) (by have := HLEN.out; omega)).mono ?_; rintro e13 w13 ⟨u13, rfl, ho13, hb13⟩
         have HB13 := Lib.hid (HB12.out.drew.trans (hb13.mono HB12.out.drew.size))
         have HL13 := Lib.hid ((HL12.out.below (Below.refl _ _).drew HL12.out.lt).below hb13 HL12.out.lt)
         have HX13 := Lib.hid ((HX12.out.below (Below.refl _ _).drew HX12.out.lt).below hb13 HX12.out.lt)
         have HU13 := Lib.hid ho13.reads
         have K13 := Cmds.both HL13.out HX13.out)
      | (go_at_call 17; refine (refBytesCmd_any 1 c _ (by decide) HK.out.1 HK.out.2 HF.out (HS.out.mono (by omega))).mono ?_; rintro e14 w14 ⟨u14, rfl, ho14, hb14⟩
         have HB14 := Lib.hid (HB13.out.trans (hb14.mono HB13.out.size))
         have HL14 := Lib.hid (HL13.out.below hb14 HL13.out.lt)
         have HX14 := Lib.hid (HX13.out.below hb14 HX13.out.lt)
         have HU14 := Lib.hid (HU13.out.below hb14)
         have HO14 := Lib.hid ho14.reads
         have K14 := Cmds.both HL14.out HX14.out)
      | (go_at_call 16; refine (same_any u13 u14 (Cm.bytes 1 c) (Cm.bytes 1 c) _ HU14.out HO14.out).mono ?_; rintro e15 w15 ⟨rfl, n15, hw15⟩
         rw [show (Cm.bytes 1 c == Cm.bytes 1 c) = true by simp]
         have hb15 : Below w14.heap.size w14 w15 := by rw [hw15]; exact drawn _ _
         clear hw15
         have HB15 := Lib.hid (HB14.out.trans (hb15.mono HB14.out.size))
         have HL15 := Lib.hid (HL14.out.below hb15 HL14.out.lt)
         have HX15 := Lib.hid (HX14.out.below hb15 HX14.out.lt)
         have K15 := Cmds.both HL15.out HX15.out))
  all_goals
    obtain ⟨z0, z1, z2, z3, z4, z5, z6⟩ := Cmds.all HL15.out
    clear p0 p1 p2 p3 p4 p5 p6 y0 y1 y2 y3 y4 y5 y6
    have HE := HER.out
    obtain rfl : er = Cm.checkIn 1 c := HE
    have hee : (Cm.checkIn 1 c == Cm.checkIn 1 c) = true := by simp
    clear HER
    go_wp2_with fail
    refine (refHasCmd_any 1 c _ (HS.out.mono (by omega))).mono ?_
    rintro e16 w16 ⟨rfl, hb16⟩
    have HB16 := Lib.hid (HB15.out.trans (hb16.mono HB15.out.size))
    go_wp2_with fail
    refine (awake_any _ (HV.out.below HB16.out) (HP.out.below HB16.out)).mono ?_
    rintro e17 w17 ⟨rfl, hb17⟩
    go_wp2
    go_ret
    exact truly_of (HB16.out.trans (hb17.mono HB16.out.size))

set_option maxRecDepth 4000 in
set_option maxHeartbeats 3200000 in
theorem cmdRefuses_2 (c : Cm.Cmd) (w : World) (hv : WordsIn w) (hp : PowIn w) (hl : c.Short 9223372036854775807) (hf : c.Fits) (hpos : c.Pos) (hs3 : c.Short 300) (h3 : Cm.check c ≠ 3) (hk0 : 1 ≤ c.kind) (hk1 : c.kind ≤ 8) : Calls Tryd.prog 6 #[.int .i64 2, .agg (Cm.cells c)] w (Truly w) := by
  have hkn : Cm.known c.kind = true := by simp [Cm.known]; omega
  have HER : Hid (if Cm.check c = 0 then (Cm.decode 2 (Cm.bytes 2 c)).2 = Cm.checkIn 2 c else (Cm.decode 2 (Cm.bytes 2 c)).2 ≠ 0) := by
    show ite _ _ _
    split
    · exact Cm.refuse_ok c hpos hf hs3 (by omega) (by assumption)
    · exact Cm.refuse_bad c hpos hf hs3 (by omega) hkn (by assumption) h3
  have n3 : (Cm.check c == 3) = false := by simpa using h3
  have HGB := Lib.hid (Cm.get_back 2 c hpos hf hs3 (by omega))
  obtain ⟨g0, g1, g2, g3⟩ := hpos
  have d0 : decide (c.kind < 0) = false := decide_eq_false (by omega)
  have d1 : decide (c.client < 0) = false := decide_eq_false (by omega)
  have d2 : decide (c.seq < 0) = false := decide_eq_false (by omega)
  have d3 : decide (c.node < 0) = false := decide_eq_false (by omega)
  have d4 : decide (c.kind < 1) = false := decide_eq_false (by omega)
  have d5 : decide (8 < c.kind) = false := decide_eq_false (by omega)
  have HK := Lib.hid (And.intro hk0 hk1)
  have HF := Lib.hid hf; have HS := Lib.hid hs3
  have HLEN := Lib.hid (Cm.bytes_len 2 c hf (hs3.mono (by omega)))
  have HLG : Hid ((decide (300 < c.key.length) || (decide (300 < c.old.length) || decide (300 < c.val.length))) = false) := by
    show _ = _
    obtain ⟨z1, z2, z3⟩ := hs3
    simp; omega
  clear g0 g1 g2 g3 hk0 hk1 hf hs3
  obtain ⟨w1, e1, hl1, hB1, hz1⟩ := box_cmd w c
  obtain ⟨p0, p1, p2, p3, p4, p5, p6⟩ := Cmds.all hl1
  have HL1 := Lib.hid hl1; have HB1 := Lib.hid hB1
  have HV := Lib.hid hv; have HP := Lib.hid hp
  clear hl1 hB1 hz1 hv hp
  go_enter Tryd.func6, Tryd.ntmps6
  go_wp2_with fail
  refine (large_any c _ hl).mono ?_
  rintro e w2 ⟨rfl, hB2⟩
  rw [HLG.out]
  have hl2 := HL1.out.below hB2 HL1.out.lt
  obtain ⟨q0, q1, q2, q3, q4, q5, q6⟩ := Cmds.all hl2
  have HL2 := Lib.hid hl2
  have HB2 := Lib.hid (HB1.out.trans (hB2.mono HB1.out.size))
  clear hB2 hl2 p0 p1 p2 p3 p4 p5 p6
  go_wp2_with fail
  refine (refCheck_any c _ (HS.out.mono (by omega))).mono ?_
  rintro e wa ⟨rfl, hBa⟩
  have hla := HL2.out.below hBa HL2.out.lt
  obtain ⟨r0, r1, r2, r3, r4, r5, r6⟩ := Cmds.all hla
  have HLa := Lib.hid hla
  have HBa := Lib.hid (HB2.out.trans (hBa.mono HB2.out.size))
  clear hBa hla q0 q1 q2 q3 q4 q5 q6
  obtain ⟨w4, e4, hw4, hB4⟩ : ∃ w4, wa.alloc (.cells #[.slice none 0 0] 42) = w4 ∧ Wrt w4 wa.heap.size wa.heap.size (.slice none 0 0) [] ∧ Below wa.heap.size wa w4 :=
    ⟨_, rfl, Wr.fresh _ _ _ _ (Nat.le_refl _), (Below.refl _ _).alloc (Nat.le_refl _) _⟩
  have hl4 := HLa.out.below hB4 HLa.out.lt
  obtain ⟨p0, p1, p2, p3, p4, p5, p6⟩ := Cmds.all hl4
  have hsz : w.heap.size < wa.heap.size := HLa.out.lt
  have HW4 := Lib.hid hw4
  have HL4 := Lib.hid hl4
  have HB4 := Lib.hid (HBa.out.trans (hB4.mono HBa.out.size))
  have hz4 : wa.heap.size ≤ w4.heap.size := hB4.size
  clear hw4 hB4 hl4
  go_wp2_with fail
  refine (cput_any 2 c _ wa.heap.size wa.heap.size _ rfl HW4.out hz4 HF.out (HS.out.mono (by omega))).mono ?_
  rintro e5 w5 ⟨rfl, u5, hw5, _, hb5⟩
  have HL5 := Lib.hid (HL4.out.below hb5 hsz)
  have HB5 := Lib.hid (HB4.out.trans (hb5.mono (Nat.le_of_lt hsz)))
  have HW5 := Lib.hid hw5
  have hz5 : w4.heap.size ≤ w5.heap.size := hb5.size
  clear hw5 hb5 p0 p1 p2 p3 p4 p5 p6
  go_wp2_with fail
  refine (wbytes_any _ wa.heap.size wa.heap.size u5 _ HW5.out (by have := HLEN.out; omega)).mono ?_
  rintro e6 w6 ⟨u6, rfl, ho6, hb6⟩
  have HU6 := Lib.hid ho6.reads
  have HL6 := Lib.hid (HL5.out.below hb6 HL5.out.lt)
  have HW6 := Lib.hid (HW5.out.grown hb6)
  have HB6 := Lib.hid (HB5.out.trans (hb6.mono HB5.out.size))
  have hz6 : w5.heap.size ≤ w6.heap.size := hb6.size
  clear ho6 hb6
  go_wp2_with fail
  refine (newreader_any u6 (Cm.bytes 2 c) _ w6.heap.size (Nat.le_refl _) HU6.out (by have := HLEN.out; omega)).mono ?_
  rintro e7 w7 ⟨o7, rv, rfl, ho7, hr7, hb7⟩
  have HL7 := Lib.hid (HL6.out.below hb7 HL6.out.lt)
  have HW7 := Lib.hid (HW6.out.grown hb7)
  have HB7 := Lib.hid (HB6.out.trans (hb7.mono HB6.out.size))
  have HR7 := Lib.hid hr7
  have HB67 := Lib.hid hb7
  have hz7 : w6.heap.size ≤ w7.heap.size := hb7.size
  clear hr7 hb7
  go_wp2_with fail
  refine (cget_any 2 _ w6.heap.size o7 rv (Cm.bytes 2 c) 0 0 rfl HR7.out hz7).mono ?_
  rintro e8 w8 ⟨rfl, _, hb8⟩
  rw [HGB.out]
  have hlt6 : w.heap.size < w6.heap.size := by omega
  have HL8 := Lib.hid (HL7.out.below hb8 hlt6)
  have HW8 := Lib.hid (HW6.out.grown (HB67.out.trans hb8))
  have HB8 := Lib.hid (HB7.out.trans (hb8.mono (by omega)))
  have hz8 : w7.heap.size ≤ w8.heap.size := hb8.size
  have hwlt : wa.heap.size < w8.heap.size := HW8.out.lies.lt
  clear hb8
  obtain ⟨X, hX⟩ : ∃ X, X = Cm.restrict 2 c := ⟨_, rfl⟩
  rw [← hX]
  have HX := Lib.hid hX
  clear hX
  go_wp2_with (refine store_cmd (by rfl) _ _ (by rfl) w8.heap.size Cm.zero X (by rfl) (by rfl) (Lies.new _ _ _) ?_; intro w9 hl9 hg9; obtain ⟨p0, p1, p2, p3, p4, p5, p6⟩ := Cmds.all ((HL8.out.alloc _).kept hg9 (by have := HL8.out.lt; simp; omega)))
  have hb9 : Below w8.heap.size w8 w9 := ((Below.refl _ w8).alloc (Nat.le_refl _) _).grown hg9 (by simp) (by rintro j hj; cases hj; exact Nat.le_refl _)
  have HL9 := Lib.hid (HL8.out.below hb9 HL8.out.lt)
  have HW9 := Lib.hid (HW8.out.grown hb9)
  have HB9 := Lib.hid (HB8.out.trans (hb9.mono HB8.out.size))
  have HX9 := Lib.hid hl9
  have hz9 : w8.heap.size ≤ w9.heap.size := hb9.size
  clear hl9 hg9 hb9
  refine (refBytesCmd_any 2 c _ (by decide) HK.out.1 HK.out.2 HF.out (HS.out.mono (by omega))).mono ?_
  rintro e10 w10 ⟨u10, rfl, ho10, hb10⟩
  have HL10 := Lib.hid (HL9.out.below hb10 HL9.out.lt)
  have HW10 := Lib.hid (HW9.out.grown hb10)
  have HB10 := Lib.hid (HB9.out.trans (hb10.mono HB9.out.size))
  have HX10 := Lib.hid (HX9.out.below hb10 HX9.out.lt)
  have HU10 := Lib.hid ho10.reads
  clear ho10 hb10 p0 p1 p2 p3 p4 p5 p6
  go_wp2_with fail
  refine (decode_any 2 u10 (Cm.bytes 2 c) _ (HV.out.below HB10.out) HU10.out (by have := HLEN.out; omega)).mono ?_
  rintro e11 w11 ⟨rfl, hb11⟩
  obtain ⟨r, hr⟩ : ∃ r, r = Cm.decode 2 (Cm.bytes 2 c) := ⟨_, rfl⟩
  rw [← hr] at HER ⊢
  clear hr
  obtain ⟨D, er⟩ := r
  dsimp only at HER ⊢
  have HL11 := Lib.hid (HL10.out.below hb11 HL10.out.lt)
  have HW11 := Lib.hid (HW10.out.grown hb11)
  have HB11 := Lib.hid (HB10.out.trans (hb11.mono HB10.out.size))
  have HX11 := Lib.hid (HX10.out.below hb11 HX10.out.lt)
  clear hb11
  go_wp2_with (refine store_cmd (by rfl) _ _ (by rfl) w11.heap.size Cm.zero D (by rfl) (by rfl) (Lies.new _ _ _) ?_; intro w12 hl12 hg12)
  have hb12 : Below w11.heap.size w11 w12 := ((Below.refl _ w11).alloc (Nat.le_refl _) _).grown hg12 (by simp) (by rintro j hj; cases hj; exact Nat.le_refl _)
  have HL12 := Lib.hid (HL11.out.below hb12 HL11.out.lt)
  have HW12 := Lib.hid (HW11.out.grown hb12)
  have HB12 := Lib.hid (HB11.out.trans (hb12.mono HB11.out.size))
  have HX12 := Lib.hid (HX11.out.below hb12 HX11.out.lt)
  obtain ⟨p0, p1, p2, p3, p4, p5, p6⟩ := Cmds.all HL12.out
  obtain ⟨y0, y1, y2, y3, y4, y5, y6⟩ := Cmds.all HX12.out
  clear hl12 hg12 hb12
  have hgd := guard_cmd
  have hneq := fun W => run_neq_cmd W c
  dsimp only [Cm.cells] at hneq
  go_region_with (first
      | (go_at_call 22; refine (wbytes_any _ wa.heap.size wa.heap.size u5 _ (HW12.out.grown (Below.refl _ _).drew) (by have := HLEN.out; omega)).mono ?_; rintro e13 w13 ⟨u13, rfl, ho13, hb13⟩
         have HB13 := Lib.hid (HB12.out.drew.trans (hb13.mono HB12.out.drew.size))
         have HL13 := Lib.hid ((HL12.out.below (Below.refl _ _).drew HL12.out.lt).below hb13 HL12.out.lt)
         have HX13 := Lib.hid ((HX12.out.below (Below.refl _ _).drew HX12.out.lt).below hb13 HX12.out.lt)
         have HU13 := Lib.hid ho13.reads
         obtain ⟨k130, k131, k132, k133, k134, k135, k136⟩ := Cmds.all HL13.out)
      | (go_at_call 17; refine (refBytesCmd_any 2 c _ (by decide) HK.out.1 HK.out.2 HF.out (HS.out.mono (by omega))).mono ?_; rintro e14 w14 ⟨u14, rfl, ho14, hb14⟩
         have HB14 := Lib.hid (HB13.out.trans (hb14.mono HB13.out.size))
         have HL14 := Lib.hid (HL13.out.below hb14 HL13.out.lt)
         have HX14 := Lib.hid (HX13.out.below hb14 HX13.out.lt)
         have HU14 := Lib.hid (HU13.out.below hb14)
         have HO14 := Lib.hid ho14.reads
         obtain ⟨k140, k141, k142, k143, k144, k145, k146⟩ := Cmds.all HL14.out)
      | (go_at_call 16; refine (same_any u13 u14 (Cm.bytes 2 c) (Cm.bytes 2 c) _ HU14.out HO14.out).mono ?_; rintro e15 w15 ⟨rfl, n15, hw15⟩
         rw [show (Cm.bytes 2 c == Cm.bytes 2 c) = true by simp]
         have hb15 : Below w14.heap.size w14 w15 := by rw [hw15]; exact drawn _ _
         clear hw15
         have HB15 := Lib.hid (HB14.out.trans (hb15.mono HB14.out.size))
         have HL15 := Lib.hid (HL14.out.below hb15 HL14.out.lt)
         have HX15 := Lib.hid (HX14.out.below hb15 HX14.out.lt)
         obtain ⟨k150, k151, k152, k153, k154, k155, k156⟩ := Cmds.all HL15.out))
  all_goals
    obtain ⟨z0, z1, z2, z3, z4, z5, z6⟩ := Cmds.all HL15.out
    clear p0 p1 p2 p3 p4 p5 p6 y0 y1 y2 y3 y4 y5 y6
    go_wp2_with fail
    refine (refCheck_any c _ (HS.out.mono (by omega))).mono ?_
    rintro e16 w16 ⟨rfl, hb16⟩
    obtain ⟨m0, m1, m2, m3, m4, m5, m6⟩ := Cmds.all (HL15.out.below hb16 HL15.out.lt)
    have HB16 := Lib.hid (HB15.out.trans (hb16.mono HB15.out.size))
    clear hb16 z0 z1 z2 z3 z4 z5 z6
    by_cases hc : Cm.check c = 0
    · have HE := HER.out
      rw [if_pos hc] at HE
      obtain rfl : er = Cm.checkIn 2 c := HE
      have hee : (Cm.checkIn 2 c == Cm.checkIn 2 c) = true := by simp
      rw [hc]
      clear HER hc n3
      go_wp2_with fail
      refine (refHasCmd_any 2 c _ (HS.out.mono (by omega))).mono ?_
      rintro e18 w18 ⟨rfl, hb18⟩
      have HB18 := Lib.hid (HB16.out.trans (hb18.mono HB16.out.size))
      go_wp2_with fail
      refine (awake_any _ (HV.out.below HB18.out) (HP.out.below HB18.out)).mono ?_
      rintro e17 w17 ⟨rfl, hb17⟩
      go_wp2
      go_ret
      exact truly_of (HB18.out.trans (hb17.mono HB18.out.size))
    · have HE := HER.out
      rw [if_neg hc] at HE
      have hn1 : (Cm.check c != 0) = true := by simpa using hc
      have hn2 : (er != 0) = true := by simpa using HE
      clear HE HER
      go_wp2_with fail
      refine (awake_any _ (HV.out.below HB16.out) (HP.out.below HB16.out)).mono ?_
      rintro e17 w17 ⟨rfl, hb17⟩
      go_wp2
      go_ret
      exact truly_of (HB16.out.trans (hb17.mono HB16.out.size))

set_option maxRecDepth 4000 in
set_option maxHeartbeats 3200000 in
theorem cmdRefuses_0 (v : Int) (c : Cm.Cmd) (w : World) (hv : WordsIn w) (hp : PowIn w) (hl : c.Short 9223372036854775807)
    (h : (decide (300 < c.key.length) || (decide (300 < c.old.length) || decide (300 < c.val.length))) = true ∨ (v < 1 ∨ 2 < v ∨ c.kind < 0 ∨ c.client < 0 ∨ c.seq < 0 ∨ c.node < 0)) :
    Calls Tryd.prog 6 #[.int .i64 v, .agg (Cm.cells c)] w (Truly w) := by
  obtain ⟨w1, e1, hl1, hB1, hz1⟩ := box_cmd w c
  obtain ⟨p0, p1, p2, p3, p4, p5, p6⟩ := Cmds.all hl1
  have HL1 := Lib.hid hl1; have HB1 := Lib.hid hB1
  have HV := Lib.hid hv; have HP := Lib.hid hp
  clear hl1 hB1 hz1 hv hp
  go_enter Tryd.func6, Tryd.ntmps6
  go_wp2_with fail
  refine (large_any c _ hl).mono ?_
  rintro e w2 ⟨rfl, hB2⟩
  obtain ⟨t, ht⟩ : ∃ t, t = (decide (300 < c.key.length) || (decide (300 < c.old.length) || decide (300 < c.val.length))) := ⟨_, rfl⟩
  rw [← ht] at h ⊢
  clear ht
  have hl2 := HL1.out.below hB2 HL1.out.lt
  obtain ⟨q0, q1, q2, q3, q4, q5, q6⟩ := Cmds.all hl2
  have HB2 := Lib.hid (HB1.out.trans (hB2.mono HB1.out.size))
  clear hB2 hl2 p0 p1 p2 p3 p4 p5 p6
  cases t with
  | true =>
    go_wp2_with fail
    refine (awake_any _ (HV.out.below HB2.out) (HP.out.below HB2.out)).mono ?_
    rintro e w3 ⟨rfl, hB3⟩
    go_wp2
    go_ret
    exact truly_of (HB2.out.trans (hB3.mono HB2.out.size))
  | false =>
    have hor : v < 1 ∨ 2 < v ∨ c.kind < 0 ∨ c.client < 0 ∨ c.seq < 0 ∨ c.node < 0 := h.resolve_left (by simp)
    clear h
    by_cases c0 : v < 1
    · have d0 : decide (v < 1) = true := decide_eq_true c0
      go_wp2_with fail
      refine (awake_any _ (HV.out.below HB2.out) (HP.out.below HB2.out)).mono ?_
      rintro e w3 ⟨rfl, hB3⟩
      go_wp2
      go_ret
      exact truly_of (HB2.out.trans (hB3.mono HB2.out.size))
    · have d0 : decide (v < 1) = false := decide_eq_false c0
      by_cases c1 : 2 < v
      · have d1 : decide (2 < v) = true := decide_eq_true c1
        go_wp2_with fail
        refine (awake_any _ (HV.out.below HB2.out) (HP.out.below HB2.out)).mono ?_
        rintro e w3 ⟨rfl, hB3⟩
        go_wp2
        go_ret
        exact truly_of (HB2.out.trans (hB3.mono HB2.out.size))
      · have d1 : decide (2 < v) = false := decide_eq_false c1
        by_cases c2 : c.kind < 0
        · have d2 : decide (c.kind < 0) = true := decide_eq_true c2
          go_wp2_with fail
          refine (awake_any _ (HV.out.below HB2.out) (HP.out.below HB2.out)).mono ?_
          rintro e w3 ⟨rfl, hB3⟩
          go_wp2
          go_ret
          exact truly_of (HB2.out.trans (hB3.mono HB2.out.size))
        · have d2 : decide (c.kind < 0) = false := decide_eq_false c2
          by_cases c3 : c.client < 0
          · have d3 : decide (c.client < 0) = true := decide_eq_true c3
            go_wp2_with fail
            refine (awake_any _ (HV.out.below HB2.out) (HP.out.below HB2.out)).mono ?_
            rintro e w3 ⟨rfl, hB3⟩
            go_wp2
            go_ret
            exact truly_of (HB2.out.trans (hB3.mono HB2.out.size))
          · have d3 : decide (c.client < 0) = false := decide_eq_false c3
            by_cases c4 : c.seq < 0
            · have d4 : decide (c.seq < 0) = true := decide_eq_true c4
              go_wp2_with fail
              refine (awake_any _ (HV.out.below HB2.out) (HP.out.below HB2.out)).mono ?_
              rintro e w3 ⟨rfl, hB3⟩
              go_wp2
              go_ret
              exact truly_of (HB2.out.trans (hB3.mono HB2.out.size))
            · have d4 : decide (c.seq < 0) = false := decide_eq_false c4
              have d5 : decide (c.node < 0) = true := decide_eq_true (by omega)
              go_wp2_with fail
              refine (awake_any _ (HV.out.below HB2.out) (HP.out.below HB2.out)).mono ?_
              rintro e w3 ⟨rfl, hB3⟩
              go_wp2
              go_ret
              exact truly_of (HB2.out.trans (hB3.mono HB2.out.size))

set_option maxRecDepth 4000 in
set_option maxHeartbeats 3200000 in
theorem cmdRefuses_9 (v : Int) (c : Cm.Cmd) (w : World) (hv : WordsIn w) (hp : PowIn w) (hl : c.Short 9223372036854775807) (hs3 : c.Short 300) (hpos : c.Pos) (hvv : v = 1 ∨ v = 2)
    (h : (v = 1 ∧ c.old ≠ []) ∨ (v = 2 ∧ Cm.check c = 3) ∨ c.kind < 1 ∨ 8 < c.kind) :
    Calls Tryd.prog 6 #[.int .i64 v, .agg (Cm.cells c)] w (Truly w) := by
  obtain ⟨g0, g1, g2, g3⟩ := hpos
  have d0 : decide (c.kind < 0) = false := decide_eq_false (by omega)
  have d1 : decide (c.client < 0) = false := decide_eq_false (by omega)
  have d2 : decide (c.seq < 0) = false := decide_eq_false (by omega)
  have d3 : decide (c.node < 0) = false := decide_eq_false (by omega)
  have HLG : Hid ((decide (300 < c.key.length) || (decide (300 < c.old.length) || decide (300 < c.val.length))) = false) := by
    show _ = _
    obtain ⟨z1, z2, z3⟩ := hs3
    simp; omega
  have HS := Lib.hid hs3
  clear g0 g1 g2 g3 hs3
  obtain ⟨w1, e1, hl1, hB1, hz1⟩ := box_cmd w c
  obtain ⟨p0, p1, p2, p3, p4, p5, p6⟩ := Cmds.all hl1
  have HL1 := Lib.hid hl1; have HB1 := Lib.hid hB1
  have HV := Lib.hid hv; have HP := Lib.hid hp
  clear hl1 hB1 hz1 hv hp
  have hE := str_empty c.old
  obtain ⟨eo, heo⟩ : ∃ eo, eo = decide (c.old = []) := ⟨_, rfl⟩
  rw [← heo] at hE
  have HEO := Lib.hid heo
  clear heo
  have hz3 : ∀ z : Int, (z == 3) = true ∨ (z == 3) = false := fun z => by cases z == 3 <;> simp
  have dk1 : decide (c.kind < 1) = true ∨ decide (c.kind < 1) = false := by cases decide (c.kind < 1) <;> simp
  have dk8 : decide (8 < c.kind) = true ∨ decide (8 < c.kind) = false := by cases decide (8 < c.kind) <;> simp
  go_enter Tryd.func6, Tryd.ntmps6
  go_wp2_with fail
  refine (large_any c _ hl).mono ?_
  rintro e w2 ⟨rfl, hB2⟩
  rw [HLG.out]
  have hl2 := HL1.out.below hB2 HL1.out.lt
  obtain ⟨q0, q1, q2, q3, q4, q5, q6⟩ := Cmds.all hl2
  obtain ⟨SO, hSO⟩ : ∃ SO, SO = ByteArray.mk c.old.toArray := ⟨_, rfl⟩
  have HQ5 := Lib.hid q5
  rw [← hSO] at q5 hE
  clear hSO
  have HL2 := Lib.hid hl2
  have HB2 := Lib.hid (HB1.out.trans (hB2.mono HB1.out.size))
  have HAW := Lib.hid (fun W (h : Below w.heap.size w W) => awake_any W (HV.out.below h) (HP.out.below h))
  clear hB2 hl2 p0 p1 p2 p3 p4 p5 p6
  rcases hvv with rfl | rfl
  · cases eo with
    | false =>
      clear h hz3 dk1 dk8
      go_wp2_with fail
      refine (HAW.out _ HB2.out).mono ?_
      rintro e w3 ⟨rfl, hB3⟩
      go_wp2
      go_ret
      exact truly_of (HB2.out.trans (hB3.mono HB2.out.size))
    | true =>
      have hk : c.kind < 1 ∨ 8 < c.kind := by
        rcases h with ⟨_, h⟩ | ⟨h, _⟩ | h | h
        · exact absurd (of_decide_eq_true HEO.out.symm) h
        · omega
        · exact .inl h
        · exact .inr h
      clear h hz3
      rcases dk1 with d5 | d5
      · clear hk dk8
        go_wp2_with fail
        refine (HAW.out _ HB2.out).mono ?_
        rintro e w3 ⟨rfl, hB3⟩
        go_wp2
        go_ret
        exact truly_of (HB2.out.trans (hB3.mono HB2.out.size))
      · have d6 : decide (8 < c.kind) = true := decide_eq_true (by have := of_decide_eq_false d5; omega)
        clear dk8
        go_wp2_with fail
        refine (HAW.out _ HB2.out).mono ?_
        rintro e w3 ⟨rfl, hB3⟩
        go_wp2
        go_ret
        exact truly_of (HB2.out.trans (hB3.mono HB2.out.size))
  · clear hE q5
    have q5 := HQ5.out
    go_wp2_with fail
    refine (refCheck_any c _ (HS.out.mono (by omega))).mono ?_
    rintro e w3 ⟨rfl, hB3⟩
    obtain ⟨r0, r1, r2, r3, r4, r5, r6⟩ := Cmds.all (HL2.out.below hB3 HL2.out.lt)
    have HB3 := Lib.hid (HB2.out.trans (hB3.mono HB2.out.size))
    have hk : Cm.check c = 3 ∨ c.kind < 1 ∨ 8 < c.kind := by
      rcases h with ⟨h, _⟩ | ⟨_, h⟩ | h | h
      · omega
      · exact .inl h
      · exact .inr (.inl h)
      · exact .inr (.inr h)
    clear hB3 h q0 q1 q2 q3 q4 q5 q6
    rcases hz3 (Cm.check c) with d4 | d4
    · clear hz3 dk1 dk8
      go_wp2_with fail
      refine (HAW.out _ HB3.out).mono ?_
      rintro e w4 ⟨rfl, hB4⟩
      go_wp2
      go_ret
      exact truly_of (HB3.out.trans (hB4.mono HB3.out.size))
    · have hk2 : c.kind < 1 ∨ 8 < c.kind := hk.resolve_left (by simpa using d4)
      clear hk hz3
      rcases dk1 with d5 | d5
      · clear dk8
        go_wp2_with fail
        refine (HAW.out _ HB3.out).mono ?_
        rintro e w4 ⟨rfl, hB4⟩
        go_wp2
        go_ret
        exact truly_of (HB3.out.trans (hB4.mono HB3.out.size))
      · have d6 : decide (8 < c.kind) = true := decide_eq_true (by have := of_decide_eq_false d5; omega)
        clear dk8
        go_wp2_with fail
        refine (HAW.out _ HB3.out).mono ?_
        rintro e w4 ⟨rfl, hB4⟩
        go_wp2
        go_ret
        exact truly_of (HB3.out.trans (hB4.mono HB3.out.size))

theorem cmdRefuses_any (v : Int) (c : Cm.Cmd) (w : World) (hv : WordsIn w) (hp : PowIn w) (hl : c.Short 9223372036854775807) (hf : c.Fits) : Calls Tryd.prog 6 #[.int .i64 v, .agg (Cm.cells c)] w (Truly w) := by
  by_cases h0 : (decide (300 < c.key.length) || (decide (300 < c.old.length) || decide (300 < c.val.length))) = true ∨ (v < 1 ∨ 2 < v ∨ c.kind < 0 ∨ c.client < 0 ∨ c.seq < 0 ∨ c.node < 0)
  · exact cmdRefuses_0 v c w hv hp hl h0
  · have hs3 := Cm.short_of (c := c) (by cases h : (decide (300 < c.key.length) || (decide (300 < c.old.length) || decide (300 < c.val.length))); rfl; exact absurd (Or.inl h) h0)
    have hor : ¬ (v < 1 ∨ 2 < v ∨ c.kind < 0 ∨ c.client < 0 ∨ c.seq < 0 ∨ c.node < 0) := fun h => h0 (.inr h)
    have hpos : c.Pos := ⟨by omega, by omega, by omega, by omega⟩
    have hvv : v = 1 ∨ v = 2 := by omega
    by_cases h9 : (v = 1 ∧ c.old ≠ []) ∨ (v = 2 ∧ Cm.check c = 3) ∨ c.kind < 1 ∨ 8 < c.kind
    · exact cmdRefuses_9 v c w hv hp hl hs3 hpos hvv h9
    · have hk : ¬ (c.kind < 1 ∨ 8 < c.kind) := fun h => h9 (.inr (.inr h))
      rcases hvv with rfl | rfl
      · exact cmdRefuses_1 c w hv hp hl hf hpos hs3 (Decidable.byContradiction fun h => h9 (.inl ⟨rfl, h⟩)) (by omega) (by omega)
      · exact cmdRefuses_2 c w hv hp hl hf hpos hs3 (fun h => h9 (.inr (.inl ⟨rfl, h⟩))) (by omega) (by omega)

end Go.Proofs.YteaebmgnofmemaaDoor
