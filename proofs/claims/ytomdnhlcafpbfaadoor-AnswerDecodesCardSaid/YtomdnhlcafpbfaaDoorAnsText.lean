/- Text of an answer; the law's own answer. -/
import Derived.Test.YtomdnhlcafpbfaaDoorAnsChk
import Derived.Test.YtomdnhlcafpbfaaDoorQtLaws
import Derived.Deep.RegionHeld3
namespace Go.Proofs.YtomdnhlcafpbfaaDoor
open Go.RowKit

/-- The cells that a text is made of, the flag's aside. -/
theorem Anss.five {w : World} {b : Nat} {a : An.Ans} (h : Anss w b a) : w.cell? ⟨b, 0, none⟩ = some (.int .i64 a.client) ∧ w.cell? ⟨b, 1, none⟩ = some (.int .i64 a.seq) ∧ w.cell? ⟨b, 2, none⟩ = some (.int .i64 a.err) ∧
    w.cell? ⟨b, 4, none⟩ = some (.string ⟨a.val.toArray⟩) ∧ w.cell? ⟨b, 5, none⟩ = some (.int .i64 a.rev) :=
  ⟨h.cell 0 _ rfl, h.cell 1 _ rfl, h.cell 2 _ rfl, h.cell 4 _ rfl, h.cell 5 _ rfl⟩

theorem itoa_any (x : Int) (w : World) (hp : PowIn w) (h0 : -9223372036854775808 ≤ x) (h1 : x ≤ 9223372036854775807) : Calls Tryd.prog 37 #[.int .i64 x] w (Looks w (.string ⟨(Lib.itoa x).toArray⟩)) := by
  refine (Tryd.strconv_Itoa x h0 h1 w hp).mono ?_
  rintro e w2 ⟨h, k, os, hw⟩
  exact ⟨h, by rw [hw]; exact grow_below _ _ _⟩

set_option maxRecDepth 4000 in
set_option maxHeartbeats 3200000 in
theorem atext_any (a : An.Ans) (w : World) (hp : PowIn w) (hf : a.Fits) (hs : a.val.length ≤ 100000000) :
    Calls Tryd.prog 19 #[.agg (An.cells a)] w (Looks w (.string ⟨(An.text a).toArray⟩)) := by
  obtain ⟨w1, e1, hl1, hB1, hz1⟩ := box_ans w a
  obtain ⟨p0, p1, p2, p3, p4, p5⟩ := Anss.every hl1
  have HL1 := Lib.hid hl1; have HB1 := Lib.hid hB1
  have HP := Lib.hid hp; have HF := Lib.hid hf
  have hsz : (ByteArray.mk a.val.toArray).size ≤ 1000000000000 := by rw [str_size]; omega
  have HSZ := Lib.hid hsz
  have HLN := Lib.hid (An.line_len a hf hs)
  clear hl1 hB1 hz1 hp hsz hf
  obtain ⟨T, hT⟩ : ∃ T, T = ByteArray.mk (An.text a).toArray := ⟨_, rfl⟩
  rw [← hT]
  have HT := Lib.hid hT
  clear hT
  go_enter Tryd.func19, Tryd.ntmps19
  go_wp2_with fail
  refine (acheck_any a _ (by omega)).mono ?_
  rintro e w2 ⟨rfl, hB2⟩
  obtain ⟨z, hz⟩ : ∃ z, z = An.check a := ⟨_, rfl⟩
  rw [← hz]
  have HZ := Lib.hid hz
  clear hz
  have hl2 := HL1.out.below hB2 HL1.out.lt
  obtain ⟨q0, q1, q2, q3, q4, q5⟩ := Anss.every hl2
  have HL2 := Lib.hid hl2
  have HB2 := Lib.hid (HB1.out.trans (hB2.mono HB1.out.size))
  clear hl2 hB2 p0 p1 p2 p3 p4 p5
  by_cases h0 : z = 0
  · subst h0
    have HTX : Hid (T = ByteArray.mk (An.line a).toArray) := by show _ = _; rw [HT.out, An.text, if_pos HZ.out.symm]
    obtain ⟨Y, hY⟩ : ∃ Y, Y = An.yes a.found := ⟨_, rfl⟩
    have HLS : Hid (An.line a = Lib.join (([⟨(Lib.itoa a.client).toArray⟩, ⟨(Lib.itoa a.seq).toArray⟩, ⟨(Lib.itoa a.err).toArray⟩, ⟨(Lib.itoa a.rev).toArray⟩, ⟨Y.toArray⟩, ⟨(Qt.quote ⟨a.val.toArray⟩).toArray⟩] : List ByteArray).map (·.data.toList)) [32]) := by
      show _ = _
      rw [hY]
      rfl
    cases hfd : a.found with
    | false =>
      rw [hfd] at q3
      obtain rfl : Y = [110, 111] := by rw [hY, hfd]; rfl
      have HFD := Lib.hid hfd
      clear hY hfd
      go_wp2
      have HLc := Lib.hid (HL2.out.below (Below.refl _ _).drew HL2.out.lt)
      have HBc := Lib.hid HB2.out.drew
      go_region_held3 (fun w' => w'.cell? ⟨w.heap.size, 0, none⟩ = some (.int .i64 a.client) ∧ w'.cell? ⟨w.heap.size, 1, none⟩ = some (.int .i64 a.seq) ∧ w'.cell? ⟨w.heap.size, 2, none⟩ = some (.int .i64 a.err) ∧
        w'.cell? ⟨w.heap.size, 4, none⟩ = some (.string ⟨a.val.toArray⟩) ∧ w'.cell? ⟨w.heap.size, 5, none⟩ = some (.int .i64 a.rev)) (first | go_keep | exact K3) (first
          | (go_at_call 37; refine (itoa_any _ _ (HP.out.below HBc.out) (by first | exact HF.out.c0 | exact HF.out.q0 | exact HF.out.e0 | exact HF.out.r0) (by first | exact HF.out.c1 | exact HF.out.q1 | exact HF.out.e1 | exact HF.out.r1)).mono ?_; rintro e3 w3 ⟨rfl, hB3⟩
             have HLd := HLc; have HBd := HBc
             have HLc := Lib.hid (HLd.out.below hB3 HLd.out.lt)
             have HBc := Lib.hid (HBd.out.trans (hB3.mono HBd.out.size))
             have K3 := Anss.five HLc.out)
          | (go_at_call 38; refine (quote_any _ _ HSZ.out).mono ?_; rintro e3 w3 ⟨rfl, hB3⟩
             have HLd := HLc; have HBd := HBc
             have HLc := Lib.hid (HLd.out.below hB3 HLd.out.lt)
             have HBc := Lib.hid (HBd.out.trans (hB3.mono HBd.out.size))
             have K3 := Anss.five HLc.out)
          | (go_at_call 36; refine (line_any _ _ _ (ReadsS.fresh _ _ [⟨(Lib.itoa a.client).toArray⟩, ⟨(Lib.itoa a.seq).toArray⟩, ⟨(Lib.itoa a.err).toArray⟩, ⟨(Lib.itoa a.rev).toArray⟩, ⟨#[110, 111]⟩, ⟨(Qt.quote ⟨a.val.toArray⟩).toArray⟩] 6 _ rfl rfl (by omega)) (by simp) (Nat.le_trans (Nat.le_of_eq (congrArg List.length HLS.out.symm)) (Nat.le_trans HLN.out (by omega)))).mono ?_; rintro e4 w4 ⟨rfl, hB4⟩
             have K3 := Anss.five ((HLc.out.alloc _).below hB4 (HLc.out.alloc _).lt)))
      all_goals
        go_wp2
        go_ret
        refine ⟨?_, (HBc.out.alloc HBc.out.size _).trans (hB4.mono (by have := HBc.out.size; simp; omega))⟩
        rw [HTX.out, HLS.out]
        rfl
    | true =>
      rw [hfd] at q3
      obtain rfl : Y = [121, 101, 115] := by rw [hY, hfd]; rfl
      have HFD := Lib.hid hfd
      clear hY hfd
      go_wp2
      have HLc := Lib.hid (HL2.out.below (Below.refl _ _).drew HL2.out.lt)
      have HBc := Lib.hid HB2.out.drew
      go_region_held3 (fun w' => w'.cell? ⟨w.heap.size, 0, none⟩ = some (.int .i64 a.client) ∧ w'.cell? ⟨w.heap.size, 1, none⟩ = some (.int .i64 a.seq) ∧ w'.cell? ⟨w.heap.size, 2, none⟩ = some (.int .i64 a.err) ∧
        w'.cell? ⟨w.heap.size, 4, none⟩ = some (.string ⟨a.val.toArray⟩) ∧ w'.cell? ⟨w.heap.size, 5, none⟩ = some (.int .i64 a.rev)) (first | go_keep | exact K3) (first
          | (go_at_call 37; refine (itoa_any _ _ (HP.out.below HBc.out) (by first | exact HF.out.c0 | exact HF.out.q0 | exact HF.out.e0 | exact HF.out.r0) (by first | exact HF.out.c1 | exact HF.out.q1 | exact HF.out.e1 | exact HF.out.r1)).mono ?_; rintro e3 w3 ⟨rfl, hB3⟩
             have HLd := HLc; have HBd := HBc
             have HLc := Lib.hid (HLd.out.below hB3 HLd.out.lt)
             have HBc := Lib.hid (HBd.out.trans (hB3.mono HBd.out.size))
             have K3 := Anss.five HLc.out)
          | (go_at_call 38; refine (quote_any _ _ HSZ.out).mono ?_; rintro e3 w3 ⟨rfl, hB3⟩
             have HLd := HLc; have HBd := HBc
             have HLc := Lib.hid (HLd.out.below hB3 HLd.out.lt)
             have HBc := Lib.hid (HBd.out.trans (hB3.mono HBd.out.size))
             have K3 := Anss.five HLc.out)
          | (go_at_call 36; refine (line_any _ _ _ (ReadsS.fresh _ _ [⟨(Lib.itoa a.client).toArray⟩, ⟨(Lib.itoa a.seq).toArray⟩, ⟨(Lib.itoa a.err).toArray⟩, ⟨(Lib.itoa a.rev).toArray⟩, ⟨#[121, 101, 115]⟩, ⟨(Qt.quote ⟨a.val.toArray⟩).toArray⟩] 6 _ rfl rfl (by omega)) (by simp) (Nat.le_trans (Nat.le_of_eq (congrArg List.length HLS.out.symm)) (Nat.le_trans HLN.out (by omega)))).mono ?_; rintro e4 w4 ⟨rfl, hB4⟩
             have K3 := Anss.five ((HLc.out.alloc _).below hB4 (HLc.out.alloc _).lt)))
      all_goals
        go_wp2
        go_ret
        refine ⟨?_, (HBc.out.alloc HBc.out.size _).trans (hB4.mono (by have := HBc.out.size; simp; omega))⟩
        rw [HTX.out, HLS.out]
        rfl
  · have hne : (z != 0) = true := by simpa using h0
    have HTX : Hid (T = ByteArray.mk #[]) := by show _ = _; rw [HT.out, An.text, if_neg (by rw [← HZ.out]; exact h0)]
    go_wp2
    go_ret
    exact ⟨by rw [HTX.out]; rfl, HB2.out⟩

/-- The law's own answer. -/
def An.first : An.Ans := ⟨1, 2, 0, true, [118], 3⟩
theorem An.first_fits : An.first.Fits := by constructor <;> simp [An.first]
theorem An.first_check : An.check An.first = 0 := by decide +kernel
theorem An.first_text : An.text An.first = [49, 32, 50, 32, 48, 32, 51, 32, 121, 101, 115, 32, 34, 118, 34] := by decide +kernel

set_option maxRecDepth 4000 in
set_option maxHeartbeats 1600000 in
theorem awakeA_any (w : World) (hp : PowIn w) : Calls Tryd.prog 6 #[] w (Truly w) := by
  have HP := Lib.hid hp
  clear hp
  go_enter Tryd.func6, Tryd.ntmps6
  go_wp2_with fail
  refine (atext_any An.first _ HP.out An.first_fits (by decide)).mono ?_
  rintro e w3 ⟨rfl, hB3⟩
  rw [An.first_text]
  have HB3 := Lib.hid hB3
  go_wp2
  go_ret
  exact ⟨rfl, HB3.out⟩

end Go.Proofs.YtomdnhlcafpbfaaDoor
