/- The document's text of a command. -/
import Derived.Test.YteaebmgnofmemaaGreatDoorCmdDig
import Derived.Test.YteaebmgnofmemaaGreatDoorCmdTxt
import Derived.Test.YteaebmgnofmemaaGreatDoorCmdRef
import Derived.Deep.RegionHeld3
namespace Go.Proofs.YteaebmgnofmemaaGreatDoor
open Go.RowKit

theorem Cmds.all' {w : World} {b : Nat} {c : Cm.Cmd} (h : Cmds w b c) : w.cell? ⟨b, 1, none⟩ = some (.int .i64 c.client) ∧ w.cell? ⟨b, 2, none⟩ = some (.int .i64 c.seq) ∧ w.cell? ⟨b, 3, none⟩ = some (.string ⟨c.key.toArray⟩) :=
  ⟨h.cell 1 _ rfl, h.cell 2 _ rfl, h.cell 3 _ rfl⟩
theorem str_same {A : ByteArray} {l : List UInt8} (h : A.data.toList = l) : Value.string A = .string ⟨l.toArray⟩ := by subst h; rfl
theorem join_flat (x : List UInt8) (r : List (List UInt8)) : Lib.join (x :: r) [32] = x ++ (r.map ([32] ++ ·)).flatten := Lib.join_cons _ _ _

set_option maxRecDepth 4000 in
set_option maxHeartbeats 1600000 in
theorem refText_1 (c : Cm.Cmd) (w : World) (hk : c.kind = 1) (hc : Cm.check c = 0) (hs : c.Short 4000000) (hf : c.Fits) : Calls Tryz.prog 7 #[.agg (Cm.cells c)] w (Looks w (.string ⟨(Cm.text c).toArray⟩)) := by
  have HSM := Lib.hid (Cm.check_small hc)
  have HTX : Hid (Cm.text c = Cm.line c) := by show _ = _; unfold Cm.text; rw [if_pos hc]
  have hline : Cm.line c = ([110, 111, 112] : List UInt8) := by
    unfold Cm.line Cm.ws
    rw [hk, join_flat]
    simp [Cm.fields, Cm.word, Cm.wordList]
  have HLN := Lib.hid hline
  have HFT := Lib.hid hf
  have i1 := Cm.itoa_len c.client hf.c0 hf.c1
  have i2 := Cm.itoa_len c.seq hf.q0 hf.q1
  have i3 := Cm.itoa_len c.node hf.n0 hf.n1
  have k1 : (Qt.quote ⟨c.key.toArray⟩).length ≤ 20000000 := by have := Qt.quote_len ⟨c.key.toArray⟩; rw [str_size] at this; have := hs.1; omega
  have k2 : (Qt.quote ⟨c.old.toArray⟩).length ≤ 20000000 := by have := Qt.quote_len ⟨c.old.toArray⟩; rw [str_size] at this; have := hs.2.1; omega
  have k3 : (Qt.quote ⟨c.val.toArray⟩).length ≤ 20000000 := by have := Qt.quote_len ⟨c.val.toArray⟩; rw [str_size] at this; have := hs.2.2; omega
  have HKD := Lib.hid hk
  have z1 : (ByteArray.mk c.key.toArray).size ≤ 1000000000000 := by rw [str_size]; have := hs.1; omega
  have z2 : (ByteArray.mk c.old.toArray).size ≤ 1000000000000 := by rw [str_size]; have := hs.2.1; omega
  have z3 : (ByteArray.mk c.val.toArray).size ≤ 1000000000000 := by rw [str_size]; have := hs.2.2; omega
  have Z1 := Lib.hid z1; have Z2 := Lib.hid z2; have Z3 := Lib.hid z3
  obtain ⟨w1, e1, hl1, hB1, hz1⟩ := box_cmd w c
  obtain ⟨p0, p1, p2, p3, p4, p5, p6⟩ := Cmds.all hl1
  rw [hk] at p0
  have HL1 := Lib.hid hl1; have HB1 := Lib.hid hB1
  clear hl1 hB1 hz1 hline hk hc hs z1 z2 z3
  obtain ⟨w2, e2, hB2, hx2⟩ : ∃ w2, w1.alloc (.cells #[.string ⟨#[]⟩, .string ⟨#[110, 111, 112]⟩, .string ⟨#[112, 117, 116]⟩, .string ⟨#[103, 101, 116]⟩, .string ⟨#[100, 101, 108]⟩, .string ⟨#[99, 97, 115]⟩, .string ⟨#[97, 99, 116, 105, 118, 97, 116, 101]⟩, .string ⟨#[97, 100, 100]⟩, .string ⟨#[100, 114, 111, 112]⟩] 9) = w2 ∧ Below w1.heap.size w1 w2 ∧ w2.cell? ⟨w1.heap.size, 1, none⟩ = some (.string ⟨#[110, 111, 112]⟩) :=
    ⟨_, rfl, (Below.refl _ _).alloc (Nat.le_refl _) _, Lies.cell (Lies.new w1 9 _) 1 _ rfl⟩
  obtain ⟨q0, q1, q2, q3, q4, q5, q6⟩ := Cmds.all (HL1.out.below hB2 HL1.out.lt)
  rw [HKD.out] at q0
  have HLc := Lib.hid (HL1.out.below hB2 HL1.out.lt)
  have HBc := Lib.hid (HB1.out.trans (hB2.mono HB1.out.size))
  clear hB2
  go_enter Tryz.func7, Tryz.ntmps7
  go_wp2_with fail
  refine (refOwned_any _ _).mono ?_
  rintro e w9 ⟨rfl, rfl⟩
  rw [show Cm.owned 1 = false from rfl]
  go_wp2_with fail
  refine (refMember_any _ _).mono ?_
  rintro e w9 ⟨rfl, rfl⟩
  rw [show Cm.member 1 = false from rfl]
  go_wp2
  go_ret
  refine ⟨?_, HBc.out⟩
  rw [HTX.out, HLN.out]
  congr 1

set_option maxRecDepth 4000 in
set_option maxHeartbeats 1600000 in
theorem refText_2 (c : Cm.Cmd) (w : World) (hk : c.kind = 2) (hc : Cm.check c = 0) (hs : c.Short 4000000) (hf : c.Fits) : Calls Tryz.prog 7 #[.agg (Cm.cells c)] w (Looks w (.string ⟨(Cm.text c).toArray⟩)) := by
  have HSM := Lib.hid (Cm.check_small hc)
  have HTX : Hid (Cm.text c = Cm.line c) := by show _ = _; unfold Cm.text; rw [if_pos hc]
  have hline : Cm.line c = ([112, 117, 116] : List UInt8) ++ ([32] ++ Lib.itoa c.client) ++ ([32] ++ Lib.itoa c.seq) ++ ([32] ++ Qt.quote ⟨c.key.toArray⟩) ++ ([32] ++ Qt.quote ⟨c.val.toArray⟩) := by
    unfold Cm.line Cm.ws
    rw [hk, join_flat]
    simp [Cm.fields, Cm.told, Cm.F.num, Cm.Cmd.n, Cm.Cmd.s, Cm.word, Cm.wordList]
  have HLN := Lib.hid hline
  have HFT := Lib.hid hf
  have i1 := Cm.itoa_len c.client hf.c0 hf.c1
  have i2 := Cm.itoa_len c.seq hf.q0 hf.q1
  have i3 := Cm.itoa_len c.node hf.n0 hf.n1
  have k1 : (Qt.quote ⟨c.key.toArray⟩).length ≤ 20000000 := by have := Qt.quote_len ⟨c.key.toArray⟩; rw [str_size] at this; have := hs.1; omega
  have k2 : (Qt.quote ⟨c.old.toArray⟩).length ≤ 20000000 := by have := Qt.quote_len ⟨c.old.toArray⟩; rw [str_size] at this; have := hs.2.1; omega
  have k3 : (Qt.quote ⟨c.val.toArray⟩).length ≤ 20000000 := by have := Qt.quote_len ⟨c.val.toArray⟩; rw [str_size] at this; have := hs.2.2; omega
  have HKD := Lib.hid hk
  have z1 : (ByteArray.mk c.key.toArray).size ≤ 1000000000000 := by rw [str_size]; have := hs.1; omega
  have z2 : (ByteArray.mk c.old.toArray).size ≤ 1000000000000 := by rw [str_size]; have := hs.2.1; omega
  have z3 : (ByteArray.mk c.val.toArray).size ≤ 1000000000000 := by rw [str_size]; have := hs.2.2; omega
  have Z1 := Lib.hid z1; have Z2 := Lib.hid z2; have Z3 := Lib.hid z3
  obtain ⟨w1, e1, hl1, hB1, hz1⟩ := box_cmd w c
  obtain ⟨p0, p1, p2, p3, p4, p5, p6⟩ := Cmds.all hl1
  rw [hk] at p0
  have HL1 := Lib.hid hl1; have HB1 := Lib.hid hB1
  clear hl1 hB1 hz1 hline hk hc hs z1 z2 z3
  obtain ⟨w2, e2, hB2, hx2⟩ : ∃ w2, w1.alloc (.cells #[.string ⟨#[]⟩, .string ⟨#[110, 111, 112]⟩, .string ⟨#[112, 117, 116]⟩, .string ⟨#[103, 101, 116]⟩, .string ⟨#[100, 101, 108]⟩, .string ⟨#[99, 97, 115]⟩, .string ⟨#[97, 99, 116, 105, 118, 97, 116, 101]⟩, .string ⟨#[97, 100, 100]⟩, .string ⟨#[100, 114, 111, 112]⟩] 9) = w2 ∧ Below w1.heap.size w1 w2 ∧ w2.cell? ⟨w1.heap.size, 2, none⟩ = some (.string ⟨#[112, 117, 116]⟩) :=
    ⟨_, rfl, (Below.refl _ _).alloc (Nat.le_refl _) _, Lies.cell (Lies.new w1 9 _) 2 _ rfl⟩
  obtain ⟨q0, q1, q2, q3, q4, q5, q6⟩ := Cmds.all (HL1.out.below hB2 HL1.out.lt)
  rw [HKD.out] at q0
  have HLc := Lib.hid (HL1.out.below hB2 HL1.out.lt)
  have HBc := Lib.hid (HB1.out.trans (hB2.mono HB1.out.size))
  clear hB2
  go_enter Tryz.func7, Tryz.ntmps7
  go_wp2_with fail
  refine (refOwned_any _ _).mono ?_
  rintro e w9 ⟨rfl, rfl⟩
  rw [show Cm.owned 2 = true from rfl]
  have f1 : ¬ 9223372036854775807 < 4 + (Lib.itoa c.client).length := by omega
  have f2 : ¬ 9223372036854775807 < 4 + (Lib.itoa c.client).length + 1 := by omega
  have f3 : ¬ 9223372036854775807 < 4 + (Lib.itoa c.client).length + 1 + (Lib.itoa c.seq).length := by omega
  have f4 : ¬ 9223372036854775807 < 4 + (Lib.itoa c.client).length + 1 + (Lib.itoa c.seq).length + 1 := by omega
  have f5 : ¬ 9223372036854775807 < 4 + (Lib.itoa c.client).length + 1 + (Lib.itoa c.seq).length + 1 + (Qt.quote ⟨c.key.toArray⟩).length := by omega
  go_wp2
  have HLd := HLc; have HBd := HBc
  have HLc := Lib.hid (HLd.out.below (Below.refl _ _).drew HLd.out.lt)
  have HBc := Lib.hid HBd.out.drew
  go_region_held3 (fun w' => w'.cell? ⟨w.heap.size, 1, none⟩ = some (.int .i64 c.client) ∧ w'.cell? ⟨w.heap.size, 2, none⟩ = some (.int .i64 c.seq) ∧ w'.cell? ⟨w.heap.size, 3, none⟩ = some (.string ⟨c.key.toArray⟩)) (first | go_keep | exact K3) (first
      | (go_at_call 15; refine (refDigits_any _ _ (by first | exact HSM.out .client | exact HSM.out .seq)).mono ?_; rintro e3 w3 ⟨rfl, rfl⟩
         have K3 := Cmds.all' HLc.out)
      | (go_at_call 16; refine (refQuote_any _ _ Z1.out).mono ?_; rintro e3 w3 ⟨rfl, hB3⟩
         have HLe := HLc; have HBe := HBc
         have HLc := Lib.hid (HLe.out.below hB3 HLe.out.lt)
         have HBc := Lib.hid (HBe.out.trans (hB3.mono HBe.out.size))
         have K3 := Cmds.all' HLc.out))
  obtain ⟨q0, q1, q2, q3, q4, q5, q6⟩ := Cmds.all HLc.out
  rw [HKD.out] at q0
  go_wp2_with fail
  refine (refQuote_any _ _ Z3.out).mono ?_
  rintro e5 w5 ⟨rfl, hB5⟩
  have HLf := HLc; have HBf := HBc
  have HLc := Lib.hid (HLf.out.below hB5 HLf.out.lt)
  have HBc := Lib.hid (HBf.out.trans (hB5.mono HBf.out.size))
  clear hB5
  obtain ⟨q0, q1, q2, q3, q4, q5, q6⟩ := Cmds.all HLc.out
  rw [HKD.out] at q0
  go_wp2_with fail
  refine (refMember_any _ _).mono ?_
  rintro e w9 ⟨rfl, rfl⟩
  rw [show Cm.member 2 = false from rfl]
  go_wp2
  go_ret
  refine ⟨?_, HBc.out⟩
  rw [HTX.out, HLN.out]
  congr 1
  apply str_same
  simp

set_option maxRecDepth 4000 in
set_option maxHeartbeats 1600000 in
theorem refText_3 (c : Cm.Cmd) (w : World) (hk : c.kind = 3) (hc : Cm.check c = 0) (hs : c.Short 4000000) (hf : c.Fits) : Calls Tryz.prog 7 #[.agg (Cm.cells c)] w (Looks w (.string ⟨(Cm.text c).toArray⟩)) := by
  have HSM := Lib.hid (Cm.check_small hc)
  have HTX : Hid (Cm.text c = Cm.line c) := by show _ = _; unfold Cm.text; rw [if_pos hc]
  have hline : Cm.line c = ([103, 101, 116] : List UInt8) ++ ([32] ++ Lib.itoa c.client) ++ ([32] ++ Lib.itoa c.seq) ++ ([32] ++ Qt.quote ⟨c.key.toArray⟩) := by
    unfold Cm.line Cm.ws
    rw [hk, join_flat]
    simp [Cm.fields, Cm.told, Cm.F.num, Cm.Cmd.n, Cm.Cmd.s, Cm.word, Cm.wordList]
  have HLN := Lib.hid hline
  have HFT := Lib.hid hf
  have i1 := Cm.itoa_len c.client hf.c0 hf.c1
  have i2 := Cm.itoa_len c.seq hf.q0 hf.q1
  have i3 := Cm.itoa_len c.node hf.n0 hf.n1
  have k1 : (Qt.quote ⟨c.key.toArray⟩).length ≤ 20000000 := by have := Qt.quote_len ⟨c.key.toArray⟩; rw [str_size] at this; have := hs.1; omega
  have k2 : (Qt.quote ⟨c.old.toArray⟩).length ≤ 20000000 := by have := Qt.quote_len ⟨c.old.toArray⟩; rw [str_size] at this; have := hs.2.1; omega
  have k3 : (Qt.quote ⟨c.val.toArray⟩).length ≤ 20000000 := by have := Qt.quote_len ⟨c.val.toArray⟩; rw [str_size] at this; have := hs.2.2; omega
  have HKD := Lib.hid hk
  have z1 : (ByteArray.mk c.key.toArray).size ≤ 1000000000000 := by rw [str_size]; have := hs.1; omega
  have z2 : (ByteArray.mk c.old.toArray).size ≤ 1000000000000 := by rw [str_size]; have := hs.2.1; omega
  have z3 : (ByteArray.mk c.val.toArray).size ≤ 1000000000000 := by rw [str_size]; have := hs.2.2; omega
  have Z1 := Lib.hid z1; have Z2 := Lib.hid z2; have Z3 := Lib.hid z3
  obtain ⟨w1, e1, hl1, hB1, hz1⟩ := box_cmd w c
  obtain ⟨p0, p1, p2, p3, p4, p5, p6⟩ := Cmds.all hl1
  rw [hk] at p0
  have HL1 := Lib.hid hl1; have HB1 := Lib.hid hB1
  clear hl1 hB1 hz1 hline hk hc hs z1 z2 z3
  obtain ⟨w2, e2, hB2, hx2⟩ : ∃ w2, w1.alloc (.cells #[.string ⟨#[]⟩, .string ⟨#[110, 111, 112]⟩, .string ⟨#[112, 117, 116]⟩, .string ⟨#[103, 101, 116]⟩, .string ⟨#[100, 101, 108]⟩, .string ⟨#[99, 97, 115]⟩, .string ⟨#[97, 99, 116, 105, 118, 97, 116, 101]⟩, .string ⟨#[97, 100, 100]⟩, .string ⟨#[100, 114, 111, 112]⟩] 9) = w2 ∧ Below w1.heap.size w1 w2 ∧ w2.cell? ⟨w1.heap.size, 3, none⟩ = some (.string ⟨#[103, 101, 116]⟩) :=
    ⟨_, rfl, (Below.refl _ _).alloc (Nat.le_refl _) _, Lies.cell (Lies.new w1 9 _) 3 _ rfl⟩
  obtain ⟨q0, q1, q2, q3, q4, q5, q6⟩ := Cmds.all (HL1.out.below hB2 HL1.out.lt)
  rw [HKD.out] at q0
  have HLc := Lib.hid (HL1.out.below hB2 HL1.out.lt)
  have HBc := Lib.hid (HB1.out.trans (hB2.mono HB1.out.size))
  clear hB2
  go_enter Tryz.func7, Tryz.ntmps7
  go_wp2_with fail
  refine (refOwned_any _ _).mono ?_
  rintro e w9 ⟨rfl, rfl⟩
  rw [show Cm.owned 3 = true from rfl]
  have f1 : ¬ 9223372036854775807 < 4 + (Lib.itoa c.client).length := by omega
  have f2 : ¬ 9223372036854775807 < 4 + (Lib.itoa c.client).length + 1 := by omega
  have f3 : ¬ 9223372036854775807 < 4 + (Lib.itoa c.client).length + 1 + (Lib.itoa c.seq).length := by omega
  have f4 : ¬ 9223372036854775807 < 4 + (Lib.itoa c.client).length + 1 + (Lib.itoa c.seq).length + 1 := by omega
  have f5 : ¬ 9223372036854775807 < 4 + (Lib.itoa c.client).length + 1 + (Lib.itoa c.seq).length + 1 + (Qt.quote ⟨c.key.toArray⟩).length := by omega
  go_wp2
  have HLd := HLc; have HBd := HBc
  have HLc := Lib.hid (HLd.out.below (Below.refl _ _).drew HLd.out.lt)
  have HBc := Lib.hid HBd.out.drew
  go_region_held3 (fun w' => w'.cell? ⟨w.heap.size, 1, none⟩ = some (.int .i64 c.client) ∧ w'.cell? ⟨w.heap.size, 2, none⟩ = some (.int .i64 c.seq) ∧ w'.cell? ⟨w.heap.size, 3, none⟩ = some (.string ⟨c.key.toArray⟩)) (first | go_keep | exact K3) (first
      | (go_at_call 15; refine (refDigits_any _ _ (by first | exact HSM.out .client | exact HSM.out .seq)).mono ?_; rintro e3 w3 ⟨rfl, rfl⟩
         have K3 := Cmds.all' HLc.out)
      | (go_at_call 16; refine (refQuote_any _ _ Z1.out).mono ?_; rintro e3 w3 ⟨rfl, hB3⟩
         have HLe := HLc; have HBe := HBc
         have HLc := Lib.hid (HLe.out.below hB3 HLe.out.lt)
         have HBc := Lib.hid (HBe.out.trans (hB3.mono HBe.out.size))
         have K3 := Cmds.all' HLc.out))
  obtain ⟨q0, q1, q2, q3, q4, q5, q6⟩ := Cmds.all HLc.out
  rw [HKD.out] at q0
  go_wp2_with fail
  refine (refMember_any _ _).mono ?_
  rintro e w9 ⟨rfl, rfl⟩
  rw [show Cm.member 3 = false from rfl]
  go_wp2
  go_ret
  refine ⟨?_, HBc.out⟩
  rw [HTX.out, HLN.out]
  congr 1
  apply str_same
  simp

set_option maxRecDepth 4000 in
set_option maxHeartbeats 1600000 in
theorem refText_4 (c : Cm.Cmd) (w : World) (hk : c.kind = 4) (hc : Cm.check c = 0) (hs : c.Short 4000000) (hf : c.Fits) : Calls Tryz.prog 7 #[.agg (Cm.cells c)] w (Looks w (.string ⟨(Cm.text c).toArray⟩)) := by
  have HSM := Lib.hid (Cm.check_small hc)
  have HTX : Hid (Cm.text c = Cm.line c) := by show _ = _; unfold Cm.text; rw [if_pos hc]
  have hline : Cm.line c = ([100, 101, 108] : List UInt8) ++ ([32] ++ Lib.itoa c.client) ++ ([32] ++ Lib.itoa c.seq) ++ ([32] ++ Qt.quote ⟨c.key.toArray⟩) := by
    unfold Cm.line Cm.ws
    rw [hk, join_flat]
    simp [Cm.fields, Cm.told, Cm.F.num, Cm.Cmd.n, Cm.Cmd.s, Cm.word, Cm.wordList]
  have HLN := Lib.hid hline
  have HFT := Lib.hid hf
  have i1 := Cm.itoa_len c.client hf.c0 hf.c1
  have i2 := Cm.itoa_len c.seq hf.q0 hf.q1
  have i3 := Cm.itoa_len c.node hf.n0 hf.n1
  have k1 : (Qt.quote ⟨c.key.toArray⟩).length ≤ 20000000 := by have := Qt.quote_len ⟨c.key.toArray⟩; rw [str_size] at this; have := hs.1; omega
  have k2 : (Qt.quote ⟨c.old.toArray⟩).length ≤ 20000000 := by have := Qt.quote_len ⟨c.old.toArray⟩; rw [str_size] at this; have := hs.2.1; omega
  have k3 : (Qt.quote ⟨c.val.toArray⟩).length ≤ 20000000 := by have := Qt.quote_len ⟨c.val.toArray⟩; rw [str_size] at this; have := hs.2.2; omega
  have HKD := Lib.hid hk
  have z1 : (ByteArray.mk c.key.toArray).size ≤ 1000000000000 := by rw [str_size]; have := hs.1; omega
  have z2 : (ByteArray.mk c.old.toArray).size ≤ 1000000000000 := by rw [str_size]; have := hs.2.1; omega
  have z3 : (ByteArray.mk c.val.toArray).size ≤ 1000000000000 := by rw [str_size]; have := hs.2.2; omega
  have Z1 := Lib.hid z1; have Z2 := Lib.hid z2; have Z3 := Lib.hid z3
  obtain ⟨w1, e1, hl1, hB1, hz1⟩ := box_cmd w c
  obtain ⟨p0, p1, p2, p3, p4, p5, p6⟩ := Cmds.all hl1
  rw [hk] at p0
  have HL1 := Lib.hid hl1; have HB1 := Lib.hid hB1
  clear hl1 hB1 hz1 hline hk hc hs z1 z2 z3
  obtain ⟨w2, e2, hB2, hx2⟩ : ∃ w2, w1.alloc (.cells #[.string ⟨#[]⟩, .string ⟨#[110, 111, 112]⟩, .string ⟨#[112, 117, 116]⟩, .string ⟨#[103, 101, 116]⟩, .string ⟨#[100, 101, 108]⟩, .string ⟨#[99, 97, 115]⟩, .string ⟨#[97, 99, 116, 105, 118, 97, 116, 101]⟩, .string ⟨#[97, 100, 100]⟩, .string ⟨#[100, 114, 111, 112]⟩] 9) = w2 ∧ Below w1.heap.size w1 w2 ∧ w2.cell? ⟨w1.heap.size, 4, none⟩ = some (.string ⟨#[100, 101, 108]⟩) :=
    ⟨_, rfl, (Below.refl _ _).alloc (Nat.le_refl _) _, Lies.cell (Lies.new w1 9 _) 4 _ rfl⟩
  obtain ⟨q0, q1, q2, q3, q4, q5, q6⟩ := Cmds.all (HL1.out.below hB2 HL1.out.lt)
  rw [HKD.out] at q0
  have HLc := Lib.hid (HL1.out.below hB2 HL1.out.lt)
  have HBc := Lib.hid (HB1.out.trans (hB2.mono HB1.out.size))
  clear hB2
  go_enter Tryz.func7, Tryz.ntmps7
  go_wp2_with fail
  refine (refOwned_any _ _).mono ?_
  rintro e w9 ⟨rfl, rfl⟩
  rw [show Cm.owned 4 = true from rfl]
  have f1 : ¬ 9223372036854775807 < 4 + (Lib.itoa c.client).length := by omega
  have f2 : ¬ 9223372036854775807 < 4 + (Lib.itoa c.client).length + 1 := by omega
  have f3 : ¬ 9223372036854775807 < 4 + (Lib.itoa c.client).length + 1 + (Lib.itoa c.seq).length := by omega
  have f4 : ¬ 9223372036854775807 < 4 + (Lib.itoa c.client).length + 1 + (Lib.itoa c.seq).length + 1 := by omega
  have f5 : ¬ 9223372036854775807 < 4 + (Lib.itoa c.client).length + 1 + (Lib.itoa c.seq).length + 1 + (Qt.quote ⟨c.key.toArray⟩).length := by omega
  go_wp2
  have HLd := HLc; have HBd := HBc
  have HLc := Lib.hid (HLd.out.below (Below.refl _ _).drew HLd.out.lt)
  have HBc := Lib.hid HBd.out.drew
  go_region_held3 (fun w' => w'.cell? ⟨w.heap.size, 1, none⟩ = some (.int .i64 c.client) ∧ w'.cell? ⟨w.heap.size, 2, none⟩ = some (.int .i64 c.seq) ∧ w'.cell? ⟨w.heap.size, 3, none⟩ = some (.string ⟨c.key.toArray⟩)) (first | go_keep | exact K3) (first
      | (go_at_call 15; refine (refDigits_any _ _ (by first | exact HSM.out .client | exact HSM.out .seq)).mono ?_; rintro e3 w3 ⟨rfl, rfl⟩
         have K3 := Cmds.all' HLc.out)
      | (go_at_call 16; refine (refQuote_any _ _ Z1.out).mono ?_; rintro e3 w3 ⟨rfl, hB3⟩
         have HLe := HLc; have HBe := HBc
         have HLc := Lib.hid (HLe.out.below hB3 HLe.out.lt)
         have HBc := Lib.hid (HBe.out.trans (hB3.mono HBe.out.size))
         have K3 := Cmds.all' HLc.out))
  obtain ⟨q0, q1, q2, q3, q4, q5, q6⟩ := Cmds.all HLc.out
  rw [HKD.out] at q0
  go_wp2_with fail
  refine (refMember_any _ _).mono ?_
  rintro e w9 ⟨rfl, rfl⟩
  rw [show Cm.member 4 = false from rfl]
  go_wp2
  go_ret
  refine ⟨?_, HBc.out⟩
  rw [HTX.out, HLN.out]
  congr 1
  apply str_same
  simp

set_option maxRecDepth 4000 in
set_option maxHeartbeats 1600000 in
theorem refText_5 (c : Cm.Cmd) (w : World) (hk : c.kind = 5) (hc : Cm.check c = 0) (hs : c.Short 4000000) (hf : c.Fits) : Calls Tryz.prog 7 #[.agg (Cm.cells c)] w (Looks w (.string ⟨(Cm.text c).toArray⟩)) := by
  have HSM := Lib.hid (Cm.check_small hc)
  have HTX : Hid (Cm.text c = Cm.line c) := by show _ = _; unfold Cm.text; rw [if_pos hc]
  have hline : Cm.line c = ([99, 97, 115] : List UInt8) ++ ([32] ++ Lib.itoa c.client) ++ ([32] ++ Lib.itoa c.seq) ++ ([32] ++ Qt.quote ⟨c.key.toArray⟩) ++ ([32] ++ Qt.quote ⟨c.old.toArray⟩) ++ ([32] ++ Qt.quote ⟨c.val.toArray⟩) := by
    unfold Cm.line Cm.ws
    rw [hk, join_flat]
    simp [Cm.fields, Cm.told, Cm.F.num, Cm.Cmd.n, Cm.Cmd.s, Cm.word, Cm.wordList]
  have HLN := Lib.hid hline
  have HFT := Lib.hid hf
  have i1 := Cm.itoa_len c.client hf.c0 hf.c1
  have i2 := Cm.itoa_len c.seq hf.q0 hf.q1
  have i3 := Cm.itoa_len c.node hf.n0 hf.n1
  have k1 : (Qt.quote ⟨c.key.toArray⟩).length ≤ 20000000 := by have := Qt.quote_len ⟨c.key.toArray⟩; rw [str_size] at this; have := hs.1; omega
  have k2 : (Qt.quote ⟨c.old.toArray⟩).length ≤ 20000000 := by have := Qt.quote_len ⟨c.old.toArray⟩; rw [str_size] at this; have := hs.2.1; omega
  have k3 : (Qt.quote ⟨c.val.toArray⟩).length ≤ 20000000 := by have := Qt.quote_len ⟨c.val.toArray⟩; rw [str_size] at this; have := hs.2.2; omega
  have HKD := Lib.hid hk
  have z1 : (ByteArray.mk c.key.toArray).size ≤ 1000000000000 := by rw [str_size]; have := hs.1; omega
  have z2 : (ByteArray.mk c.old.toArray).size ≤ 1000000000000 := by rw [str_size]; have := hs.2.1; omega
  have z3 : (ByteArray.mk c.val.toArray).size ≤ 1000000000000 := by rw [str_size]; have := hs.2.2; omega
  have Z1 := Lib.hid z1; have Z2 := Lib.hid z2; have Z3 := Lib.hid z3
  obtain ⟨w1, e1, hl1, hB1, hz1⟩ := box_cmd w c
  obtain ⟨p0, p1, p2, p3, p4, p5, p6⟩ := Cmds.all hl1
  rw [hk] at p0
  have HL1 := Lib.hid hl1; have HB1 := Lib.hid hB1
  clear hl1 hB1 hz1 hline hk hc hs z1 z2 z3
  obtain ⟨w2, e2, hB2, hx2⟩ : ∃ w2, w1.alloc (.cells #[.string ⟨#[]⟩, .string ⟨#[110, 111, 112]⟩, .string ⟨#[112, 117, 116]⟩, .string ⟨#[103, 101, 116]⟩, .string ⟨#[100, 101, 108]⟩, .string ⟨#[99, 97, 115]⟩, .string ⟨#[97, 99, 116, 105, 118, 97, 116, 101]⟩, .string ⟨#[97, 100, 100]⟩, .string ⟨#[100, 114, 111, 112]⟩] 9) = w2 ∧ Below w1.heap.size w1 w2 ∧ w2.cell? ⟨w1.heap.size, 5, none⟩ = some (.string ⟨#[99, 97, 115]⟩) :=
    ⟨_, rfl, (Below.refl _ _).alloc (Nat.le_refl _) _, Lies.cell (Lies.new w1 9 _) 5 _ rfl⟩
  obtain ⟨q0, q1, q2, q3, q4, q5, q6⟩ := Cmds.all (HL1.out.below hB2 HL1.out.lt)
  rw [HKD.out] at q0
  have HLc := Lib.hid (HL1.out.below hB2 HL1.out.lt)
  have HBc := Lib.hid (HB1.out.trans (hB2.mono HB1.out.size))
  clear hB2
  go_enter Tryz.func7, Tryz.ntmps7
  go_wp2_with fail
  refine (refOwned_any _ _).mono ?_
  rintro e w9 ⟨rfl, rfl⟩
  rw [show Cm.owned 5 = true from rfl]
  have f1 : ¬ 9223372036854775807 < 4 + (Lib.itoa c.client).length := by omega
  have f2 : ¬ 9223372036854775807 < 4 + (Lib.itoa c.client).length + 1 := by omega
  have f3 : ¬ 9223372036854775807 < 4 + (Lib.itoa c.client).length + 1 + (Lib.itoa c.seq).length := by omega
  have f4 : ¬ 9223372036854775807 < 4 + (Lib.itoa c.client).length + 1 + (Lib.itoa c.seq).length + 1 := by omega
  have f5 : ¬ 9223372036854775807 < 4 + (Lib.itoa c.client).length + 1 + (Lib.itoa c.seq).length + 1 + (Qt.quote ⟨c.key.toArray⟩).length := by omega
  go_wp2
  have HLd := HLc; have HBd := HBc
  have HLc := Lib.hid (HLd.out.below (Below.refl _ _).drew HLd.out.lt)
  have HBc := Lib.hid HBd.out.drew
  go_region_held3 (fun w' => w'.cell? ⟨w.heap.size, 1, none⟩ = some (.int .i64 c.client) ∧ w'.cell? ⟨w.heap.size, 2, none⟩ = some (.int .i64 c.seq) ∧ w'.cell? ⟨w.heap.size, 3, none⟩ = some (.string ⟨c.key.toArray⟩)) (first | go_keep | exact K3) (first
      | (go_at_call 15; refine (refDigits_any _ _ (by first | exact HSM.out .client | exact HSM.out .seq)).mono ?_; rintro e3 w3 ⟨rfl, rfl⟩
         have K3 := Cmds.all' HLc.out)
      | (go_at_call 16; refine (refQuote_any _ _ Z1.out).mono ?_; rintro e3 w3 ⟨rfl, hB3⟩
         have HLe := HLc; have HBe := HBc
         have HLc := Lib.hid (HLe.out.below hB3 HLe.out.lt)
         have HBc := Lib.hid (HBe.out.trans (hB3.mono HBe.out.size))
         have K3 := Cmds.all' HLc.out))
  obtain ⟨q0, q1, q2, q3, q4, q5, q6⟩ := Cmds.all HLc.out
  rw [HKD.out] at q0
  go_wp2_with fail
  refine (refQuote_any _ _ Z2.out).mono ?_
  rintro e5 w5 ⟨rfl, hB5⟩
  have HLf := HLc; have HBf := HBc
  have HLc := Lib.hid (HLf.out.below hB5 HLf.out.lt)
  have HBc := Lib.hid (HBf.out.trans (hB5.mono HBf.out.size))
  clear hB5
  obtain ⟨q0, q1, q2, q3, q4, q5, q6⟩ := Cmds.all HLc.out
  rw [HKD.out] at q0
  go_wp2_with fail
  refine (refQuote_any _ _ Z3.out).mono ?_
  rintro e5 w5 ⟨rfl, hB5⟩
  have HLf := HLc; have HBf := HBc
  have HLc := Lib.hid (HLf.out.below hB5 HLf.out.lt)
  have HBc := Lib.hid (HBf.out.trans (hB5.mono HBf.out.size))
  clear hB5
  obtain ⟨q0, q1, q2, q3, q4, q5, q6⟩ := Cmds.all HLc.out
  rw [HKD.out] at q0
  go_wp2_with fail
  refine (refMember_any _ _).mono ?_
  rintro e w9 ⟨rfl, rfl⟩
  rw [show Cm.member 5 = false from rfl]
  go_wp2
  go_ret
  refine ⟨?_, HBc.out⟩
  rw [HTX.out, HLN.out]
  congr 1
  apply str_same
  simp

set_option maxRecDepth 4000 in
set_option maxHeartbeats 1600000 in
theorem refText_6 (c : Cm.Cmd) (w : World) (hk : c.kind = 6) (hc : Cm.check c = 0) (hs : c.Short 4000000) (hf : c.Fits) : Calls Tryz.prog 7 #[.agg (Cm.cells c)] w (Looks w (.string ⟨(Cm.text c).toArray⟩)) := by
  have HSM := Lib.hid (Cm.check_small hc)
  have HTX : Hid (Cm.text c = Cm.line c) := by show _ = _; unfold Cm.text; rw [if_pos hc]
  have hline : Cm.line c = ([97, 99, 116, 105, 118, 97, 116, 101] : List UInt8) := by
    unfold Cm.line Cm.ws
    rw [hk, join_flat]
    simp [Cm.fields, Cm.word, Cm.wordList]
  have HLN := Lib.hid hline
  have HFT := Lib.hid hf
  have i1 := Cm.itoa_len c.client hf.c0 hf.c1
  have i2 := Cm.itoa_len c.seq hf.q0 hf.q1
  have i3 := Cm.itoa_len c.node hf.n0 hf.n1
  have k1 : (Qt.quote ⟨c.key.toArray⟩).length ≤ 20000000 := by have := Qt.quote_len ⟨c.key.toArray⟩; rw [str_size] at this; have := hs.1; omega
  have k2 : (Qt.quote ⟨c.old.toArray⟩).length ≤ 20000000 := by have := Qt.quote_len ⟨c.old.toArray⟩; rw [str_size] at this; have := hs.2.1; omega
  have k3 : (Qt.quote ⟨c.val.toArray⟩).length ≤ 20000000 := by have := Qt.quote_len ⟨c.val.toArray⟩; rw [str_size] at this; have := hs.2.2; omega
  have HKD := Lib.hid hk
  have z1 : (ByteArray.mk c.key.toArray).size ≤ 1000000000000 := by rw [str_size]; have := hs.1; omega
  have z2 : (ByteArray.mk c.old.toArray).size ≤ 1000000000000 := by rw [str_size]; have := hs.2.1; omega
  have z3 : (ByteArray.mk c.val.toArray).size ≤ 1000000000000 := by rw [str_size]; have := hs.2.2; omega
  have Z1 := Lib.hid z1; have Z2 := Lib.hid z2; have Z3 := Lib.hid z3
  obtain ⟨w1, e1, hl1, hB1, hz1⟩ := box_cmd w c
  obtain ⟨p0, p1, p2, p3, p4, p5, p6⟩ := Cmds.all hl1
  rw [hk] at p0
  have HL1 := Lib.hid hl1; have HB1 := Lib.hid hB1
  clear hl1 hB1 hz1 hline hk hc hs z1 z2 z3
  obtain ⟨w2, e2, hB2, hx2⟩ : ∃ w2, w1.alloc (.cells #[.string ⟨#[]⟩, .string ⟨#[110, 111, 112]⟩, .string ⟨#[112, 117, 116]⟩, .string ⟨#[103, 101, 116]⟩, .string ⟨#[100, 101, 108]⟩, .string ⟨#[99, 97, 115]⟩, .string ⟨#[97, 99, 116, 105, 118, 97, 116, 101]⟩, .string ⟨#[97, 100, 100]⟩, .string ⟨#[100, 114, 111, 112]⟩] 9) = w2 ∧ Below w1.heap.size w1 w2 ∧ w2.cell? ⟨w1.heap.size, 6, none⟩ = some (.string ⟨#[97, 99, 116, 105, 118, 97, 116, 101]⟩) :=
    ⟨_, rfl, (Below.refl _ _).alloc (Nat.le_refl _) _, Lies.cell (Lies.new w1 9 _) 6 _ rfl⟩
  obtain ⟨q0, q1, q2, q3, q4, q5, q6⟩ := Cmds.all (HL1.out.below hB2 HL1.out.lt)
  rw [HKD.out] at q0
  have HLc := Lib.hid (HL1.out.below hB2 HL1.out.lt)
  have HBc := Lib.hid (HB1.out.trans (hB2.mono HB1.out.size))
  clear hB2
  go_enter Tryz.func7, Tryz.ntmps7
  go_wp2_with fail
  refine (refOwned_any _ _).mono ?_
  rintro e w9 ⟨rfl, rfl⟩
  rw [show Cm.owned 6 = false from rfl]
  go_wp2_with fail
  refine (refMember_any _ _).mono ?_
  rintro e w9 ⟨rfl, rfl⟩
  rw [show Cm.member 6 = false from rfl]
  go_wp2
  go_ret
  refine ⟨?_, HBc.out⟩
  rw [HTX.out, HLN.out]
  congr 1

set_option maxRecDepth 4000 in
set_option maxHeartbeats 1600000 in
theorem refText_7 (c : Cm.Cmd) (w : World) (hk : c.kind = 7) (hc : Cm.check c = 0) (hs : c.Short 4000000) (hf : c.Fits) : Calls Tryz.prog 7 #[.agg (Cm.cells c)] w (Looks w (.string ⟨(Cm.text c).toArray⟩)) := by
  have HSM := Lib.hid (Cm.check_small hc)
  have HTX : Hid (Cm.text c = Cm.line c) := by show _ = _; unfold Cm.text; rw [if_pos hc]
  have hline : Cm.line c = ([97, 100, 100] : List UInt8) ++ ([32] ++ Lib.itoa c.node) := by
    unfold Cm.line Cm.ws
    rw [hk, join_flat]
    simp [Cm.fields, Cm.told, Cm.F.num, Cm.Cmd.n, Cm.word, Cm.wordList]
  have HLN := Lib.hid hline
  have HFT := Lib.hid hf
  have i1 := Cm.itoa_len c.client hf.c0 hf.c1
  have i2 := Cm.itoa_len c.seq hf.q0 hf.q1
  have i3 := Cm.itoa_len c.node hf.n0 hf.n1
  have k1 : (Qt.quote ⟨c.key.toArray⟩).length ≤ 20000000 := by have := Qt.quote_len ⟨c.key.toArray⟩; rw [str_size] at this; have := hs.1; omega
  have k2 : (Qt.quote ⟨c.old.toArray⟩).length ≤ 20000000 := by have := Qt.quote_len ⟨c.old.toArray⟩; rw [str_size] at this; have := hs.2.1; omega
  have k3 : (Qt.quote ⟨c.val.toArray⟩).length ≤ 20000000 := by have := Qt.quote_len ⟨c.val.toArray⟩; rw [str_size] at this; have := hs.2.2; omega
  have HKD := Lib.hid hk
  have z1 : (ByteArray.mk c.key.toArray).size ≤ 1000000000000 := by rw [str_size]; have := hs.1; omega
  have z2 : (ByteArray.mk c.old.toArray).size ≤ 1000000000000 := by rw [str_size]; have := hs.2.1; omega
  have z3 : (ByteArray.mk c.val.toArray).size ≤ 1000000000000 := by rw [str_size]; have := hs.2.2; omega
  have Z1 := Lib.hid z1; have Z2 := Lib.hid z2; have Z3 := Lib.hid z3
  obtain ⟨w1, e1, hl1, hB1, hz1⟩ := box_cmd w c
  obtain ⟨p0, p1, p2, p3, p4, p5, p6⟩ := Cmds.all hl1
  rw [hk] at p0
  have HL1 := Lib.hid hl1; have HB1 := Lib.hid hB1
  clear hl1 hB1 hz1 hline hk hc hs z1 z2 z3
  obtain ⟨w2, e2, hB2, hx2⟩ : ∃ w2, w1.alloc (.cells #[.string ⟨#[]⟩, .string ⟨#[110, 111, 112]⟩, .string ⟨#[112, 117, 116]⟩, .string ⟨#[103, 101, 116]⟩, .string ⟨#[100, 101, 108]⟩, .string ⟨#[99, 97, 115]⟩, .string ⟨#[97, 99, 116, 105, 118, 97, 116, 101]⟩, .string ⟨#[97, 100, 100]⟩, .string ⟨#[100, 114, 111, 112]⟩] 9) = w2 ∧ Below w1.heap.size w1 w2 ∧ w2.cell? ⟨w1.heap.size, 7, none⟩ = some (.string ⟨#[97, 100, 100]⟩) :=
    ⟨_, rfl, (Below.refl _ _).alloc (Nat.le_refl _) _, Lies.cell (Lies.new w1 9 _) 7 _ rfl⟩
  obtain ⟨q0, q1, q2, q3, q4, q5, q6⟩ := Cmds.all (HL1.out.below hB2 HL1.out.lt)
  rw [HKD.out] at q0
  have HLc := Lib.hid (HL1.out.below hB2 HL1.out.lt)
  have HBc := Lib.hid (HB1.out.trans (hB2.mono HB1.out.size))
  clear hB2
  go_enter Tryz.func7, Tryz.ntmps7
  go_wp2_with fail
  refine (refOwned_any _ _).mono ?_
  rintro e w9 ⟨rfl, rfl⟩
  rw [show Cm.owned 7 = false from rfl]
  go_wp2_with fail
  refine (refMember_any _ _).mono ?_
  rintro e w9 ⟨rfl, rfl⟩
  rw [show Cm.member 7 = true from rfl]
  go_wp2_with fail
  refine (refDigits_any _ _ (by first | exact HSM.out .node)).mono ?_
  rintro e6 w6 ⟨rfl, rfl⟩
  go_wp2
  go_ret
  refine ⟨?_, HBc.out⟩
  rw [HTX.out, HLN.out]
  congr 1

set_option maxRecDepth 4000 in
set_option maxHeartbeats 1600000 in
theorem refText_8 (c : Cm.Cmd) (w : World) (hk : c.kind = 8) (hc : Cm.check c = 0) (hs : c.Short 4000000) (hf : c.Fits) : Calls Tryz.prog 7 #[.agg (Cm.cells c)] w (Looks w (.string ⟨(Cm.text c).toArray⟩)) := by
  have HSM := Lib.hid (Cm.check_small hc)
  have HTX : Hid (Cm.text c = Cm.line c) := by show _ = _; unfold Cm.text; rw [if_pos hc]
  have hline : Cm.line c = ([100, 114, 111, 112] : List UInt8) ++ ([32] ++ Lib.itoa c.node) := by
    unfold Cm.line Cm.ws
    rw [hk, join_flat]
    simp [Cm.fields, Cm.told, Cm.F.num, Cm.Cmd.n, Cm.word, Cm.wordList]
  have HLN := Lib.hid hline
  have HFT := Lib.hid hf
  have i1 := Cm.itoa_len c.client hf.c0 hf.c1
  have i2 := Cm.itoa_len c.seq hf.q0 hf.q1
  have i3 := Cm.itoa_len c.node hf.n0 hf.n1
  have k1 : (Qt.quote ⟨c.key.toArray⟩).length ≤ 20000000 := by have := Qt.quote_len ⟨c.key.toArray⟩; rw [str_size] at this; have := hs.1; omega
  have k2 : (Qt.quote ⟨c.old.toArray⟩).length ≤ 20000000 := by have := Qt.quote_len ⟨c.old.toArray⟩; rw [str_size] at this; have := hs.2.1; omega
  have k3 : (Qt.quote ⟨c.val.toArray⟩).length ≤ 20000000 := by have := Qt.quote_len ⟨c.val.toArray⟩; rw [str_size] at this; have := hs.2.2; omega
  have HKD := Lib.hid hk
  have z1 : (ByteArray.mk c.key.toArray).size ≤ 1000000000000 := by rw [str_size]; have := hs.1; omega
  have z2 : (ByteArray.mk c.old.toArray).size ≤ 1000000000000 := by rw [str_size]; have := hs.2.1; omega
  have z3 : (ByteArray.mk c.val.toArray).size ≤ 1000000000000 := by rw [str_size]; have := hs.2.2; omega
  have Z1 := Lib.hid z1; have Z2 := Lib.hid z2; have Z3 := Lib.hid z3
  obtain ⟨w1, e1, hl1, hB1, hz1⟩ := box_cmd w c
  obtain ⟨p0, p1, p2, p3, p4, p5, p6⟩ := Cmds.all hl1
  rw [hk] at p0
  have HL1 := Lib.hid hl1; have HB1 := Lib.hid hB1
  clear hl1 hB1 hz1 hline hk hc hs z1 z2 z3
  obtain ⟨w2, e2, hB2, hx2⟩ : ∃ w2, w1.alloc (.cells #[.string ⟨#[]⟩, .string ⟨#[110, 111, 112]⟩, .string ⟨#[112, 117, 116]⟩, .string ⟨#[103, 101, 116]⟩, .string ⟨#[100, 101, 108]⟩, .string ⟨#[99, 97, 115]⟩, .string ⟨#[97, 99, 116, 105, 118, 97, 116, 101]⟩, .string ⟨#[97, 100, 100]⟩, .string ⟨#[100, 114, 111, 112]⟩] 9) = w2 ∧ Below w1.heap.size w1 w2 ∧ w2.cell? ⟨w1.heap.size, 8, none⟩ = some (.string ⟨#[100, 114, 111, 112]⟩) :=
    ⟨_, rfl, (Below.refl _ _).alloc (Nat.le_refl _) _, Lies.cell (Lies.new w1 9 _) 8 _ rfl⟩
  obtain ⟨q0, q1, q2, q3, q4, q5, q6⟩ := Cmds.all (HL1.out.below hB2 HL1.out.lt)
  rw [HKD.out] at q0
  have HLc := Lib.hid (HL1.out.below hB2 HL1.out.lt)
  have HBc := Lib.hid (HB1.out.trans (hB2.mono HB1.out.size))
  clear hB2
  go_enter Tryz.func7, Tryz.ntmps7
  go_wp2_with fail
  refine (refOwned_any _ _).mono ?_
  rintro e w9 ⟨rfl, rfl⟩
  rw [show Cm.owned 8 = false from rfl]
  go_wp2_with fail
  refine (refMember_any _ _).mono ?_
  rintro e w9 ⟨rfl, rfl⟩
  rw [show Cm.member 8 = true from rfl]
  go_wp2_with fail
  refine (refDigits_any _ _ (by first | exact HSM.out .node)).mono ?_
  rintro e6 w6 ⟨rfl, rfl⟩
  go_wp2
  go_ret
  refine ⟨?_, HBc.out⟩
  rw [HTX.out, HLN.out]
  congr 1

theorem refText_any (c : Cm.Cmd) (w : World) (hc : Cm.check c = 0) (hs : c.Short 4000000) (hf : c.Fits) : Calls Tryz.prog 7 #[.agg (Cm.cells c)] w (Looks w (.string ⟨(Cm.text c).toArray⟩)) := by
  rcases Vs.kinds c.kind with h | h | h | h | h | h | h | h | h
  · exact refText_1 c w h hc hs hf
  · exact refText_2 c w h hc hs hf
  · exact refText_3 c w h hc hs hf
  · exact refText_4 c w h hc hs hf
  · exact refText_5 c w h hc hs hf
  · exact refText_6 c w h hc hs hf
  · exact refText_7 c w h hc hs hf
  · exact refText_8 c w h hc hs hf
  · have := (Cm.check_ok hc).1
    simp [Cm.known] at this; omega

end Go.Proofs.YteaebmgnofmemaaGreatDoor
