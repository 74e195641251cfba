/- Several texts of mine in one: SgZero RtRef. -/
import Derived.Test.YteboceekcmchkaaGreatDoorPSgHead
import Derived.Test.YteboceekcmchkaaGreatDoorGHc
import Derived.Test.YteboceekcmchkaaGreatDoorGRh
import Derived.Test.YteboceekcmchkaaGreatDoorPRtMath
namespace Go.Proofs.YteboceekcmchkaaGreatDoor
open Go.RowKit
set_option maxHeartbeats 1600000
set_option maxRecDepth 4000
theorem HardR.zero (w : World) : HardR w Hd.zero Nil Nil Nil := ⟨Reads.empty w, ReadsR.empty _ 10, ReadsR.empty _ 10⟩
theorem recordsZero_any (w : World) : Calls Tryz.prog 24 #[.agg (Hd.cells Hd.zero Nil Nil Nil)] w (Looks w Nil) := by
 obtain ⟨w1, e1, hx1, hB1, hs1⟩ := box_six w 27 Hd.zero Nil Nil Nil (HardR.zero w)
 have HX1 : Hid (SixAt w1 w.heap.size 27 Bl.zero 0 Nil Nil Nil) := hx1
 have HB1 := Lib.hid hB1
 obtain ⟨c0, c1, c2, c3, c4, c5⟩ := HX1.out.all
 dsimp only [Bl.zero] at c0 c1
 clear hx1 hB1 hs1
 go_enter Tryz.func24, Tryz.ntmps24
 go_wp2
 go_loopw [3, 33] (fun l i wr => l = Nil ∧ i = .int .i64 0 ∧ wr = w1) (fun _ _ _ => 0)
 case atStart => exact ⟨rfl, rfl, rfl⟩
 case round =>
  obtain ⟨rfl, rfl, rfl⟩ := hrel
  go_wp2
  go_loopw [3, 51] (fun l i wr2 => l = Nil ∧ i = .int .i64 0 ∧ wr2 = wr) (fun _ _ _ => 0)
  case atStart => exact ⟨rfl, rfl, rfl⟩
  case round =>
   obtain ⟨rfl, rfl, rfl⟩ := hrel
   go_wp2
   go_ret
   exact ⟨rfl, HB1.out⟩
theorem checkZero_any (w : World) (hW : WordsIn w) : Calls Tryz.prog 23 #[.agg (Hd.cells Hd.zero Nil Nil Nil)] w (Looks w (.int .i64 0)) := by
 obtain ⟨w1, e1, hx1, hB1, hs1⟩ := box_six w 27 Hd.zero Nil Nil Nil (HardR.zero w)
 have HX1 : Hid (SixAt w1 w.heap.size 27 Bl.zero 0 Nil Nil Nil) := hx1
 have HB1 := Lib.hid hB1
 have HW : Hid (∀ W, Below w.heap.size w W → WordsIn W) := fun W h => hW.below h
 have h1 : Bl.may Bl.zero = true := by decide
 have h2 : Hd.imgOk 0 [] = true := by decide +kernel
 have h3 : Hd.above 0 [] = true := by decide +kernel
 have H1 := Lib.hid h1; have H2 := Lib.hid h2; have H3 := Lib.hid h3
 obtain ⟨c0, c1, c2, c3, c4, c5⟩ := HX1.out.all
 dsimp only [Bl.zero] at c0 c1
 clear hx1 hB1 hs1 hW h1 h2 h3
 go_enter Tryz.func23, Tryz.ntmps23
 go_wp2_with fail
 refine (bmay_any Bl.zero _).mono ?_
 rw [H1.out]
 rintro e w2 ⟨rfl, hb2⟩
 have HB2 := Lib.hid (HB1.out.trans (hb2.mono HB1.out.size)); have HX2 := Lib.hid (HX1.out.below hb2 HX1.out.lies.lt)
 clear c0 c1 c2 c3 c4 c5 hb2 e1
 obtain ⟨c0, c1, c2, c3, c4, c5⟩ := HX2.out.all
 go_wp2_with fail
 refine (isImage_any 0 Nil [] w2 (HW.out _ HB2.out) (Reads.empty _)).mono ?_
 rw [H2.out]
 rintro e w3 ⟨rfl, hb3⟩
 have HB3 := Lib.hid (HB2.out.trans (hb3.mono HB2.out.size)); have HX3 := Lib.hid (HX2.out.below hb3 HX2.out.lies.lt)
 clear c0 c1 c2 c3 c4 c5 hb3
 obtain ⟨c0, c1, c2, c3, c4, c5⟩ := HX3.out.all
 go_wp2_with fail
 refine (areAbove_any 0 Nil [] w3 (HW.out _ HB3.out) (ReadsR.empty _ 10) (fun e he => by simp at he)).mono ?_
 rw [H3.out]
 rintro e w4 ⟨rfl, hb4⟩
 have HB4 := Lib.hid (HB3.out.trans (hb4.mono HB3.out.size)); have HX4 := Lib.hid (HX3.out.below hb4 HX3.out.lies.lt)
 clear c0 c1 c2 c3 c4 c5 hb4
 obtain ⟨c0, c1, c2, c3, c4, c5⟩ := HX4.out.all
 go_wp2_with fail
 refine (areAbove_any 0 Nil [] w4 (HW.out _ HB4.out) (ReadsR.empty _ 10) (fun e he => by simp at he)).mono ?_
 rw [H3.out]
 rintro e w5 ⟨rfl, hb5⟩
 have HB5 := Lib.hid (HB4.out.trans (hb5.mono HB4.out.size)); have HX5 := Lib.hid (HX4.out.below hb5 HX4.out.lies.lt)
 clear c0 c1 c2 c3 c4 c5 hb5
 obtain ⟨c0, c1, c2, c3, c4, c5⟩ := HX5.out.all
 go_wp2
 go_loopw [38] (fun i wr => i = .int .i64 0 ∧ wr = w5) (fun _ _ => 0)
 case atStart => exact ⟨rfl, rfl⟩
 case round =>
  obtain ⟨rfl, rfl⟩ := hrel
  go_wp2
  go_loopw [57] (fun i wr2 => i = .int .i64 0 ∧ wr2 = wr) (fun _ _ => 0)
  case atStart => exact ⟨rfl, rfl⟩
  case round =>
   obtain ⟨rfl, rfl⟩ := hrel
   go_wp2
   go_ret
   exact ⟨rfl, HB5.out⟩
theorem Sg.recs_zero : Hd.recs Hd.zero = [] := by decide +kernel
theorem headZero_any (w : World) (hT : CrcTab w) (hW : WordsIn w) : Calls Tryz.prog 9 #[.int .i64 1, .agg (Hd.cells Hd.zero Nil Nil Nil)] w (SgMade w (Sg.file 1 Hd.zero [], 0)) := by
 obtain ⟨w1, e1, hx1, hB1, hs1⟩ := box_six w 27 Hd.zero Nil Nil Nil (HardR.zero w)
 have HX1 : Hid (SixAt w1 w.heap.size 27 Bl.zero 0 Nil Nil Nil) := hx1
 have HB1 := Lib.hid hB1
 have HT : Hid (∀ W, Below w.heap.size w W → CrcTab W) := fun W h => hT.below h
 have HW : Hid (∀ W, Below w.heap.size w W → WordsIn W) := fun W h => hW.below h
 clear hx1 hB1 hs1 hT hW
 go_enter Tryz.func9, Tryz.ntmps9
 go_wp2_with fail
 refine (checkFormat_any 1 w1).mono ?_
 rw [show Vs.opens 2 1 = 0 by decide]
 rintro e w2 ⟨rfl, rfl⟩
 go_wp2_with (refine load_hard rfl _ rfl rfl HX1.out ?_)
 refine (checkZero_any w1 (HW.out _ HB1.out)).mono ?_
 rintro e w3 ⟨rfl, hb3⟩
 have HB3 := Lib.hid (HB1.out.trans (hb3.mono HB1.out.size)); have HX3 := Lib.hid (HX1.out.below hb3 HX1.out.lies.lt)
 clear hb3 e1
 go_wp2_with (refine load_hard rfl _ rfl rfl HX3.out ?_)
 refine (recordsZero_any w3).mono ?_
 rintro e w4 ⟨rfl, hb4⟩
 have HB4 := Lib.hid (HB3.out.trans (hb4.mono HB3.out.size))
 clear hb4
 go_wp2_with fail
 refine (firstSg_any 1 (.inl rfl) 0 w4 (HT.out _ HB4.out) (by omega)).mono ?_
 rintro e w5 ⟨v5, rfl, ho5, hb5⟩
 have HO5 := Lib.hid ho5; have HB5 := Lib.hid (HB4.out.trans (hb5.mono HB4.out.size))
 clear ho5 hb5
 go_wp2
 go_loopw [9, 39] (fun y i wr => i = .int .i64 0 ∧ y = v5 ∧ wr = w5) (fun _ _ _ => 0)
 case atStart => exact ⟨rfl, rfl, rfl⟩
 case round =>
  obtain ⟨rfl, rfl, rfl⟩ := hrel
  go_wp2
  go_ret2
  refine ⟨_, rfl, ?_, HB5.out⟩
  have h := HO5.out.mono HB4.out.size
  show Owns _ _ _ _ _
  unfold Sg.file Sg.bodies
  rw [Sg.recs_zero]
  simpa [Frm.flat] using h
end Go.Proofs.YteboceekcmchkaaGreatDoor

namespace Go.Proofs.YteboceekcmchkaaGreatDoor
open Go.RowKit
set_option maxHeartbeats 3200000
set_option maxRecDepth 4000
theorem refBytesRt_1 (x : Re.Rec) (vi : Value) (w : World) (hk : x.kind = 1) (hi : Reads w vi x.img) (hf : x.Fits) :
 Calls Tryz.prog 32 #[.int .i64 2, .agg (Re.cells x vi)] w (Makes w 5 (Rt.bytes x)) := by
 obtain ⟨w1, e1, hl1, hB1, hz1⟩ := box_rec w x vi
 obtain ⟨p0, p1, p2, p3, p4, p5, p6, p7, p8, p9, p10, p11⟩ := Recs.all hl1
 obtain ⟨io, ic, rfl⟩ := hi.shape
 have HNB : Hid (Rt.bytes x = enc ((17 : Int)).toNat ++ (enc x.bal.round.toNat ++ (enc x.bal.node.toNat))) := by show _ = _; unfold Rt.bytes; rw [hk]; simp [Mt.part, Re.hb, Re.hi, Re.hc, Re.hm]
 have HHB : Hid (∀ W, Calls Tryz.prog 57 #[.int .i64 1] W (Says W (.bool true))) := fun W => refHb_any 1 W
 have HHI : Hid (∀ W, Calls Tryz.prog 58 #[.int .i64 1] W (Says W (.bool false))) := fun W => refHi_any 1 W
 have HHC : Hid (∀ W, Calls Tryz.prog 52 #[.int .i64 1] W (Says W (.bool false))) := fun W => refHc_any 1 W
 have HF : Hid (∀ z ∈ Re.nums x, -9223372036854775808 ≤ z ∧ z ≤ 9223372036854775807) := hf.n
 have HK := Lib.hid hk
 rw [hk] at p0
 have HM1 := Lib.hid hl1; have HB1 := Lib.hid hB1
 have HIW := Lib.hid (fun W (h : Below w.heap.size w W) => hi.below h)
 clear hl1 hB1 hz1 hi hf hk
 go_enter Tryz.func32, Tryz.ntmps32
 go_wp2_with fail
 refine (bytes_any 17 _ (by omega) (by omega)).mono ?_
 rintro e2 w2 ⟨u2, rfl, ho2, hb2⟩
 have HO2 := Lib.hid ho2; have HB2 := Lib.hid hb2
 have HL2 : Hid ((enc ((17 : Int)).toNat).length ≤ 9) := enc_nine (by decide)
 obtain ⟨K2, hK2⟩ : ∃ K, K = enc ((17 : Int)).toNat := ⟨_, rfl⟩
 rw [← hK2] at HO2 HL2 HNB
 clear ho2 hb2 hK2 p0 p1 p2 p3 p4 p5 p6 p7 p8 p9 p10 p11
 obtain ⟨p0, p1, p2, p3, p4, p5, p6, p7, p8, p9, p10, p11⟩ := Recs.all (HM1.out.below HB2.out HM1.out.lt)
 rw [HK.out] at p0
 go_wp2_with fail
 refine (HHB.out _).mono ?_
 rintro e' w' ⟨rfl, rfl⟩
 go_wp2_with fail
 refine (bytes_any x.bal.round _ (HF.out x.bal.round (by simp [Re.nums])).1 (HF.out x.bal.round (by simp [Re.nums])).2).mono ?_
 rintro e3 wa3 ⟨ua3, rfl, hoa, hba⟩
 have hm : (enc (x.bal.round).toNat).length ≤ 9 := enc_nine (by have := (HF.out x.bal.round (by simp [Re.nums])).2; omega)
 obtain ⟨M3, hM⟩ : ∃ M, M = enc (x.bal.round).toNat := ⟨_, rfl⟩
 rw [← hM] at hoa hm HNB
 have hown := HO2.out.keep hba (Nat.le_refl _)
 have hB := HB2.out.trans (hba.mono HB2.out.size)
 have hl := HL2.out
 clear hM hba p0 p1 p2 p3 p4 p5 p6 p7 p8 p9 p10 p11
 go_wp2_with (at_builtin; refine append_bytes rfl _ _ 24 5 rfl Tryz.underlying24 info_u8 w1.heap.size K2 M3 _ _ rfl rfl hown hoa.reads (by omega) w1 hB (Nat.le_refl _) ?_; intro vb wb3 hoz hbz hgz; have HOz := Lib.hid hoz; have HB3 := Lib.hid hbz; clear hoz hbz hgz; obtain ⟨p0, p1, p2, p3, p4, p5, p6, p7, p8, p9, p10, p11⟩ := Recs.all (HM1.out.below HB3.out HM1.out.lt); rw [HK.out] at p0)
 obtain ⟨K3, hK⟩ : ∃ K, K = K2 ++ M3 := ⟨_, rfl⟩
 have HL3 : Hid (K3.length ≤ 18) := by show _ ≤ _; rw [hK, List.length_append]; omega
 rw [← hK] at HOz
 have HO3 := HOz
 have HK3 := Lib.hid hK
 clear hK hown hB hoa HOz hl hm
 go_wp2_with fail
 refine (bytes_any x.bal.node _ (HF.out x.bal.node (by simp [Re.nums])).1 (HF.out x.bal.node (by simp [Re.nums])).2).mono ?_
 rintro e4 wa4 ⟨ua4, rfl, hoa, hba⟩
 have hm : (enc (x.bal.node).toNat).length ≤ 9 := enc_nine (by have := (HF.out x.bal.node (by simp [Re.nums])).2; omega)
 obtain ⟨M4, hM⟩ : ∃ M, M = enc (x.bal.node).toNat := ⟨_, rfl⟩
 rw [← hM] at hoa hm HNB
 have hown := HO3.out.keep hba (Nat.le_refl _)
 have hB := HB3.out.trans (hba.mono HB3.out.size)
 have hl := HL3.out
 clear hM hba p0 p1 p2 p3 p4 p5 p6 p7 p8 p9 p10 p11
 go_wp2_with (at_builtin; refine append_bytes rfl _ _ 24 5 rfl Tryz.underlying24 info_u8 w1.heap.size K3 M4 _ _ rfl rfl hown hoa.reads (by omega) w1 hB (Nat.le_refl _) ?_; intro vb wb4 hoz hbz hgz; have HOz := Lib.hid hoz; have HB4 := Lib.hid hbz; clear hoz hbz hgz; obtain ⟨p0, p1, p2, p3, p4, p5, p6, p7, p8, p9, p10, p11⟩ := Recs.all (HM1.out.below HB4.out HM1.out.lt); rw [HK.out] at p0)
 obtain ⟨K4, hK⟩ : ∃ K, K = K3 ++ M4 := ⟨_, rfl⟩
 have HL4 : Hid (K4.length ≤ 27) := by show _ ≤ _; rw [hK, List.length_append]; omega
 rw [← hK] at HOz
 have HO4 := HOz
 have HK4 := Lib.hid hK
 clear hK hown hB hoa HOz hl hm
 go_wp2_with fail
 refine (HHI.out _).mono ?_
 rintro e' w' ⟨rfl, rfl⟩
 go_wp2_with fail
 refine (HHC.out _).mono ?_
 rintro e' w' ⟨rfl, rfl⟩
 go_wp2
 go_ret
 have HOE := HO4; have HBE := HB4
 refine ⟨_, rfl, ?_, HB1.out.trans (HBE.out.mono HB1.out.size)⟩
 have hfin := HOE.out.mono HB1.out.size
 rw [HNB.out]
 rw [HK4.out, HK3.out] at hfin
 simp only [List.append_assoc] at hfin ⊢
 exact hfin
theorem refBytesRt_2 (x : Re.Rec) (vi : Value) (w : World) (hk : x.kind = 2) (hi : Reads w vi x.img) (hf : x.Fits) (hs : x.cmd.Short 1000) (hc : 1 ≤ x.cmd.kind ∧ x.cmd.kind ≤ 8) :
 Calls Tryz.prog 32 #[.int .i64 2, .agg (Re.cells x vi)] w (Makes w 5 (Rt.bytes x)) := by
 obtain ⟨w1, e1, hl1, hB1, hz1⟩ := box_rec w x vi
 obtain ⟨p0, p1, p2, p3, p4, p5, p6, p7, p8, p9, p10, p11⟩ := Recs.all hl1
 obtain ⟨io, ic, rfl⟩ := hi.shape
 have HNB : Hid (Rt.bytes x = enc ((18 : Int)).toNat ++ (enc x.bal.round.toNat ++ (enc x.bal.node.toNat ++ (enc x.index.toNat ++ (Cm.bytes 2 x.cmd))))) := by show _ = _; unfold Rt.bytes; rw [hk]; simp [Mt.part, Re.hb, Re.hi, Re.hc, Re.hm]
 have HHB : Hid (∀ W, Calls Tryz.prog 57 #[.int .i64 2] W (Says W (.bool true))) := fun W => refHb_any 2 W
 have HHI : Hid (∀ W, Calls Tryz.prog 58 #[.int .i64 2] W (Says W (.bool true))) := fun W => refHi_any 2 W
 have HHC : Hid (∀ W, Calls Tryz.prog 52 #[.int .i64 2] W (Says W (.bool true))) := fun W => refHc_any 2 W
 have HF : Hid (∀ z ∈ Re.nums x, -9223372036854775808 ≤ z ∧ z ≤ 9223372036854775807) := hf.n
 have HK := Lib.hid hk
 rw [hk] at p0
 have HM1 := Lib.hid hl1; have HB1 := Lib.hid hB1
 have HIW := Lib.hid (fun W (h : Below w.heap.size w W) => hi.below h)
 have HCB := Lib.hid (fun W => refBytesCmd_any 2 x.cmd W (.inr rfl) hc.1 hc.2 hf.c hs)
 have HCL : Hid ((Cm.bytes 2 x.cmd).length ≤ 6000) := Cm.bytes_len 2 x.cmd hf.c hs
 clear hl1 hB1 hz1 hi hf hk hc hs
 go_enter Tryz.func32, Tryz.ntmps32
 go_wp2_with fail
 refine (bytes_any 18 _ (by omega) (by omega)).mono ?_
 rintro e2 w2 ⟨u2, rfl, ho2, hb2⟩
 have HO2 := Lib.hid ho2; have HB2 := Lib.hid hb2
 have HL2 : Hid ((enc ((18 : Int)).toNat).length ≤ 9) := enc_nine (by decide)
 obtain ⟨K2, hK2⟩ : ∃ K, K = enc ((18 : Int)).toNat := ⟨_, rfl⟩
 rw [← hK2] at HO2 HL2 HNB
 clear ho2 hb2 hK2 p0 p1 p2 p3 p4 p5 p6 p7 p8 p9 p10 p11
 obtain ⟨p0, p1, p2, p3, p4, p5, p6, p7, p8, p9, p10, p11⟩ := Recs.all (HM1.out.below HB2.out HM1.out.lt)
 rw [HK.out] at p0
 go_wp2_with fail
 refine (HHB.out _).mono ?_
 rintro e' w' ⟨rfl, rfl⟩
 go_wp2_with fail
 refine (bytes_any x.bal.round _ (HF.out x.bal.round (by simp [Re.nums])).1 (HF.out x.bal.round (by simp [Re.nums])).2).mono ?_
 rintro e3 wa3 ⟨ua3, rfl, hoa, hba⟩
 have hm : (enc (x.bal.round).toNat).length ≤ 9 := enc_nine (by have := (HF.out x.bal.round (by simp [Re.nums])).2; omega)
 obtain ⟨M3, hM⟩ : ∃ M, M = enc (x.bal.round).toNat := ⟨_, rfl⟩
 rw [← hM] at hoa hm HNB
 have hown := HO2.out.keep hba (Nat.le_refl _)
 have hB := HB2.out.trans (hba.mono HB2.out.size)
 have hl := HL2.out
 clear hM hba p0 p1 p2 p3 p4 p5 p6 p7 p8 p9 p10 p11
 go_wp2_with (at_builtin; refine append_bytes rfl _ _ 24 5 rfl Tryz.underlying24 info_u8 w1.heap.size K2 M3 _ _ rfl rfl hown hoa.reads (by omega) w1 hB (Nat.le_refl _) ?_; intro vb wb3 hoz hbz hgz; have HOz := Lib.hid hoz; have HB3 := Lib.hid hbz; clear hoz hbz hgz; obtain ⟨p0, p1, p2, p3, p4, p5, p6, p7, p8, p9, p10, p11⟩ := Recs.all (HM1.out.below HB3.out HM1.out.lt); rw [HK.out] at p0)
 obtain ⟨K3, hK⟩ : ∃ K, K = K2 ++ M3 := ⟨_, rfl⟩
 have HL3 : Hid (K3.length ≤ 18) := by show _ ≤ _; rw [hK, List.length_append]; omega
 rw [← hK] at HOz
 have HO3 := HOz
 have HK3 := Lib.hid hK
 clear hK hown hB hoa HOz hl hm
 go_wp2_with fail
 refine (bytes_any x.bal.node _ (HF.out x.bal.node (by simp [Re.nums])).1 (HF.out x.bal.node (by simp [Re.nums])).2).mono ?_
 rintro e4 wa4 ⟨ua4, rfl, hoa, hba⟩
 have hm : (enc (x.bal.node).toNat).length ≤ 9 := enc_nine (by have := (HF.out x.bal.node (by simp [Re.nums])).2; omega)
 obtain ⟨M4, hM⟩ : ∃ M, M = enc (x.bal.node).toNat := ⟨_, rfl⟩
 rw [← hM] at hoa hm HNB
 have hown := HO3.out.keep hba (Nat.le_refl _)
 have hB := HB3.out.trans (hba.mono HB3.out.size)
 have hl := HL3.out
 clear hM hba p0 p1 p2 p3 p4 p5 p6 p7 p8 p9 p10 p11
 go_wp2_with (at_builtin; refine append_bytes rfl _ _ 24 5 rfl Tryz.underlying24 info_u8 w1.heap.size K3 M4 _ _ rfl rfl hown hoa.reads (by omega) w1 hB (Nat.le_refl _) ?_; intro vb wb4 hoz hbz hgz; have HOz := Lib.hid hoz; have HB4 := Lib.hid hbz; clear hoz hbz hgz; obtain ⟨p0, p1, p2, p3, p4, p5, p6, p7, p8, p9, p10, p11⟩ := Recs.all (HM1.out.below HB4.out HM1.out.lt); rw [HK.out] at p0)
 obtain ⟨K4, hK⟩ : ∃ K, K = K3 ++ M4 := ⟨_, rfl⟩
 have HL4 : Hid (K4.length ≤ 27) := by show _ ≤ _; rw [hK, List.length_append]; omega
 rw [← hK] at HOz
 have HO4 := HOz
 have HK4 := Lib.hid hK
 clear hK hown hB hoa HOz hl hm
 go_wp2_with fail
 refine (HHI.out _).mono ?_
 rintro e' w' ⟨rfl, rfl⟩
 go_wp2_with fail
 refine (bytes_any x.index _ (HF.out x.index (by simp [Re.nums])).1 (HF.out x.index (by simp [Re.nums])).2).mono ?_
 rintro e5 wa5 ⟨ua5, rfl, hoa, hba⟩
 have hm : (enc (x.index).toNat).length ≤ 9 := enc_nine (by have := (HF.out x.index (by simp [Re.nums])).2; omega)
 obtain ⟨M5, hM⟩ : ∃ M, M = enc (x.index).toNat := ⟨_, rfl⟩
 rw [← hM] at hoa hm HNB
 have hown := HO4.out.keep hba (Nat.le_refl _)
 have hB := HB4.out.trans (hba.mono HB4.out.size)
 have hl := HL4.out
 clear hM hba p0 p1 p2 p3 p4 p5 p6 p7 p8 p9 p10 p11
 go_wp2_with (at_builtin; refine append_bytes rfl _ _ 24 5 rfl Tryz.underlying24 info_u8 w1.heap.size K4 M5 _ _ rfl rfl hown hoa.reads (by omega) w1 hB (Nat.le_refl _) ?_; intro vb wb5 hoz hbz hgz; have HOz := Lib.hid hoz; have HB5 := Lib.hid hbz; clear hoz hbz hgz; obtain ⟨p0, p1, p2, p3, p4, p5, p6, p7, p8, p9, p10, p11⟩ := Recs.all (HM1.out.below HB5.out HM1.out.lt); rw [HK.out] at p0)
 obtain ⟨K5, hK⟩ : ∃ K, K = K4 ++ M5 := ⟨_, rfl⟩
 have HL5 : Hid (K5.length ≤ 36) := by show _ ≤ _; rw [hK, List.length_append]; omega
 rw [← hK] at HOz
 have HO5 := HOz
 have HK5 := Lib.hid hK
 clear hK hown hB hoa HOz hl hm
 go_wp2_with fail
 refine (HHC.out _).mono ?_
 rintro e' w' ⟨rfl, rfl⟩
 go_wp2_with fail
 refine (HCB.out _).mono ?_
 rintro e6 wa6 ⟨ua6, rfl, hoa, hba⟩
 have hm := HCL.out
 obtain ⟨M6, hM⟩ : ∃ M, M = Cm.bytes 2 x.cmd := ⟨_, rfl⟩
 rw [← hM] at hoa hm HNB
 have hown := HO5.out.keep hba (Nat.le_refl _)
 have hB := HB5.out.trans (hba.mono HB5.out.size)
 have hl := HL5.out
 clear hM hba p0 p1 p2 p3 p4 p5 p6 p7 p8 p9 p10 p11
 go_wp2_with (at_builtin; refine append_bytes rfl _ _ 24 5 rfl Tryz.underlying24 info_u8 w1.heap.size K5 M6 _ _ rfl rfl hown hoa.reads (by omega) w1 hB (Nat.le_refl _) ?_; intro vb wb6 hoz hbz hgz; have HOE := Lib.hid hoz; have HBE := Lib.hid hbz; clear hoz hbz hgz; obtain ⟨p0, p1, p2, p3, p4, p5, p6, p7, p8, p9, p10, p11⟩ := Recs.all (HM1.out.below HBE.out HM1.out.lt); rw [HK.out] at p0)
 go_ret
 refine ⟨_, rfl, ?_, HB1.out.trans (HBE.out.mono HB1.out.size)⟩
 have hfin := HOE.out.mono HB1.out.size
 rw [HNB.out]
 rw [HK5.out, HK4.out, HK3.out] at hfin
 simp only [List.append_assoc] at hfin ⊢
 exact hfin
theorem refBytesRt_3 (x : Re.Rec) (vi : Value) (w : World) (hk : x.kind = 3) (hi : Reads w vi x.img) (hf : x.Fits) (hs : x.cmd.Short 1000) (hc : 1 ≤ x.cmd.kind ∧ x.cmd.kind ≤ 8) :
 Calls Tryz.prog 32 #[.int .i64 2, .agg (Re.cells x vi)] w (Makes w 5 (Rt.bytes x)) := by
 obtain ⟨w1, e1, hl1, hB1, hz1⟩ := box_rec w x vi
 obtain ⟨p0, p1, p2, p3, p4, p5, p6, p7, p8, p9, p10, p11⟩ := Recs.all hl1
 obtain ⟨io, ic, rfl⟩ := hi.shape
 have HNB : Hid (Rt.bytes x = enc ((19 : Int)).toNat ++ (enc x.index.toNat ++ (Cm.bytes 2 x.cmd))) := by show _ = _; unfold Rt.bytes; rw [hk]; simp [Mt.part, Re.hb, Re.hi, Re.hc, Re.hm]
 have HHB : Hid (∀ W, Calls Tryz.prog 57 #[.int .i64 3] W (Says W (.bool false))) := fun W => refHb_any 3 W
 have HHI : Hid (∀ W, Calls Tryz.prog 58 #[.int .i64 3] W (Says W (.bool true))) := fun W => refHi_any 3 W
 have HHC : Hid (∀ W, Calls Tryz.prog 52 #[.int .i64 3] W (Says W (.bool true))) := fun W => refHc_any 3 W
 have HF : Hid (∀ z ∈ Re.nums x, -9223372036854775808 ≤ z ∧ z ≤ 9223372036854775807) := hf.n
 have HK := Lib.hid hk
 rw [hk] at p0
 have HM1 := Lib.hid hl1; have HB1 := Lib.hid hB1
 have HIW := Lib.hid (fun W (h : Below w.heap.size w W) => hi.below h)
 have HCB := Lib.hid (fun W => refBytesCmd_any 2 x.cmd W (.inr rfl) hc.1 hc.2 hf.c hs)
 have HCL : Hid ((Cm.bytes 2 x.cmd).length ≤ 6000) := Cm.bytes_len 2 x.cmd hf.c hs
 clear hl1 hB1 hz1 hi hf hk hc hs
 go_enter Tryz.func32, Tryz.ntmps32
 go_wp2_with fail
 refine (bytes_any 19 _ (by omega) (by omega)).mono ?_
 rintro e2 w2 ⟨u2, rfl, ho2, hb2⟩
 have HO2 := Lib.hid ho2; have HB2 := Lib.hid hb2
 have HL2 : Hid ((enc ((19 : Int)).toNat).length ≤ 9) := enc_nine (by decide)
 obtain ⟨K2, hK2⟩ : ∃ K, K = enc ((19 : Int)).toNat := ⟨_, rfl⟩
 rw [← hK2] at HO2 HL2 HNB
 clear ho2 hb2 hK2 p0 p1 p2 p3 p4 p5 p6 p7 p8 p9 p10 p11
 obtain ⟨p0, p1, p2, p3, p4, p5, p6, p7, p8, p9, p10, p11⟩ := Recs.all (HM1.out.below HB2.out HM1.out.lt)
 rw [HK.out] at p0
 go_wp2_with fail
 refine (HHB.out _).mono ?_
 rintro e' w' ⟨rfl, rfl⟩
 go_wp2_with fail
 refine (HHI.out _).mono ?_
 rintro e' w' ⟨rfl, rfl⟩
 go_wp2_with fail
 refine (bytes_any x.index _ (HF.out x.index (by simp [Re.nums])).1 (HF.out x.index (by simp [Re.nums])).2).mono ?_
 rintro e3 wa3 ⟨ua3, rfl, hoa, hba⟩
 have hm : (enc (x.index).toNat).length ≤ 9 := enc_nine (by have := (HF.out x.index (by simp [Re.nums])).2; omega)
 obtain ⟨M3, hM⟩ : ∃ M, M = enc (x.index).toNat := ⟨_, rfl⟩
 rw [← hM] at hoa hm HNB
 have hown := HO2.out.keep hba (Nat.le_refl _)
 have hB := HB2.out.trans (hba.mono HB2.out.size)
 have hl := HL2.out
 clear hM hba p0 p1 p2 p3 p4 p5 p6 p7 p8 p9 p10 p11
 go_wp2_with (at_builtin; refine append_bytes rfl _ _ 24 5 rfl Tryz.underlying24 info_u8 w1.heap.size K2 M3 _ _ rfl rfl hown hoa.reads (by omega) w1 hB (Nat.le_refl _) ?_; intro vb wb3 hoz hbz hgz; have HOz := Lib.hid hoz; have HB3 := Lib.hid hbz; clear hoz hbz hgz; obtain ⟨p0, p1, p2, p3, p4, p5, p6, p7, p8, p9, p10, p11⟩ := Recs.all (HM1.out.below HB3.out HM1.out.lt); rw [HK.out] at p0)
 obtain ⟨K3, hK⟩ : ∃ K, K = K2 ++ M3 := ⟨_, rfl⟩
 have HL3 : Hid (K3.length ≤ 18) := by show _ ≤ _; rw [hK, List.length_append]; omega
 rw [← hK] at HOz
 have HO3 := HOz
 have HK3 := Lib.hid hK
 clear hK hown hB hoa HOz hl hm
 go_wp2_with fail
 refine (HHC.out _).mono ?_
 rintro e' w' ⟨rfl, rfl⟩
 go_wp2_with fail
 refine (HCB.out _).mono ?_
 rintro e4 wa4 ⟨ua4, rfl, hoa, hba⟩
 have hm := HCL.out
 obtain ⟨M4, hM⟩ : ∃ M, M = Cm.bytes 2 x.cmd := ⟨_, rfl⟩
 rw [← hM] at hoa hm HNB
 have hown := HO3.out.keep hba (Nat.le_refl _)
 have hB := HB3.out.trans (hba.mono HB3.out.size)
 have hl := HL3.out
 clear hM hba p0 p1 p2 p3 p4 p5 p6 p7 p8 p9 p10 p11
 go_wp2_with (at_builtin; refine append_bytes rfl _ _ 24 5 rfl Tryz.underlying24 info_u8 w1.heap.size K3 M4 _ _ rfl rfl hown hoa.reads (by omega) w1 hB (Nat.le_refl _) ?_; intro vb wb4 hoz hbz hgz; have HOE := Lib.hid hoz; have HBE := Lib.hid hbz; clear hoz hbz hgz; obtain ⟨p0, p1, p2, p3, p4, p5, p6, p7, p8, p9, p10, p11⟩ := Recs.all (HM1.out.below HBE.out HM1.out.lt); rw [HK.out] at p0)
 go_ret
 refine ⟨_, rfl, ?_, HB1.out.trans (HBE.out.mono HB1.out.size)⟩
 have hfin := HOE.out.mono HB1.out.size
 rw [HNB.out]
 rw [HK3.out] at hfin
 simp only [List.append_assoc] at hfin ⊢
 exact hfin
theorem refBytesRt_4 (x : Re.Rec) (vi : Value) (w : World) (hk : x.kind = 4) (hi : Reads w vi x.img) (hf : x.Fits) (hm : x.img.length ≤ 100000) :
 Calls Tryz.prog 32 #[.int .i64 2, .agg (Re.cells x vi)] w (Makes w 5 (Rt.bytes x)) := by
 obtain ⟨w1, e1, hl1, hB1, hz1⟩ := box_rec w x vi
 obtain ⟨p0, p1, p2, p3, p4, p5, p6, p7, p8, p9, p10, p11⟩ := Recs.all hl1
 obtain ⟨io, ic, rfl⟩ := hi.shape
 have HNB : Hid (Rt.bytes x = enc ((20 : Int)).toNat ++ (enc x.index.toNat ++ (Pk.text x.img))) := by show _ = _; unfold Rt.bytes; rw [hk]; simp [Mt.part, Re.hb, Re.hi, Re.hc, Re.hm]
 have HHB : Hid (∀ W, Calls Tryz.prog 57 #[.int .i64 4] W (Says W (.bool false))) := fun W => refHb_any 4 W
 have HHI : Hid (∀ W, Calls Tryz.prog 58 #[.int .i64 4] W (Says W (.bool true))) := fun W => refHi_any 4 W
 have HHC : Hid (∀ W, Calls Tryz.prog 52 #[.int .i64 4] W (Says W (.bool false))) := fun W => refHc_any 4 W
 have HF : Hid (∀ z ∈ Re.nums x, -9223372036854775808 ≤ z ∧ z ≤ 9223372036854775807) := hf.n
 have HK := Lib.hid hk
 rw [hk] at p0
 have HM1 := Lib.hid hl1; have HB1 := Lib.hid hB1
 have HIW := Lib.hid (fun W (h : Below w.heap.size w W) => hi.below h)
 have HIM := Lib.hid hm
 clear hl1 hB1 hz1 hi hf hk hm
 go_enter Tryz.func32, Tryz.ntmps32
 go_wp2_with fail
 refine (bytes_any 20 _ (by omega) (by omega)).mono ?_
 rintro e2 w2 ⟨u2, rfl, ho2, hb2⟩
 have HO2 := Lib.hid ho2; have HB2 := Lib.hid hb2
 have HL2 : Hid ((enc ((20 : Int)).toNat).length ≤ 9) := enc_nine (by decide)
 obtain ⟨K2, hK2⟩ : ∃ K, K = enc ((20 : Int)).toNat := ⟨_, rfl⟩
 rw [← hK2] at HO2 HL2 HNB
 clear ho2 hb2 hK2 p0 p1 p2 p3 p4 p5 p6 p7 p8 p9 p10 p11
 obtain ⟨p0, p1, p2, p3, p4, p5, p6, p7, p8, p9, p10, p11⟩ := Recs.all (HM1.out.below HB2.out HM1.out.lt)
 rw [HK.out] at p0
 go_wp2_with fail
 refine (HHB.out _).mono ?_
 rintro e' w' ⟨rfl, rfl⟩
 go_wp2_with fail
 refine (HHI.out _).mono ?_
 rintro e' w' ⟨rfl, rfl⟩
 go_wp2_with fail
 refine (bytes_any x.index _ (HF.out x.index (by simp [Re.nums])).1 (HF.out x.index (by simp [Re.nums])).2).mono ?_
 rintro e3 wa3 ⟨ua3, rfl, hoa, hba⟩
 have hm : (enc (x.index).toNat).length ≤ 9 := enc_nine (by have := (HF.out x.index (by simp [Re.nums])).2; omega)
 obtain ⟨M3, hM⟩ : ∃ M, M = enc (x.index).toNat := ⟨_, rfl⟩
 rw [← hM] at hoa hm HNB
 have hown := HO2.out.keep hba (Nat.le_refl _)
 have hB := HB2.out.trans (hba.mono HB2.out.size)
 have hl := HL2.out
 clear hM hba p0 p1 p2 p3 p4 p5 p6 p7 p8 p9 p10 p11
 go_wp2_with (at_builtin; refine append_bytes rfl _ _ 24 5 rfl Tryz.underlying24 info_u8 w1.heap.size K2 M3 _ _ rfl rfl hown hoa.reads (by omega) w1 hB (Nat.le_refl _) ?_; intro vb wb3 hoz hbz hgz; have HOz := Lib.hid hoz; have HB3 := Lib.hid hbz; clear hoz hbz hgz; obtain ⟨p0, p1, p2, p3, p4, p5, p6, p7, p8, p9, p10, p11⟩ := Recs.all (HM1.out.below HB3.out HM1.out.lt); rw [HK.out] at p0)
 obtain ⟨K3, hK⟩ : ∃ K, K = K2 ++ M3 := ⟨_, rfl⟩
 have HL3 : Hid (K3.length ≤ 18) := by show _ ≤ _; rw [hK, List.length_append]; omega
 rw [← hK] at HOz
 have HO3 := HOz
 have HK3 := Lib.hid hK
 clear hK hown hB hoa HOz hl hm
 go_wp2_with fail
 refine (HHC.out _).mono ?_
 rintro e' w' ⟨rfl, rfl⟩
 obtain ⟨n, hn⟩ : ∃ n, n = x.img.length := ⟨_, rfl⟩
 rw [← hn] at p11 HIM HIW HM1 e1 ⊢
 have HN := Lib.hid hn
 clear hn
 go_wp2_with fail
 refine (bytes_any (n : Int) _ (by omega) (by have := HIM.out; omega)).mono ?_
 rintro e4 wa4 ⟨ua4, rfl, hoa, hba⟩
 rw [Int.toNat_natCast] at hoa
 have hm : (enc n).length ≤ 9 := enc_nine (by have := HIM.out; omega)
 obtain ⟨M4, hM⟩ : ∃ M, M = enc n := ⟨_, rfl⟩
 rw [← hM] at hoa hm
 have HM4 := Lib.hid hM
 have hown := HO3.out.keep hba (Nat.le_refl _)
 have hB := HB3.out.trans (hba.mono HB3.out.size)
 have hl := HL3.out
 clear hM hba p0 p1 p2 p3 p4 p5 p6 p7 p8 p9 p10 p11
 go_wp2_with (first
  | (at_builtin; refine append_bytes rfl _ _ 24 5 rfl Tryz.underlying24 info_u8 w1.heap.size K3 M4 _ _ rfl rfl hown hoa.reads (by omega) w1 hB (Nat.le_refl _) ?_
     intro vb wb4 hoz hbz hgz
     have HO4 := Lib.hid hoz; have HB4 := Lib.hid hbz
     clear hoz hbz hgz
     obtain ⟨p0, p1, p2, p3, p4, p5, p6, p7, p8, p9, p10, p11⟩ := Recs.all (HM1.out.below HB4.out HM1.out.lt)
     rw [HK.out] at p0)
  | (at_builtin; refine append_bytes rfl _ _ 24 5 rfl Tryz.underlying24 info_u8 w1.heap.size (K3 ++ M4) x.img _ _ rfl rfl HO4.out (HIW.out _ (HB1.out.trans (HB4.out.mono HB1.out.size))) (by have := HIM.out; have := HN.out; rw [List.length_append]; omega) w1 HB4.out (Nat.le_refl _) ?_
     intro vd wd hoz hbz hgz
     have HOE := Lib.hid hoz; have HBE := Lib.hid hbz
     clear hoz hbz hgz))
 go_ret
 refine ⟨_, rfl, ?_, HB1.out.trans (HBE.out.mono HB1.out.size)⟩
 have hfin := HOE.out.mono HB1.out.size
 rw [HNB.out]
 rw [HK3.out, HM4.out, HN.out] at hfin
 unfold Pk.text
 simp only [List.append_assoc] at hfin ⊢
 exact hfin
theorem refBytesRt_f1 (x : Re.Rec) (vi : Value) (w : World) (ho : Re.older x = 0) (hi : Reads w vi x.img) (hf : x.Fits) (hs : x.cmd.Short 1000) (hm : x.img.length ≤ 100000) :
 Calls Tryz.prog 32 #[.int .i64 1, .agg (Re.cells x vi)] w (Makes w 5 (Re.bytes x)) := by
 obtain ⟨w1, e1, hl1, hB1, hz1⟩ := box_rec w x vi
 obtain ⟨p0, p1, p2, p3, p4, p5, p6, p7, p8, p9, p10, p11⟩ := Recs.all hl1
 have HB1 := Lib.hid hB1
 have HC := Lib.hid (refBytesRe_any x vi w1 ho (hi.below hB1) hf hs hm)
 clear hl1 hB1 hz1 hi hf hs hm ho
 go_enter Tryz.func32, Tryz.ntmps32
 go_wp2_with fail
 refine HC.out.mono ?_
 rintro e2 w2 ⟨u2, rfl, ho2, hb2⟩
 have HO2 := Lib.hid ho2; have HB2 := Lib.hid hb2
 clear ho2 hb2 p0 p1 p2 p3 p4 p5 p6 p7 p8 p9 p10 p11
 go_wp2
 go_ret
 exact ⟨_, rfl, HO2.out.mono HB1.out.size, HB1.out.trans (HB2.out.mono HB1.out.size)⟩
theorem refBytesRt_any (v : Int) (x : Re.Rec) (vi : Value) (w : World) (hv : v = 1 ∨ v = 2) (ho : Re.olderIn v x = 0) (hi : Reads w vi x.img) (hf : x.Fits) (hs : x.cmd.Short 1000) (hm : x.img.length ≤ 100000) :
 Calls Tryz.prog 32 #[.int .i64 v, .agg (Re.cells x vi)] w (Makes w 5 (Rt.bytesIn v x)) := by
 rcases hv with rfl | rfl
 ·rw [show Re.olderIn 1 x = Re.older x from Re.olderIn_one x] at ho
  exact refBytesRt_f1 x vi w ho hi hf hs hm
 ·rw [Rt.older_two] at ho
  have hg := Re.check_good ho
  have hkc : Re.hc x.kind = true → 1 ≤ x.cmd.kind ∧ x.cmd.kind ≤ 8 := fun h => by
   have h1 := (Cm.check_ok (hg.cmd h)).1
   unfold Cm.known at h1
   simpa using h1
  show Calls _ _ _ _ (Makes w _ (Rt.bytes x))
  rcases Re.kinds x.kind with h | h | h | h | h
  ·exact refBytesRt_1 x vi w h hi hf
  ·exact refBytesRt_2 x vi w h hi hf hs (hkc (by rw [h]; rfl))
  ·exact refBytesRt_3 x vi w h hi hf hs (hkc (by rw [h]; rfl))
  ·exact refBytesRt_4 x vi w h hi hf hm
  ·have := hg.kind
   rw [(Re.has_no h).2.2.2.2] at this
   cases this
end Go.Proofs.YteboceekcmchkaaGreatDoor
