/- The document's Bytes of a record in either format. Written by wip/tools/genref17.py. -/
import Derived.Test.YtaeojpcffahgmaaGreatDoorGRh
import Derived.Test.YtaeojpcffahgmaaGreatDoorRtMath
namespace Go.Proofs.YtaeojpcffahgmaaGreatDoor
open Go.RowKit

set_option maxRecDepth 4000 in
set_option maxHeartbeats 3200000 in
theorem refBytesRt_1 (x : Re.Rec) (vi : Value) (w : World) (hk : x.kind = 1) (hi : Reads w vi x.img) (hf : x.Fits) :
    Calls Tryz.prog 12 #[.int .i64 2, .agg (Re.cells x vi)] w (Makes w 5 (Rt.bytes x)) := by
  obtain ⟨w1, e1, hl1, hB1, hz1⟩ := box_rec w x vi
  obtain ⟨p0, p1, p2, p3, p4, p5, p6, p7, p8, p9, p10, p11⟩ := Recs.all hl1
  obtain ⟨io, ic, rfl⟩ := hi.shape
  have HNB : Hid (Rt.bytes x = enc ((17 : Int)).toNat ++ (enc x.bal.round.toNat ++ (enc x.bal.node.toNat))) := by show _ = _; unfold Rt.bytes; rw [hk]; simp [Mt.part, Re.hb, Re.hi, Re.hc, Re.hm]
  have HHB : Hid (∀ W, Calls Tryz.prog 25 #[.int .i64 1] W (Says W (.bool true))) := fun W => refHb_any 1 W
  have HHI : Hid (∀ W, Calls Tryz.prog 26 #[.int .i64 1] W (Says W (.bool false))) := fun W => refHi_any 1 W
  have HHC : Hid (∀ W, Calls Tryz.prog 20 #[.int .i64 1] W (Says W (.bool false))) := fun W => refHc_any 1 W
  have HF : Hid (∀ z ∈ Re.nums x, -9223372036854775808 ≤ z ∧ z ≤ 9223372036854775807) := hf.n
  have HK := Lib.hid hk
  rw [hk] at p0
  have HM1 := Lib.hid hl1; have HB1 := Lib.hid hB1
  have HIW := Lib.hid (fun W (h : Below w.heap.size w W) => hi.below h)
  clear hl1 hB1 hz1 hi hf hk
  go_enter Tryz.func12, Tryz.ntmps12
  go_wp2_with fail
  refine (bytes_any 17 _ (by omega) (by omega)).mono ?_
  rintro e2 w2 ⟨u2, rfl, ho2, hb2⟩
  have HO2 := Lib.hid ho2; have HB2 := Lib.hid hb2
  have HL2 : Hid ((enc ((17 : Int)).toNat).length ≤ 9) := enc_nine (by decide)
  obtain ⟨K2, hK2⟩ : ∃ K, K = enc ((17 : Int)).toNat := ⟨_, rfl⟩
  rw [← hK2] at HO2 HL2 HNB
  clear ho2 hb2 hK2 p0 p1 p2 p3 p4 p5 p6 p7 p8 p9 p10 p11
  obtain ⟨p0, p1, p2, p3, p4, p5, p6, p7, p8, p9, p10, p11⟩ := Recs.all (HM1.out.below HB2.out HM1.out.lt)
  rw [HK.out] at p0
  go_wp2_with fail
  refine (HHB.out _).mono ?_
  rintro e' w' ⟨rfl, rfl⟩
  go_wp2_with fail
  refine (bytes_any x.bal.round _ (HF.out x.bal.round (by simp [Re.nums])).1 (HF.out x.bal.round (by simp [Re.nums])).2).mono ?_
  rintro e3 wa3 ⟨ua3, rfl, hoa, hba⟩
  have hm : (enc (x.bal.round).toNat).length ≤ 9 := enc_nine (by have := (HF.out x.bal.round (by simp [Re.nums])).2; omega)
  obtain ⟨M3, hM⟩ : ∃ M, M = enc (x.bal.round).toNat := ⟨_, rfl⟩
  rw [← hM] at hoa hm HNB
  have hown := HO2.out.keep hba (Nat.le_refl _)
  have hB := HB2.out.trans (hba.mono HB2.out.size)
  have hl := HL2.out
  clear hM hba p0 p1 p2 p3 p4 p5 p6 p7 p8 p9 p10 p11
  go_wp2_with (at_builtin; refine append_bytes rfl _ _ 26 5 rfl Tryz.underlying26 info_u8 w1.heap.size K2 M3 _ _ rfl rfl hown hoa.reads (by omega) w1 hB (Nat.le_refl _) ?_; intro vb wb3 hoz hbz hgz; have HOz := Lib.hid hoz; have HB3 := Lib.hid hbz; clear hoz hbz hgz; obtain ⟨p0, p1, p2, p3, p4, p5, p6, p7, p8, p9, p10, p11⟩ := Recs.all (HM1.out.below HB3.out HM1.out.lt); rw [HK.out] at p0)
  obtain ⟨K3, hK⟩ : ∃ K, K = K2 ++ M3 := ⟨_, rfl⟩
  have HL3 : Hid (K3.length ≤ 18) := by show _ ≤ _; rw [hK, List.length_append]; omega
  rw [← hK] at HOz
  have HO3 := HOz
  have HK3 := Lib.hid hK
  clear hK hown hB hoa HOz hl hm
  go_wp2_with fail
  refine (bytes_any x.bal.node _ (HF.out x.bal.node (by simp [Re.nums])).1 (HF.out x.bal.node (by simp [Re.nums])).2).mono ?_
  rintro e4 wa4 ⟨ua4, rfl, hoa, hba⟩
  have hm : (enc (x.bal.node).toNat).length ≤ 9 := enc_nine (by have := (HF.out x.bal.node (by simp [Re.nums])).2; omega)
  obtain ⟨M4, hM⟩ : ∃ M, M = enc (x.bal.node).toNat := ⟨_, rfl⟩
  rw [← hM] at hoa hm HNB
  have hown := HO3.out.keep hba (Nat.le_refl _)
  have hB := HB3.out.trans (hba.mono HB3.out.size)
  have hl := HL3.out
  clear hM hba p0 p1 p2 p3 p4 p5 p6 p7 p8 p9 p10 p11
  go_wp2_with (at_builtin; refine append_bytes rfl _ _ 26 5 rfl Tryz.underlying26 info_u8 w1.heap.size K3 M4 _ _ rfl rfl hown hoa.reads (by omega) w1 hB (Nat.le_refl _) ?_; intro vb wb4 hoz hbz hgz; have HOz := Lib.hid hoz; have HB4 := Lib.hid hbz; clear hoz hbz hgz; obtain ⟨p0, p1, p2, p3, p4, p5, p6, p7, p8, p9, p10, p11⟩ := Recs.all (HM1.out.below HB4.out HM1.out.lt); rw [HK.out] at p0)
  obtain ⟨K4, hK⟩ : ∃ K, K = K3 ++ M4 := ⟨_, rfl⟩
  have HL4 : Hid (K4.length ≤ 27) := by show _ ≤ _; rw [hK, List.length_append]; omega
  rw [← hK] at HOz
  have HO4 := HOz
  have HK4 := Lib.hid hK
  clear hK hown hB hoa HOz hl hm
  go_wp2_with fail
  refine (HHI.out _).mono ?_
  rintro e' w' ⟨rfl, rfl⟩
  go_wp2_with fail
  refine (HHC.out _).mono ?_
  rintro e' w' ⟨rfl, rfl⟩
  go_wp2
  go_ret
  have HOE := HO4; have HBE := HB4
  refine ⟨_, rfl, ?_, HB1.out.trans (HBE.out.mono HB1.out.size)⟩
  have hfin := HOE.out.mono HB1.out.size
  rw [HNB.out]
  rw [HK4.out, HK3.out] at hfin
  simp only [List.append_assoc] at hfin ⊢
  exact hfin

set_option maxRecDepth 4000 in
set_option maxHeartbeats 3200000 in
theorem refBytesRt_2 (x : Re.Rec) (vi : Value) (w : World) (hk : x.kind = 2) (hi : Reads w vi x.img) (hf : x.Fits) (hs : x.cmd.Short 1000) (hc : 1 ≤ x.cmd.kind ∧ x.cmd.kind ≤ 8) :
    Calls Tryz.prog 12 #[.int .i64 2, .agg (Re.cells x vi)] w (Makes w 5 (Rt.bytes x)) := by
  obtain ⟨w1, e1, hl1, hB1, hz1⟩ := box_rec w x vi
  obtain ⟨p0, p1, p2, p3, p4, p5, p6, p7, p8, p9, p10, p11⟩ := Recs.all hl1
  obtain ⟨io, ic, rfl⟩ := hi.shape
  have HNB : Hid (Rt.bytes x = enc ((18 : Int)).toNat ++ (enc x.bal.round.toNat ++ (enc x.bal.node.toNat ++ (enc x.index.toNat ++ (Cm.bytes 2 x.cmd))))) := by show _ = _; unfold Rt.bytes; rw [hk]; simp [Mt.part, Re.hb, Re.hi, Re.hc, Re.hm]
  have HHB : Hid (∀ W, Calls Tryz.prog 25 #[.int .i64 2] W (Says W (.bool true))) := fun W => refHb_any 2 W
  have HHI : Hid (∀ W, Calls Tryz.prog 26 #[.int .i64 2] W (Says W (.bool true))) := fun W => refHi_any 2 W
  have HHC : Hid (∀ W, Calls Tryz.prog 20 #[.int .i64 2] W (Says W (.bool true))) := fun W => refHc_any 2 W
  have HF : Hid (∀ z ∈ Re.nums x, -9223372036854775808 ≤ z ∧ z ≤ 9223372036854775807) := hf.n
  have HK := Lib.hid hk
  rw [hk] at p0
  have HM1 := Lib.hid hl1; have HB1 := Lib.hid hB1
  have HIW := Lib.hid (fun W (h : Below w.heap.size w W) => hi.below h)
  have HCB := Lib.hid (fun W => refBytesCmd_any 2 x.cmd W (.inr rfl) hc.1 hc.2 hf.c hs)
  have HCL : Hid ((Cm.bytes 2 x.cmd).length ≤ 6000) := Cm.bytes_len 2 x.cmd hf.c hs
  clear hl1 hB1 hz1 hi hf hk hc hs
  go_enter Tryz.func12, Tryz.ntmps12
  go_wp2_with fail
  refine (bytes_any 18 _ (by omega) (by omega)).mono ?_
  rintro e2 w2 ⟨u2, rfl, ho2, hb2⟩
  have HO2 := Lib.hid ho2; have HB2 := Lib.hid hb2
  have HL2 : Hid ((enc ((18 : Int)).toNat).length ≤ 9) := enc_nine (by decide)
  obtain ⟨K2, hK2⟩ : ∃ K, K = enc ((18 : Int)).toNat := ⟨_, rfl⟩
  rw [← hK2] at HO2 HL2 HNB
  clear ho2 hb2 hK2 p0 p1 p2 p3 p4 p5 p6 p7 p8 p9 p10 p11
  obtain ⟨p0, p1, p2, p3, p4, p5, p6, p7, p8, p9, p10, p11⟩ := Recs.all (HM1.out.below HB2.out HM1.out.lt)
  rw [HK.out] at p0
  go_wp2_with fail
  refine (HHB.out _).mono ?_
  rintro e' w' ⟨rfl, rfl⟩
  go_wp2_with fail
  refine (bytes_any x.bal.round _ (HF.out x.bal.round (by simp [Re.nums])).1 (HF.out x.bal.round (by simp [Re.nums])).2).mono ?_
  rintro e3 wa3 ⟨ua3, rfl, hoa, hba⟩
  have hm : (enc (x.bal.round).toNat).length ≤ 9 := enc_nine (by have := (HF.out x.bal.round (by simp [Re.nums])).2; omega)
  obtain ⟨M3, hM⟩ : ∃ M, M = enc (x.bal.round).toNat := ⟨_, rfl⟩
  rw [← hM] at hoa hm HNB
  have hown := HO2.out.keep hba (Nat.le_refl _)
  have hB := HB2.out.trans (hba.mono HB2.out.size)
  have hl := HL2.out
  clear hM hba p0 p1 p2 p3 p4 p5 p6 p7 p8 p9 p10 p11
  go_wp2_with (at_builtin; refine append_bytes rfl _ _ 26 5 rfl Tryz.underlying26 info_u8 w1.heap.size K2 M3 _ _ rfl rfl hown hoa.reads (by omega) w1 hB (Nat.le_refl _) ?_; intro vb wb3 hoz hbz hgz; have HOz := Lib.hid hoz; have HB3 := Lib.hid hbz; clear hoz hbz hgz; obtain ⟨p0, p1, p2, p3, p4, p5, p6, p7, p8, p9, p10, p11⟩ := Recs.all (HM1.out.below HB3.out HM1.out.lt); rw [HK.out] at p0)
  obtain ⟨K3, hK⟩ : ∃ K, K = K2 ++ M3 := ⟨_, rfl⟩
  have HL3 : Hid (K3.length ≤ 18) := by show _ ≤ _; rw [hK, List.length_append]; omega
  rw [← hK] at HOz
  have HO3 := HOz
  have HK3 := Lib.hid hK
  clear hK hown hB hoa HOz hl hm
  go_wp2_with fail
  refine (bytes_any x.bal.node _ (HF.out x.bal.node (by simp [Re.nums])).1 (HF.out x.bal.node (by simp [Re.nums])).2).mono ?_
  rintro e4 wa4 ⟨ua4, rfl, hoa, hba⟩
  have hm : (enc (x.bal.node).toNat).length ≤ 9 := enc_nine (by have := (HF.out x.bal.node (by simp [Re.nums])).2; omega)
  obtain ⟨M4, hM⟩ : ∃ M, M = enc (x.bal.node).toNat := ⟨_, rfl⟩
  rw [← hM] at hoa hm HNB
  have hown := HO3.out.keep hba (Nat.le_refl _)
  have hB := HB3.out.trans (hba.mono HB3.out.size)
  have hl := HL3.out
  clear hM hba p0 p1 p2 p3 p4 p5 p6 p7 p8 p9 p10 p11
  go_wp2_with (at_builtin; refine append_bytes rfl _ _ 26 5 rfl Tryz.underlying26 info_u8 w1.heap.size K3 M4 _ _ rfl rfl hown hoa.reads (by omega) w1 hB (Nat.le_refl _) ?_; intro vb wb4 hoz hbz hgz; have HOz := Lib.hid hoz; have HB4 := Lib.hid hbz; clear hoz hbz hgz; obtain ⟨p0, p1, p2, p3, p4, p5, p6, p7, p8, p9, p10, p11⟩ := Recs.all (HM1.out.below HB4.out HM1.out.lt); rw [HK.out] at p0)
  obtain ⟨K4, hK⟩ : ∃ K, K = K3 ++ M4 := ⟨_, rfl⟩
  have HL4 : Hid (K4.length ≤ 27) := by show _ ≤ _; rw [hK, List.length_append]; omega
  rw [← hK] at HOz
  have HO4 := HOz
  have HK4 := Lib.hid hK
  clear hK hown hB hoa HOz hl hm
  go_wp2_with fail
  refine (HHI.out _).mono ?_
  rintro e' w' ⟨rfl, rfl⟩
  go_wp2_with fail
  refine (bytes_any x.index _ (HF.out x.index (by simp [Re.nums])).1 (HF.out x.index (by simp [Re.nums])).2).mono ?_
  rintro e5 wa5 ⟨ua5, rfl, hoa, hba⟩
  have hm : (enc (x.index).toNat).length ≤ 9 := enc_nine (by have := (HF.out x.index (by simp [Re.nums])).2; omega)
  obtain ⟨M5, hM⟩ : ∃ M, M = enc (x.index).toNat := ⟨_, rfl⟩
  rw [← hM] at hoa hm HNB
  have hown := HO4.out.keep hba (Nat.le_refl _)
  have hB := HB4.out.trans (hba.mono HB4.out.size)
  have hl := HL4.out
  clear hM hba p0 p1 p2 p3 p4 p5 p6 p7 p8 p9 p10 p11
  go_wp2_with (at_builtin; refine append_bytes rfl _ _ 26 5 rfl Tryz.underlying26 info_u8 w1.heap.size K4 M5 _ _ rfl rfl hown hoa.reads (by omega) w1 hB (Nat.le_refl _) ?_; intro vb wb5 hoz hbz hgz; have HOz := Lib.hid hoz; have HB5 := Lib.hid hbz; clear hoz hbz hgz; obtain ⟨p0, p1, p2, p3, p4, p5, p6, p7, p8, p9, p10, p11⟩ := Recs.all (HM1.out.below HB5.out HM1.out.lt); rw [HK.out] at p0)
  obtain ⟨K5, hK⟩ : ∃ K, K = K4 ++ M5 := ⟨_, rfl⟩
  have HL5 : Hid (K5.length ≤ 36) := by show _ ≤ _; rw [hK, List.length_append]; omega
  rw [← hK] at HOz
  have HO5 := HOz
  have HK5 := Lib.hid hK
  clear hK hown hB hoa HOz hl hm
  go_wp2_with fail
  refine (HHC.out _).mono ?_
  rintro e' w' ⟨rfl, rfl⟩
  go_wp2_with fail
  refine (HCB.out _).mono ?_
  rintro e6 wa6 ⟨ua6, rfl, hoa, hba⟩
  have hm := HCL.out
  obtain ⟨M6, hM⟩ : ∃ M, M = Cm.bytes 2 x.cmd := ⟨_, rfl⟩
  rw [← hM] at hoa hm HNB
  have hown := HO5.out.keep hba (Nat.le_refl _)
  have hB := HB5.out.trans (hba.mono HB5.out.size)
  have hl := HL5.out
  clear hM hba p0 p1 p2 p3 p4 p5 p6 p7 p8 p9 p10 p11
  go_wp2_with (at_builtin; refine append_bytes rfl _ _ 26 5 rfl Tryz.underlying26 info_u8 w1.heap.size K5 M6 _ _ rfl rfl hown hoa.reads (by omega) w1 hB (Nat.le_refl _) ?_; intro vb wb6 hoz hbz hgz; have HOE := Lib.hid hoz; have HBE := Lib.hid hbz; clear hoz hbz hgz; obtain ⟨p0, p1, p2, p3, p4, p5, p6, p7, p8, p9, p10, p11⟩ := Recs.all (HM1.out.below HBE.out HM1.out.lt); rw [HK.out] at p0)
  go_ret
  refine ⟨_, rfl, ?_, HB1.out.trans (HBE.out.mono HB1.out.size)⟩
  have hfin := HOE.out.mono HB1.out.size
  rw [HNB.out]
  rw [HK5.out, HK4.out, HK3.out] at hfin
  simp only [List.append_assoc] at hfin ⊢
  exact hfin

set_option maxRecDepth 4000 in
set_option maxHeartbeats 3200000 in
theorem refBytesRt_3 (x : Re.Rec) (vi : Value) (w : World) (hk : x.kind = 3) (hi : Reads w vi x.img) (hf : x.Fits) (hs : x.cmd.Short 1000) (hc : 1 ≤ x.cmd.kind ∧ x.cmd.kind ≤ 8) :
    Calls Tryz.prog 12 #[.int .i64 2, .agg (Re.cells x vi)] w (Makes w 5 (Rt.bytes x)) := by
  obtain ⟨w1, e1, hl1, hB1, hz1⟩ := box_rec w x vi
  obtain ⟨p0, p1, p2, p3, p4, p5, p6, p7, p8, p9, p10, p11⟩ := Recs.all hl1
  obtain ⟨io, ic, rfl⟩ := hi.shape
  have HNB : Hid (Rt.bytes x = enc ((19 : Int)).toNat ++ (enc x.index.toNat ++ (Cm.bytes 2 x.cmd))) := by show _ = _; unfold Rt.bytes; rw [hk]; simp [Mt.part, Re.hb, Re.hi, Re.hc, Re.hm]
  have HHB : Hid (∀ W, Calls Tryz.prog 25 #[.int .i64 3] W (Says W (.bool false))) := fun W => refHb_any 3 W
  have HHI : Hid (∀ W, Calls Tryz.prog 26 #[.int .i64 3] W (Says W (.bool true))) := fun W => refHi_any 3 W
  have HHC : Hid (∀ W, Calls Tryz.prog 20 #[.int .i64 3] W (Says W (.bool true))) := fun W => refHc_any 3 W
  have HF : Hid (∀ z ∈ Re.nums x, -9223372036854775808 ≤ z ∧ z ≤ 9223372036854775807) := hf.n
  have HK := Lib.hid hk
  rw [hk] at p0
  have HM1 := Lib.hid hl1; have HB1 := Lib.hid hB1
  have HIW := Lib.hid (fun W (h : Below w.heap.size w W) => hi.below h)
  have HCB := Lib.hid (fun W => refBytesCmd_any 2 x.cmd W (.inr rfl) hc.1 hc.2 hf.c hs)
  have HCL : Hid ((Cm.bytes 2 x.cmd).length ≤ 6000) := Cm.bytes_len 2 x.cmd hf.c hs
  clear hl1 hB1 hz1 hi hf hk hc hs
  go_enter Tryz.func12, Tryz.ntmps12
  go_wp2_with fail
  refine (bytes_any 19 _ (by omega) (by omega)).mono ?_
  rintro e2 w2 ⟨u2, rfl, ho2, hb2⟩
  have HO2 := Lib.hid ho2; have HB2 := Lib.hid hb2
  have HL2 : Hid ((enc ((19 : Int)).toNat).length ≤ 9) := enc_nine (by decide)
  obtain ⟨K2, hK2⟩ : ∃ K, K = enc ((19 : Int)).toNat := ⟨_, rfl⟩
  rw [← hK2] at HO2 HL2 HNB
  clear ho2 hb2 hK2 p0 p1 p2 p3 p4 p5 p6 p7 p8 p9 p10 p11
  obtain ⟨p0, p1, p2, p3, p4, p5, p6, p7, p8, p9, p10, p11⟩ := Recs.all (HM1.out.below HB2.out HM1.out.lt)
  rw [HK.out] at p0
  go_wp2_with fail
  refine (HHB.out _).mono ?_
  rintro e' w' ⟨rfl, rfl⟩
  go_wp2_with fail
  refine (HHI.out _).mono ?_
  rintro e' w' ⟨rfl, rfl⟩
  go_wp2_with fail
  refine (bytes_any x.index _ (HF.out x.index (by simp [Re.nums])).1 (HF.out x.index (by simp [Re.nums])).2).mono ?_
  rintro e3 wa3 ⟨ua3, rfl, hoa, hba⟩
  have hm : (enc (x.index).toNat).length ≤ 9 := enc_nine (by have := (HF.out x.index (by simp [Re.nums])).2; omega)
  obtain ⟨M3, hM⟩ : ∃ M, M = enc (x.index).toNat := ⟨_, rfl⟩
  rw [← hM] at hoa hm HNB
  have hown := HO2.out.keep hba (Nat.le_refl _)
  have hB := HB2.out.trans (hba.mono HB2.out.size)
  have hl := HL2.out
  clear hM hba p0 p1 p2 p3 p4 p5 p6 p7 p8 p9 p10 p11
  go_wp2_with (at_builtin; refine append_bytes rfl _ _ 26 5 rfl Tryz.underlying26 info_u8 w1.heap.size K2 M3 _ _ rfl rfl hown hoa.reads (by omega) w1 hB (Nat.le_refl _) ?_; intro vb wb3 hoz hbz hgz; have HOz := Lib.hid hoz; have HB3 := Lib.hid hbz; clear hoz hbz hgz; obtain ⟨p0, p1, p2, p3, p4, p5, p6, p7, p8, p9, p10, p11⟩ := Recs.all (HM1.out.below HB3.out HM1.out.lt); rw [HK.out] at p0)
  obtain ⟨K3, hK⟩ : ∃ K, K = K2 ++ M3 := ⟨_, rfl⟩
  have HL3 : Hid (K3.length ≤ 18) := by show _ ≤ _; rw [hK, List.length_append]; omega
  rw [← hK] at HOz
  have HO3 := HOz
  have HK3 := Lib.hid hK
  clear hK hown hB hoa HOz hl hm
  go_wp2_with fail
  refine (HHC.out _).mono ?_
  rintro e' w' ⟨rfl, rfl⟩
  go_wp2_with fail
  refine (HCB.out _).mono ?_
  rintro e4 wa4 ⟨ua4, rfl, hoa, hba⟩
  have hm := HCL.out
  obtain ⟨M4, hM⟩ : ∃ M, M = Cm.bytes 2 x.cmd := ⟨_, rfl⟩
  rw [← hM] at hoa hm HNB
  have hown := HO3.out.keep hba (Nat.le_refl _)
  have hB := HB3.out.trans (hba.mono HB3.out.size)
  have hl := HL3.out
  clear hM hba p0 p1 p2 p3 p4 p5 p6 p7 p8 p9 p10 p11
  go_wp2_with (at_builtin; refine append_bytes rfl _ _ 26 5 rfl Tryz.underlying26 info_u8 w1.heap.size K3 M4 _ _ rfl rfl hown hoa.reads (by omega) w1 hB (Nat.le_refl _) ?_; intro vb wb4 hoz hbz hgz; have HOE := Lib.hid hoz; have HBE := Lib.hid hbz; clear hoz hbz hgz; obtain ⟨p0, p1, p2, p3, p4, p5, p6, p7, p8, p9, p10, p11⟩ := Recs.all (HM1.out.below HBE.out HM1.out.lt); rw [HK.out] at p0)
  go_ret
  refine ⟨_, rfl, ?_, HB1.out.trans (HBE.out.mono HB1.out.size)⟩
  have hfin := HOE.out.mono HB1.out.size
  rw [HNB.out]
  rw [HK3.out] at hfin
  simp only [List.append_assoc] at hfin ⊢
  exact hfin

set_option maxRecDepth 4000 in
set_option maxHeartbeats 3200000 in
theorem refBytesRt_4 (x : Re.Rec) (vi : Value) (w : World) (hk : x.kind = 4) (hi : Reads w vi x.img) (hf : x.Fits) (hm : x.img.length ≤ 100000) :
    Calls Tryz.prog 12 #[.int .i64 2, .agg (Re.cells x vi)] w (Makes w 5 (Rt.bytes x)) := by
  obtain ⟨w1, e1, hl1, hB1, hz1⟩ := box_rec w x vi
  obtain ⟨p0, p1, p2, p3, p4, p5, p6, p7, p8, p9, p10, p11⟩ := Recs.all hl1
  obtain ⟨io, ic, rfl⟩ := hi.shape
  have HNB : Hid (Rt.bytes x = enc ((20 : Int)).toNat ++ (enc x.index.toNat ++ (Pk.text x.img))) := by show _ = _; unfold Rt.bytes; rw [hk]; simp [Mt.part, Re.hb, Re.hi, Re.hc, Re.hm]
  have HHB : Hid (∀ W, Calls Tryz.prog 25 #[.int .i64 4] W (Says W (.bool false))) := fun W => refHb_any 4 W
  have HHI : Hid (∀ W, Calls Tryz.prog 26 #[.int .i64 4] W (Says W (.bool true))) := fun W => refHi_any 4 W
  have HHC : Hid (∀ W, Calls Tryz.prog 20 #[.int .i64 4] W (Says W (.bool false))) := fun W => refHc_any 4 W
  have HF : Hid (∀ z ∈ Re.nums x, -9223372036854775808 ≤ z ∧ z ≤ 9223372036854775807) := hf.n
  have HK := Lib.hid hk
  rw [hk] at p0
  have HM1 := Lib.hid hl1; have HB1 := Lib.hid hB1
  have HIW := Lib.hid (fun W (h : Below w.heap.size w W) => hi.below h)
  have HIM := Lib.hid hm
  clear hl1 hB1 hz1 hi hf hk hm
  go_enter Tryz.func12, Tryz.ntmps12
  go_wp2_with fail
  refine (bytes_any 20 _ (by omega) (by omega)).mono ?_
  rintro e2 w2 ⟨u2, rfl, ho2, hb2⟩
  have HO2 := Lib.hid ho2; have HB2 := Lib.hid hb2
  have HL2 : Hid ((enc ((20 : Int)).toNat).length ≤ 9) := enc_nine (by decide)
  obtain ⟨K2, hK2⟩ : ∃ K, K = enc ((20 : Int)).toNat := ⟨_, rfl⟩
  rw [← hK2] at HO2 HL2 HNB
  clear ho2 hb2 hK2 p0 p1 p2 p3 p4 p5 p6 p7 p8 p9 p10 p11
  obtain ⟨p0, p1, p2, p3, p4, p5, p6, p7, p8, p9, p10, p11⟩ := Recs.all (HM1.out.below HB2.out HM1.out.lt)
  rw [HK.out] at p0
  go_wp2_with fail
  refine (HHB.out _).mono ?_
  rintro e' w' ⟨rfl, rfl⟩
  go_wp2_with fail
  refine (HHI.out _).mono ?_
  rintro e' w' ⟨rfl, rfl⟩
  go_wp2_with fail
  refine (bytes_any x.index _ (HF.out x.index (by simp [Re.nums])).1 (HF.out x.index (by simp [Re.nums])).2).mono ?_
  rintro e3 wa3 ⟨ua3, rfl, hoa, hba⟩
  have hm : (enc (x.index).toNat).length ≤ 9 := enc_nine (by have := (HF.out x.index (by simp [Re.nums])).2; omega)
  obtain ⟨M3, hM⟩ : ∃ M, M = enc (x.index).toNat := ⟨_, rfl⟩
  rw [← hM] at hoa hm HNB
  have hown := HO2.out.keep hba (Nat.le_refl _)
  have hB := HB2.out.trans (hba.mono HB2.out.size)
  have hl := HL2.out
  clear hM hba p0 p1 p2 p3 p4 p5 p6 p7 p8 p9 p10 p11
  go_wp2_with (at_builtin; refine append_bytes rfl _ _ 26 5 rfl Tryz.underlying26 info_u8 w1.heap.size K2 M3 _ _ rfl rfl hown hoa.reads (by omega) w1 hB (Nat.le_refl _) ?_; intro vb wb3 hoz hbz hgz; have HOz := Lib.hid hoz; have HB3 := Lib.hid hbz; clear hoz hbz hgz; obtain ⟨p0, p1, p2, p3, p4, p5, p6, p7, p8, p9, p10, p11⟩ := Recs.all (HM1.out.below HB3.out HM1.out.lt); rw [HK.out] at p0)
  obtain ⟨K3, hK⟩ : ∃ K, K = K2 ++ M3 := ⟨_, rfl⟩
  have HL3 : Hid (K3.length ≤ 18) := by show _ ≤ _; rw [hK, List.length_append]; omega
  rw [← hK] at HOz
  have HO3 := HOz
  have HK3 := Lib.hid hK
  clear hK hown hB hoa HOz hl hm
  go_wp2_with fail
  refine (HHC.out _).mono ?_
  rintro e' w' ⟨rfl, rfl⟩
  obtain ⟨n, hn⟩ : ∃ n, n = x.img.length := ⟨_, rfl⟩
  rw [← hn] at p11 HIM HIW HM1 e1 ⊢
  have HN := Lib.hid hn
  clear hn
  go_wp2_with fail
  refine (bytes_any (n : Int) _ (by omega) (by have := HIM.out; omega)).mono ?_
  rintro e4 wa4 ⟨ua4, rfl, hoa, hba⟩
  rw [Int.toNat_natCast] at hoa
  have hm : (enc n).length ≤ 9 := enc_nine (by have := HIM.out; omega)
  obtain ⟨M4, hM⟩ : ∃ M, M = enc n := ⟨_, rfl⟩
  rw [← hM] at hoa hm
  have HM4 := Lib.hid hM
  have hown := HO3.out.keep hba (Nat.le_refl _)
  have hB := HB3.out.trans (hba.mono HB3.out.size)
  have hl := HL3.out
  clear hM hba p0 p1 p2 p3 p4 p5 p6 p7 p8 p9 p10 p11
  go_wp2_with (first
    | (at_builtin; refine append_bytes rfl _ _ 26 5 rfl Tryz.underlying26 info_u8 w1.heap.size K3 M4 _ _ rfl rfl hown hoa.reads (by omega) w1 hB (Nat.le_refl _) ?_
       intro vb wb4 hoz hbz hgz
       have HO4 := Lib.hid hoz; have HB4 := Lib.hid hbz
       clear hoz hbz hgz
       obtain ⟨p0, p1, p2, p3, p4, p5, p6, p7, p8, p9, p10, p11⟩ := Recs.all (HM1.out.below HB4.out HM1.out.lt)
       rw [HK.out] at p0)
    | (at_builtin; refine append_bytes rfl _ _ 26 5 rfl Tryz.underlying26 info_u8 w1.heap.size (K3 ++ M4) x.img _ _ rfl rfl HO4.out (HIW.out _ (HB1.out.trans (HB4.out.mono HB1.out.size))) (by have := HIM.out; have := HN.out; rw [List.length_append]; omega) w1 HB4.out (Nat.le_refl _) ?_
       intro vd wd hoz hbz hgz
       have HOE := Lib.hid hoz; have HBE := Lib.hid hbz
       clear hoz hbz hgz))
  go_ret
  refine ⟨_, rfl, ?_, HB1.out.trans (HBE.out.mono HB1.out.size)⟩
  have hfin := HOE.out.mono HB1.out.size
  rw [HNB.out]
  rw [HK3.out, HM4.out, HN.out] at hfin
  unfold Pk.text
  simp only [List.append_assoc] at hfin ⊢
  exact hfin

set_option maxRecDepth 4000 in
set_option maxHeartbeats 1600000 in
theorem refBytesRt_f1 (x : Re.Rec) (vi : Value) (w : World) (ho : Re.older x = 0) (hi : Reads w vi x.img) (hf : x.Fits) (hs : x.cmd.Short 1000) (hm : x.img.length ≤ 100000) :
    Calls Tryz.prog 12 #[.int .i64 1, .agg (Re.cells x vi)] w (Makes w 5 (Re.bytes x)) := by
  obtain ⟨w1, e1, hl1, hB1, hz1⟩ := box_rec w x vi
  obtain ⟨p0, p1, p2, p3, p4, p5, p6, p7, p8, p9, p10, p11⟩ := Recs.all hl1
  have HB1 := Lib.hid hB1
  have HC := Lib.hid (refBytesRe_any x vi w1 ho (hi.below hB1) hf hs hm)
  clear hl1 hB1 hz1 hi hf hs hm ho
  go_enter Tryz.func12, Tryz.ntmps12
  go_wp2_with fail
  refine HC.out.mono ?_
  rintro e2 w2 ⟨u2, rfl, ho2, hb2⟩
  have HO2 := Lib.hid ho2; have HB2 := Lib.hid hb2
  clear ho2 hb2 p0 p1 p2 p3 p4 p5 p6 p7 p8 p9 p10 p11
  go_wp2
  go_ret
  exact ⟨_, rfl, HO2.out.mono HB1.out.size, HB1.out.trans (HB2.out.mono HB1.out.size)⟩

theorem refBytesRt_any (v : Int) (x : Re.Rec) (vi : Value) (w : World) (hv : v = 1 ∨ v = 2) (ho : Re.olderIn v x = 0) (hi : Reads w vi x.img) (hf : x.Fits) (hs : x.cmd.Short 1000) (hm : x.img.length ≤ 100000) :
    Calls Tryz.prog 12 #[.int .i64 v, .agg (Re.cells x vi)] w (Makes w 5 (Rt.bytesIn v x)) := by
  rcases hv with rfl | rfl
  · rw [show Re.olderIn 1 x = Re.older x from Re.olderIn_one x] at ho
    exact refBytesRt_f1 x vi w ho hi hf hs hm
  · rw [Rt.older_two] at ho
    have hg := Re.check_good ho
    have hkc : Re.hc x.kind = true → 1 ≤ x.cmd.kind ∧ x.cmd.kind ≤ 8 := fun h => by
      have h1 := (Cm.check_ok (hg.cmd h)).1
      unfold Cm.known at h1
      simpa using h1
    show Calls _ _ _ _ (Makes w _ (Rt.bytes x))
    rcases Re.kinds x.kind with h | h | h | h | h
    · exact refBytesRt_1 x vi w h hi hf
    · exact refBytesRt_2 x vi w h hi hf hs (hkc (by rw [h]; rfl))
    · exact refBytesRt_3 x vi w h hi hf hs (hkc (by rw [h]; rfl))
    · exact refBytesRt_4 x vi w h hi hf hm
    · have := hg.kind
      rw [(Re.has_no h).2.2.2.2] at this
      cases this

end Go.Proofs.YtaeojpcffahgmaaGreatDoor
