/- The document's Has, Large and Bytes of a record. Written by wip/tools/genrefb16.py. -/
import Derived.Test.YtegpfbmanpnhkaaDoorReRef
import Derived.Test.YtegpfbmanpnhkaaDoorGCb
namespace Go.Proofs.YtegpfbmanpnhkaaDoor
open Go.RowKit

set_option maxRecDepth 4000 in
set_option maxHeartbeats 1600000 in
theorem refOlderRe_any (x : Re.Rec) (vi : Value) (w : World) (hi : Reads w vi x.img) (hs : x.cmd.Short 140737488355328) :
    Calls Tryd.prog 13 #[.int .i64 1, .agg (Re.cells x vi)] w (Looks w (.int .i64 (Re.older x))) := by
  obtain ⟨w1, e1, hl1, hB1, hz1⟩ := box_rec w x vi
  obtain ⟨p0, p1, p2, p3, p4, p5, p6, p7, p8, p9, p10, p11⟩ := Recs.all hl1
  have HM1 := Lib.hid hl1; have HB1 := Lib.hid hB1
  have HC1 := Lib.hid (refCheckRe_any x vi w1 (hi.below hB1) hs)
  obtain ⟨r, hr⟩ : ∃ r, r = Re.older x := ⟨_, rfl⟩
  rw [← hr]
  unfold Re.older Re.newer at hr
  obtain ⟨c, hc⟩ : ∃ c, c = Re.check x := ⟨_, rfl⟩
  rw [← hc] at hr HC1
  have HHC := Lib.hid (fun W => refHc_any x.kind W)
  have HHAS := Lib.hid (fun W => refHas_any 1 x.cmd.kind W)
  obtain ⟨y, hy⟩ : ∃ y, y = Vs.has 1 x.cmd.kind := ⟨_, rfl⟩
  obtain ⟨t, ht⟩ : ∃ t, t = Re.hc x.kind := ⟨_, rfl⟩
  rw [← hy, ← ht] at hr
  rw [← hy] at HHAS
  rw [← ht] at HHC
  have HR := Lib.hid hr
  clear hl1 hB1 hz1 hi hs hr hc hy ht
  go_enter Tryd.func13, Tryd.ntmps13
  go_wp2_with fail
  refine HC1.out.mono ?_
  rintro e2 w2 ⟨rfl, hb⟩
  have HM2 := Lib.hid (HM1.out.below hb HM1.out.lt); have HB2 := Lib.hid (HB1.out.trans (hb.mono HB1.out.size))
  clear hb p0 p1 p2 p3 p4 p5 p6 p7 p8 p9 p10 p11
  by_cases h0 : c = 0
  · subst h0
    have HR2 := Lib.hid (HR.out.trans (if_neg (by simp)))
    have p0 := Recs.c0 HM2.out
    have p4 := Recs.c4 HM2.out
    cases t with
    | false =>
      have HZ : Hid (r = 0) := HR2.out.trans rfl
      go_wp2_with fail
      refine (HHC.out _).mono ?_
      rintro e3 w3 ⟨rfl, rfl⟩
      go_wp2
      go_ret
      exact ⟨by rw [HZ.out]; rfl, HB2.out⟩
    | true =>
      cases y with
      | false =>
        have HZ : Hid (r = 8) := HR2.out.trans rfl
        go_wp2_with fail
        refine (HHC.out _).mono ?_
        rintro e3 w3 ⟨rfl, rfl⟩
        go_wp2_with fail
        refine (HHAS.out _).mono ?_
        rintro e4 w4 ⟨rfl, rfl⟩
        go_wp2
        go_ret
        exact ⟨by rw [HZ.out]; rfl, HB2.out⟩
      | true =>
        have HZ : Hid (r = 0) := HR2.out.trans rfl
        go_wp2_with fail
        refine (HHC.out _).mono ?_
        rintro e3 w3 ⟨rfl, rfl⟩
        go_wp2_with fail
        refine (HHAS.out _).mono ?_
        rintro e4 w4 ⟨rfl, rfl⟩
        go_wp2
        go_ret
        exact ⟨by rw [HZ.out]; rfl, HB2.out⟩
  · have hne : (c != 0) = true := by simpa using h0
    have HZ : Hid (r = c) := HR.out.trans (if_pos h0)
    go_wp2
    go_ret
    exact ⟨by rw [HZ.out]; rfl, HB2.out⟩

set_option maxRecDepth 4000 in
set_option maxHeartbeats 1600000 in
theorem largeRe_any (x : Re.Rec) (vi : Value) (w : World) (hi : Reads w vi x.img) (hs : x.cmd.Short 9223372036854775807) :
    Calls Tryd.prog 6 #[.agg (Re.cells x vi)] w (Looks w (.bool (Re.large x))) := by
  obtain ⟨w1, e1, hl1, hB1, hz1⟩ := box_rec w x vi
  obtain ⟨io, ic, rfl⟩ := hi.shape
  have hlen := hi.len
  obtain ⟨p0, p1, p2, p3, p4, p5, p6, p7, p8, p9, p10, p11⟩ := Recs.all hl1
  have HB1 := Lib.hid hB1
  have k1 := str_size x.cmd.key; have k2 := str_size x.cmd.val; have k3 := str_size x.cmd.old
  obtain ⟨r, hr⟩ : ∃ r, r = Re.large x := ⟨_, rfl⟩
  rw [← hr]
  unfold Re.large at hr
  obtain ⟨x1, hx1⟩ : ∃ n, n = x.cmd.key.length := ⟨_, rfl⟩
  obtain ⟨x2, hx2⟩ : ∃ n, n = x.cmd.val.length := ⟨_, rfl⟩
  obtain ⟨x3, hx3⟩ : ∃ n, n = x.cmd.old.length := ⟨_, rfl⟩
  obtain ⟨n, hn⟩ : ∃ n, n = x.img.length := ⟨_, rfl⟩
  have z1 : x1 ≤ 9223372036854775807 := hx1 ▸ hs.1
  have z2 : x2 ≤ 9223372036854775807 := hx2 ▸ hs.2.2
  have z3 : x3 ≤ 9223372036854775807 := hx3 ▸ hs.2.1
  have zn : n ≤ 9223372036854775807 := by omega
  rw [← hx1, ← hx2, ← hx3, ← hn] at hr
  rw [← hx1] at k1
  rw [← hx2] at k2
  rw [← hx3] at k3
  rw [← hn] at p11 e1 ⊢
  clear hl1 hB1 hz1 hi hs hx1 hx2 hx3 hn hlen
  by_cases h1 : 200 < x1
  · have d1 : decide ((200 : Int) < (x1 : Int)) = true := by simp; omega
    have HZ : Hid (r = true) := by show _ = _; rw [hr]; simp; omega
    clear hr
    go_enter Tryd.func6, Tryd.ntmps6
    go_wp2
    go_ret
    exact ⟨by rw [HZ.out]; rfl, HB1.out⟩
  have d1 : decide ((200 : Int) < (x1 : Int)) = false := by simp; omega
  by_cases h2 : 200 < x2
  · have d2 : decide ((200 : Int) < (x2 : Int)) = true := by simp; omega
    have HZ : Hid (r = true) := by show _ = _; rw [hr]; simp; omega
    clear hr
    go_enter Tryd.func6, Tryd.ntmps6
    go_wp2
    go_ret
    exact ⟨by rw [HZ.out]; rfl, HB1.out⟩
  have d2 : decide ((200 : Int) < (x2 : Int)) = false := by simp; omega
  by_cases h3 : 200 < x3
  · have d3 : decide ((200 : Int) < (x3 : Int)) = true := by simp; omega
    have HZ : Hid (r = true) := by show _ = _; rw [hr]; simp; omega
    clear hr
    go_enter Tryd.func6, Tryd.ntmps6
    go_wp2
    go_ret
    exact ⟨by rw [HZ.out]; rfl, HB1.out⟩
  have d3 : decide ((200 : Int) < (x3 : Int)) = false := by simp; omega
  by_cases h4 : 300 < n
  · have d4 : decide ((300 : Int) < (n : Int)) = true := by simp; omega
    by_cases h5 : n < 32760
    · have d5 : decide ((n : Int) < (32760 : Int)) = true := by simp; omega
      have HZ : Hid (r = true) := by show _ = _; rw [hr]; simp; omega
      clear hr
      go_enter Tryd.func6, Tryd.ntmps6
      go_wp2
      go_ret
      exact ⟨by rw [HZ.out]; rfl, HB1.out⟩
    have d5 : decide ((n : Int) < (32760 : Int)) = false := by simp; omega
    by_cases h6 : 32780 < n
    · have d6 : decide ((32780 : Int) < (n : Int)) = true := by simp; omega
      have HZ : Hid (r = true) := by show _ = _; rw [hr]; simp; omega
      clear hr
      go_enter Tryd.func6, Tryd.ntmps6
      go_wp2
      go_ret
      exact ⟨by rw [HZ.out]; rfl, HB1.out⟩
    have d6 : decide ((32780 : Int) < (n : Int)) = false := by simp; omega
    have HZ : Hid (r = false) := by show _ = _; rw [hr]; simp; omega
    clear hr
    go_enter Tryd.func6, Tryd.ntmps6
    go_wp2
    go_ret
    exact ⟨by rw [HZ.out]; rfl, HB1.out⟩
  have d4 : decide ((300 : Int) < (n : Int)) = false := by simp; omega
  have d6 : decide ((32780 : Int) < (n : Int)) = false := by simp; omega
  have HZ : Hid (r = false) := by show _ = _; rw [hr]; simp; omega
  clear hr
  go_enter Tryd.func6, Tryd.ntmps6
  go_wp2
  go_ret
  exact ⟨by rw [HZ.out]; rfl, HB1.out⟩

/-- A command's bytes in V1 are not many. -/
theorem Cm.bytes_few1 {c : Cm.Cmd} (hf : c.Fits) (hs : c.Short 1000) : (Cm.bytes 1 c).length ≤ 100000 := by
  have a4 := enc_nine (n := c.kind.toNat) (by have := hf.k1; omega)
  have a5 := enc_nine (n := c.client.toNat) (by have := hf.c1; omega)
  have a6 := enc_nine (n := c.seq.toNat) (by have := hf.q1; omega)
  have a7 := enc_nine (n := c.node.toNat) (by have := hf.n1; omega)
  have a8 := enc_nine (n := c.key.length) (by have := hs.1; omega)
  have a9 := enc_nine (n := c.val.length) (by have := hs.2.2; omega)
  have c1 := hs.1
  have c3 := hs.2.2
  unfold Cm.bytes Cm.encoded
  rw [if_pos rfl]
  simp [Cm.fenc, Cm.F.num, Cm.Cmd.n, Cm.Cmd.s, Pk.text]
  omega

set_option maxRecDepth 4000 in
set_option maxHeartbeats 3200000 in
theorem refBytesRe_1 (x : Re.Rec) (vi : Value) (w : World) (hk : x.kind = 1) (hi : Reads w vi x.img) (hf : x.Fits) :
    Calls Tryd.prog 16 #[.agg (Re.cells x vi)] w (Makes w 5 (Re.bytes x)) := by
  obtain ⟨w1, e1, hl1, hB1, hz1⟩ := box_rec w x vi
  obtain ⟨p0, p1, p2, p3, p4, p5, p6, p7, p8, p9, p10, p11⟩ := Recs.all hl1
  obtain ⟨io, ic, rfl⟩ := hi.shape
  have HBY : Hid (Re.bytes x = Ms.nbytes (Re.nums x) ++ Re.tail x) := rfl
  have HNB : Hid (Ms.nbytes (Re.nums x) = enc ((1 : Int)).toNat ++ (enc x.bal.round.toNat ++ (enc x.bal.node.toNat ++ enc x.index.toNat))) := by show _ = _; rw [← hk]; simp [Ms.nbytes, Re.nums]
  have HTL : Hid (Re.tail x = []) := by show _ = _; unfold Re.tail; rw [hk]; rfl
  have HHC : Hid (∀ W, Calls Tryd.prog 22 #[.int .i64 1] W (Says W (.bool false))) := fun W => refHc_any 1 W
  have HF : Hid (∀ z ∈ Re.nums x, -9223372036854775808 ≤ z ∧ z ≤ 9223372036854775807) := hf.n
  have HK := Lib.hid hk
  rw [hk] at p0
  have HM1 := Lib.hid hl1; have HB1 := Lib.hid hB1
  have HIW := Lib.hid (fun W (h : Below w.heap.size w W) => hi.below h)
  clear hl1 hB1 hz1 hi hf hk
  go_enter Tryd.func16, Tryd.ntmps16
  go_wp2_with fail
  refine (bytes_any 1 _ (by omega) (by omega)).mono ?_
  rintro e2 w2 ⟨u2, rfl, ho2, hb2⟩
  have HO2 := Lib.hid ho2; have HB2 := Lib.hid hb2
  have HL2 : Hid ((enc ((1 : Int)).toNat).length ≤ 9) := enc_nine (by decide)
  obtain ⟨K2, hK2⟩ : ∃ K, K = enc ((1 : Int)).toNat := ⟨_, rfl⟩
  rw [← hK2] at HO2 HL2 HNB
  clear ho2 hb2 hK2 p0 p1 p2 p3 p4 p5 p6 p7 p8 p9 p10 p11
  obtain ⟨p0, p1, p2, p3, p4, p5, p6, p7, p8, p9, p10, p11⟩ := Recs.all (HM1.out.below HB2.out HM1.out.lt)
  rw [HK.out] at p0
  go_wp2_with fail
  refine (bytes_any x.bal.round _ (HF.out x.bal.round (by simp [Re.nums])).1 (HF.out x.bal.round (by simp [Re.nums])).2).mono ?_
  rintro e3 wa3 ⟨ua3, rfl, hoa, hba⟩
  have hm : (enc (x.bal.round).toNat).length ≤ 9 := enc_nine (by have := (HF.out x.bal.round (by simp [Re.nums])).2; omega)
  obtain ⟨M3, hM⟩ : ∃ M, M = enc (x.bal.round).toNat := ⟨_, rfl⟩
  rw [← hM] at hoa hm HNB
  have hown := HO2.out.keep hba (Nat.le_refl _)
  have hB := HB2.out.trans (hba.mono HB2.out.size)
  have hl := HL2.out
  clear hM hba p0 p1 p2 p3 p4 p5 p6 p7 p8 p9 p10 p11
  go_wp2_with (at_builtin; refine append_bytes rfl _ _ 26 5 rfl Tryd.underlying26 info_u8 w1.heap.size K2 M3 _ _ rfl rfl hown hoa.reads (by omega) w1 hB (Nat.le_refl _) ?_; intro vb wb3 hoz hbz hgz; have HOz := Lib.hid hoz; have HB3 := Lib.hid hbz; clear hoz hbz hgz; obtain ⟨p0, p1, p2, p3, p4, p5, p6, p7, p8, p9, p10, p11⟩ := Recs.all (HM1.out.below HB3.out HM1.out.lt); rw [HK.out] at p0)
  obtain ⟨K3, hK⟩ : ∃ K, K = K2 ++ M3 := ⟨_, rfl⟩
  have HL3 : Hid (K3.length ≤ 18) := by show _ ≤ _; rw [hK, List.length_append]; omega
  rw [← hK] at HOz
  have HO3 := HOz
  have HK3 := Lib.hid hK
  clear hK hown hB hoa HOz hl hm
  go_wp2_with fail
  refine (bytes_any x.bal.node _ (HF.out x.bal.node (by simp [Re.nums])).1 (HF.out x.bal.node (by simp [Re.nums])).2).mono ?_
  rintro e4 wa4 ⟨ua4, rfl, hoa, hba⟩
  have hm : (enc (x.bal.node).toNat).length ≤ 9 := enc_nine (by have := (HF.out x.bal.node (by simp [Re.nums])).2; omega)
  obtain ⟨M4, hM⟩ : ∃ M, M = enc (x.bal.node).toNat := ⟨_, rfl⟩
  rw [← hM] at hoa hm HNB
  have hown := HO3.out.keep hba (Nat.le_refl _)
  have hB := HB3.out.trans (hba.mono HB3.out.size)
  have hl := HL3.out
  clear hM hba p0 p1 p2 p3 p4 p5 p6 p7 p8 p9 p10 p11
  go_wp2_with (at_builtin; refine append_bytes rfl _ _ 26 5 rfl Tryd.underlying26 info_u8 w1.heap.size K3 M4 _ _ rfl rfl hown hoa.reads (by omega) w1 hB (Nat.le_refl _) ?_; intro vb wb4 hoz hbz hgz; have HOz := Lib.hid hoz; have HB4 := Lib.hid hbz; clear hoz hbz hgz; obtain ⟨p0, p1, p2, p3, p4, p5, p6, p7, p8, p9, p10, p11⟩ := Recs.all (HM1.out.below HB4.out HM1.out.lt); rw [HK.out] at p0)
  obtain ⟨K4, hK⟩ : ∃ K, K = K3 ++ M4 := ⟨_, rfl⟩
  have HL4 : Hid (K4.length ≤ 27) := by show _ ≤ _; rw [hK, List.length_append]; omega
  rw [← hK] at HOz
  have HO4 := HOz
  have HK4 := Lib.hid hK
  clear hK hown hB hoa HOz hl hm
  go_wp2_with fail
  refine (bytes_any x.index _ (HF.out x.index (by simp [Re.nums])).1 (HF.out x.index (by simp [Re.nums])).2).mono ?_
  rintro e5 wa5 ⟨ua5, rfl, hoa, hba⟩
  have hm : (enc (x.index).toNat).length ≤ 9 := enc_nine (by have := (HF.out x.index (by simp [Re.nums])).2; omega)
  obtain ⟨M5, hM⟩ : ∃ M, M = enc (x.index).toNat := ⟨_, rfl⟩
  rw [← hM] at hoa hm HNB
  have hown := HO4.out.keep hba (Nat.le_refl _)
  have hB := HB4.out.trans (hba.mono HB4.out.size)
  have hl := HL4.out
  clear hM hba p0 p1 p2 p3 p4 p5 p6 p7 p8 p9 p10 p11
  go_wp2_with (at_builtin; refine append_bytes rfl _ _ 26 5 rfl Tryd.underlying26 info_u8 w1.heap.size K4 M5 _ _ rfl rfl hown hoa.reads (by omega) w1 hB (Nat.le_refl _) ?_; intro vb wb5 hoz hbz hgz; have HOz := Lib.hid hoz; have HB5 := Lib.hid hbz; clear hoz hbz hgz; obtain ⟨p0, p1, p2, p3, p4, p5, p6, p7, p8, p9, p10, p11⟩ := Recs.all (HM1.out.below HB5.out HM1.out.lt); rw [HK.out] at p0)
  obtain ⟨K5, hK⟩ : ∃ K, K = K4 ++ M5 := ⟨_, rfl⟩
  have HL5 : Hid (K5.length ≤ 36) := by show _ ≤ _; rw [hK, List.length_append]; omega
  rw [← hK] at HOz
  have HO5 := HOz
  have HK5 := Lib.hid hK
  clear hK hown hB hoa HOz hl hm
  go_wp2_with fail
  refine (HHC.out _).mono ?_
  rintro e' w' ⟨rfl, rfl⟩
  go_wp2
  go_ret
  have HOE := HO5; have HBE := HB5
  refine ⟨_, rfl, ?_, HB1.out.trans (HBE.out.mono HB1.out.size)⟩
  have hfin := HOE.out.mono HB1.out.size
  rw [HBY.out, HTL.out, HNB.out]
  rw [HK5.out, HK4.out, HK3.out] at hfin
  simp only [List.append_assoc, List.append_nil] at hfin ⊢
  exact hfin

set_option maxRecDepth 4000 in
set_option maxHeartbeats 3200000 in
theorem refBytesRe_2 (x : Re.Rec) (vi : Value) (w : World) (hk : x.kind = 2) (hi : Reads w vi x.img) (hf : x.Fits) (hs : x.cmd.Short 1000) (hc : 1 ≤ x.cmd.kind ∧ x.cmd.kind ≤ 8) :
    Calls Tryd.prog 16 #[.agg (Re.cells x vi)] w (Makes w 5 (Re.bytes x)) := by
  obtain ⟨w1, e1, hl1, hB1, hz1⟩ := box_rec w x vi
  obtain ⟨p0, p1, p2, p3, p4, p5, p6, p7, p8, p9, p10, p11⟩ := Recs.all hl1
  obtain ⟨io, ic, rfl⟩ := hi.shape
  have HBY : Hid (Re.bytes x = Ms.nbytes (Re.nums x) ++ Re.tail x) := rfl
  have HNB : Hid (Ms.nbytes (Re.nums x) = enc ((2 : Int)).toNat ++ (enc x.bal.round.toNat ++ (enc x.bal.node.toNat ++ enc x.index.toNat))) := by show _ = _; rw [← hk]; simp [Ms.nbytes, Re.nums]
  have HTL : Hid (Re.tail x = Cm.bytes 1 x.cmd) := by show _ = _; unfold Re.tail; rw [hk]; rfl
  have HHC : Hid (∀ W, Calls Tryd.prog 22 #[.int .i64 2] W (Says W (.bool true))) := fun W => refHc_any 2 W
  have HF : Hid (∀ z ∈ Re.nums x, -9223372036854775808 ≤ z ∧ z ≤ 9223372036854775807) := hf.n
  have HK := Lib.hid hk
  rw [hk] at p0
  have HM1 := Lib.hid hl1; have HB1 := Lib.hid hB1
  have HIW := Lib.hid (fun W (h : Below w.heap.size w W) => hi.below h)
  have HCB := Lib.hid (fun W => refBytesCmd_any 1 x.cmd W (.inl rfl) hc.1 hc.2 hf.c hs)
  have HCL : Hid ((Cm.bytes 1 x.cmd).length ≤ 100000) := by
    exact Cm.bytes_few1 hf.c hs
  clear hl1 hB1 hz1 hi hf hk hc hs
  go_enter Tryd.func16, Tryd.ntmps16
  go_wp2_with fail
  refine (bytes_any 2 _ (by omega) (by omega)).mono ?_
  rintro e2 w2 ⟨u2, rfl, ho2, hb2⟩
  have HO2 := Lib.hid ho2; have HB2 := Lib.hid hb2
  have HL2 : Hid ((enc ((2 : Int)).toNat).length ≤ 9) := enc_nine (by decide)
  obtain ⟨K2, hK2⟩ : ∃ K, K = enc ((2 : Int)).toNat := ⟨_, rfl⟩
  rw [← hK2] at HO2 HL2 HNB
  clear ho2 hb2 hK2 p0 p1 p2 p3 p4 p5 p6 p7 p8 p9 p10 p11
  obtain ⟨p0, p1, p2, p3, p4, p5, p6, p7, p8, p9, p10, p11⟩ := Recs.all (HM1.out.below HB2.out HM1.out.lt)
  rw [HK.out] at p0
  go_wp2_with fail
  refine (bytes_any x.bal.round _ (HF.out x.bal.round (by simp [Re.nums])).1 (HF.out x.bal.round (by simp [Re.nums])).2).mono ?_
  rintro e3 wa3 ⟨ua3, rfl, hoa, hba⟩
  have hm : (enc (x.bal.round).toNat).length ≤ 9 := enc_nine (by have := (HF.out x.bal.round (by simp [Re.nums])).2; omega)
  obtain ⟨M3, hM⟩ : ∃ M, M = enc (x.bal.round).toNat := ⟨_, rfl⟩
  rw [← hM] at hoa hm HNB
  have hown := HO2.out.keep hba (Nat.le_refl _)
  have hB := HB2.out.trans (hba.mono HB2.out.size)
  have hl := HL2.out
  clear hM hba p0 p1 p2 p3 p4 p5 p6 p7 p8 p9 p10 p11
  go_wp2_with (at_builtin; refine append_bytes rfl _ _ 26 5 rfl Tryd.underlying26 info_u8 w1.heap.size K2 M3 _ _ rfl rfl hown hoa.reads (by omega) w1 hB (Nat.le_refl _) ?_; intro vb wb3 hoz hbz hgz; have HOz := Lib.hid hoz; have HB3 := Lib.hid hbz; clear hoz hbz hgz; obtain ⟨p0, p1, p2, p3, p4, p5, p6, p7, p8, p9, p10, p11⟩ := Recs.all (HM1.out.below HB3.out HM1.out.lt); rw [HK.out] at p0)
  obtain ⟨K3, hK⟩ : ∃ K, K = K2 ++ M3 := ⟨_, rfl⟩
  have HL3 : Hid (K3.length ≤ 18) := by show _ ≤ _; rw [hK, List.length_append]; omega
  rw [← hK] at HOz
  have HO3 := HOz
  have HK3 := Lib.hid hK
  clear hK hown hB hoa HOz hl hm
  go_wp2_with fail
  refine (bytes_any x.bal.node _ (HF.out x.bal.node (by simp [Re.nums])).1 (HF.out x.bal.node (by simp [Re.nums])).2).mono ?_
  rintro e4 wa4 ⟨ua4, rfl, hoa, hba⟩
  have hm : (enc (x.bal.node).toNat).length ≤ 9 := enc_nine (by have := (HF.out x.bal.node (by simp [Re.nums])).2; omega)
  obtain ⟨M4, hM⟩ : ∃ M, M = enc (x.bal.node).toNat := ⟨_, rfl⟩
  rw [← hM] at hoa hm HNB
  have hown := HO3.out.keep hba (Nat.le_refl _)
  have hB := HB3.out.trans (hba.mono HB3.out.size)
  have hl := HL3.out
  clear hM hba p0 p1 p2 p3 p4 p5 p6 p7 p8 p9 p10 p11
  go_wp2_with (at_builtin; refine append_bytes rfl _ _ 26 5 rfl Tryd.underlying26 info_u8 w1.heap.size K3 M4 _ _ rfl rfl hown hoa.reads (by omega) w1 hB (Nat.le_refl _) ?_; intro vb wb4 hoz hbz hgz; have HOz := Lib.hid hoz; have HB4 := Lib.hid hbz; clear hoz hbz hgz; obtain ⟨p0, p1, p2, p3, p4, p5, p6, p7, p8, p9, p10, p11⟩ := Recs.all (HM1.out.below HB4.out HM1.out.lt); rw [HK.out] at p0)
  obtain ⟨K4, hK⟩ : ∃ K, K = K3 ++ M4 := ⟨_, rfl⟩
  have HL4 : Hid (K4.length ≤ 27) := by show _ ≤ _; rw [hK, List.length_append]; omega
  rw [← hK] at HOz
  have HO4 := HOz
  have HK4 := Lib.hid hK
  clear hK hown hB hoa HOz hl hm
  go_wp2_with fail
  refine (bytes_any x.index _ (HF.out x.index (by simp [Re.nums])).1 (HF.out x.index (by simp [Re.nums])).2).mono ?_
  rintro e5 wa5 ⟨ua5, rfl, hoa, hba⟩
  have hm : (enc (x.index).toNat).length ≤ 9 := enc_nine (by have := (HF.out x.index (by simp [Re.nums])).2; omega)
  obtain ⟨M5, hM⟩ : ∃ M, M = enc (x.index).toNat := ⟨_, rfl⟩
  rw [← hM] at hoa hm HNB
  have hown := HO4.out.keep hba (Nat.le_refl _)
  have hB := HB4.out.trans (hba.mono HB4.out.size)
  have hl := HL4.out
  clear hM hba p0 p1 p2 p3 p4 p5 p6 p7 p8 p9 p10 p11
  go_wp2_with (at_builtin; refine append_bytes rfl _ _ 26 5 rfl Tryd.underlying26 info_u8 w1.heap.size K4 M5 _ _ rfl rfl hown hoa.reads (by omega) w1 hB (Nat.le_refl _) ?_; intro vb wb5 hoz hbz hgz; have HOz := Lib.hid hoz; have HB5 := Lib.hid hbz; clear hoz hbz hgz; obtain ⟨p0, p1, p2, p3, p4, p5, p6, p7, p8, p9, p10, p11⟩ := Recs.all (HM1.out.below HB5.out HM1.out.lt); rw [HK.out] at p0)
  obtain ⟨K5, hK⟩ : ∃ K, K = K4 ++ M5 := ⟨_, rfl⟩
  have HL5 : Hid (K5.length ≤ 36) := by show _ ≤ _; rw [hK, List.length_append]; omega
  rw [← hK] at HOz
  have HO5 := HOz
  have HK5 := Lib.hid hK
  clear hK hown hB hoa HOz hl hm
  go_wp2_with fail
  refine (HHC.out _).mono ?_
  rintro e' w' ⟨rfl, rfl⟩
  go_wp2_with fail
  refine (HCB.out _).mono ?_
  rintro e6 wa6 ⟨ua6, rfl, hoa, hba⟩
  have hm := HCL.out
  obtain ⟨M6, hM⟩ : ∃ M, M = Cm.bytes 1 x.cmd := ⟨_, rfl⟩
  rw [← hM] at hoa hm HTL
  have hown := HO5.out.keep hba (Nat.le_refl _)
  have hB := HB5.out.trans (hba.mono HB5.out.size)
  have hl := HL5.out
  clear hM hba p0 p1 p2 p3 p4 p5 p6 p7 p8 p9 p10 p11
  go_wp2_with (at_builtin; refine append_bytes rfl _ _ 26 5 rfl Tryd.underlying26 info_u8 w1.heap.size K5 M6 _ _ rfl rfl hown hoa.reads (by omega) w1 hB (Nat.le_refl _) ?_; intro vb wb6 hoz hbz hgz; have HOE := Lib.hid hoz; have HBE := Lib.hid hbz; clear hoz hbz hgz; obtain ⟨p0, p1, p2, p3, p4, p5, p6, p7, p8, p9, p10, p11⟩ := Recs.all (HM1.out.below HBE.out HM1.out.lt); rw [HK.out] at p0)
  go_ret
  refine ⟨_, rfl, ?_, HB1.out.trans (HBE.out.mono HB1.out.size)⟩
  have hfin := HOE.out.mono HB1.out.size
  rw [HBY.out, HTL.out, HNB.out]
  rw [HK5.out, HK4.out, HK3.out] at hfin
  simp only [List.append_assoc] at hfin ⊢
  exact hfin

set_option maxRecDepth 4000 in
set_option maxHeartbeats 3200000 in
theorem refBytesRe_3 (x : Re.Rec) (vi : Value) (w : World) (hk : x.kind = 3) (hi : Reads w vi x.img) (hf : x.Fits) (hs : x.cmd.Short 1000) (hc : 1 ≤ x.cmd.kind ∧ x.cmd.kind ≤ 8) :
    Calls Tryd.prog 16 #[.agg (Re.cells x vi)] w (Makes w 5 (Re.bytes x)) := by
  obtain ⟨w1, e1, hl1, hB1, hz1⟩ := box_rec w x vi
  obtain ⟨p0, p1, p2, p3, p4, p5, p6, p7, p8, p9, p10, p11⟩ := Recs.all hl1
  obtain ⟨io, ic, rfl⟩ := hi.shape
  have HBY : Hid (Re.bytes x = Ms.nbytes (Re.nums x) ++ Re.tail x) := rfl
  have HNB : Hid (Ms.nbytes (Re.nums x) = enc ((3 : Int)).toNat ++ (enc x.bal.round.toNat ++ (enc x.bal.node.toNat ++ enc x.index.toNat))) := by show _ = _; rw [← hk]; simp [Ms.nbytes, Re.nums]
  have HTL : Hid (Re.tail x = Cm.bytes 1 x.cmd) := by show _ = _; unfold Re.tail; rw [hk]; rfl
  have HHC : Hid (∀ W, Calls Tryd.prog 22 #[.int .i64 3] W (Says W (.bool true))) := fun W => refHc_any 3 W
  have HF : Hid (∀ z ∈ Re.nums x, -9223372036854775808 ≤ z ∧ z ≤ 9223372036854775807) := hf.n
  have HK := Lib.hid hk
  rw [hk] at p0
  have HM1 := Lib.hid hl1; have HB1 := Lib.hid hB1
  have HIW := Lib.hid (fun W (h : Below w.heap.size w W) => hi.below h)
  have HCB := Lib.hid (fun W => refBytesCmd_any 1 x.cmd W (.inl rfl) hc.1 hc.2 hf.c hs)
  have HCL : Hid ((Cm.bytes 1 x.cmd).length ≤ 100000) := by
    exact Cm.bytes_few1 hf.c hs
  clear hl1 hB1 hz1 hi hf hk hc hs
  go_enter Tryd.func16, Tryd.ntmps16
  go_wp2_with fail
  refine (bytes_any 3 _ (by omega) (by omega)).mono ?_
  rintro e2 w2 ⟨u2, rfl, ho2, hb2⟩
  have HO2 := Lib.hid ho2; have HB2 := Lib.hid hb2
  have HL2 : Hid ((enc ((3 : Int)).toNat).length ≤ 9) := enc_nine (by decide)
  obtain ⟨K2, hK2⟩ : ∃ K, K = enc ((3 : Int)).toNat := ⟨_, rfl⟩
  rw [← hK2] at HO2 HL2 HNB
  clear ho2 hb2 hK2 p0 p1 p2 p3 p4 p5 p6 p7 p8 p9 p10 p11
  obtain ⟨p0, p1, p2, p3, p4, p5, p6, p7, p8, p9, p10, p11⟩ := Recs.all (HM1.out.below HB2.out HM1.out.lt)
  rw [HK.out] at p0
  go_wp2_with fail
  refine (bytes_any x.bal.round _ (HF.out x.bal.round (by simp [Re.nums])).1 (HF.out x.bal.round (by simp [Re.nums])).2).mono ?_
  rintro e3 wa3 ⟨ua3, rfl, hoa, hba⟩
  have hm : (enc (x.bal.round).toNat).length ≤ 9 := enc_nine (by have := (HF.out x.bal.round (by simp [Re.nums])).2; omega)
  obtain ⟨M3, hM⟩ : ∃ M, M = enc (x.bal.round).toNat := ⟨_, rfl⟩
  rw [← hM] at hoa hm HNB
  have hown := HO2.out.keep hba (Nat.le_refl _)
  have hB := HB2.out.trans (hba.mono HB2.out.size)
  have hl := HL2.out
  clear hM hba p0 p1 p2 p3 p4 p5 p6 p7 p8 p9 p10 p11
  go_wp2_with (at_builtin; refine append_bytes rfl _ _ 26 5 rfl Tryd.underlying26 info_u8 w1.heap.size K2 M3 _ _ rfl rfl hown hoa.reads (by omega) w1 hB (Nat.le_refl _) ?_; intro vb wb3 hoz hbz hgz; have HOz := Lib.hid hoz; have HB3 := Lib.hid hbz; clear hoz hbz hgz; obtain ⟨p0, p1, p2, p3, p4, p5, p6, p7, p8, p9, p10, p11⟩ := Recs.all (HM1.out.below HB3.out HM1.out.lt); rw [HK.out] at p0)
  obtain ⟨K3, hK⟩ : ∃ K, K = K2 ++ M3 := ⟨_, rfl⟩
  have HL3 : Hid (K3.length ≤ 18) := by show _ ≤ _; rw [hK, List.length_append]; omega
  rw [← hK] at HOz
  have HO3 := HOz
  have HK3 := Lib.hid hK
  clear hK hown hB hoa HOz hl hm
  go_wp2_with fail
  refine (bytes_any x.bal.node _ (HF.out x.bal.node (by simp [Re.nums])).1 (HF.out x.bal.node (by simp [Re.nums])).2).mono ?_
  rintro e4 wa4 ⟨ua4, rfl, hoa, hba⟩
  have hm : (enc (x.bal.node).toNat).length ≤ 9 := enc_nine (by have := (HF.out x.bal.node (by simp [Re.nums])).2; omega)
  obtain ⟨M4, hM⟩ : ∃ M, M = enc (x.bal.node).toNat := ⟨_, rfl⟩
  rw [← hM] at hoa hm HNB
  have hown := HO3.out.keep hba (Nat.le_refl _)
  have hB := HB3.out.trans (hba.mono HB3.out.size)
  have hl := HL3.out
  clear hM hba p0 p1 p2 p3 p4 p5 p6 p7 p8 p9 p10 p11
  go_wp2_with (at_builtin; refine append_bytes rfl _ _ 26 5 rfl Tryd.underlying26 info_u8 w1.heap.size K3 M4 _ _ rfl rfl hown hoa.reads (by omega) w1 hB (Nat.le_refl _) ?_; intro vb wb4 hoz hbz hgz; have HOz := Lib.hid hoz; have HB4 := Lib.hid hbz; clear hoz hbz hgz; obtain ⟨p0, p1, p2, p3, p4, p5, p6, p7, p8, p9, p10, p11⟩ := Recs.all (HM1.out.below HB4.out HM1.out.lt); rw [HK.out] at p0)
  obtain ⟨K4, hK⟩ : ∃ K, K = K3 ++ M4 := ⟨_, rfl⟩
  have HL4 : Hid (K4.length ≤ 27) := by show _ ≤ _; rw [hK, List.length_append]; omega
  rw [← hK] at HOz
  have HO4 := HOz
  have HK4 := Lib.hid hK
  clear hK hown hB hoa HOz hl hm
  go_wp2_with fail
  refine (bytes_any x.index _ (HF.out x.index (by simp [Re.nums])).1 (HF.out x.index (by simp [Re.nums])).2).mono ?_
  rintro e5 wa5 ⟨ua5, rfl, hoa, hba⟩
  have hm : (enc (x.index).toNat).length ≤ 9 := enc_nine (by have := (HF.out x.index (by simp [Re.nums])).2; omega)
  obtain ⟨M5, hM⟩ : ∃ M, M = enc (x.index).toNat := ⟨_, rfl⟩
  rw [← hM] at hoa hm HNB
  have hown := HO4.out.keep hba (Nat.le_refl _)
  have hB := HB4.out.trans (hba.mono HB4.out.size)
  have hl := HL4.out
  clear hM hba p0 p1 p2 p3 p4 p5 p6 p7 p8 p9 p10 p11
  go_wp2_with (at_builtin; refine append_bytes rfl _ _ 26 5 rfl Tryd.underlying26 info_u8 w1.heap.size K4 M5 _ _ rfl rfl hown hoa.reads (by omega) w1 hB (Nat.le_refl _) ?_; intro vb wb5 hoz hbz hgz; have HOz := Lib.hid hoz; have HB5 := Lib.hid hbz; clear hoz hbz hgz; obtain ⟨p0, p1, p2, p3, p4, p5, p6, p7, p8, p9, p10, p11⟩ := Recs.all (HM1.out.below HB5.out HM1.out.lt); rw [HK.out] at p0)
  obtain ⟨K5, hK⟩ : ∃ K, K = K4 ++ M5 := ⟨_, rfl⟩
  have HL5 : Hid (K5.length ≤ 36) := by show _ ≤ _; rw [hK, List.length_append]; omega
  rw [← hK] at HOz
  have HO5 := HOz
  have HK5 := Lib.hid hK
  clear hK hown hB hoa HOz hl hm
  go_wp2_with fail
  refine (HHC.out _).mono ?_
  rintro e' w' ⟨rfl, rfl⟩
  go_wp2_with fail
  refine (HCB.out _).mono ?_
  rintro e6 wa6 ⟨ua6, rfl, hoa, hba⟩
  have hm := HCL.out
  obtain ⟨M6, hM⟩ : ∃ M, M = Cm.bytes 1 x.cmd := ⟨_, rfl⟩
  rw [← hM] at hoa hm HTL
  have hown := HO5.out.keep hba (Nat.le_refl _)
  have hB := HB5.out.trans (hba.mono HB5.out.size)
  have hl := HL5.out
  clear hM hba p0 p1 p2 p3 p4 p5 p6 p7 p8 p9 p10 p11
  go_wp2_with (at_builtin; refine append_bytes rfl _ _ 26 5 rfl Tryd.underlying26 info_u8 w1.heap.size K5 M6 _ _ rfl rfl hown hoa.reads (by omega) w1 hB (Nat.le_refl _) ?_; intro vb wb6 hoz hbz hgz; have HOE := Lib.hid hoz; have HBE := Lib.hid hbz; clear hoz hbz hgz; obtain ⟨p0, p1, p2, p3, p4, p5, p6, p7, p8, p9, p10, p11⟩ := Recs.all (HM1.out.below HBE.out HM1.out.lt); rw [HK.out] at p0)
  go_ret
  refine ⟨_, rfl, ?_, HB1.out.trans (HBE.out.mono HB1.out.size)⟩
  have hfin := HOE.out.mono HB1.out.size
  rw [HBY.out, HTL.out, HNB.out]
  rw [HK5.out, HK4.out, HK3.out] at hfin
  simp only [List.append_assoc] at hfin ⊢
  exact hfin

set_option maxRecDepth 4000 in
set_option maxHeartbeats 3200000 in
theorem refBytesRe_4 (x : Re.Rec) (vi : Value) (w : World) (hk : x.kind = 4) (hi : Reads w vi x.img) (hf : x.Fits) (hm : x.img.length ≤ 100000) :
    Calls Tryd.prog 16 #[.agg (Re.cells x vi)] w (Makes w 5 (Re.bytes x)) := by
  obtain ⟨w1, e1, hl1, hB1, hz1⟩ := box_rec w x vi
  obtain ⟨p0, p1, p2, p3, p4, p5, p6, p7, p8, p9, p10, p11⟩ := Recs.all hl1
  obtain ⟨io, ic, rfl⟩ := hi.shape
  have HBY : Hid (Re.bytes x = Ms.nbytes (Re.nums x) ++ Re.tail x) := rfl
  have HNB : Hid (Ms.nbytes (Re.nums x) = enc ((4 : Int)).toNat ++ (enc x.bal.round.toNat ++ (enc x.bal.node.toNat ++ enc x.index.toNat))) := by show _ = _; rw [← hk]; simp [Ms.nbytes, Re.nums]
  have HTL : Hid (Re.tail x = Pk.text x.img) := by show _ = _; unfold Re.tail; rw [hk]; rfl
  have HHC : Hid (∀ W, Calls Tryd.prog 22 #[.int .i64 4] W (Says W (.bool false))) := fun W => refHc_any 4 W
  have HF : Hid (∀ z ∈ Re.nums x, -9223372036854775808 ≤ z ∧ z ≤ 9223372036854775807) := hf.n
  have HK := Lib.hid hk
  rw [hk] at p0
  have HM1 := Lib.hid hl1; have HB1 := Lib.hid hB1
  have HIW := Lib.hid (fun W (h : Below w.heap.size w W) => hi.below h)
  have HIM := Lib.hid hm
  clear hl1 hB1 hz1 hi hf hk hm
  go_enter Tryd.func16, Tryd.ntmps16
  go_wp2_with fail
  refine (bytes_any 4 _ (by omega) (by omega)).mono ?_
  rintro e2 w2 ⟨u2, rfl, ho2, hb2⟩
  have HO2 := Lib.hid ho2; have HB2 := Lib.hid hb2
  have HL2 : Hid ((enc ((4 : Int)).toNat).length ≤ 9) := enc_nine (by decide)
  obtain ⟨K2, hK2⟩ : ∃ K, K = enc ((4 : Int)).toNat := ⟨_, rfl⟩
  rw [← hK2] at HO2 HL2 HNB
  clear ho2 hb2 hK2 p0 p1 p2 p3 p4 p5 p6 p7 p8 p9 p10 p11
  obtain ⟨p0, p1, p2, p3, p4, p5, p6, p7, p8, p9, p10, p11⟩ := Recs.all (HM1.out.below HB2.out HM1.out.lt)
  rw [HK.out] at p0
  go_wp2_with fail
  refine (bytes_any x.bal.round _ (HF.out x.bal.round (by simp [Re.nums])).1 (HF.out x.bal.round (by simp [Re.nums])).2).mono ?_
  rintro e3 wa3 ⟨ua3, rfl, hoa, hba⟩
  have hm : (enc (x.bal.round).toNat).length ≤ 9 := enc_nine (by have := (HF.out x.bal.round (by simp [Re.nums])).2; omega)
  obtain ⟨M3, hM⟩ : ∃ M, M = enc (x.bal.round).toNat := ⟨_, rfl⟩
  rw [← hM] at hoa hm HNB
  have hown := HO2.out.keep hba (Nat.le_refl _)
  have hB := HB2.out.trans (hba.mono HB2.out.size)
  have hl := HL2.out
  clear hM hba p0 p1 p2 p3 p4 p5 p6 p7 p8 p9 p10 p11
  go_wp2_with (at_builtin; refine append_bytes rfl _ _ 26 5 rfl Tryd.underlying26 info_u8 w1.heap.size K2 M3 _ _ rfl rfl hown hoa.reads (by omega) w1 hB (Nat.le_refl _) ?_; intro vb wb3 hoz hbz hgz; have HOz := Lib.hid hoz; have HB3 := Lib.hid hbz; clear hoz hbz hgz; obtain ⟨p0, p1, p2, p3, p4, p5, p6, p7, p8, p9, p10, p11⟩ := Recs.all (HM1.out.below HB3.out HM1.out.lt); rw [HK.out] at p0)
  obtain ⟨K3, hK⟩ : ∃ K, K = K2 ++ M3 := ⟨_, rfl⟩
  have HL3 : Hid (K3.length ≤ 18) := by show _ ≤ _; rw [hK, List.length_append]; omega
  rw [← hK] at HOz
  have HO3 := HOz
  have HK3 := Lib.hid hK
  clear hK hown hB hoa HOz hl hm
  go_wp2_with fail
  refine (bytes_any x.bal.node _ (HF.out x.bal.node (by simp [Re.nums])).1 (HF.out x.bal.node (by simp [Re.nums])).2).mono ?_
  rintro e4 wa4 ⟨ua4, rfl, hoa, hba⟩
  have hm : (enc (x.bal.node).toNat).length ≤ 9 := enc_nine (by have := (HF.out x.bal.node (by simp [Re.nums])).2; omega)
  obtain ⟨M4, hM⟩ : ∃ M, M = enc (x.bal.node).toNat := ⟨_, rfl⟩
  rw [← hM] at hoa hm HNB
  have hown := HO3.out.keep hba (Nat.le_refl _)
  have hB := HB3.out.trans (hba.mono HB3.out.size)
  have hl := HL3.out
  clear hM hba p0 p1 p2 p3 p4 p5 p6 p7 p8 p9 p10 p11
  go_wp2_with (at_builtin; refine append_bytes rfl _ _ 26 5 rfl Tryd.underlying26 info_u8 w1.heap.size K3 M4 _ _ rfl rfl hown hoa.reads (by omega) w1 hB (Nat.le_refl _) ?_; intro vb wb4 hoz hbz hgz; have HOz := Lib.hid hoz; have HB4 := Lib.hid hbz; clear hoz hbz hgz; obtain ⟨p0, p1, p2, p3, p4, p5, p6, p7, p8, p9, p10, p11⟩ := Recs.all (HM1.out.below HB4.out HM1.out.lt); rw [HK.out] at p0)
  obtain ⟨K4, hK⟩ : ∃ K, K = K3 ++ M4 := ⟨_, rfl⟩
  have HL4 : Hid (K4.length ≤ 27) := by show _ ≤ _; rw [hK, List.length_append]; omega
  rw [← hK] at HOz
  have HO4 := HOz
  have HK4 := Lib.hid hK
  clear hK hown hB hoa HOz hl hm
  go_wp2_with fail
  refine (bytes_any x.index _ (HF.out x.index (by simp [Re.nums])).1 (HF.out x.index (by simp [Re.nums])).2).mono ?_
  rintro e5 wa5 ⟨ua5, rfl, hoa, hba⟩
  have hm : (enc (x.index).toNat).length ≤ 9 := enc_nine (by have := (HF.out x.index (by simp [Re.nums])).2; omega)
  obtain ⟨M5, hM⟩ : ∃ M, M = enc (x.index).toNat := ⟨_, rfl⟩
  rw [← hM] at hoa hm HNB
  have hown := HO4.out.keep hba (Nat.le_refl _)
  have hB := HB4.out.trans (hba.mono HB4.out.size)
  have hl := HL4.out
  clear hM hba p0 p1 p2 p3 p4 p5 p6 p7 p8 p9 p10 p11
  go_wp2_with (at_builtin; refine append_bytes rfl _ _ 26 5 rfl Tryd.underlying26 info_u8 w1.heap.size K4 M5 _ _ rfl rfl hown hoa.reads (by omega) w1 hB (Nat.le_refl _) ?_; intro vb wb5 hoz hbz hgz; have HOz := Lib.hid hoz; have HB5 := Lib.hid hbz; clear hoz hbz hgz; obtain ⟨p0, p1, p2, p3, p4, p5, p6, p7, p8, p9, p10, p11⟩ := Recs.all (HM1.out.below HB5.out HM1.out.lt); rw [HK.out] at p0)
  obtain ⟨K5, hK⟩ : ∃ K, K = K4 ++ M5 := ⟨_, rfl⟩
  have HL5 : Hid (K5.length ≤ 36) := by show _ ≤ _; rw [hK, List.length_append]; omega
  rw [← hK] at HOz
  have HO5 := HOz
  have HK5 := Lib.hid hK
  clear hK hown hB hoa HOz hl hm
  go_wp2_with fail
  refine (HHC.out _).mono ?_
  rintro e' w' ⟨rfl, rfl⟩
  obtain ⟨n, hn⟩ : ∃ n, n = x.img.length := ⟨_, rfl⟩
  rw [← hn] at p11 HIM HIW HM1 e1 ⊢
  have HN := Lib.hid hn
  clear hn
  go_wp2_with fail
  refine (bytes_any (n : Int) _ (by omega) (by have := HIM.out; omega)).mono ?_
  rintro e6 wa6 ⟨ua6, rfl, hoa, hba⟩
  rw [Int.toNat_natCast] at hoa
  have hm : (enc n).length ≤ 9 := enc_nine (by have := HIM.out; omega)
  obtain ⟨M6, hM⟩ : ∃ M, M = enc n := ⟨_, rfl⟩
  rw [← hM] at hoa hm
  have HM6 := Lib.hid hM
  have hown := HO5.out.keep hba (Nat.le_refl _)
  have hB := HB5.out.trans (hba.mono HB5.out.size)
  have hl := HL5.out
  clear hM hba p0 p1 p2 p3 p4 p5 p6 p7 p8 p9 p10 p11
  go_wp2_with (first
    | (at_builtin; refine append_bytes rfl _ _ 26 5 rfl Tryd.underlying26 info_u8 w1.heap.size K5 M6 _ _ rfl rfl hown hoa.reads (by omega) w1 hB (Nat.le_refl _) ?_
       intro vb wb6 hoz hbz hgz
       have HO6 := Lib.hid hoz; have HB6 := Lib.hid hbz
       clear hoz hbz hgz
       obtain ⟨p0, p1, p2, p3, p4, p5, p6, p7, p8, p9, p10, p11⟩ := Recs.all (HM1.out.below HB6.out HM1.out.lt)
       rw [HK.out] at p0)
    | (at_builtin; refine append_bytes rfl _ _ 26 5 rfl Tryd.underlying26 info_u8 w1.heap.size (K5 ++ M6) x.img _ _ rfl rfl HO6.out (HIW.out _ (HB1.out.trans (HB6.out.mono HB1.out.size))) (by have := HIM.out; have := HN.out; rw [List.length_append]; omega) w1 HB6.out (Nat.le_refl _) ?_
       intro vd wd hoz hbz hgz
       have HOE := Lib.hid hoz; have HBE := Lib.hid hbz
       clear hoz hbz hgz))
  go_ret
  refine ⟨_, rfl, ?_, HB1.out.trans (HBE.out.mono HB1.out.size)⟩
  have hfin := HOE.out.mono HB1.out.size
  rw [HBY.out, HTL.out, HNB.out]
  rw [HK5.out, HK4.out, HK3.out, HM6.out, HN.out] at hfin
  unfold Pk.text
  simp only [List.append_assoc] at hfin ⊢
  exact hfin

theorem refBytesRe_any (x : Re.Rec) (vi : Value) (w : World) (ho : Re.older x = 0) (hi : Reads w vi x.img) (hf : x.Fits) (hs : x.cmd.Short 1000) (hm : x.img.length ≤ 100000) :
    Calls Tryd.prog 16 #[.agg (Re.cells x vi)] w (Makes w 5 (Re.bytes x)) := by
  have hg := Re.check_good (Re.older_good ho).1
  have hkc : Re.hc x.kind = true → 1 ≤ x.cmd.kind ∧ x.cmd.kind ≤ 8 := fun h => by
    have h1 := (Cm.check_ok (hg.cmd h)).1
    unfold Cm.known at h1
    simpa using h1
  rcases Re.kinds x.kind with h | h | h | h | h
  · exact refBytesRe_1 x vi w h hi hf
  · exact refBytesRe_2 x vi w h hi hf hs (hkc (by rw [h]; rfl))
  · exact refBytesRe_3 x vi w h hi hf hs (hkc (by rw [h]; rfl))
  · exact refBytesRe_4 x vi w h hi hf hm
  · have := hg.kind
    rw [(Re.has_no h).2.2.2.2] at this
    cases this

end Go.Proofs.YtegpfbmanpnhkaaDoor
