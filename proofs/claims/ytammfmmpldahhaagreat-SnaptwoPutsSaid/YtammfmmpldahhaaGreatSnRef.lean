/- The document's bytes of a state. Written by a program. -/
import Derived.Test.YtammfmmpldahhaaGreatSnMath
import Derived.Test.YtammfmmpldahhaaGreatGSw
import Derived.Test.YtammfmmpldahhaaGreatAnsRef
import Derived.Test.YtammfmmpldahhaaGreatGPb
import Derived.Test.YtammfmmpldahhaaGreatTake
import Derived.Deep.RegionHeld
namespace Go.Proofs.YtammfmmpldahhaaGreat
open Go.RowKit

/-- What a walk over a state's bytes asks of it. -/
structure Mg.St.Mid (s : Mg.St) : Prop where
  sch : -9223372036854775808 ≤ s.schema ∧ s.schema ≤ 9223372036854775807
  kv : ∀ e ∈ s.pairs, (e.key.length ≤ 1000 ∧ e.val.length ≤ 1000) ∧ (-9223372036854775808 ≤ e.rev ∧ e.rev ≤ 9223372036854775807)
  ses : ∀ e ∈ s.sess, e.last.Fits ∧ e.last.val.length ≤ 1000
  np : s.pairs.length ≤ 1000
  ns : s.sess.length ≤ 1000
theorem Sn.pbytes_len (v : Int) (p : Kv.Item) (h : (p.key.length ≤ 1000 ∧ p.val.length ≤ 1000) ∧ (-9223372036854775808 ≤ p.rev ∧ p.rev ≤ 9223372036854775807)) : (Sn.pbytes v p).length ≤ 3000 := by
  have h1 := enc_nine (n := p.key.length) (by omega)
  have h2 := enc_nine (n := p.val.length) (by omega)
  have h3 : (Sn.pmid v p).length ≤ 9 := by
    unfold Sn.pmid
    split
    · exact enc_nine (by omega)
    · simp
  unfold Sn.pbytes Pk.text
  simp only [List.length_append]
  omega
theorem Sn.flat_len {α : Type} (e : α → List UInt8) (m : Nat) : ∀ (l : List α), (∀ a ∈ l, (e a).length ≤ m) → (l.flatMap e).length ≤ m * l.length
  | [], _ => by simp
  | a :: r, h => by
    have h1 := Sn.flat_len e m r fun x hx => h x (List.mem_cons_of_mem _ hx)
    have h2 := h a (by simp)
    rw [List.flatMap_cons, List.length_append, List.length_cons, Nat.mul_succ]
    omega

set_option maxRecDepth 4000 in
set_option maxHeartbeats 6400000 in
theorem refSnBytes2_any (s : Mg.St) (vp vs : Value) (w : World) (hr : StR w s vp vs) (hf : s.Mid) (h2 : s.schema = 2) :
    Calls Tryz.prog 13 #[.agg (Mg.cells s.schema vp vs)] w (Makes w 5 (Sn.bytes s)) := by
  obtain ⟨w1, e1, hx1, hB1, hz1⟩ := box_st w s s.schema vp vs hr
  obtain ⟨ao, cap, rfl, hc1, hc2⟩ := ReadsK.shape hr.kv
  obtain ⟨so, scap, rfl, hd1, hd2⟩ := ReadsN.shape hr.ses
  have HP := Lib.hid (fun h => ReadsK.places hr.kv h)
  have HQ := Lib.hid (fun h => ReadsN.places hr.ses h)
  have HF := Lib.hid hf
  have HLP : Hid (∀ k, ((s.pairs.take k).flatMap (Sn.pbytes s.schema)).length ≤ 3000000) := by
    intro k
    have h1 := Sn.flat_len (Sn.pbytes s.schema) 3000 (s.pairs.take k) fun p hp => Sn.pbytes_len _ p (hf.kv p (List.mem_of_mem_take hp))
    have h2 := hf.np
    rw [List.length_take] at h1
    have h3 : 3000 * min k s.pairs.length ≤ 3000 * 1000 := Nat.mul_le_mul_left _ (by omega)
    omega
  have HLS : Hid (∀ k, ((s.sess.take k).flatMap (Sn.sbytes s.schema)).length ≤ 1050000) := by
    intro k
    have h1 := Sn.flat_len (Sn.sbytes s.schema) 1050 (s.sess.take k) fun p hp => by
      have := hf.ses p (List.mem_of_mem_take hp)
      exact An.bytes_len s.schema p.last this.1 this.2 (by omega)
    have h2 := hf.ns
    rw [List.length_take] at h1
    have h3 : 1050 * min k s.sess.length ≤ 1050 * 1000 := Nat.mul_le_mul_left _ (by omega)
    omega
  have hnp := hf.np
  have hns := hf.ns
  have hsch := hf.sch
  obtain ⟨L, hL⟩ : ∃ L, L = s.pairs := ⟨_, rfl⟩
  obtain ⟨Z, hZ⟩ : ∃ Z, Z = s.sess := ⟨_, rfl⟩
  obtain ⟨v, hv⟩ : ∃ v, v = s.schema := ⟨_, rfl⟩
  have HALL : Hid (Sn.bytes s = enc v.toNat ++ (enc L.length ++ L.flatMap (Sn.pbytes v)) ++ (enc Z.length ++ Z.flatMap (Sn.sbytes v))) := by
    show _ = _
    rw [hL, hZ, hv]
    unfold Sn.bytes Sn.body Lc.bytes
    simp only [List.append_assoc]
  have HFK : Hid (∀ e ∈ L, (e.key.length ≤ 1000 ∧ e.val.length ≤ 1000) ∧ (-9223372036854775808 ≤ e.rev ∧ e.rev ≤ 9223372036854775807)) := by rw [hL]; exact hf.kv
  have HFS : Hid (∀ e ∈ Z, e.last.Fits ∧ e.last.val.length ≤ 1000) := by rw [hZ]; exact hf.ses
  rw [← hL, ← hv] at HLP
  rw [← hZ, ← hv] at HLS
  rw [← hL] at hnp hc1 HP
  rw [← hZ] at hns hd1 HQ
  rw [← hv] at hsch h2
  have d2 : (v == 2) = true := by simpa using h2
  have H2 := Lib.hid h2
  clear h2
  rw [← hL, ← hZ, ← hv] at hx1 e1
  obtain ⟨RES, hRES⟩ : ∃ RES, RES = Sn.bytes s := ⟨_, rfl⟩
  rw [← hRES] at HALL ⊢
  rw [← hv]
  rw [← hL, ← hZ]
  obtain ⟨n, hn⟩ : ∃ n, n = L.length := ⟨_, rfl⟩
  obtain ⟨m, hm⟩ : ∃ m, m = Z.length := ⟨_, rfl⟩
  have HN := Lib.hid hn
  have HM := Lib.hid hm
  rw [← hn] at hnp hc1 HP hx1 e1 HALL ⊢
  rw [← hm] at hns hd1 HQ hx1 e1 HALL ⊢
  have HX : Hid (∀ W, Below w1.heap.size w1 W → StAt W w.heap.size v (.slice ao n cap) (.slice so m scap)) := fun W hb => hx1.below hb (by omega)
  have HB1 := Lib.hid hB1
  clear hL hZ hv hRES hn hm hr hf hx1 hB1 HF
  obtain ⟨q0, q1, q2⟩ := (HX.out w1 (Below.refl _ w1)).all
  go_enter Tryz.func13, Tryz.ntmps13
  go_wp2_with fail
  refine (bytes_any v _ hsch.1 hsch.2).mono ?_
  rintro e w2 ⟨u2, rfl, ho2, hb2⟩
  have hk0 : (enc v.toNat).length ≤ 9 := enc_nine (by omega)
  obtain ⟨K0, hK0⟩ : ∃ K, K = enc v.toNat := ⟨_, rfl⟩
  rw [← hK0] at ho2 hk0
  have HK0 := Lib.hid hK0
  have HO0 := Lib.hid ho2
  have HB0 := Lib.hid hb2
  clear hK0 ho2 hb2 q0 q1 q2
  obtain ⟨q0, q1, q2⟩ := (HX.out w2 HB0.out).all
  go_wp2_with fail
  refine (bytes_any (n : Int) _ (by omega) (by omega)).mono ?_
  rintro e wa1 ⟨ua1, rfl, hoa, hba⟩
  have hm1 : (enc (n : Int).toNat).length ≤ 9 := enc_nine (by omega)
  obtain ⟨M1, hM1⟩ : ∃ M, M = enc (n : Int).toNat := ⟨_, rfl⟩
  rw [← hM1] at hoa hm1
  have HM1 := Lib.hid hM1
  have hown := HO0.out.keep hba (Nat.le_refl _)
  have hB := HB0.out.trans (hba.mono HB0.out.size)
  clear hM1 hba q0 q1 q2
  go_wp2_with (at_builtin; refine append_bytes rfl _ _ 28 5 rfl Tryz.underlying28 info_u8 w1.heap.size K0 M1 _ _ rfl rfl hown hoa.reads (by omega) w1 hB (Nat.le_refl _) ?_; intro vb1 wb1 hoz hbz hgz; have HO1 := Lib.hid hoz; have HBA := Lib.hid hbz; clear hoz hbz hgz; obtain ⟨q0, q1, q2⟩ := (HX.out _ HBA.out).all)
  obtain ⟨K1, hK1⟩ : ∃ K, K = K0 ++ M1 := ⟨_, rfl⟩
  have hl1 : K1.length ≤ 18 := by rw [hK1, List.length_append]; omega
  rw [← hK1] at HO1
  have HK1 := Lib.hid hK1
  clear hK1 hown hB hoa
  go_wp2
  go_loopw [3, 4] (fun y i wr => ∃ (k : Nat), i = .int .i64 (k : Int) ∧ k ≤ n ∧ Hid (Below w1.heap.size w1 wr) ∧ Hid (Owns wr w1.heap.size 5 y (K1 ++ (L.take k).flatMap (Sn.pbytes v)))) (fun _ i _ => n - (intOf i).toNat)
  case atStart => exact ⟨0, rfl, by omega, HBA, by show Owns _ _ _ _ _; simpa using HO1.out⟩
  case round =>
    clear q0 q1 q2
    obtain ⟨k, rfl, hk, HB, HO⟩ := hrel
    obtain ⟨q0, q1, q2⟩ := (HX.out wr HB.out).all
    by_cases hlt : k < n
    · obtain ⟨p, hp⟩ : ∃ p, L[k]? = some p := ⟨_, List.getElem?_eq_getElem (by have := HN.out; omega)⟩
      obtain ⟨g, off, rfl, hgl, hcell⟩ := HP.out (by omega)
      have HC : Hid (∀ W, Below w1.heap.size w1 W → KvAt W g (off + k * 3) p) := fun W h => hcell W (HB1.out.trans (h.mono HB1.out.size)) k p hp
      have HFE := Lib.hid (HFK.out p (List.mem_of_getElem? hp))
      have hl := HLP.out k
      have HST : Hid ((L.take (k + 1)).flatMap (Sn.pbytes v) = (L.take k).flatMap (Sn.pbytes v) ++ Sn.pbytes v p) := by show _ = _; rw [List.take_add_one, hp]; simp
      obtain ⟨J0, hJ0⟩ : ∃ K, K = K1 ++ (L.take k).flatMap (Sn.pbytes v) := ⟨_, rfl⟩
      have hj0 : J0.length ≤ 3000018 := by rw [hJ0, List.length_append]; omega
      have HJ0 := Lib.hid hJ0
      rw [← hJ0] at HO
      obtain ⟨c0, c1, c2⟩ := HC.out wr HB.out
      clear hcell hp hJ0 hl
      go_wp2_with fail
      refine (refText_any p.key _ (by have := HFE.out.1; omega)).mono ?_
      rintro e wa11 ⟨ua11, rfl, hoa, hba⟩
      have hm11 : (Pk.text p.key).length ≤ 1009 := by have := HFE.out.1; have := enc_nine (n := p.key.length) (by omega); unfold Pk.text; rw [List.length_append]; omega
      obtain ⟨M11, hM11⟩ : ∃ M, M = Pk.text p.key := ⟨_, rfl⟩
      rw [← hM11] at hoa hm11
      have HM11 := Lib.hid hM11
      have hown := HO.out.keep hba (Nat.le_refl _)
      have hB := HB.out.trans (hba.mono HB.out.size)
      clear hM11 hba q0 q1 q2 c0 c1 c2
      go_wp2_with (at_builtin; refine append_bytes rfl _ _ 28 5 rfl Tryz.underlying28 info_u8 w1.heap.size J0 M11 _ _ rfl rfl hown hoa.reads (by omega) w1 hB (Nat.le_refl _) ?_; intro vb11 wb11 hoz hbz hgz; have HO11 := Lib.hid hoz; have HB11 := Lib.hid hbz; clear hoz hbz hgz; obtain ⟨q0, q1, q2⟩ := (HX.out _ HB11.out).all; obtain ⟨c0, c1, c2⟩ := HC.out _ HB11.out)
      obtain ⟨K11, hK11⟩ : ∃ K, K = J0 ++ M11 := ⟨_, rfl⟩
      have hl11 : K11.length ≤ 3001027 := by rw [hK11, List.length_append]; omega
      rw [← hK11] at HO11
      have HK11 := Lib.hid hK11
      clear hK11 hown hB hoa
      go_wp2_with fail
      refine (bytes_any p.rev _ HFE.out.2.1 HFE.out.2.2).mono ?_
      rintro e wa12 ⟨ua12, rfl, hoa, hba⟩
      have hm12 : (enc p.rev.toNat).length ≤ 9 := enc_nine (by have := HFE.out.2; omega)
      obtain ⟨M12, hM12⟩ : ∃ M, M = enc p.rev.toNat := ⟨_, rfl⟩
      rw [← hM12] at hoa hm12
      have HM12 := Lib.hid hM12
      have hown := HO11.out.keep hba (Nat.le_refl _)
      have hB := HB11.out.trans (hba.mono HB11.out.size)
      clear hM12 hba q0 q1 q2 c0 c1 c2
      go_wp2_with (at_builtin; refine append_bytes rfl _ _ 28 5 rfl Tryz.underlying28 info_u8 w1.heap.size K11 M12 _ _ rfl rfl hown hoa.reads (by omega) w1 hB (Nat.le_refl _) ?_; intro vb12 wb12 hoz hbz hgz; have HO12 := Lib.hid hoz; have HB12 := Lib.hid hbz; clear hoz hbz hgz; obtain ⟨q0, q1, q2⟩ := (HX.out _ HB12.out).all; obtain ⟨c0, c1, c2⟩ := HC.out _ HB12.out)
      obtain ⟨K12, hK12⟩ : ∃ K, K = K11 ++ M12 := ⟨_, rfl⟩
      have hl12 : K12.length ≤ 3001036 := by rw [hK12, List.length_append]; omega
      rw [← hK12] at HO12
      have HK12 := Lib.hid hK12
      clear hK12 hown hB hoa
      go_wp2_with fail
      refine (refText_any p.val _ (by have := HFE.out.1; omega)).mono ?_
      rintro e wa13 ⟨ua13, rfl, hoa, hba⟩
      have hm13 : (Pk.text p.val).length ≤ 1009 := by have := HFE.out.1; have := enc_nine (n := p.val.length) (by omega); unfold Pk.text; rw [List.length_append]; omega
      obtain ⟨M13, hM13⟩ : ∃ M, M = Pk.text p.val := ⟨_, rfl⟩
      rw [← hM13] at hoa hm13
      have HM13 := Lib.hid hM13
      have hown := HO12.out.keep hba (Nat.le_refl _)
      have hB := HB12.out.trans (hba.mono HB12.out.size)
      clear hM13 hba q0 q1 q2 c0 c1 c2
      go_wp2_with (at_builtin; refine append_bytes rfl _ _ 28 5 rfl Tryz.underlying28 info_u8 w1.heap.size K12 M13 _ _ rfl rfl hown hoa.reads (by omega) w1 hB (Nat.le_refl _) ?_; intro vb13 wb13 hoz hbz hgz; have HO13 := Lib.hid hoz; have HB13 := Lib.hid hbz; clear hoz hbz hgz; obtain ⟨q0, q1, q2⟩ := (HX.out _ HB13.out).all; obtain ⟨c0, c1, c2⟩ := HC.out _ HB13.out)
      obtain ⟨K13, hK13⟩ : ∃ K, K = K12 ++ M13 := ⟨_, rfl⟩
      have hl13 : K13.length ≤ 3002045 := by rw [hK13, List.length_append]; omega
      rw [← hK13] at HO13
      have HK13 := Lib.hid hK13
      clear hK13 hown hB hoa
      have HO9 : Hid (Owns wb13 w1.heap.size 5 vb13 (K1 ++ (L.take (k + 1)).flatMap (Sn.pbytes v))) := by
        show Owns _ _ _ _ _
        have h := HO13.out
        rw [HK13.out, HK12.out, HK11.out, HJ0.out, HM11.out, HM12.out, HM13.out] at h
        rw [HST.out]
        unfold Sn.pbytes Sn.pmid
        rw [if_pos H2.out]
        simp only [List.append_assoc] at h ⊢
        exact h
      clear q0 q1 q2 c0 c1 c2
      go_wp2
      go_roundw
      case rel => exact ⟨k + 1, by go_num, by omega, HB13, HO9⟩
      case measure => simp [intOf]; omega
    · have hfin := HO.out
      rw [List.take_of_length_le (by have := HN.out; omega)] at hfin
      obtain ⟨U0, hU0⟩ : ∃ K, K = K1 ++ L.flatMap (Sn.pbytes v) := ⟨_, rfl⟩
      have hf0 : U0.length ≤ 3000018 := by
        have h9 := HLP.out n
        rw [List.take_of_length_le (by have := HN.out; omega)] at h9
        rw [hU0, List.length_append]
        omega
      rw [← hU0] at hfin
      have HU0 := Lib.hid hU0
      have HOF := Lib.hid hfin
      clear hfin hU0
      go_wp2_with fail
      refine (bytes_any (m : Int) _ (by omega) (by omega)).mono ?_
      rintro e wa31 ⟨ua31, rfl, hoa, hba⟩
      have hm31 : (enc (m : Int).toNat).length ≤ 9 := enc_nine (by omega)
      obtain ⟨M31, hM31⟩ : ∃ M, M = enc (m : Int).toNat := ⟨_, rfl⟩
      rw [← hM31] at hoa hm31
      have HM31 := Lib.hid hM31
      have hown := HOF.out.keep hba (Nat.le_refl _)
      have hB := HB.out.trans (hba.mono HB.out.size)
      clear hM31 hba q0 q1 q2
      go_wp2_with (at_builtin; refine append_bytes rfl _ _ 28 5 rfl Tryz.underlying28 info_u8 w1.heap.size U0 M31 _ _ rfl rfl hown hoa.reads (by omega) w1 hB (Nat.le_refl _) ?_; intro vb31 wb31 hoz hbz hgz; have HO31 := Lib.hid hoz; have HB31 := Lib.hid hbz; clear hoz hbz hgz; obtain ⟨q0, q1, q2⟩ := (HX.out _ HB31.out).all)
      obtain ⟨K31, hK31⟩ : ∃ K, K = U0 ++ M31 := ⟨_, rfl⟩
      have hl31 : K31.length ≤ 3000027 := by rw [hK31, List.length_append]; omega
      rw [← hK31] at HO31
      have HK31 := Lib.hid hK31
      clear hK31 hown hB hoa
      go_wp2
      go_loopw [3, 5] (fun y i wr => ∃ (k : Nat), i = .int .i64 (k : Int) ∧ k ≤ m ∧ Hid (Below w1.heap.size w1 wr) ∧ Hid (Owns wr w1.heap.size 5 y (K31 ++ (Z.take k).flatMap (Sn.sbytes v)))) (fun _ i _ => m - (intOf i).toNat)
      case atStart => exact ⟨0, rfl, by omega, HB31, by show Owns _ _ _ _ _; simpa using HO31.out⟩
      case round =>
        clear q0 q1 q2
        obtain ⟨k, rfl, hk, HBr, HOr⟩ := hrel
        obtain ⟨q0, q1, q2⟩ := (HX.out wr HBr.out).all
        by_cases hlt : k < m
        · obtain ⟨e, he⟩ : ∃ e, Z[k]? = some e := ⟨_, List.getElem?_eq_getElem (by have := HM.out; omega)⟩
          obtain ⟨g, off, rfl, hgl, hcell⟩ := HQ.out (by omega)
          have HS : Hid (∀ W, Below w1.heap.size w1 W → (fun W : World => (W.cell? ⟨w.heap.size, 0, none⟩ = some (.int .i64 v) ∧ W.cell? ⟨w.heap.size, 1, none⟩ = some (.slice ao n cap) ∧ W.cell? ⟨w.heap.size, 2, none⟩ = some (.slice (some ⟨g, off, none⟩) m scap)) ∧ (W.cell? ⟨g, off + k * 8 + 2, none⟩ = some (.int .i64 e.last.client) ∧ W.cell? ⟨g, off + k * 8 + 3, none⟩ = some (.int .i64 e.last.seq) ∧ W.cell? ⟨g, off + k * 8 + 4, none⟩ = some (.int .i64 e.last.err) ∧ W.cell? ⟨g, off + k * 8 + 5, none⟩ = some (.bool e.last.found) ∧ W.cell? ⟨g, off + k * 8 + 6, none⟩ = some (.string ⟨e.last.val.toArray⟩) ∧ W.cell? ⟨g, off + k * 8 + 7, none⟩ = some (.int .i64 e.last.rev))) W) := fun W h => by
            have h1 := (HX.out W h).all
            have h2 := hcell W (HB1.out.trans (h.mono HB1.out.size)) k e he
            exact ⟨h1, h2.c2, h2.c3, h2.c4, h2.c5, h2.c6, h2.c7⟩
          have HFE := Lib.hid (HFS.out e (List.mem_of_getElem? he))
          have hl := HLS.out k
          have HST : Hid ((Z.take (k + 1)).flatMap (Sn.sbytes v) = (Z.take k).flatMap (Sn.sbytes v) ++ An.bytes v e.last) := by show _ = _; rw [List.take_add_one, he]; simp [Sn.sbytes]
          obtain ⟨J0, hJ0⟩ : ∃ K, K = K31 ++ (Z.take k).flatMap (Sn.sbytes v) := ⟨_, rfl⟩
          have hj0 : J0.length ≤ 4050027 := by rw [hJ0, List.length_append]; omega
          have HJ0 := Lib.hid hJ0
          rw [← hJ0] at HOr
          clear hcell he hJ0 hl
          go_wp2_with fail
          refine wp_region_held_drew (S := (fun W : World => (W.cell? ⟨w.heap.size, 0, none⟩ = some (.int .i64 v) ∧ W.cell? ⟨w.heap.size, 1, none⟩ = some (.slice ao n cap) ∧ W.cell? ⟨w.heap.size, 2, none⟩ = some (.slice (some ⟨g, off, none⟩) m scap)) ∧ (W.cell? ⟨g, off + k * 8 + 2, none⟩ = some (.int .i64 e.last.client) ∧ W.cell? ⟨g, off + k * 8 + 3, none⟩ = some (.int .i64 e.last.seq) ∧ W.cell? ⟨g, off + k * 8 + 4, none⟩ = some (.int .i64 e.last.err) ∧ W.cell? ⟨g, off + k * 8 + 5, none⟩ = some (.bool e.last.found) ∧ W.cell? ⟨g, off + k * 8 + 6, none⟩ = some (.string ⟨e.last.val.toArray⟩) ∧ W.cell? ⟨g, off + k * 8 + 7, none⟩ = some (.int .i64 e.last.rev)))) (by kernel_rfl) (HS.out wr HBr.out) (fun hHeld => ?_)
          refine wpT 0 rfl hHeld ?_ (by intro W hSw; obtain ⟨⟨s0, s1, s2⟩, s3, s4, s5, s6, s7, s8⟩ := hSw; go_simp; (try with_reducible rfl))
          refine wpT 1 rfl hHeld ?_ (by intro W hSw; obtain ⟨⟨s0, s1, s2⟩, s3, s4, s5, s6, s7, s8⟩ := hSw; go_simp; (try with_reducible rfl))
          refine wpT 2 rfl hHeld ?_ (by intro W hSw; obtain ⟨⟨s0, s1, s2⟩, s3, s4, s5, s6, s7, s8⟩ := hSw; go_simp; (try with_reducible rfl))
          refine wpT 3 rfl hHeld ?_ (by intro W hSw; obtain ⟨⟨s0, s1, s2⟩, s3, s4, s5, s6, s7, s8⟩ := hSw; go_simp; (try with_reducible rfl))
          refine wpT 4 rfl hHeld ?_ (by intro W hSw; obtain ⟨⟨s0, s1, s2⟩, s3, s4, s5, s6, s7, s8⟩ := hSw; go_simp; (try with_reducible rfl))
          refine wpT 5 rfl hHeld ?_ (by intro W hSw; obtain ⟨⟨s0, s1, s2⟩, s3, s4, s5, s6, s7, s8⟩ := hSw; go_simp; (try with_reducible rfl))
          refine wpT 6 rfl hHeld ?_ (by intro W hSw; obtain ⟨⟨s0, s1, s2⟩, s3, s4, s5, s6, s7, s8⟩ := hSw; go_simp; (try with_reducible rfl))
          refine wpT 7 rfl hHeld ?_ (by intro W hSw; obtain ⟨⟨s0, s1, s2⟩, s3, s4, s5, s6, s7, s8⟩ := hSw; go_simp; (try with_reducible rfl))
          refine wpT 8 rfl hHeld ?_ (by intro W hSw; obtain ⟨⟨s0, s1, s2⟩, s3, s4, s5, s6, s7, s8⟩ := hSw; go_simp; (try with_reducible rfl))
          refine wpAnyH_ready (rs := [9]) (by kernel_rfl) (by simp) ?_
          refine AllReadyH.cons rfl (fun K hK => ?_) AllReadyH.nil
          rw [if_pos (by kernel_rfl)]
          go_simp
          go_at_call 33
          refine (arefBytes_any v e.last _ HFE.out.1 HFE.out.2).mono ?_
          rintro e' wa ⟨ua, rfl, hoa, hba⟩
          have hd := drawn wr 1
          have hba' := hd.trans (hba.mono hd.size)
          have hm41 : (An.bytes v e.last).length ≤ 1050 := An.bytes_len v e.last HFE.out.1 HFE.out.2 (by omega)
          have hown := HOr.out.keep hba' (Nat.le_refl _)
          have hB := HBr.out.trans (hba'.mono HBr.out.size)
          have hoa2 := hoa.reads
          clear hd hba hba' hoa
          dsimp only
          refine hK.out _ _ (HS.out _ hB) (fun hHeld => ?_)
          clear hK K
          refine wpAnyH_ready (rs := [10]) (by kernel_rfl) (by simp) ?_
          refine AllReadyH.cons rfl (fun K hK => ?_) AllReadyH.nil
          refine step_append_bytes (by rfl) _ _ 28 5 (by rfl) Tryz.underlying28 info_u8 w1.heap.size J0 (An.bytes v e.last) _ _ (by rfl) (by rfl) hown hoa2 (by omega) hB.size ?_
          intro vb wb hoz hgz
          have hBz := hB.grown hgz hB.size (fun j hj => (hown.lt j hj).1)
          refine hK.out _ _ (HS.out _ hBz) (fun hHeld => ?_)
          clear hK K
          have HOZ := Lib.hid hoz
          have HBZ := Lib.hid hBz
          clear hoz hgz hBz hown hB hoa2
          refine wpT 11 rfl hHeld ?_
          refine wpAnyH_done (by kernel_rfl) ?_ _
          clear hHeld
          have HO9 : Hid (Owns wb w1.heap.size 5 vb (K31 ++ (Z.take (k + 1)).flatMap (Sn.sbytes v))) := by
            show Owns _ _ _ _ _
            have h := HOZ.out
            rw [HJ0.out] at h
            rw [HST.out, ← List.append_assoc]
            exact h
          clear q0 q1 q2
          go_wp2
          go_roundw
          case rel => exact ⟨k + 1, by go_num, by omega, HBZ, HO9⟩
          case measure => simp [intOf]; omega
        · have hfin := HOr.out
          rw [List.take_of_length_le (by have := HM.out; omega)] at hfin
          have HRES : Hid (RES = K31 ++ Z.flatMap (Sn.sbytes v)) := by
            show _ = _
            rw [HALL.out, HK31.out, HU0.out, HK1.out, HK0.out, HM1.out, HM31.out, Int.toNat_natCast, Int.toNat_natCast]
            simp only [List.append_assoc]
          rw [← HRES.out] at hfin
          have HFIN := Lib.hid hfin
          clear hfin
          go_wp2
          go_ret
          exact ⟨_, rfl, HFIN.out.mono HB1.out.size, HB1.out.trans (HBr.out.mono HB1.out.size)⟩

set_option maxRecDepth 4000 in
set_option maxHeartbeats 6400000 in
theorem refSnBytes1_any (s : Mg.St) (vp vs : Value) (w : World) (hr : StR w s vp vs) (hf : s.Mid) (h2 : s.schema ≠ 2) :
    Calls Tryz.prog 13 #[.agg (Mg.cells s.schema vp vs)] w (Makes w 5 (Sn.bytes s)) := by
  obtain ⟨w1, e1, hx1, hB1, hz1⟩ := box_st w s s.schema vp vs hr
  obtain ⟨ao, cap, rfl, hc1, hc2⟩ := ReadsK.shape hr.kv
  obtain ⟨so, scap, rfl, hd1, hd2⟩ := ReadsN.shape hr.ses
  have HP := Lib.hid (fun h => ReadsK.places hr.kv h)
  have HQ := Lib.hid (fun h => ReadsN.places hr.ses h)
  have HF := Lib.hid hf
  have HLP : Hid (∀ k, ((s.pairs.take k).flatMap (Sn.pbytes s.schema)).length ≤ 3000000) := by
    intro k
    have h1 := Sn.flat_len (Sn.pbytes s.schema) 3000 (s.pairs.take k) fun p hp => Sn.pbytes_len _ p (hf.kv p (List.mem_of_mem_take hp))
    have h2 := hf.np
    rw [List.length_take] at h1
    have h3 : 3000 * min k s.pairs.length ≤ 3000 * 1000 := Nat.mul_le_mul_left _ (by omega)
    omega
  have HLS : Hid (∀ k, ((s.sess.take k).flatMap (Sn.sbytes s.schema)).length ≤ 1050000) := by
    intro k
    have h1 := Sn.flat_len (Sn.sbytes s.schema) 1050 (s.sess.take k) fun p hp => by
      have := hf.ses p (List.mem_of_mem_take hp)
      exact An.bytes_len s.schema p.last this.1 this.2 (by omega)
    have h2 := hf.ns
    rw [List.length_take] at h1
    have h3 : 1050 * min k s.sess.length ≤ 1050 * 1000 := Nat.mul_le_mul_left _ (by omega)
    omega
  have hnp := hf.np
  have hns := hf.ns
  have hsch := hf.sch
  obtain ⟨L, hL⟩ : ∃ L, L = s.pairs := ⟨_, rfl⟩
  obtain ⟨Z, hZ⟩ : ∃ Z, Z = s.sess := ⟨_, rfl⟩
  obtain ⟨v, hv⟩ : ∃ v, v = s.schema := ⟨_, rfl⟩
  have HALL : Hid (Sn.bytes s = enc v.toNat ++ (enc L.length ++ L.flatMap (Sn.pbytes v)) ++ (enc Z.length ++ Z.flatMap (Sn.sbytes v))) := by
    show _ = _
    rw [hL, hZ, hv]
    unfold Sn.bytes Sn.body Lc.bytes
    simp only [List.append_assoc]
  have HFK : Hid (∀ e ∈ L, (e.key.length ≤ 1000 ∧ e.val.length ≤ 1000) ∧ (-9223372036854775808 ≤ e.rev ∧ e.rev ≤ 9223372036854775807)) := by rw [hL]; exact hf.kv
  have HFS : Hid (∀ e ∈ Z, e.last.Fits ∧ e.last.val.length ≤ 1000) := by rw [hZ]; exact hf.ses
  rw [← hL, ← hv] at HLP
  rw [← hZ, ← hv] at HLS
  rw [← hL] at hnp hc1 HP
  rw [← hZ] at hns hd1 HQ
  rw [← hv] at hsch h2
  have d2 : (v == 2) = false := by simpa using h2
  have H2 := Lib.hid h2
  clear h2
  rw [← hL, ← hZ, ← hv] at hx1 e1
  obtain ⟨RES, hRES⟩ : ∃ RES, RES = Sn.bytes s := ⟨_, rfl⟩
  rw [← hRES] at HALL ⊢
  rw [← hv]
  rw [← hL, ← hZ]
  obtain ⟨n, hn⟩ : ∃ n, n = L.length := ⟨_, rfl⟩
  obtain ⟨m, hm⟩ : ∃ m, m = Z.length := ⟨_, rfl⟩
  have HN := Lib.hid hn
  have HM := Lib.hid hm
  rw [← hn] at hnp hc1 HP hx1 e1 HALL ⊢
  rw [← hm] at hns hd1 HQ hx1 e1 HALL ⊢
  have HX : Hid (∀ W, Below w1.heap.size w1 W → StAt W w.heap.size v (.slice ao n cap) (.slice so m scap)) := fun W hb => hx1.below hb (by omega)
  have HB1 := Lib.hid hB1
  clear hL hZ hv hRES hn hm hr hf hx1 hB1 HF
  obtain ⟨q0, q1, q2⟩ := (HX.out w1 (Below.refl _ w1)).all
  go_enter Tryz.func13, Tryz.ntmps13
  go_wp2_with fail
  refine (bytes_any v _ hsch.1 hsch.2).mono ?_
  rintro e w2 ⟨u2, rfl, ho2, hb2⟩
  have hk0 : (enc v.toNat).length ≤ 9 := enc_nine (by omega)
  obtain ⟨K0, hK0⟩ : ∃ K, K = enc v.toNat := ⟨_, rfl⟩
  rw [← hK0] at ho2 hk0
  have HK0 := Lib.hid hK0
  have HO0 := Lib.hid ho2
  have HB0 := Lib.hid hb2
  clear hK0 ho2 hb2 q0 q1 q2
  obtain ⟨q0, q1, q2⟩ := (HX.out w2 HB0.out).all
  go_wp2_with fail
  refine (bytes_any (n : Int) _ (by omega) (by omega)).mono ?_
  rintro e wa1 ⟨ua1, rfl, hoa, hba⟩
  have hm1 : (enc (n : Int).toNat).length ≤ 9 := enc_nine (by omega)
  obtain ⟨M1, hM1⟩ : ∃ M, M = enc (n : Int).toNat := ⟨_, rfl⟩
  rw [← hM1] at hoa hm1
  have HM1 := Lib.hid hM1
  have hown := HO0.out.keep hba (Nat.le_refl _)
  have hB := HB0.out.trans (hba.mono HB0.out.size)
  clear hM1 hba q0 q1 q2
  go_wp2_with (at_builtin; refine append_bytes rfl _ _ 28 5 rfl Tryz.underlying28 info_u8 w1.heap.size K0 M1 _ _ rfl rfl hown hoa.reads (by omega) w1 hB (Nat.le_refl _) ?_; intro vb1 wb1 hoz hbz hgz; have HO1 := Lib.hid hoz; have HBA := Lib.hid hbz; clear hoz hbz hgz; obtain ⟨q0, q1, q2⟩ := (HX.out _ HBA.out).all)
  obtain ⟨K1, hK1⟩ : ∃ K, K = K0 ++ M1 := ⟨_, rfl⟩
  have hl1 : K1.length ≤ 18 := by rw [hK1, List.length_append]; omega
  rw [← hK1] at HO1
  have HK1 := Lib.hid hK1
  clear hK1 hown hB hoa
  go_wp2
  go_loopw [3, 4] (fun y i wr => ∃ (k : Nat), i = .int .i64 (k : Int) ∧ k ≤ n ∧ Hid (Below w1.heap.size w1 wr) ∧ Hid (Owns wr w1.heap.size 5 y (K1 ++ (L.take k).flatMap (Sn.pbytes v)))) (fun _ i _ => n - (intOf i).toNat)
  case atStart => exact ⟨0, rfl, by omega, HBA, by show Owns _ _ _ _ _; simpa using HO1.out⟩
  case round =>
    clear q0 q1 q2
    obtain ⟨k, rfl, hk, HB, HO⟩ := hrel
    obtain ⟨q0, q1, q2⟩ := (HX.out wr HB.out).all
    by_cases hlt : k < n
    · obtain ⟨p, hp⟩ : ∃ p, L[k]? = some p := ⟨_, List.getElem?_eq_getElem (by have := HN.out; omega)⟩
      obtain ⟨g, off, rfl, hgl, hcell⟩ := HP.out (by omega)
      have HC : Hid (∀ W, Below w1.heap.size w1 W → KvAt W g (off + k * 3) p) := fun W h => hcell W (HB1.out.trans (h.mono HB1.out.size)) k p hp
      have HFE := Lib.hid (HFK.out p (List.mem_of_getElem? hp))
      have hl := HLP.out k
      have HST : Hid ((L.take (k + 1)).flatMap (Sn.pbytes v) = (L.take k).flatMap (Sn.pbytes v) ++ Sn.pbytes v p) := by show _ = _; rw [List.take_add_one, hp]; simp
      obtain ⟨J0, hJ0⟩ : ∃ K, K = K1 ++ (L.take k).flatMap (Sn.pbytes v) := ⟨_, rfl⟩
      have hj0 : J0.length ≤ 3000018 := by rw [hJ0, List.length_append]; omega
      have HJ0 := Lib.hid hJ0
      rw [← hJ0] at HO
      obtain ⟨c0, c1, c2⟩ := HC.out wr HB.out
      clear hcell hp hJ0 hl
      go_wp2_with fail
      refine (refText_any p.key _ (by have := HFE.out.1; omega)).mono ?_
      rintro e wa21 ⟨ua21, rfl, hoa, hba⟩
      have hm21 : (Pk.text p.key).length ≤ 1009 := by have := HFE.out.1; have := enc_nine (n := p.key.length) (by omega); unfold Pk.text; rw [List.length_append]; omega
      obtain ⟨M21, hM21⟩ : ∃ M, M = Pk.text p.key := ⟨_, rfl⟩
      rw [← hM21] at hoa hm21
      have HM21 := Lib.hid hM21
      have hown := HO.out.keep hba (Nat.le_refl _)
      have hB := HB.out.trans (hba.mono HB.out.size)
      clear hM21 hba q0 q1 q2 c0 c1 c2
      go_wp2_with (at_builtin; refine append_bytes rfl _ _ 28 5 rfl Tryz.underlying28 info_u8 w1.heap.size J0 M21 _ _ rfl rfl hown hoa.reads (by omega) w1 hB (Nat.le_refl _) ?_; intro vb21 wb21 hoz hbz hgz; have HO21 := Lib.hid hoz; have HB21 := Lib.hid hbz; clear hoz hbz hgz; obtain ⟨q0, q1, q2⟩ := (HX.out _ HB21.out).all; obtain ⟨c0, c1, c2⟩ := HC.out _ HB21.out)
      obtain ⟨K21, hK21⟩ : ∃ K, K = J0 ++ M21 := ⟨_, rfl⟩
      have hl21 : K21.length ≤ 3001027 := by rw [hK21, List.length_append]; omega
      rw [← hK21] at HO21
      have HK21 := Lib.hid hK21
      clear hK21 hown hB hoa
      go_wp2_with fail
      refine (refText_any p.val _ (by have := HFE.out.1; omega)).mono ?_
      rintro e wa22 ⟨ua22, rfl, hoa, hba⟩
      have hm22 : (Pk.text p.val).length ≤ 1009 := by have := HFE.out.1; have := enc_nine (n := p.val.length) (by omega); unfold Pk.text; rw [List.length_append]; omega
      obtain ⟨M22, hM22⟩ : ∃ M, M = Pk.text p.val := ⟨_, rfl⟩
      rw [← hM22] at hoa hm22
      have HM22 := Lib.hid hM22
      have hown := HO21.out.keep hba (Nat.le_refl _)
      have hB := HB21.out.trans (hba.mono HB21.out.size)
      clear hM22 hba q0 q1 q2 c0 c1 c2
      go_wp2_with (at_builtin; refine append_bytes rfl _ _ 28 5 rfl Tryz.underlying28 info_u8 w1.heap.size K21 M22 _ _ rfl rfl hown hoa.reads (by omega) w1 hB (Nat.le_refl _) ?_; intro vb22 wb22 hoz hbz hgz; have HO22 := Lib.hid hoz; have HB22 := Lib.hid hbz; clear hoz hbz hgz; obtain ⟨q0, q1, q2⟩ := (HX.out _ HB22.out).all; obtain ⟨c0, c1, c2⟩ := HC.out _ HB22.out)
      obtain ⟨K22, hK22⟩ : ∃ K, K = K21 ++ M22 := ⟨_, rfl⟩
      have hl22 : K22.length ≤ 3002036 := by rw [hK22, List.length_append]; omega
      rw [← hK22] at HO22
      have HK22 := Lib.hid hK22
      clear hK22 hown hB hoa
      have HO9 : Hid (Owns wb22 w1.heap.size 5 vb22 (K1 ++ (L.take (k + 1)).flatMap (Sn.pbytes v))) := by
        show Owns _ _ _ _ _
        have h := HO22.out
        rw [HK22.out, HK21.out, HJ0.out, HM21.out, HM22.out] at h
        rw [HST.out]
        unfold Sn.pbytes Sn.pmid
        rw [if_neg H2.out]
        simp only [List.append_assoc, List.nil_append] at h ⊢
        exact h
      clear q0 q1 q2 c0 c1 c2
      go_wp2
      go_roundw
      case rel => exact ⟨k + 1, by go_num, by omega, HB22, HO9⟩
      case measure => simp [intOf]; omega
    · have hfin := HO.out
      rw [List.take_of_length_le (by have := HN.out; omega)] at hfin
      obtain ⟨U0, hU0⟩ : ∃ K, K = K1 ++ L.flatMap (Sn.pbytes v) := ⟨_, rfl⟩
      have hf0 : U0.length ≤ 3000018 := by
        have h9 := HLP.out n
        rw [List.take_of_length_le (by have := HN.out; omega)] at h9
        rw [hU0, List.length_append]
        omega
      rw [← hU0] at hfin
      have HU0 := Lib.hid hU0
      have HOF := Lib.hid hfin
      clear hfin hU0
      go_wp2_with fail
      refine (bytes_any (m : Int) _ (by omega) (by omega)).mono ?_
      rintro e wa31 ⟨ua31, rfl, hoa, hba⟩
      have hm31 : (enc (m : Int).toNat).length ≤ 9 := enc_nine (by omega)
      obtain ⟨M31, hM31⟩ : ∃ M, M = enc (m : Int).toNat := ⟨_, rfl⟩
      rw [← hM31] at hoa hm31
      have HM31 := Lib.hid hM31
      have hown := HOF.out.keep hba (Nat.le_refl _)
      have hB := HB.out.trans (hba.mono HB.out.size)
      clear hM31 hba q0 q1 q2
      go_wp2_with (at_builtin; refine append_bytes rfl _ _ 28 5 rfl Tryz.underlying28 info_u8 w1.heap.size U0 M31 _ _ rfl rfl hown hoa.reads (by omega) w1 hB (Nat.le_refl _) ?_; intro vb31 wb31 hoz hbz hgz; have HO31 := Lib.hid hoz; have HB31 := Lib.hid hbz; clear hoz hbz hgz; obtain ⟨q0, q1, q2⟩ := (HX.out _ HB31.out).all)
      obtain ⟨K31, hK31⟩ : ∃ K, K = U0 ++ M31 := ⟨_, rfl⟩
      have hl31 : K31.length ≤ 3000027 := by rw [hK31, List.length_append]; omega
      rw [← hK31] at HO31
      have HK31 := Lib.hid hK31
      clear hK31 hown hB hoa
      go_wp2
      go_loopw [3, 5] (fun y i wr => ∃ (k : Nat), i = .int .i64 (k : Int) ∧ k ≤ m ∧ Hid (Below w1.heap.size w1 wr) ∧ Hid (Owns wr w1.heap.size 5 y (K31 ++ (Z.take k).flatMap (Sn.sbytes v)))) (fun _ i _ => m - (intOf i).toNat)
      case atStart => exact ⟨0, rfl, by omega, HB31, by show Owns _ _ _ _ _; simpa using HO31.out⟩
      case round =>
        clear q0 q1 q2
        obtain ⟨k, rfl, hk, HBr, HOr⟩ := hrel
        obtain ⟨q0, q1, q2⟩ := (HX.out wr HBr.out).all
        by_cases hlt : k < m
        · obtain ⟨e, he⟩ : ∃ e, Z[k]? = some e := ⟨_, List.getElem?_eq_getElem (by have := HM.out; omega)⟩
          obtain ⟨g, off, rfl, hgl, hcell⟩ := HQ.out (by omega)
          have HS : Hid (∀ W, Below w1.heap.size w1 W → (fun W : World => (W.cell? ⟨w.heap.size, 0, none⟩ = some (.int .i64 v) ∧ W.cell? ⟨w.heap.size, 1, none⟩ = some (.slice ao n cap) ∧ W.cell? ⟨w.heap.size, 2, none⟩ = some (.slice (some ⟨g, off, none⟩) m scap)) ∧ (W.cell? ⟨g, off + k * 8 + 2, none⟩ = some (.int .i64 e.last.client) ∧ W.cell? ⟨g, off + k * 8 + 3, none⟩ = some (.int .i64 e.last.seq) ∧ W.cell? ⟨g, off + k * 8 + 4, none⟩ = some (.int .i64 e.last.err) ∧ W.cell? ⟨g, off + k * 8 + 5, none⟩ = some (.bool e.last.found) ∧ W.cell? ⟨g, off + k * 8 + 6, none⟩ = some (.string ⟨e.last.val.toArray⟩) ∧ W.cell? ⟨g, off + k * 8 + 7, none⟩ = some (.int .i64 e.last.rev))) W) := fun W h => by
            have h1 := (HX.out W h).all
            have h2 := hcell W (HB1.out.trans (h.mono HB1.out.size)) k e he
            exact ⟨h1, h2.c2, h2.c3, h2.c4, h2.c5, h2.c6, h2.c7⟩
          have HFE := Lib.hid (HFS.out e (List.mem_of_getElem? he))
          have hl := HLS.out k
          have HST : Hid ((Z.take (k + 1)).flatMap (Sn.sbytes v) = (Z.take k).flatMap (Sn.sbytes v) ++ An.bytes v e.last) := by show _ = _; rw [List.take_add_one, he]; simp [Sn.sbytes]
          obtain ⟨J0, hJ0⟩ : ∃ K, K = K31 ++ (Z.take k).flatMap (Sn.sbytes v) := ⟨_, rfl⟩
          have hj0 : J0.length ≤ 4050027 := by rw [hJ0, List.length_append]; omega
          have HJ0 := Lib.hid hJ0
          rw [← hJ0] at HOr
          clear hcell he hJ0 hl
          go_wp2_with fail
          refine wp_region_held_drew (S := (fun W : World => (W.cell? ⟨w.heap.size, 0, none⟩ = some (.int .i64 v) ∧ W.cell? ⟨w.heap.size, 1, none⟩ = some (.slice ao n cap) ∧ W.cell? ⟨w.heap.size, 2, none⟩ = some (.slice (some ⟨g, off, none⟩) m scap)) ∧ (W.cell? ⟨g, off + k * 8 + 2, none⟩ = some (.int .i64 e.last.client) ∧ W.cell? ⟨g, off + k * 8 + 3, none⟩ = some (.int .i64 e.last.seq) ∧ W.cell? ⟨g, off + k * 8 + 4, none⟩ = some (.int .i64 e.last.err) ∧ W.cell? ⟨g, off + k * 8 + 5, none⟩ = some (.bool e.last.found) ∧ W.cell? ⟨g, off + k * 8 + 6, none⟩ = some (.string ⟨e.last.val.toArray⟩) ∧ W.cell? ⟨g, off + k * 8 + 7, none⟩ = some (.int .i64 e.last.rev)))) (by kernel_rfl) (HS.out wr HBr.out) (fun hHeld => ?_)
          refine wpT 0 rfl hHeld ?_ (by intro W hSw; obtain ⟨⟨s0, s1, s2⟩, s3, s4, s5, s6, s7, s8⟩ := hSw; go_simp; (try with_reducible rfl))
          refine wpT 1 rfl hHeld ?_ (by intro W hSw; obtain ⟨⟨s0, s1, s2⟩, s3, s4, s5, s6, s7, s8⟩ := hSw; go_simp; (try with_reducible rfl))
          refine wpT 2 rfl hHeld ?_ (by intro W hSw; obtain ⟨⟨s0, s1, s2⟩, s3, s4, s5, s6, s7, s8⟩ := hSw; go_simp; (try with_reducible rfl))
          refine wpT 3 rfl hHeld ?_ (by intro W hSw; obtain ⟨⟨s0, s1, s2⟩, s3, s4, s5, s6, s7, s8⟩ := hSw; go_simp; (try with_reducible rfl))
          refine wpT 4 rfl hHeld ?_ (by intro W hSw; obtain ⟨⟨s0, s1, s2⟩, s3, s4, s5, s6, s7, s8⟩ := hSw; go_simp; (try with_reducible rfl))
          refine wpT 5 rfl hHeld ?_ (by intro W hSw; obtain ⟨⟨s0, s1, s2⟩, s3, s4, s5, s6, s7, s8⟩ := hSw; go_simp; (try with_reducible rfl))
          refine wpT 6 rfl hHeld ?_ (by intro W hSw; obtain ⟨⟨s0, s1, s2⟩, s3, s4, s5, s6, s7, s8⟩ := hSw; go_simp; (try with_reducible rfl))
          refine wpT 7 rfl hHeld ?_ (by intro W hSw; obtain ⟨⟨s0, s1, s2⟩, s3, s4, s5, s6, s7, s8⟩ := hSw; go_simp; (try with_reducible rfl))
          refine wpT 8 rfl hHeld ?_ (by intro W hSw; obtain ⟨⟨s0, s1, s2⟩, s3, s4, s5, s6, s7, s8⟩ := hSw; go_simp; (try with_reducible rfl))
          refine wpAnyH_ready (rs := [9]) (by kernel_rfl) (by simp) ?_
          refine AllReadyH.cons rfl (fun K hK => ?_) AllReadyH.nil
          rw [if_pos (by kernel_rfl)]
          go_simp
          go_at_call 33
          refine (arefBytes_any v e.last _ HFE.out.1 HFE.out.2).mono ?_
          rintro e' wa ⟨ua, rfl, hoa, hba⟩
          have hd := drawn wr 1
          have hba' := hd.trans (hba.mono hd.size)
          have hm41 : (An.bytes v e.last).length ≤ 1050 := An.bytes_len v e.last HFE.out.1 HFE.out.2 (by omega)
          have hown := HOr.out.keep hba' (Nat.le_refl _)
          have hB := HBr.out.trans (hba'.mono HBr.out.size)
          have hoa2 := hoa.reads
          clear hd hba hba' hoa
          dsimp only
          refine hK.out _ _ (HS.out _ hB) (fun hHeld => ?_)
          clear hK K
          refine wpAnyH_ready (rs := [10]) (by kernel_rfl) (by simp) ?_
          refine AllReadyH.cons rfl (fun K hK => ?_) AllReadyH.nil
          refine step_append_bytes (by rfl) _ _ 28 5 (by rfl) Tryz.underlying28 info_u8 w1.heap.size J0 (An.bytes v e.last) _ _ (by rfl) (by rfl) hown hoa2 (by omega) hB.size ?_
          intro vb wb hoz hgz
          have hBz := hB.grown hgz hB.size (fun j hj => (hown.lt j hj).1)
          refine hK.out _ _ (HS.out _ hBz) (fun hHeld => ?_)
          clear hK K
          have HOZ := Lib.hid hoz
          have HBZ := Lib.hid hBz
          clear hoz hgz hBz hown hB hoa2
          refine wpT 11 rfl hHeld ?_
          refine wpAnyH_done (by kernel_rfl) ?_ _
          clear hHeld
          have HO9 : Hid (Owns wb w1.heap.size 5 vb (K31 ++ (Z.take (k + 1)).flatMap (Sn.sbytes v))) := by
            show Owns _ _ _ _ _
            have h := HOZ.out
            rw [HJ0.out] at h
            rw [HST.out, ← List.append_assoc]
            exact h
          clear q0 q1 q2
          go_wp2
          go_roundw
          case rel => exact ⟨k + 1, by go_num, by omega, HBZ, HO9⟩
          case measure => simp [intOf]; omega
        · have hfin := HOr.out
          rw [List.take_of_length_le (by have := HM.out; omega)] at hfin
          have HRES : Hid (RES = K31 ++ Z.flatMap (Sn.sbytes v)) := by
            show _ = _
            rw [HALL.out, HK31.out, HU0.out, HK1.out, HK0.out, HM1.out, HM31.out, Int.toNat_natCast, Int.toNat_natCast]
            simp only [List.append_assoc]
          rw [← HRES.out] at hfin
          have HFIN := Lib.hid hfin
          clear hfin
          go_wp2
          go_ret
          exact ⟨_, rfl, HFIN.out.mono HB1.out.size, HB1.out.trans (HBr.out.mono HB1.out.size)⟩


theorem refSnBytes_any (s : Mg.St) (vp vs : Value) (w : World) (hr : StR w s vp vs) (hf : s.Mid) :
    Calls Tryz.prog 13 #[.agg (Mg.cells s.schema vp vs)] w (Makes w 5 (Sn.bytes s)) := by
  by_cases h2 : s.schema = 2
  · exact refSnBytes2_any s vp vs w hr hf h2
  · exact refSnBytes1_any s vp vs w hr hf h2

end Go.Proofs.YtammfmmpldahhaaGreat
