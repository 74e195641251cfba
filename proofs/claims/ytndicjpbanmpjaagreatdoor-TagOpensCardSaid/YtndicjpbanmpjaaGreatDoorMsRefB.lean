/- The document's bytes of entries, of a message. Written by a program; may be changed here. -/
import Derived.Test.YtndicjpbanmpjaaGreatDoorGMp
import Derived.Test.YtndicjpbanmpjaaGreatDoorGCb
namespace Go.Proofs.YtndicjpbanmpjaaGreatDoor
open Go.RowKit

set_option maxRecDepth 4000 in
set_option maxHeartbeats 3200000 in
theorem refEBytes_any (v : Int) (u : Value) (l : List En.Ent) (w : World) (hv : v = 1 ∨ v = 2) (hu : ReadsE w u l) (hf : ∀ e ∈ l, (e.Fits ∧ e.cmd.Short 1000) ∧ (1 ≤ e.cmd.kind ∧ e.cmd.kind ≤ 8)) (hn : l.length ≤ 1000) :
    Calls Tryz.prog 47 #[.int .i64 v, u] w (Makes w 5 (En.bytes v l)) := by
  obtain ⟨ao, cap, rfl, hc1, hc2⟩ := ReadsE.shape hu
  have HP := Lib.hid (fun h => ReadsE.places hu h); have HF := Lib.hid hf; have HV := Lib.hid hv
  have HLEN : Hid (∀ k, (enc l.length ++ (l.take k).flatMap (En.ebytes v)).length ≤ 7000000) := by
    intro k
    have h1 := En.flat_len v (l.take k) fun e he => (hf e (List.mem_of_mem_take he)).1
    have h2 := enc_nine (n := l.length) (by omega)
    rw [List.length_take] at h1
    rw [List.length_append]
    omega
  obtain ⟨n, hnn⟩ : ∃ n, n = l.length := ⟨_, rfl⟩
  rw [← hnn] at hc1 hn HLEN ⊢
  have HN := Lib.hid hnn
  have HALL : Hid (En.bytes v l = enc n ++ l.flatMap (En.ebytes v)) := by show _ = _; unfold En.bytes; rw [hnn]
  clear hu hf hnn hv
  go_enter Tryz.func47, Tryz.ntmps47
  go_wp2_with fail
  refine (bytes_any (n : Int) _ (by omega) (by omega)).mono ?_
  rintro e1 w1 ⟨u1, rfl, ho1, hb1⟩
  rw [Int.toNat_natCast] at ho1
  have HO1 := Lib.hid ho1; have HB1 := Lib.hid hb1
  clear ho1 hb1
  go_wp2
  go_loopw [5, 6] (fun y i wr => ∃ (k : Nat), i = .int .i64 (k : Int) ∧ k ≤ n ∧ Hid (Below w.heap.size w wr) ∧ Hid (Owns wr w.heap.size 5 y (enc n ++ (l.take k).flatMap (En.ebytes v)))) (fun _ i _ => n - (intOf i).toNat)
  case atStart => exact ⟨0, rfl, by omega, HB1, by show Owns _ _ _ _ _; simpa using HO1.out⟩
  case round =>
    obtain ⟨k, rfl, hk, HB, HO⟩ := hrel
    by_cases hlt : k < n
    · obtain ⟨e, he⟩ : ∃ e, l[k]? = some e := ⟨_, List.getElem?_eq_getElem (by have := HN.out; omega)⟩
      obtain ⟨g, off, rfl, hgl, hcell⟩ := HP.out (by have := HN.out; omega)
      have HC := Lib.hid (fun W (h : Below w.heap.size w W) => hcell W h k e he)
      have HFE := Lib.hid (HF.out e (List.mem_of_getElem? he))
      have hl := HLEN.out k
      have HST : Hid ((l.take (k + 1)).flatMap (En.ebytes v) = (l.take k).flatMap (En.ebytes v) ++ En.ebytes v e) := by show _ = _; rw [List.take_add_one, he]; simp
      obtain ⟨K0, hK0⟩ : ∃ K0, K0 = enc n ++ (l.take k).flatMap (En.ebytes v) := ⟨_, rfl⟩
      have HK0 := Lib.hid hK0
      rw [← hK0] at HO hl
      obtain ⟨c0, c1, c2, c3, c4, c5, c6, c7, c8, c9⟩ := HC.out wr HB.out
      clear hcell he hK0
      go_wp2_with fail
      refine (bytes_any e.index _ HFE.out.1.1.i0 HFE.out.1.1.i1).mono ?_
      rintro e1 wa1 ⟨ua1, rfl, hoa1, hba1⟩
      have hm1 : (enc (e.index).toNat).length ≤ 9 := enc_nine (by have := HFE.out.1.1.i1; omega)
      obtain ⟨M1, hM1⟩ : ∃ M, M = enc (e.index).toNat := ⟨_, rfl⟩
      rw [← hM1] at hoa1 hm1
      have HM1 := Lib.hid hM1
      have hown := HO.out.keep hba1 (Nat.le_refl _)
      have hB := HB.out.trans (hba1.mono HB.out.size)
      clear hM1 hba1 c0 c1 c2 c3 c4 c5 c6 c7 c8 c9
      go_wp2_with (at_builtin; refine append_bytes rfl _ _ 25 5 rfl Tryz.underlying25 info_u8 w.heap.size K0 M1 _ _ rfl rfl hown hoa1.reads (by omega) w hB (Nat.le_refl _) ?_; intro vb1 wb1 hoz hbz hgz; have HOwb1 := Lib.hid hoz; have HBwb1 := Lib.hid hbz; clear hoz hbz hgz; obtain ⟨c0, c1, c2, c3, c4, c5, c6, c7, c8, c9⟩ := HC.out _ HBwb1.out)
      obtain ⟨K1, hK1⟩ : ∃ K, K = K0 ++ M1 := ⟨_, rfl⟩
      have hl1 : K1.length ≤ 7000009 := by rw [hK1, List.length_append]; omega
      rw [← hK1] at HOwb1
      have HK1 := Lib.hid hK1
      clear hK1 hown hB hoa1
      go_wp2_with fail
      refine (bytes_any e.bal.round _ HFE.out.1.1.bal.r0 HFE.out.1.1.bal.r1).mono ?_
      rintro e2 wa2 ⟨ua2, rfl, hoa2, hba2⟩
      have hm2 : (enc (e.bal.round).toNat).length ≤ 9 := enc_nine (by have := HFE.out.1.1.bal.r1; omega)
      obtain ⟨M2, hM2⟩ : ∃ M, M = enc (e.bal.round).toNat := ⟨_, rfl⟩
      rw [← hM2] at hoa2 hm2
      have HM2 := Lib.hid hM2
      have hown := HOwb1.out.keep hba2 (Nat.le_refl _)
      have hB := HBwb1.out.trans (hba2.mono HBwb1.out.size)
      clear hM2 hba2 c0 c1 c2 c3 c4 c5 c6 c7 c8 c9
      go_wp2_with (at_builtin; refine append_bytes rfl _ _ 25 5 rfl Tryz.underlying25 info_u8 w.heap.size K1 M2 _ _ rfl rfl hown hoa2.reads (by omega) w hB (Nat.le_refl _) ?_; intro vb2 wb2 hoz hbz hgz; have HOwb2 := Lib.hid hoz; have HBwb2 := Lib.hid hbz; clear hoz hbz hgz; obtain ⟨c0, c1, c2, c3, c4, c5, c6, c7, c8, c9⟩ := HC.out _ HBwb2.out)
      obtain ⟨K2, hK2⟩ : ∃ K, K = K1 ++ M2 := ⟨_, rfl⟩
      have hl2 : K2.length ≤ 7000018 := by rw [hK2, List.length_append]; omega
      rw [← hK2] at HOwb2
      have HK2 := Lib.hid hK2
      clear hK2 hown hB hoa2
      go_wp2_with fail
      refine (bytes_any e.bal.node _ HFE.out.1.1.bal.n0 HFE.out.1.1.bal.n1).mono ?_
      rintro e3 wa3 ⟨ua3, rfl, hoa3, hba3⟩
      have hm3 : (enc (e.bal.node).toNat).length ≤ 9 := enc_nine (by have := HFE.out.1.1.bal.n1; omega)
      obtain ⟨M3, hM3⟩ : ∃ M, M = enc (e.bal.node).toNat := ⟨_, rfl⟩
      rw [← hM3] at hoa3 hm3
      have HM3 := Lib.hid hM3
      have hown := HOwb2.out.keep hba3 (Nat.le_refl _)
      have hB := HBwb2.out.trans (hba3.mono HBwb2.out.size)
      clear hM3 hba3 c0 c1 c2 c3 c4 c5 c6 c7 c8 c9
      go_wp2_with (at_builtin; refine append_bytes rfl _ _ 25 5 rfl Tryz.underlying25 info_u8 w.heap.size K2 M3 _ _ rfl rfl hown hoa3.reads (by omega) w hB (Nat.le_refl _) ?_; intro vb3 wb3 hoz hbz hgz; have HOwb3 := Lib.hid hoz; have HBwb3 := Lib.hid hbz; clear hoz hbz hgz; obtain ⟨c0, c1, c2, c3, c4, c5, c6, c7, c8, c9⟩ := HC.out _ HBwb3.out)
      obtain ⟨K3, hK3⟩ : ∃ K, K = K2 ++ M3 := ⟨_, rfl⟩
      have hl3 : K3.length ≤ 7000027 := by rw [hK3, List.length_append]; omega
      rw [← hK3] at HOwb3
      have HK3 := Lib.hid hK3
      clear hK3 hown hB hoa3
      go_wp2_with fail
      refine (refBytesCmd_any v e.cmd _ HV.out HFE.out.2.1 HFE.out.2.2 HFE.out.1.1.cmd HFE.out.1.2).mono ?_
      rintro e4 wa4 ⟨ua4, rfl, hoa4, hba4⟩
      have hm4 := Cm.bytes_len v e.cmd HFE.out.1.1.cmd HFE.out.1.2
      obtain ⟨M4, hM4⟩ : ∃ M, M = Cm.bytes v e.cmd := ⟨_, rfl⟩
      rw [← hM4] at hoa4 hm4
      have HM4 := Lib.hid hM4
      have hown := HOwb3.out.keep hba4 (Nat.le_refl _)
      have hB := HBwb3.out.trans (hba4.mono HBwb3.out.size)
      clear hM4 hba4 c0 c1 c2 c3 c4 c5 c6 c7 c8 c9
      go_wp2_with (at_builtin; refine append_bytes rfl _ _ 25 5 rfl Tryz.underlying25 info_u8 w.heap.size K3 M4 _ _ rfl rfl hown hoa4.reads (by omega) w hB (Nat.le_refl _) ?_; intro vb4 wb4 hoz hbz hgz; have HOwb4 := Lib.hid hoz; have HBwb4 := Lib.hid hbz; clear hoz hbz hgz)
      have HO5 : Hid (Owns wb4 w.heap.size 5 vb4 (enc n ++ (l.take (k + 1)).flatMap (En.ebytes v))) := by
        show Owns _ _ _ _ _
        have h := HOwb4.out
        rw [HK3.out, HK2.out, HK1.out, HK0.out, HM1.out, HM2.out, HM3.out, HM4.out] at h
        rw [HST.out]
        unfold En.ebytes
        simp only [List.append_assoc] at h ⊢
        exact h
      go_roundw
      case rel => exact ⟨k + 1, by go_num, by omega, HBwb4, HO5⟩
      case measure => simp [intOf]; omega
    · have hfin := HO.out
      rw [List.take_of_length_le (by have := HN.out; omega), ← HALL.out] at hfin
      have HFIN := Lib.hid hfin
      clear hfin
      go_wp2
      go_ret
      exact ⟨_, rfl, HFIN.out, HB.out⟩

set_option maxRecDepth 4000 in
set_option maxHeartbeats 3200000 in
theorem refMBytes_any (m : Ms.Msg) (ve vi : Value) (w : World) (he : ReadsE w ve m.ents) (hi : Reads w vi m.img) (hf : m.Fits) (hs : ∀ e ∈ m.ents, e.cmd.Short 1000 ∧ (1 ≤ e.cmd.kind ∧ e.cmd.kind ≤ 8)) (hn : m.ents.length ≤ 1000) (hk : m.img.length ≤ 100000) :
    Calls Tryz.prog 25 #[.agg (Ms.cells m ve vi)] w (Makes w 5 (Ms.bytes m)) := by
  obtain ⟨w1, e1, hl1, hB1, hz1⟩ := box_msg w m ve vi
  obtain ⟨p0, p1, p2, p3, p4, p5, p6, p7, p8, p9⟩ := Msgs.ten hl1
  have HI1 := Lib.hid (hi.below hB1); have HE1 := Lib.hid (he.below hB1)
  obtain ⟨io, ic, rfl⟩ := hi.shape
  have HENT : Hid (∀ e ∈ m.ents, (e.Fits ∧ e.cmd.Short 1000) ∧ (1 ≤ e.cmd.kind ∧ e.cmd.kind ≤ 8)) := fun e h => ⟨⟨hf.e e h, (hs e h).1⟩, (hs e h).2⟩
  have HNUM : Hid (∀ k, k < 7 → -9223372036854775808 ≤ Ms.nth (Ms.nums m) k ∧ Ms.nth (Ms.nums m) k ≤ 9223372036854775807) := fun k hk => hf.n _ (Ms.nth_in hk)
  have HNB : Hid (∀ k, (Ms.nbytes ((Ms.nums m).take k)).length ≤ 63) := by
    intro k
    have := Ms.nbytes_len ((Ms.nums m).take k) fun x hx => (hf.n x (List.mem_of_mem_take hx)).2
    rw [List.length_take] at this
    have h7 : (Ms.nums m).length = 7 := rfl
    omega
  have HNN := Lib.hid hn; have HKK := Lib.hid hk
  have HM1 := Lib.hid hl1; have HB1 := Lib.hid hB1; have HS := Lib.hid hz1
  obtain ⟨w2, e2, hl2, hb2⟩ : ∃ w2, w1.alloc (.cells #[.int .i64 m.kind, .int .i64 m.frm, .int .i64 m.dst, .int .i64 m.bal.round, .int .i64 m.bal.node, .int .i64 m.index, .int .i64 m.commit] 3) = w2 ∧ Lies w2 w1.heap.size 3 #[.int .i64 m.kind, .int .i64 m.frm, .int .i64 m.dst, .int .i64 m.bal.round, .int .i64 m.bal.node, .int .i64 m.index, .int .i64 m.commit] ∧ Below w1.heap.size w1 w2 :=
    ⟨_, rfl, Lies.new _ _ _, (Below.refl _ _).alloc (Nat.le_refl _) _⟩
  have HA : Hid (∀ (k : Nat), k < 7 → (#[Value.int .i64 m.kind, .int .i64 m.frm, .int .i64 m.dst, .int .i64 m.bal.round, .int .i64 m.bal.node, .int .i64 m.index, .int .i64 m.commit])[k]? = some (.int .i64 (Ms.nth (Ms.nums m) k))) := by
    intro k hk
    have : k = 0 ∨ k = 1 ∨ k = 2 ∨ k = 3 ∨ k = 4 ∨ k = 5 ∨ k = 6 := by omega
    rcases this with rfl | rfl | rfl | rfl | rfl | rfl | rfl <;> rfl
  have HIW : Hid (∀ W, Below w2.heap.size w2 W → Reads W (.slice io m.img.length ic) m.img) := fun W h => (HI1.out.below hb2).below h
  have HEW : Hid (∀ W, Below w2.heap.size w2 W → ReadsE W ve m.ents) := fun W h => (ReadsR.below (HE1.out.below hb2) h)
  have HL2 := Lib.hid hl2; have HB2 := Lib.hid (HB1.out.trans (hb2.mono HB1.out.size))
  have HM2 := Lib.hid (HM1.out.below hb2 HM1.out.lt)
  have HSZ : Hid (w1.heap.size < w2.heap.size) := hl2.lt
  clear hl1 hB1 hz1 he hi hf hs hn hk hl2 hb2
  go_enter Tryz.func25, Tryz.ntmps25
  go_wp2
  go_loopw [4, 5] (fun y i wr => ∃ (k : Nat), i = .int .i64 (k : Int) ∧ k ≤ 7 ∧ Hid (Below w2.heap.size w2 wr) ∧ Hid (Owns wr w2.heap.size 5 y (Ms.nbytes ((Ms.nums m).take k)))) (fun _ i _ => 7 - (intOf i).toNat)
  case atStart => exact ⟨0, rfl, by omega, Below.refl _ _, Owns.empty _ _ _⟩
  case round =>
    obtain ⟨k, rfl, hk, HB, HO⟩ := hrel
    by_cases hlt : k < 7
    · have hq : wr.cell? ⟨w1.heap.size, k, none⟩ = some (.int .i64 (Ms.nth (Ms.nums m) k)) := (HL2.out.below HB.out HSZ.out).cell k _ (HA.out k hlt)
      have HX := Lib.hid (HNUM.out k hlt)
      have HST := Lib.hid (Ms.nums_at m k hlt)
      have hl := HNB.out k
      obtain ⟨x, hx⟩ : ∃ x, x = Ms.nth (Ms.nums m) k := ⟨_, rfl⟩
      rw [← hx] at hq HX HST
      obtain ⟨K0, hK0⟩ : ∃ K0, K0 = Ms.nbytes ((Ms.nums m).take k) := ⟨_, rfl⟩
      rw [← hK0] at HO HST hl
      clear hx hK0
      go_wp2_with fail
      refine (bytes_any x _ HX.out.1 HX.out.2).mono ?_
      rintro e5 wa ⟨ua, rfl, hoa, hba⟩
      have hm : (enc x.toNat).length ≤ 9 := enc_nine (by have := HX.out.2; omega)
      obtain ⟨M, hM⟩ : ∃ M, M = enc x.toNat := ⟨_, rfl⟩
      rw [← hM] at hoa hm HST
      have hown := HO.out.keep hba (Nat.le_refl _)
      have hB := HB.out.trans (hba.mono HB.out.size)
      clear hM hba hq
      go_wp2_with (at_builtin; refine append_bytes rfl _ _ 25 5 rfl Tryz.underlying25 info_u8 w2.heap.size K0 M _ _ rfl rfl hown hoa.reads (by omega) w2 hB (Nat.le_refl _) ?_; intro vb wb hoz hbz hgz; have HOwb := Lib.hid hoz; have HBwb := Lib.hid hbz; clear hoz hbz hgz)
      rw [← HST.out] at HOwb
      go_roundw
      case rel => exact ⟨k + 1, by go_num, by omega, HBwb, HOwb⟩
      case measure => simp [intOf]; omega
    · obtain rfl : k = 7 := by omega
      have hw5 := HO.out
      have hl := HNB.out 7
      rw [show (Ms.nums m).take 7 = Ms.nums m from rfl] at hw5 hl
      obtain ⟨K0, hK0⟩ : ∃ K0, K0 = Ms.nbytes (Ms.nums m) := ⟨_, rfl⟩
      rw [← hK0] at hw5 hl
      have HK0 := Lib.hid hK0
      have HO5 := Lib.hid hw5
      have HMr := Lib.hid (HM2.out.below HB.out (by have := HS.out; have := HSZ.out; omega))
      have HBr := Lib.hid (HB2.out.trans (HB.out.mono HB2.out.size))
      have p8 := Msgs.c8 HMr.out
      clear hw5 hK0
      go_wp2_with fail
      refine (refEBytes_any 1 ve m.ents _ (.inl rfl) (HEW.out _ HB.out) HENT.out HNN.out).mono ?_
      rintro e6 wa ⟨ua, rfl, hoa, hba⟩
      have hm : (En.bytes 1 m.ents).length ≤ 7000000 := by
        have h1 := En.flat_len 1 m.ents fun e h => (HENT.out e h).1
        have h2 := enc_nine (n := m.ents.length) (by have := HNN.out; omega)
        have := HNN.out
        unfold En.bytes
        rw [List.length_append]
        omega
      obtain ⟨M, hM⟩ : ∃ M, M = En.bytes 1 m.ents := ⟨_, rfl⟩
      rw [← hM] at hoa hm
      have HMM := Lib.hid hM
      have hown := HO5.out.keep hba (Nat.le_refl _)
      have hB := HB.out.trans (hba.mono HB.out.size)
      clear hM hba p8
      go_wp2_with (at_builtin; refine append_bytes rfl _ _ 25 5 rfl Tryz.underlying25 info_u8 w2.heap.size K0 M _ _ rfl rfl hown hoa.reads (by omega) w2 hB (Nat.le_refl _) ?_; intro vb wb hoz hbz hgz; have HOwb := Lib.hid hoz; have HBwb := Lib.hid hbz; clear hoz hbz hgz; have p9 := Msgs.c9 (HM2.out.below HBwb.out (by have := HS.out; have := HSZ.out; omega)))
      obtain ⟨K1, hK1⟩ : ∃ K1, K1 = K0 ++ M := ⟨_, rfl⟩
      have hl1 : K1.length ≤ 7000063 := by rw [hK1, List.length_append]; omega
      rw [← hK1] at HOwb
      have HK1 := Lib.hid hK1
      clear hK1 hown hB hoa
      go_wp2_with fail
      refine (bytes_any (m.img.length : Int) _ (by omega) (by have := HKK.out; omega)).mono ?_
      rintro e7 wa2 ⟨ua2, rfl, hoa, hba⟩
      rw [Int.toNat_natCast] at hoa
      have hm2 : (enc m.img.length).length ≤ 9 := enc_nine (by have := HKK.out; omega)
      obtain ⟨M2, hM2⟩ : ∃ M, M = enc m.img.length := ⟨_, rfl⟩
      rw [← hM2] at hoa hm2
      have HM2' := Lib.hid hM2
      have hown := HOwb.out.keep hba (Nat.le_refl _)
      have hB := HBwb.out.trans (hba.mono HBwb.out.size)
      clear hM2 hba p9
      go_wp2_with (first
        | (at_builtin; refine append_bytes rfl _ _ 25 5 rfl Tryz.underlying25 info_u8 w2.heap.size K1 M2 _ _ rfl rfl hown hoa.reads (by omega) w2 hB (Nat.le_refl _) ?_
           intro vc wc hoz hbz hgz
           have HOwc := Lib.hid hoz; have HBwc := Lib.hid hbz
           clear hoz hbz hgz
           have p9 := Msgs.c9 (HM2.out.below HBwc.out (by have := HS.out; have := HSZ.out; omega)))
        | (at_builtin; refine append_bytes rfl _ _ 25 5 rfl Tryz.underlying25 info_u8 w2.heap.size (K1 ++ M2) m.img _ _ rfl rfl HOwc.out (HIW.out _ HBwc.out) (by have := HKK.out; rw [List.length_append]; omega) w2 HBwc.out (Nat.le_refl _) ?_
           intro vd wd hoz hbz hgz
           have HOwd := Lib.hid hoz; have HBwd := Lib.hid hbz
           clear hoz hbz hgz))
      go_ret
      have hfin := HOwd.out.mono HB2.out.size
      rw [HK1.out, HK0.out, HMM.out, HM2'.out] at hfin
      refine ⟨_, rfl, ?_, HB2.out.trans (HBwd.out.mono HB2.out.size)⟩
      unfold Ms.bytes Pk.text
      simp only [List.append_assoc] at hfin ⊢
      exact hfin

end Go.Proofs.YtndicjpbanmpjaaGreatDoor
