/- MsgoneEncodes, MsgoneDecodes. -/
import Derived.Test.YtenokgkbnpfjmaaGreatDoorGMg
import Derived.Test.YtenokgkbnpfjmaaGreatDoorMsRefB
import Derived.Test.YtenokgkbnpfjmaaGreatDoorMsRefD
import Derived.Test.YtenokgkbnpfjmaaGreatDoorMsAwake
namespace Go.Proofs.YtenokgkbnpfjmaaGreatDoor
open Go.RowKit

/-- What is not large. -/
theorem Ms.small2 {m : Ms.Msg} (h : Ms.large m = false) : m.ents.length ≤ 40 ∧ m.img.length ≤ 32780 ∧ ∀ e ∈ m.ents, e.cmd.Short 200 := by
  unfold Ms.large at h
  rw [Bool.or_eq_false_iff, Bool.or_eq_false_iff] at h
  obtain ⟨h1, h2⟩ := En.small h.1
  have h3 := of_decide_eq_false h.2.2
  exact ⟨h1, by omega, h2⟩
/-- The kinds of the commands of a valid message. -/
theorem Ms.ent_kinds {m : Ms.Msg} (h : Ms.check m = 0) : ∀ e ∈ m.ents, 1 ≤ e.cmd.kind ∧ e.cmd.kind ≤ 8 := fun e he => by
  have h1 := (Cm.check_ok (Ms.ents_ok _ _ (Ms.check_good h).ents e he).2).1
  unfold Cm.known at h1
  simpa using h1
/-- Its bytes are not many. -/
theorem Ms.bytes_len {m : Ms.Msg} (hf : m.Fits) (hs : ∀ e ∈ m.ents, e.cmd.Short 200) (hn : m.ents.length ≤ 40) (hk : m.img.length ≤ 32780) : (Ms.bytes m).length ≤ 100000 := by
  have h1 := Ms.nbytes_len (Ms.nums m) fun x hx => (hf.n x hx).2
  have h7 : (Ms.nums m).length = 7 := rfl
  have h2 := enc_nine (n := m.ents.length) (by omega)
  have h3 := enc_nine (n := m.img.length) (by omega)
  have he : ∀ e ∈ m.ents, (En.ebytes 1 e).length ≤ 1000 := fun e h => by
    have hfe := hf.e e h
    have hse := hs e h
    have a1 := enc_nine (n := e.index.toNat) (by have := hfe.i1; omega)
    have a2 := enc_nine (n := e.bal.round.toNat) (by have := hfe.bal.r1; omega)
    have a3 := enc_nine (n := e.bal.node.toNat) (by have := hfe.bal.n1; omega)
    have a4 := enc_nine (n := e.cmd.kind.toNat) (by have := hfe.cmd.k1; omega)
    have a5 := enc_nine (n := e.cmd.client.toNat) (by have := hfe.cmd.c1; omega)
    have a6 := enc_nine (n := e.cmd.seq.toNat) (by have := hfe.cmd.q1; omega)
    have a7 := enc_nine (n := e.cmd.node.toNat) (by have := hfe.cmd.n1; omega)
    have a8 := enc_nine (n := e.cmd.key.length) (by have := hse.1; omega)
    have a9 := enc_nine (n := e.cmd.val.length) (by have := hse.2.2; omega)
    have c1 := hse.1
    have c2 := hse.2.2
    unfold En.ebytes
    rw [show Cm.bytes 1 e.cmd = enc e.cmd.kind.toNat ++ (enc e.cmd.client.toNat ++ (enc e.cmd.seq.toNat ++ (Pk.text e.cmd.key ++ (Pk.text e.cmd.val ++ enc e.cmd.node.toNat)))) by simp [Cm.bytes, Cm.encoded, Cm.fenc, Cm.F.num, Cm.Cmd.n, Cm.Cmd.s]]
    unfold Pk.text
    simp only [List.length_append]
    omega
  have hfl : ∀ l : List En.Ent, (∀ e ∈ l, (En.ebytes 1 e).length ≤ 1000) → (l.flatMap (En.ebytes 1)).length ≤ 1000 * l.length := by
    intro l
    induction l with
    | nil => intro _; simp
    | cons a r ih =>
      intro h
      have q1 := h a (by simp)
      have q2 := ih fun e he => h e (by simp [he])
      rw [List.flatMap_cons, List.length_append, List.length_cons]
      omega
  have h4 := hfl m.ents he
  unfold Ms.bytes En.bytes Pk.text
  simp only [List.length_append]
  omega
/-- The texts of a valid command are short. -/
theorem Cm.check_short {c : Cm.Cmd} (h : Cm.check c = 0) : c.Short 48 := by
  obtain ⟨hk, ha⟩ := Cm.check_ok h
  unfold Cm.check at h
  rw [hk, if_neg (by simp)] at h
  by_cases h6 : (Cm.fields c.kind).all (Cm.within c) = false
  · rw [if_pos h6] at h; omega
  rw [if_neg h6] at h
  by_cases h7 : (Cm.fields c.kind).all (Cm.spelt c) = false
  · rw [if_pos h7] at h; omega
  have hw : (Cm.fields c.kind).all (Cm.spelt c) = true := by simpa using h7
  have h' := of_decide_eq_true ha
  have hkey : ∀ s : List UInt8, Rn.key ⟨s.toArray⟩ = true → s.length ≤ 48 := fun s hs => by
    unfold Rn.key at hs
    simp only [Bool.and_eq_true, decide_eq_true_eq] at hs
    have := hs.1.2
    rw [str_size] at this
    omega
  have hval : ∀ s : List UInt8, Rn.val ⟨s.toArray⟩ = true → s.length ≤ 48 := fun s hs => by
    unfold Rn.val at hs
    simp only [Bool.and_eq_true, decide_eq_true_eq] at hs
    have := hs.1.1
    rwa [str_size] at this
  clear h ha h6 h7
  obtain ⟨k, cl, sq, nd, ky, od, vl⟩ := c
  dsimp only at hk hw h'
  rcases Vs.kinds k with rfl | rfl | rfl | rfl | rfl | rfl | rfl | rfl | h
  rotate_right
  · simp [Cm.known] at hk; omega
  all_goals
    simp [Cm.fields, Cm.wipe, Cm.F.num, Cm.Cmd.setN, Cm.Cmd.setS, Cm.bareOf] at h'
    simp [Cm.fields, Cm.spelt, Cm.F.num, Cm.okS, Cm.Cmd.s] at hw
    refine ⟨?_, ?_, ?_⟩ <;> dsimp only <;> first | (rw [h'.1]; simp; done) | (rw [h'.2]; simp; done) | (rw [h'.2.1]; simp; done) | (rw [h'.2.2]; simp; done) | exact hkey _ hw | exact hkey _ hw.1 | exact hkey _ hw.2 | exact hval _ hw.2 | exact hval _ hw.1 | exact hval _ hw.2.1 | exact hval _ hw.2.2 | grind
theorem Short.up {c : Cm.Cmd} {a b : Nat} (h : c.Short a) (hab : a ≤ b) : c.Short b := ⟨Nat.le_trans h.1 hab, Nat.le_trans h.2.1 hab, Nat.le_trans h.2.2 hab⟩

set_option maxRecDepth 4000 in
set_option maxHeartbeats 6400000 in
theorem msgoneEncodes_any (m : Ms.Msg) (ve vi : Value) (w : World) (hF : FieldsIn w) (hW : WordsIn w) (he : ReadsE w ve m.ents) (hi : Reads w vi m.img) (hf : m.Fits) (hs : ∀ e ∈ m.ents, e.cmd.Short 9223372036854775807) :
    Calls Tryz.prog 3 #[.agg (Ms.cells m ve vi)] w (Truly w) := by
  obtain ⟨w1, e1, hl1, hB1, hz1⟩ := box_msg w m ve vi
  obtain ⟨p0, p1, p2, p3, p4, p5, p6, p7, p8, p9⟩ := Msgs.ten hl1
  have HM1 := Lib.hid hl1; have HB1 := Lib.hid hB1
  have HE := Lib.hid (fun W (h : Below w.heap.size w W) => (ReadsR.below he h : ReadsE W ve m.ents)); have HI := Lib.hid (fun W (h : Below w.heap.size w W) => hi.below h)
  have HFW := Lib.hid (fun W (h : Below w.heap.size w W) => And.intro (hF.below h) (hW.below h))
  have HFIT := Lib.hid hf
  obtain ⟨x, hx⟩ : ∃ x, x = Ms.large m := ⟨_, rfl⟩
  have HX := Lib.hid hx
  have hlarge := largeM_any m ve vi w1 (HE.out _ hB1) (HI.out _ hB1) hs
  rw [← hx] at hlarge
  have HLARGE := Lib.hid hlarge
  clear hl1 hB1 hz1 hF hW he hi hf hs hx hlarge
  cases x with
  | true =>
    go_enter Tryz.func3, Tryz.ntmps3
    go_wp2_with fail
    refine HLARGE.out.mono ?_
    rintro e2 w2 ⟨rfl, hb⟩
    have HB2 := Lib.hid (HB1.out.trans (hb.mono HB1.out.size))
    clear hb
    go_wp2_with fail
    refine (awakeM_any _ (HFW.out _ HB2.out).1 (HFW.out _ HB2.out).2).mono ?_
    rintro e3 w3 ⟨rfl, hb⟩
    go_wp2
    go_ret
    exact truly_of (HB2.out.trans (hb.mono HB2.out.size))
  | false =>
    obtain ⟨hn40, himg, hsm⟩ := Ms.small2 HX.out.symm
    have HSM := Lib.hid hsm; have HN := Lib.hid hn40; have HIM := Lib.hid himg
    clear hn40 himg hsm
    go_enter Tryz.func3, Tryz.ntmps3
    go_wp2_with fail
    refine HLARGE.out.mono ?_
    rintro e2 w2 ⟨rfl, hb⟩
    have HM2 := Lib.hid (HM1.out.below hb HM1.out.lt); have HB2 := Lib.hid (HB1.out.trans (hb.mono HB1.out.size))
    clear hb p0 p1 p2 p3 p4 p5 p6 p7 p8 p9 HLARGE
    obtain ⟨p0, p1, p2, p3, p4, p5, p6, p7, p8, p9⟩ := Msgs.ten HM2.out
    go_wp2_with fail
    refine (encodeM_any m ve vi _ (HFW.out _ HB2.out).1 (HFW.out _ HB2.out).2 (HE.out _ HB2.out) (HI.out _ HB2.out) HFIT.out (fun e h => Short.up (HSM.out e h) (by omega)) (by have := HN.out; omega) (by have := HIM.out; omega)).mono ?_
    rintro e3 w3 ⟨hb, ub, rfl, hub⟩
    have HM3 := Lib.hid (HM2.out.below hb HM2.out.lt); have HB3 := Lib.hid (HB2.out.trans (hb.mono HB2.out.size))
    clear hb p0 p1 p2 p3 p4 p5 p6 p7 p8 p9
    obtain ⟨p0, p1, p2, p3, p4, p5, p6, p7, p8, p9⟩ := Msgs.ten HM3.out
    obtain ⟨c, hc⟩ : ∃ c, c = Ms.older m := ⟨_, rfl⟩
    have HC := Lib.hid hc
    have hold := refOlderM_any m ve vi w3 (HE.out _ HB3.out) (HI.out _ HB3.out) (fun e h => Short.up (HSM.out e h) (by omega))
    rw [← hc] at hold hub ⊢
    have HOLD := Lib.hid hold
    clear hc hold
    by_cases h0 : c = 0
    · subst h0
      rw [if_pos rfl] at hub
      have HUB3 := Lib.hid hub
      obtain ⟨bo, bc, rfl⟩ := hub.shape
      have hBL := Ms.bytes_len HFIT.out HSM.out HN.out HIM.out
      obtain ⟨bn, hbn⟩ : ∃ bn, bn = (Ms.bytes m).length := ⟨_, rfl⟩
      rw [← hbn] at HUB3 ⊢
      have HBL : Hid ((Ms.bytes m).length ≤ 100000) := hBL
      clear hub hBL hbn
      go_wp2_with fail
      refine HOLD.out.mono ?_
      rintro e4 w4 ⟨rfl, hb⟩
      have HM4 := Lib.hid (HM3.out.below hb HM3.out.lt); have HB4 := Lib.hid (HB3.out.trans (hb.mono HB3.out.size)); have HUB4 := Lib.hid (HUB3.out.below hb)
      clear hb p0 p1 p2 p3 p4 p5 p6 p7 p8 p9
      have hdec := decodeM_any (.slice bo bn bc) (Ms.bytes m) w4 (HFW.out _ HB4.out).1 (HFW.out _ HB4.out).2 HUB4.out HBL.out
      rw [Ms.decode_back HC.out.symm HFIT.out HSM.out (by omega)] at hdec
      have HDEC := Lib.hid hdec
      clear hdec
      go_wp2_with fail
      refine HDEC.out.mono ?_
      rintro e5 w5 ⟨hb, xe, xi, rfl, hxe, hxi, h1xe, h1xi⟩
      dsimp only at hxe hxi ⊢
      have HM5 := Lib.hid (HM4.out.below hb HM4.out.lt); have HB5 := Lib.hid (HB4.out.trans (hb.mono HB4.out.size)); have HUB5 := Lib.hid (HUB4.out.below hb)
      have HXE5 := Lib.hid hxe; have HXI5 := Lib.hid hxi; have H1 := Lib.hid h1xe; have H2 := Lib.hid h1xi
      clear hb hxe hxi h1xe h1xi
      go_wp2_with (first
        | (refine store_msg (by rfl) _ _ (by rfl) w5.heap.size Ms.zero _ _ m xe xi (by rfl) (by rfl) H1.out H2.out (Lies.new _ _ _) ?_
           intro w6 hl6 hg6
           have hb := fresh_below hg6
           have HX6 := Lib.hid hl6; have HM6 := Lib.hid (HM5.out.below hb HM5.out.lt); have HB6 := Lib.hid (HB5.out.trans (hb.mono HB5.out.size)); have HUB6 := Lib.hid (HUB5.out.below hb)
           have HXE6 := Lib.hid (HXE5.out.below hb); have HXI6 := Lib.hid (HXI5.out.below hb)
           clear hl6 hg6 hb
           obtain ⟨p0, p1, p2, p3, p4, p5, p6, p7, p8, p9⟩ := Msgs.ten HM6.out)
        | fail)
      refine (refMBytes_any m ve vi _ (HE.out _ HB6.out) (HI.out _ HB6.out) HFIT.out (fun e h => ⟨Short.up (HSM.out e h) (by omega), Ms.ent_kinds (Ms.older_good HC.out.symm).1 e h⟩) (by have := HN.out; omega) (by have := HIM.out; omega)).mono ?_
      rintro e7 w7 ⟨ur, rfl, hur, hb⟩
      have HX7 := Lib.hid (HX6.out.below hb HX6.out.lt); have HM7 := Lib.hid (HM6.out.below hb HM6.out.lt); have HB7 := Lib.hid (HB6.out.trans (hb.mono HB6.out.size)); have HUB7 := Lib.hid (HUB6.out.below hb)
      have HXE7 := Lib.hid (HXE6.out.below hb); have HXI7 := Lib.hid (HXI6.out.below hb); have HUR7 := Lib.hid hur.reads
      clear hb hur p0 p1 p2 p3 p4 p5 p6 p7 p8 p9
      have hsame := sameB_any (.slice bo bn bc) ur (Ms.bytes m) (Ms.bytes m) w7 HUB7.out HUR7.out
      rw [show (Ms.bytes m == Ms.bytes m) = true by simp] at hsame
      have HSAME := Lib.hid hsame
      clear hsame
      go_wp2_with fail
      refine HSAME.out.mono ?_
      rintro e8 w8 ⟨rfl, hb⟩
      have HX8 := Lib.hid (HX7.out.below hb HX7.out.lt); have HM8 := Lib.hid (HM7.out.below hb HM7.out.lt); have HB8 := Lib.hid (HB7.out.trans (hb.mono HB7.out.size))
      have HXE8 := Lib.hid (HXE7.out.below hb); have HXI8 := Lib.hid (HXI7.out.below hb)
      clear hb
      obtain ⟨p0, p1, p2, p3, p4, p5, p6, p7, p8, p9⟩ := Msgs.ten HM8.out
      obtain ⟨q0, q1, q2, q3, q4, q5, q6, q7, q8, q9⟩ := Msgs.ten HX8.out
      have hsm := refSameM_any m m xe xi ve vi w8 HXE8.out HXI8.out (HE.out _ HB8.out) (HI.out _ HB8.out)
      rw [show decide (m = m) = true from decide_eq_true rfl] at hsm
      have HSM2 := Lib.hid hsm
      clear hsm
      go_wp2_with fail
      refine HSM2.out.mono ?_
      rintro e9 w9 ⟨rfl, hb⟩
      have HB9 := Lib.hid (HB8.out.trans (hb.mono HB8.out.size))
      clear hb p0 p1 p2 p3 p4 p5 p6 p7 p8 p9 q0 q1 q2 q3 q4 q5 q6 q7 q8 q9
      go_wp2_with fail
      refine (awakeM_any _ (HFW.out _ HB9.out).1 (HFW.out _ HB9.out).2).mono ?_
      rintro ea wa ⟨rfl, hb⟩
      go_wp2
      go_ret
      exact truly_of (HB9.out.trans (hb.mono HB9.out.size))
    · rw [if_neg h0] at hub
      obtain ⟨bo, bc, rfl⟩ := hub.shape
      have hne : (c != 0) = true := by simpa using h0
      have hcc : (c == c) = true := by simp
      clear hub h0
      go_wp2_with fail
      refine HOLD.out.mono ?_
      rintro e4 w4 ⟨rfl, hb⟩
      have HB4 := Lib.hid (HB3.out.trans (hb.mono HB3.out.size))
      clear hb p0 p1 p2 p3 p4 p5 p6 p7 p8 p9
      go_wp2_with fail
      refine (awakeM_any _ (HFW.out _ HB4.out).1 (HFW.out _ HB4.out).2).mono ?_
      rintro e5 w5 ⟨rfl, hb⟩
      go_wp2
      go_ret
      exact truly_of (HB4.out.trans (hb.mono HB4.out.size))

set_option maxRecDepth 4000 in
set_option maxHeartbeats 6400000 in
theorem msgoneDecodes_any (u : Value) (s : List UInt8) (w : World) (hF : FieldsIn w) (hW : WordsIn w) (hu : Reads w u s) : Calls Tryz.prog 4 #[u] w (Truly w) := by
  have HU := Lib.hid (fun W (h : Below w.heap.size w W) => hu.below h)
  have HFW := Lib.hid (fun W (h : Below w.heap.size w W) => And.intro (hF.below h) (hW.below h))
  have HDEC := Lib.hid (decodeM_any u s w hF hW hu)
  obtain ⟨ao, cap, rfl⟩ := hu.shape
  have hlen := hu.len
  obtain ⟨n, hn⟩ : ∃ n, n = s.length := ⟨_, rfl⟩
  have HN := Lib.hid hn
  rw [← hn] at HU HDEC hlen ⊢
  have hnb : n ≤ 9223372036854775807 := by omega
  clear hF hW hu hn hlen
  by_cases hbig : 2000 < n
  · have d : decide ((2000 : Int) < (n : Int)) = true := by simp; omega
    go_enter Tryz.func4, Tryz.ntmps4
    go_wp2_with fail
    refine (awakeM_any _ (HFW.out _ (Below.refl _ _)).1 (HFW.out _ (Below.refl _ _)).2).mono ?_
    rintro e3 w3 ⟨rfl, hb⟩
    go_wp2
    go_ret
    exact truly_of hb
  · have d : decide ((2000 : Int) < (n : Int)) = false := by simp; omega
    have HDEC2 := Lib.hid (HDEC.out (by omega))
    have HNB : Hid (n ≤ 2000) := by show _ ≤ _; omega
    clear HDEC hbig
    obtain ⟨r, hr⟩ : ∃ r, r = Ms.decode s := ⟨_, rfl⟩
    have HR := Lib.hid hr
    rw [← hr] at HDEC2
    clear hr
    obtain ⟨hinv1, _, hinv3, hinv4⟩ := Ms.get_inv s
    have hok := Ms.decode_ok s
    have hnone := Ms.decode_none s
    rw [← HR.out] at hok hnone
    have HINV : Hid ((Ms.get s).1.Fits ∧ (Ms.get s).1.ents.length ≤ 256 ∧ (Ms.get s).1.img.length ≤ s.length) := ⟨hinv1, hinv3, hinv4⟩
    have HOK := Lib.hid hok; have HNONE := Lib.hid hnone
    clear hinv1 hinv3 hinv4 hok hnone
    go_enter Tryz.func4, Tryz.ntmps4
    go_wp2_with fail
    refine HDEC2.out.mono ?_
    rintro e2 w2 ⟨hB2, ve, vi, rfl, hve, hvi, h1, h2⟩
    have HB2 := Lib.hid hB2; have HVE2 := Lib.hid hve; have HVI2 := Lib.hid hvi; have H1 := Lib.hid h1; have H2 := Lib.hid h2
    clear hB2 hve hvi h1 h2 HDEC2
    obtain ⟨e, he⟩ : ∃ e, e = r.2 := ⟨_, rfl⟩
    obtain ⟨M, hM⟩ : ∃ M, M = r.1 := ⟨_, rfl⟩
    rw [← he] at HOK HNONE ⊢
    rw [← hM] at HOK HNONE HVE2 HVI2 ⊢
    clear he hM HR
    by_cases h0 : e = 0
    · obtain ⟨hm, hold, hby⟩ := HOK.out h0
      subst h0
      have HC : Hid (Ms.check M = 0) := by show _ = _; rw [hm]; exact (Ms.older_good hold).1
      have HOL : Hid (Ms.older M = 0) := by show _ = _; rw [hm]; exact hold
      have HBY : Hid (Ms.bytes M = s) := by show _ = _; rw [hm]; exact hby
      have HFIT : Hid M.Fits := by show M.Fits; rw [hm]; exact HINV.out.1
      have HEN : Hid (M.ents.length ≤ 256) := by show _ ≤ _; rw [hm]; exact HINV.out.2.1
      have HIM : Hid (M.img.length ≤ 2000) := by show _ ≤ _; rw [hm]; have := HINV.out.2.2; have := HN.out; have := HNB.out; omega
      have HSH : Hid (∀ x ∈ M.ents, x.cmd.Short 48) := fun x hx => Cm.check_short (Ms.ents_ok _ _ (Ms.check_good HC.out).ents x hx).2
      clear hm hold hby HOK HNONE HINV
      go_wp2_with (first
        | (refine store_msg (by rfl) _ _ (by rfl) w2.heap.size Ms.zero _ _ M ve vi (by rfl) (by rfl) H1.out H2.out (Lies.new _ _ _) ?_
           intro w3 hl3 hg3
           have hb := fresh_below hg3
           have HM3 := Lib.hid hl3; have HB3 := Lib.hid (HB2.out.trans (hb.mono HB2.out.size)); have HVE3 := Lib.hid (ReadsR.below HVE2.out hb : ReadsE w3 ve M.ents); have HVI3 := Lib.hid (HVI2.out.below hb)
           clear hl3 hg3 hb
           obtain ⟨p0, p1, p2, p3, p4, p5, p6, p7, p8, p9⟩ := Msgs.ten HM3.out)
        | fail)
      have hcall := refOlderM_any M ve vi w3 HVE3.out HVI3.out (fun x hx => Short.up (HSH.out x hx) (by omega))
      rw [HOL.out] at hcall
      refine hcall.mono ?_
      rintro e4 w4 ⟨rfl, hb⟩
      have HM4 := Lib.hid (HM3.out.below hb HM3.out.lt); have HB4 := Lib.hid (HB3.out.trans (hb.mono HB3.out.size)); have HVE4 := Lib.hid (ReadsR.below HVE3.out hb : ReadsE w4 ve M.ents); have HVI4 := Lib.hid (HVI3.out.below hb)
      clear hb hcall p0 p1 p2 p3 p4 p5 p6 p7 p8 p9
      obtain ⟨p0, p1, p2, p3, p4, p5, p6, p7, p8, p9⟩ := Msgs.ten HM4.out
      go_wp2_with fail
      refine (refMBytes_any M ve vi _ HVE4.out HVI4.out HFIT.out (fun x h => ⟨Short.up (HSH.out x h) (by omega), Ms.ent_kinds HC.out x h⟩) (by have := HEN.out; omega) (by have := HIM.out; omega)).mono ?_
      rintro e5 w5 ⟨ur, rfl, hur, hb⟩
      have HB5 := Lib.hid (HB4.out.trans (hb.mono HB4.out.size)); have HUR5 := Lib.hid hur.reads
      clear hb hur p0 p1 p2 p3 p4 p5 p6 p7 p8 p9
      have hsame := sameB_any ur (.slice ao n cap) (Ms.bytes M) s w5 HUR5.out (HU.out _ HB5.out)
      rw [HBY.out, show (s == s) = true by simp] at hsame
      have HSAME := Lib.hid hsame
      clear hsame
      go_wp2_with fail
      refine HSAME.out.mono ?_
      rintro e8 w8 ⟨rfl, hb⟩
      have HB8 := Lib.hid (HB5.out.trans (hb.mono HB5.out.size))
      clear hb
      go_wp2_with fail
      refine (awakeM_any _ (HFW.out _ HB8.out).1 (HFW.out _ HB8.out).2).mono ?_
      rintro ea wa ⟨rfl, hb⟩
      go_wp2
      go_ret
      exact truly_of (HB8.out.trans (hb.mono HB8.out.size))
    · have hne : (e != 0) = true := by simpa using h0
      have hz := HNONE.out h0
      subst hz
      clear h0 HOK HNONE HINV
      go_wp2_with (first
        | (refine store_msg (by rfl) _ _ (by rfl) w2.heap.size Ms.zero _ _ Ms.zero ve vi (by rfl) (by rfl) H1.out H2.out (Lies.new _ _ _) ?_
           intro w3 hl3 hg3
           have hb := fresh_below hg3
           have HM3 := Lib.hid hl3; have HB3 := Lib.hid (HB2.out.trans (hb.mono HB2.out.size)); have HVE3 := Lib.hid (ReadsR.below HVE2.out hb : ReadsE w3 ve Ms.zero.ents); have HVI3 := Lib.hid (HVI2.out.below hb)
           clear hl3 hg3 hb
           obtain ⟨p0, p1, p2, p3, p4, p5, p6, p7, p8, p9⟩ := Msgs.ten HM3.out)
        | fail)
      have hsm := refSameM_any Ms.zero Ms.zero ve vi (.slice none 0 0) (.slice none 0 0) w3 HVE3.out HVI3.out (ReadsR.empty _ 10) (Reads.empty _)
      rw [show decide (Ms.zero = Ms.zero) = true from decide_eq_true rfl] at hsm
      refine hsm.mono ?_
      rintro e4 w4 ⟨rfl, hb⟩
      have HB4 := Lib.hid (HB3.out.trans (hb.mono HB3.out.size))
      clear hb hsm p0 p1 p2 p3 p4 p5 p6 p7 p8 p9
      go_wp2_with fail
      refine (awakeM_any _ (HFW.out _ HB4.out).1 (HFW.out _ HB4.out).2).mono ?_
      rintro ea wa ⟨rfl, hb⟩
      go_wp2
      go_ret
      exact truly_of (HB4.out.trans (hb.mono HB4.out.size))

end Go.Proofs.YtenokgkbnpfjmaaGreatDoor
