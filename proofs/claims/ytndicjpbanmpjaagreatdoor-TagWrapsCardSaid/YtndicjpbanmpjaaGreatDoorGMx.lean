/- Several texts of mine in one: MtRefN MtRefB. -/
import Derived.Test.YtndicjpbanmpjaaGreatDoorGMu
import Derived.Test.YtndicjpbanmpjaaGreatDoorMsRefB
import Derived.Test.YtndicjpbanmpjaaGreatDoorGMr
import Derived.Test.YtndicjpbanmpjaaGreatDoorMsLaw2
namespace Go.Proofs.YtndicjpbanmpjaaGreatDoor
open Go.RowKit

set_option maxRecDepth 4000 in
set_option maxHeartbeats 3200000 in
theorem refNums14_any (base g n : Nat) (l : List Int) (out : Value) (K : List UInt8) (w : World) (hn : l.length = n) (hn8 : n ≤ 8) (hown : Owns w base 5 out K) (hbase : base ≤ w.heap.size) (hl : Lies w g 3 (l.map fun x => Value.int .i64 x).toArray) (hf : ∀ x ∈ l, -9223372036854775808 ≤ x ∧ x ≤ 9223372036854775807) (hK : K.length ≤ 100000000) :
    Calls Tryz.prog 48 #[out, .slice (some ⟨g, 0, none⟩) n n] w (fun e w' => ∃ v, e = .returned v ∧ Owns w' base 5 v (K ++ Ms.nbytes l) ∧ Below base w w') := by
  subst hn
  have HO := Lib.hid hown; have HL := Lib.hid hl; have HF := Lib.hid hf
  have HNB : Hid (∀ k, (K ++ Ms.nbytes (l.take k)).length ≤ 100000072) := by
    intro k
    have := Ms.nbytes_len (l.take k) fun x hx => (hf x (List.mem_of_mem_take hx)).2
    rw [List.length_take] at this
    rw [List.length_append]
    omega
  clear hown hl hf
  go_enter Tryz.func48, Tryz.ntmps48
  go_wp2
  go_loopw [0, 5] (fun y i wr => ∃ (k : Nat), i = .int .i64 (k : Int) ∧ k ≤ l.length ∧ Hid (Below base w wr) ∧ Hid (Owns wr base 5 y (K ++ Ms.nbytes (l.take k))) ∧ Hid (Lies wr g 3 (l.map fun x => Value.int .i64 x).toArray)) (fun _ i _ => l.length - (intOf i).toNat)
  case atStart => exact ⟨0, rfl, by omega, Below.refl _ _, by show Owns _ _ _ _ _; rw [show Ms.nbytes (l.take 0) = [] from rfl, List.append_nil]; exact HO.out, HL.out⟩
  case round =>
    obtain ⟨k, rfl, hk, HB, HOr, HLr⟩ := hrel
    by_cases hlt : k < l.length
    · have hlt' : (k : Int) < (l.length : Int) := by omega
      obtain ⟨x, hx⟩ : ∃ x, l[k]? = some x := ⟨_, List.getElem?_eq_getElem hlt⟩
      have hcell := HLr.out.cell k (.int .i64 x) (by simp [hx])
      have HX := Lib.hid (HF.out x (List.mem_of_getElem? hx))
      have HST : Hid (K ++ Ms.nbytes (l.take (k + 1)) = (K ++ Ms.nbytes (l.take k)) ++ enc x.toNat) := by show _ = _; rw [List.take_add_one, hx, Ms.nbytes_app, List.append_assoc]; show _ ++ (_ ++ Ms.nbytes [x]) = _; rw [Ms.nbytes_one]
      have hlen := HNB.out k
      obtain ⟨K0, hK0⟩ : ∃ K0, K0 = K ++ Ms.nbytes (l.take k) := ⟨_, rfl⟩
      rw [← hK0] at HOr HST hlen
      clear hx hK0
      go_wp2_with fail
      refine (bytes_any x _ HX.out.1 HX.out.2).mono ?_
      rintro e5 wa ⟨ua, rfl, hoa, hba⟩
      have hm : (enc x.toNat).length ≤ 9 := enc_nine (by have := HX.out.2; omega)
      obtain ⟨M, hM⟩ : ∃ M, M = enc x.toNat := ⟨_, rfl⟩
      rw [← hM] at hoa hm HST
      have hown := HOr.out.keep hba (Nat.le_refl _)
      have hB := HB.out.trans (hba.mono (Nat.le_trans hbase HB.out.size))
      have hLa := HLr.out.below hba HLr.out.lt
      clear hM hba hcell
      go_wp2_with (at_builtin; refine append_bytes rfl _ _ 25 5 rfl Tryz.underlying25 info_u8 base K0 M _ _ rfl rfl hown hoa.reads (by omega) w hB hbase ?_; intro vb wb hoz hbz hgz; have HOwb := Lib.hid hoz; have HBwb := Lib.hid hbz; have HLwb := Lib.hid (hLa.kept hgz (hLa.not_row (by decide) hown)); clear hoz hbz hgz)
      rw [← HST.out] at HOwb
      go_roundw
      case rel => exact ⟨k + 1, by go_num, by omega, HBwb, HOwb, HLwb⟩
      case measure => simp [intOf]; omega
    · have hlt' : ¬ (k : Int) < (l.length : Int) := by omega
      have hw5 := HOr.out
      rw [List.take_of_length_le (by omega)] at hw5
      have HO5 := Lib.hid hw5
      clear hw5
      go_wp2
      go_ret
      exact ⟨_, rfl, HO5.out, HB.out⟩

end Go.Proofs.YtndicjpbanmpjaaGreatDoor


namespace Go.Proofs.YtndicjpbanmpjaaGreatDoor
open Go.RowKit

theorem Ms.nbytes_le (l : List Int) (n : Nat) (hn : l.length ≤ n) (h : ∀ x ∈ l, -9223372036854775808 ≤ x ∧ x ≤ 9223372036854775807) : (Ms.nbytes l).length ≤ 9 * n := by
  have := Ms.nbytes_len l fun x hx => (h x hx).2
  omega

set_option maxRecDepth 8000 in
set_option maxHeartbeats 6400000 in
theorem refBytes14_100000 (m : Ms.Msg) (ve vi : Value) (w : World) (hck : Ms.check m = 0) (he : ReadsE w ve m.ents) (hi : Reads w vi m.img) (hf : m.Fits) (hs : ∀ e ∈ m.ents, e.cmd.Short 1000) (gv : Ms.hv m.kind = true) (gb : Ms.hb m.kind = false) (gi : Ms.hi m.kind = false) (gc : Ms.hc m.kind = false) (ge : Ms.he m.kind = false) (gm : Ms.hm m.kind = false) (g5 : m.kind ≠ 5) :
    Calls Tryz.prog 26 #[.agg (Ms.cells m ve vi)] w (Makes w 5 (Mt.bytes m)) := by
  obtain ⟨w1, e1, hl1, hB1, hz1⟩ := box_msg w m ve vi
  obtain ⟨p0, p1, p2, p3, p4, p5, p6, p7, p8, p9⟩ := Msgs.ten hl1
  have hkinds := Ms.ent_kinds hck
  have HENT : Hid (∀ e ∈ m.ents, (e.Fits ∧ e.cmd.Short 1000) ∧ (1 ≤ e.cmd.kind ∧ e.cmd.kind ≤ 8)) := fun e h => ⟨⟨hf.e e h, hs e h⟩, hkinds e h⟩
  have HLEN : Hid (m.ents.length ≤ 256 ∧ m.img.length ≤ 32768) := Ms.good_len (Ms.check_good hck)
  have HVAL : Hid (∀ k, k < 8 → -9223372036854775808 ≤ Mt.val m k ∧ Mt.val m k ≤ 9223372036854775807) := fun k hk => by have := Mt.val_good hck k hk; omega
  have HEW : Hid (∀ W, Below w1.heap.size w1 W → ReadsE W ve m.ents) := fun W h => ReadsR.below (ReadsR.below he hB1) h
  have HIW : Hid (∀ W, Below w1.heap.size w1 W → Reads W vi m.img) := fun W h => (hi.below hB1).below h
  have HMW : Hid (∀ W, Below w1.heap.size w1 W → Msgs W w.heap.size m ve vi) := fun W h => hl1.below h hl1.lt
  have HB0 := Lib.hid hB1
  have HALL : Hid (Mt.bytes m = (Ms.nbytes [m.kind, m.frm, m.dst] ++ Ms.nbytes [m.version])) := by
    show _ = _
    unfold Mt.bytes Mt.ents
    rw [gv, gb, gi, gc, gm, if_neg g5, ge]
    simp [Mt.part, Ms.nbytes]
  have hHas := fun (t : Bool) (h : Ms.hb m.kind = t) W => refHas_b' m.kind t h W
  have Qb := Lib.hid (fun W => refHas_b' m.kind false gb W)
  have Qi := Lib.hid (fun W => refHas_i' m.kind false gi W)
  have Qc := Lib.hid (fun W => refHas_c' m.kind false gc W)
  have Qv := Lib.hid (fun W => refHas_v' m.kind true gv W)
  have Qe := Lib.hid (fun W => refHas_e' m.kind false ge W)
  have Qm := Lib.hid (fun W => refHas_m' m.kind false gm W)
  have d5 : (m.kind == 5) = false := by simpa using g5
  obtain ⟨w2, e2, hl2, hb2⟩ : ∃ W, w1.alloc (.cells #[.int .i64 m.kind, .int .i64 m.frm, .int .i64 m.dst] 3) = W ∧ Lies W w1.heap.size 3 #[.int .i64 m.kind, .int .i64 m.frm, .int .i64 m.dst] ∧ Below w1.heap.size w1 W := ⟨_, rfl, Lies.new _ _ _, (Below.refl _ _).alloc (Nat.le_refl _) _⟩
  have HL2 := Lib.hid hl2
  have HB2 := Lib.hid hb2
  clear hl2 hb2
  clear hl1 hB1 hz1 he hi hf hs hkinds hck hHas gv gb gi gc ge gm g5
  go_enter Tryz.func26, Tryz.ntmps26
  go_wp2_with fail
  refine (refNums14_any w1.heap.size w1.heap.size 3 [m.kind, m.frm, m.dst] (.slice none 0 0) [] _ rfl (by omega) (Owns.empty _ _ _) HB2.out.size HL2.out (by intro y hy; simp only [List.mem_cons, List.not_mem_nil, or_false] at hy; rcases hy with h | h | h <;> rw [h] <;> first | exact HVAL.out 0 (by omega) | exact HVAL.out 1 (by omega) | exact HVAL.out 2 (by omega) | exact HVAL.out 3 (by omega) | exact HVAL.out 4 (by omega) | exact HVAL.out 5 (by omega) | exact HVAL.out 6 (by omega) | exact HVAL.out 7 (by omega)) (by simp)).mono ?_
  rintro e3 w3 ⟨u3, rfl, ho, hb⟩
  have HB3 := Lib.hid (HB2.out.trans hb)
  have hlm := Ms.nbytes_le [m.kind, m.frm, m.dst] 3 (by simp) (by intro y hy; simp only [List.mem_cons, List.not_mem_nil, or_false] at hy; rcases hy with h | h | h <;> rw [h] <;> first | exact HVAL.out 0 (by omega) | exact HVAL.out 1 (by omega) | exact HVAL.out 2 (by omega) | exact HVAL.out 3 (by omega) | exact HVAL.out 4 (by omega) | exact HVAL.out 5 (by omega) | exact HVAL.out 6 (by omega) | exact HVAL.out 7 (by omega))
  obtain ⟨K3, hK⟩ : ∃ K, K = Ms.nbytes [m.kind, m.frm, m.dst] := ⟨_, rfl⟩
  rw [List.nil_append, ← hK] at ho
  have hk3 : K3.length ≤ 27 := by rw [hK]; omega
  have HO3 := Lib.hid ho; have HK3 := Lib.hid hK
  clear ho hb hK hlm p0 p1 p2 p3 p4 p5 p6 p7 p8 p9
  go_wp2_with fail
  refine (Qb.out _).mono ?_
  rintro e4 w4 ⟨rfl, hb⟩
  have HB4 := Lib.hid (HB3.out.trans (hb.mono HB3.out.size)); have HO4 := Lib.hid (HO3.out.keep hb (Nat.le_refl _))
  clear hb
  go_wp2_with fail
  refine (Qi.out _).mono ?_
  rintro e5 w5 ⟨rfl, hb⟩
  have HB5 := Lib.hid (HB4.out.trans (hb.mono HB4.out.size)); have HO5 := Lib.hid (HO4.out.keep hb (Nat.le_refl _))
  clear hb
  go_wp2_with fail
  refine (Qc.out _).mono ?_
  rintro e6 w6 ⟨rfl, hb⟩
  have HB6 := Lib.hid (HB5.out.trans (hb.mono HB5.out.size)); have HO6 := Lib.hid (HO5.out.keep hb (Nat.le_refl _))
  clear hb
  go_wp2_with fail
  refine (Qv.out _).mono ?_
  rintro e7 w7 ⟨rfl, hb⟩
  have HB7 := Lib.hid (HB6.out.trans (hb.mono HB6.out.size)); have HO7 := Lib.hid (HO6.out.keep hb (Nat.le_refl _))
  clear hb
  obtain ⟨p0, p1, p2, p3, p4, p5, p6, p7, p8, p9⟩ := Msgs.ten (HMW.out _ HB7.out)
  obtain ⟨w8, e8, hl8, hb8⟩ : ∃ W, w7.alloc (.cells #[.int .i64 m.version] 3) = W ∧ Lies W w7.heap.size 3 #[.int .i64 m.version] ∧ Below w7.heap.size w7 W := ⟨_, rfl, Lies.new _ _ _, (Below.refl _ _).alloc (Nat.le_refl _) _⟩
  have HL8 := Lib.hid hl8
  have HB8 := Lib.hid (HB7.out.trans (hb8.mono HB7.out.size)); have HO8 := Lib.hid (HO7.out.keep hb8 (Nat.le_refl _))
  clear hl8 hb8
  go_wp2_with fail
  refine (refNums14_any w1.heap.size w7.heap.size 1 [m.version] u3 K3 _ rfl (by omega) HO8.out HB8.out.size HL8.out (by intro y hy; have h := List.mem_singleton.1 hy; rw [h] <;> first | exact HVAL.out 0 (by omega) | exact HVAL.out 1 (by omega) | exact HVAL.out 2 (by omega) | exact HVAL.out 3 (by omega) | exact HVAL.out 4 (by omega) | exact HVAL.out 5 (by omega) | exact HVAL.out 6 (by omega) | exact HVAL.out 7 (by omega)) (by omega)).mono ?_
  rintro e9 w9 ⟨u9, rfl, ho, hb⟩
  have HB9 := Lib.hid (HB8.out.trans hb)
  have hlm := Ms.nbytes_le [m.version] 1 (by simp) (by intro y hy; have h := List.mem_singleton.1 hy; rw [h] <;> first | exact HVAL.out 0 (by omega) | exact HVAL.out 1 (by omega) | exact HVAL.out 2 (by omega) | exact HVAL.out 3 (by omega) | exact HVAL.out 4 (by omega) | exact HVAL.out 5 (by omega) | exact HVAL.out 6 (by omega) | exact HVAL.out 7 (by omega))
  obtain ⟨K9, hK⟩ : ∃ K, K = K3 ++ Ms.nbytes [m.version] := ⟨_, rfl⟩
  rw [← hK] at ho
  have hk9 : K9.length ≤ 36 := by rw [hK, List.length_append]; omega
  have HO9 := Lib.hid ho; have HK9 := Lib.hid hK
  clear ho hb hK hlm p0 p1 p2 p3 p4 p5 p6 p7 p8 p9
  go_wp2_with fail
  refine (Qe.out _).mono ?_
  rintro e10 w10 ⟨rfl, hb⟩
  have HB10 := Lib.hid (HB9.out.trans (hb.mono HB9.out.size)); have HO10 := Lib.hid (HO9.out.keep hb (Nat.le_refl _))
  clear hb
  go_wp2_with fail
  refine (Qm.out _).mono ?_
  rintro e11 w11 ⟨rfl, hb⟩
  have HB11 := Lib.hid (HB10.out.trans (hb.mono HB10.out.size)); have HO11 := Lib.hid (HO10.out.keep hb (Nat.le_refl _))
  clear hb
  go_wp2
  go_ret
  have hfin := HO11.out.mono HB0.out.size
  rw [HK9.out, HK3.out] at hfin
  rw [HALL.out]
  exact ⟨_, rfl, hfin, HB0.out.trans (HB11.out.mono HB0.out.size)⟩

set_option maxRecDepth 8000 in
set_option maxHeartbeats 6400000 in
theorem refBytes14_011000 (m : Ms.Msg) (ve vi : Value) (w : World) (hck : Ms.check m = 0) (he : ReadsE w ve m.ents) (hi : Reads w vi m.img) (hf : m.Fits) (hs : ∀ e ∈ m.ents, e.cmd.Short 1000) (gv : Ms.hv m.kind = false) (gb : Ms.hb m.kind = true) (gi : Ms.hi m.kind = true) (gc : Ms.hc m.kind = false) (ge : Ms.he m.kind = false) (gm : Ms.hm m.kind = false) (g5 : m.kind ≠ 5) :
    Calls Tryz.prog 26 #[.agg (Ms.cells m ve vi)] w (Makes w 5 (Mt.bytes m)) := by
  obtain ⟨w1, e1, hl1, hB1, hz1⟩ := box_msg w m ve vi
  obtain ⟨p0, p1, p2, p3, p4, p5, p6, p7, p8, p9⟩ := Msgs.ten hl1
  have hkinds := Ms.ent_kinds hck
  have HENT : Hid (∀ e ∈ m.ents, (e.Fits ∧ e.cmd.Short 1000) ∧ (1 ≤ e.cmd.kind ∧ e.cmd.kind ≤ 8)) := fun e h => ⟨⟨hf.e e h, hs e h⟩, hkinds e h⟩
  have HLEN : Hid (m.ents.length ≤ 256 ∧ m.img.length ≤ 32768) := Ms.good_len (Ms.check_good hck)
  have HVAL : Hid (∀ k, k < 8 → -9223372036854775808 ≤ Mt.val m k ∧ Mt.val m k ≤ 9223372036854775807) := fun k hk => by have := Mt.val_good hck k hk; omega
  have HEW : Hid (∀ W, Below w1.heap.size w1 W → ReadsE W ve m.ents) := fun W h => ReadsR.below (ReadsR.below he hB1) h
  have HIW : Hid (∀ W, Below w1.heap.size w1 W → Reads W vi m.img) := fun W h => (hi.below hB1).below h
  have HMW : Hid (∀ W, Below w1.heap.size w1 W → Msgs W w.heap.size m ve vi) := fun W h => hl1.below h hl1.lt
  have HB0 := Lib.hid hB1
  have HALL : Hid (Mt.bytes m = ((Ms.nbytes [m.kind, m.frm, m.dst] ++ Ms.nbytes [m.bal.round, m.bal.node]) ++ Ms.nbytes [m.index])) := by
    show _ = _
    unfold Mt.bytes Mt.ents
    rw [gv, gb, gi, gc, gm, if_neg g5, ge]
    simp [Mt.part, Ms.nbytes]
  have hHas := fun (t : Bool) (h : Ms.hb m.kind = t) W => refHas_b' m.kind t h W
  have Qb := Lib.hid (fun W => refHas_b' m.kind true gb W)
  have Qi := Lib.hid (fun W => refHas_i' m.kind true gi W)
  have Qc := Lib.hid (fun W => refHas_c' m.kind false gc W)
  have Qv := Lib.hid (fun W => refHas_v' m.kind false gv W)
  have Qe := Lib.hid (fun W => refHas_e' m.kind false ge W)
  have Qm := Lib.hid (fun W => refHas_m' m.kind false gm W)
  have d5 : (m.kind == 5) = false := by simpa using g5
  obtain ⟨w2, e2, hl2, hb2⟩ : ∃ W, w1.alloc (.cells #[.int .i64 m.kind, .int .i64 m.frm, .int .i64 m.dst] 3) = W ∧ Lies W w1.heap.size 3 #[.int .i64 m.kind, .int .i64 m.frm, .int .i64 m.dst] ∧ Below w1.heap.size w1 W := ⟨_, rfl, Lies.new _ _ _, (Below.refl _ _).alloc (Nat.le_refl _) _⟩
  have HL2 := Lib.hid hl2
  have HB2 := Lib.hid hb2
  clear hl2 hb2
  clear hl1 hB1 hz1 he hi hf hs hkinds hck hHas gv gb gi gc ge gm g5
  go_enter Tryz.func26, Tryz.ntmps26
  go_wp2_with fail
  refine (refNums14_any w1.heap.size w1.heap.size 3 [m.kind, m.frm, m.dst] (.slice none 0 0) [] _ rfl (by omega) (Owns.empty _ _ _) HB2.out.size HL2.out (by intro y hy; simp only [List.mem_cons, List.not_mem_nil, or_false] at hy; rcases hy with h | h | h <;> rw [h] <;> first | exact HVAL.out 0 (by omega) | exact HVAL.out 1 (by omega) | exact HVAL.out 2 (by omega) | exact HVAL.out 3 (by omega) | exact HVAL.out 4 (by omega) | exact HVAL.out 5 (by omega) | exact HVAL.out 6 (by omega) | exact HVAL.out 7 (by omega)) (by simp)).mono ?_
  rintro e3 w3 ⟨u3, rfl, ho, hb⟩
  have HB3 := Lib.hid (HB2.out.trans hb)
  have hlm := Ms.nbytes_le [m.kind, m.frm, m.dst] 3 (by simp) (by intro y hy; simp only [List.mem_cons, List.not_mem_nil, or_false] at hy; rcases hy with h | h | h <;> rw [h] <;> first | exact HVAL.out 0 (by omega) | exact HVAL.out 1 (by omega) | exact HVAL.out 2 (by omega) | exact HVAL.out 3 (by omega) | exact HVAL.out 4 (by omega) | exact HVAL.out 5 (by omega) | exact HVAL.out 6 (by omega) | exact HVAL.out 7 (by omega))
  obtain ⟨K3, hK⟩ : ∃ K, K = Ms.nbytes [m.kind, m.frm, m.dst] := ⟨_, rfl⟩
  rw [List.nil_append, ← hK] at ho
  have hk3 : K3.length ≤ 27 := by rw [hK]; omega
  have HO3 := Lib.hid ho; have HK3 := Lib.hid hK
  clear ho hb hK hlm p0 p1 p2 p3 p4 p5 p6 p7 p8 p9
  go_wp2_with fail
  refine (Qb.out _).mono ?_
  rintro e4 w4 ⟨rfl, hb⟩
  have HB4 := Lib.hid (HB3.out.trans (hb.mono HB3.out.size)); have HO4 := Lib.hid (HO3.out.keep hb (Nat.le_refl _))
  clear hb
  obtain ⟨p0, p1, p2, p3, p4, p5, p6, p7, p8, p9⟩ := Msgs.ten (HMW.out _ HB4.out)
  obtain ⟨w5, e5, hl5, hb5⟩ : ∃ W, w4.alloc (.cells #[.int .i64 m.bal.round, .int .i64 m.bal.node] 3) = W ∧ Lies W w4.heap.size 3 #[.int .i64 m.bal.round, .int .i64 m.bal.node] ∧ Below w4.heap.size w4 W := ⟨_, rfl, Lies.new _ _ _, (Below.refl _ _).alloc (Nat.le_refl _) _⟩
  have HL5 := Lib.hid hl5
  have HB5 := Lib.hid (HB4.out.trans (hb5.mono HB4.out.size)); have HO5 := Lib.hid (HO4.out.keep hb5 (Nat.le_refl _))
  clear hl5 hb5
  go_wp2_with fail
  refine (refNums14_any w1.heap.size w4.heap.size 2 [m.bal.round, m.bal.node] u3 K3 _ rfl (by omega) HO5.out HB5.out.size HL5.out (by intro y hy; simp only [List.mem_cons, List.not_mem_nil, or_false] at hy; rcases hy with h | h <;> rw [h] <;> first | exact HVAL.out 0 (by omega) | exact HVAL.out 1 (by omega) | exact HVAL.out 2 (by omega) | exact HVAL.out 3 (by omega) | exact HVAL.out 4 (by omega) | exact HVAL.out 5 (by omega) | exact HVAL.out 6 (by omega) | exact HVAL.out 7 (by omega)) (by omega)).mono ?_
  rintro e6 w6 ⟨u6, rfl, ho, hb⟩
  have HB6 := Lib.hid (HB5.out.trans hb)
  have hlm := Ms.nbytes_le [m.bal.round, m.bal.node] 2 (by simp) (by intro y hy; simp only [List.mem_cons, List.not_mem_nil, or_false] at hy; rcases hy with h | h <;> rw [h] <;> first | exact HVAL.out 0 (by omega) | exact HVAL.out 1 (by omega) | exact HVAL.out 2 (by omega) | exact HVAL.out 3 (by omega) | exact HVAL.out 4 (by omega) | exact HVAL.out 5 (by omega) | exact HVAL.out 6 (by omega) | exact HVAL.out 7 (by omega))
  obtain ⟨K6, hK⟩ : ∃ K, K = K3 ++ Ms.nbytes [m.bal.round, m.bal.node] := ⟨_, rfl⟩
  rw [← hK] at ho
  have hk6 : K6.length ≤ 45 := by rw [hK, List.length_append]; omega
  have HO6 := Lib.hid ho; have HK6 := Lib.hid hK
  clear ho hb hK hlm p0 p1 p2 p3 p4 p5 p6 p7 p8 p9
  go_wp2_with fail
  refine (Qi.out _).mono ?_
  rintro e7 w7 ⟨rfl, hb⟩
  have HB7 := Lib.hid (HB6.out.trans (hb.mono HB6.out.size)); have HO7 := Lib.hid (HO6.out.keep hb (Nat.le_refl _))
  clear hb
  obtain ⟨p0, p1, p2, p3, p4, p5, p6, p7, p8, p9⟩ := Msgs.ten (HMW.out _ HB7.out)
  obtain ⟨w8, e8, hl8, hb8⟩ : ∃ W, w7.alloc (.cells #[.int .i64 m.index] 3) = W ∧ Lies W w7.heap.size 3 #[.int .i64 m.index] ∧ Below w7.heap.size w7 W := ⟨_, rfl, Lies.new _ _ _, (Below.refl _ _).alloc (Nat.le_refl _) _⟩
  have HL8 := Lib.hid hl8
  have HB8 := Lib.hid (HB7.out.trans (hb8.mono HB7.out.size)); have HO8 := Lib.hid (HO7.out.keep hb8 (Nat.le_refl _))
  clear hl8 hb8
  go_wp2_with fail
  refine (refNums14_any w1.heap.size w7.heap.size 1 [m.index] u6 K6 _ rfl (by omega) HO8.out HB8.out.size HL8.out (by intro y hy; have h := List.mem_singleton.1 hy; rw [h] <;> first | exact HVAL.out 0 (by omega) | exact HVAL.out 1 (by omega) | exact HVAL.out 2 (by omega) | exact HVAL.out 3 (by omega) | exact HVAL.out 4 (by omega) | exact HVAL.out 5 (by omega) | exact HVAL.out 6 (by omega) | exact HVAL.out 7 (by omega)) (by omega)).mono ?_
  rintro e9 w9 ⟨u9, rfl, ho, hb⟩
  have HB9 := Lib.hid (HB8.out.trans hb)
  have hlm := Ms.nbytes_le [m.index] 1 (by simp) (by intro y hy; have h := List.mem_singleton.1 hy; rw [h] <;> first | exact HVAL.out 0 (by omega) | exact HVAL.out 1 (by omega) | exact HVAL.out 2 (by omega) | exact HVAL.out 3 (by omega) | exact HVAL.out 4 (by omega) | exact HVAL.out 5 (by omega) | exact HVAL.out 6 (by omega) | exact HVAL.out 7 (by omega))
  obtain ⟨K9, hK⟩ : ∃ K, K = K6 ++ Ms.nbytes [m.index] := ⟨_, rfl⟩
  rw [← hK] at ho
  have hk9 : K9.length ≤ 54 := by rw [hK, List.length_append]; omega
  have HO9 := Lib.hid ho; have HK9 := Lib.hid hK
  clear ho hb hK hlm p0 p1 p2 p3 p4 p5 p6 p7 p8 p9
  go_wp2_with fail
  refine (Qc.out _).mono ?_
  rintro e10 w10 ⟨rfl, hb⟩
  have HB10 := Lib.hid (HB9.out.trans (hb.mono HB9.out.size)); have HO10 := Lib.hid (HO9.out.keep hb (Nat.le_refl _))
  clear hb
  go_wp2_with fail
  refine (Qv.out _).mono ?_
  rintro e11 w11 ⟨rfl, hb⟩
  have HB11 := Lib.hid (HB10.out.trans (hb.mono HB10.out.size)); have HO11 := Lib.hid (HO10.out.keep hb (Nat.le_refl _))
  clear hb
  go_wp2_with fail
  refine (Qe.out _).mono ?_
  rintro e12 w12 ⟨rfl, hb⟩
  have HB12 := Lib.hid (HB11.out.trans (hb.mono HB11.out.size)); have HO12 := Lib.hid (HO11.out.keep hb (Nat.le_refl _))
  clear hb
  go_wp2_with fail
  refine (Qm.out _).mono ?_
  rintro e13 w13 ⟨rfl, hb⟩
  have HB13 := Lib.hid (HB12.out.trans (hb.mono HB12.out.size)); have HO13 := Lib.hid (HO12.out.keep hb (Nat.le_refl _))
  clear hb
  go_wp2
  go_ret
  have hfin := HO13.out.mono HB0.out.size
  rw [HK9.out, HK6.out, HK3.out] at hfin
  rw [HALL.out]
  exact ⟨_, rfl, hfin, HB0.out.trans (HB13.out.mono HB0.out.size)⟩

set_option maxRecDepth 8000 in
set_option maxHeartbeats 6400000 in
theorem refBytes14_011110 (m : Ms.Msg) (ve vi : Value) (w : World) (hck : Ms.check m = 0) (he : ReadsE w ve m.ents) (hi : Reads w vi m.img) (hf : m.Fits) (hs : ∀ e ∈ m.ents, e.cmd.Short 1000) (gv : Ms.hv m.kind = false) (gb : Ms.hb m.kind = true) (gi : Ms.hi m.kind = true) (gc : Ms.hc m.kind = true) (ge : Ms.he m.kind = true) (gm : Ms.hm m.kind = false) (g5 : m.kind ≠ 5) :
    Calls Tryz.prog 26 #[.agg (Ms.cells m ve vi)] w (Makes w 5 (Mt.bytes m)) := by
  obtain ⟨w1, e1, hl1, hB1, hz1⟩ := box_msg w m ve vi
  obtain ⟨p0, p1, p2, p3, p4, p5, p6, p7, p8, p9⟩ := Msgs.ten hl1
  have hkinds := Ms.ent_kinds hck
  have HENT : Hid (∀ e ∈ m.ents, (e.Fits ∧ e.cmd.Short 1000) ∧ (1 ≤ e.cmd.kind ∧ e.cmd.kind ≤ 8)) := fun e h => ⟨⟨hf.e e h, hs e h⟩, hkinds e h⟩
  have HLEN : Hid (m.ents.length ≤ 256 ∧ m.img.length ≤ 32768) := Ms.good_len (Ms.check_good hck)
  have HVAL : Hid (∀ k, k < 8 → -9223372036854775808 ≤ Mt.val m k ∧ Mt.val m k ≤ 9223372036854775807) := fun k hk => by have := Mt.val_good hck k hk; omega
  have HEW : Hid (∀ W, Below w1.heap.size w1 W → ReadsE W ve m.ents) := fun W h => ReadsR.below (ReadsR.below he hB1) h
  have HIW : Hid (∀ W, Below w1.heap.size w1 W → Reads W vi m.img) := fun W h => (hi.below hB1).below h
  have HMW : Hid (∀ W, Below w1.heap.size w1 W → Msgs W w.heap.size m ve vi) := fun W h => hl1.below h hl1.lt
  have HB0 := Lib.hid hB1
  have HALL : Hid (Mt.bytes m = ((((Ms.nbytes [m.kind, m.frm, m.dst] ++ Ms.nbytes [m.bal.round, m.bal.node]) ++ Ms.nbytes [m.index]) ++ Ms.nbytes [m.commit]) ++ En.bytes 2 m.ents)) := by
    show _ = _
    unfold Mt.bytes Mt.ents
    rw [gv, gb, gi, gc, gm, if_neg g5, ge]
    simp [Mt.part, Ms.nbytes]
  have hHas := fun (t : Bool) (h : Ms.hb m.kind = t) W => refHas_b' m.kind t h W
  have Qb := Lib.hid (fun W => refHas_b' m.kind true gb W)
  have Qi := Lib.hid (fun W => refHas_i' m.kind true gi W)
  have Qc := Lib.hid (fun W => refHas_c' m.kind true gc W)
  have Qv := Lib.hid (fun W => refHas_v' m.kind false gv W)
  have Qe := Lib.hid (fun W => refHas_e' m.kind true ge W)
  have Qm := Lib.hid (fun W => refHas_m' m.kind false gm W)
  have d5 : (m.kind == 5) = false := by simpa using g5
  obtain ⟨w2, e2, hl2, hb2⟩ : ∃ W, w1.alloc (.cells #[.int .i64 m.kind, .int .i64 m.frm, .int .i64 m.dst] 3) = W ∧ Lies W w1.heap.size 3 #[.int .i64 m.kind, .int .i64 m.frm, .int .i64 m.dst] ∧ Below w1.heap.size w1 W := ⟨_, rfl, Lies.new _ _ _, (Below.refl _ _).alloc (Nat.le_refl _) _⟩
  have HL2 := Lib.hid hl2
  have HB2 := Lib.hid hb2
  clear hl2 hb2
  clear hl1 hB1 hz1 he hi hf hs hkinds hck hHas gv gb gi gc ge gm g5
  go_enter Tryz.func26, Tryz.ntmps26
  go_wp2_with fail
  refine (refNums14_any w1.heap.size w1.heap.size 3 [m.kind, m.frm, m.dst] (.slice none 0 0) [] _ rfl (by omega) (Owns.empty _ _ _) HB2.out.size HL2.out (by intro y hy; simp only [List.mem_cons, List.not_mem_nil, or_false] at hy; rcases hy with h | h | h <;> rw [h] <;> first | exact HVAL.out 0 (by omega) | exact HVAL.out 1 (by omega) | exact HVAL.out 2 (by omega) | exact HVAL.out 3 (by omega) | exact HVAL.out 4 (by omega) | exact HVAL.out 5 (by omega) | exact HVAL.out 6 (by omega) | exact HVAL.out 7 (by omega)) (by simp)).mono ?_
  rintro e3 w3 ⟨u3, rfl, ho, hb⟩
  have HB3 := Lib.hid (HB2.out.trans hb)
  have hlm := Ms.nbytes_le [m.kind, m.frm, m.dst] 3 (by simp) (by intro y hy; simp only [List.mem_cons, List.not_mem_nil, or_false] at hy; rcases hy with h | h | h <;> rw [h] <;> first | exact HVAL.out 0 (by omega) | exact HVAL.out 1 (by omega) | exact HVAL.out 2 (by omega) | exact HVAL.out 3 (by omega) | exact HVAL.out 4 (by omega) | exact HVAL.out 5 (by omega) | exact HVAL.out 6 (by omega) | exact HVAL.out 7 (by omega))
  obtain ⟨K3, hK⟩ : ∃ K, K = Ms.nbytes [m.kind, m.frm, m.dst] := ⟨_, rfl⟩
  rw [List.nil_append, ← hK] at ho
  have hk3 : K3.length ≤ 27 := by rw [hK]; omega
  have HO3 := Lib.hid ho; have HK3 := Lib.hid hK
  clear ho hb hK hlm p0 p1 p2 p3 p4 p5 p6 p7 p8 p9
  go_wp2_with fail
  refine (Qb.out _).mono ?_
  rintro e4 w4 ⟨rfl, hb⟩
  have HB4 := Lib.hid (HB3.out.trans (hb.mono HB3.out.size)); have HO4 := Lib.hid (HO3.out.keep hb (Nat.le_refl _))
  clear hb
  obtain ⟨p0, p1, p2, p3, p4, p5, p6, p7, p8, p9⟩ := Msgs.ten (HMW.out _ HB4.out)
  obtain ⟨w5, e5, hl5, hb5⟩ : ∃ W, w4.alloc (.cells #[.int .i64 m.bal.round, .int .i64 m.bal.node] 3) = W ∧ Lies W w4.heap.size 3 #[.int .i64 m.bal.round, .int .i64 m.bal.node] ∧ Below w4.heap.size w4 W := ⟨_, rfl, Lies.new _ _ _, (Below.refl _ _).alloc (Nat.le_refl _) _⟩
  have HL5 := Lib.hid hl5
  have HB5 := Lib.hid (HB4.out.trans (hb5.mono HB4.out.size)); have HO5 := Lib.hid (HO4.out.keep hb5 (Nat.le_refl _))
  clear hl5 hb5
  go_wp2_with fail
  refine (refNums14_any w1.heap.size w4.heap.size 2 [m.bal.round, m.bal.node] u3 K3 _ rfl (by omega) HO5.out HB5.out.size HL5.out (by intro y hy; simp only [List.mem_cons, List.not_mem_nil, or_false] at hy; rcases hy with h | h <;> rw [h] <;> first | exact HVAL.out 0 (by omega) | exact HVAL.out 1 (by omega) | exact HVAL.out 2 (by omega) | exact HVAL.out 3 (by omega) | exact HVAL.out 4 (by omega) | exact HVAL.out 5 (by omega) | exact HVAL.out 6 (by omega) | exact HVAL.out 7 (by omega)) (by omega)).mono ?_
  rintro e6 w6 ⟨u6, rfl, ho, hb⟩
  have HB6 := Lib.hid (HB5.out.trans hb)
  have hlm := Ms.nbytes_le [m.bal.round, m.bal.node] 2 (by simp) (by intro y hy; simp only [List.mem_cons, List.not_mem_nil, or_false] at hy; rcases hy with h | h <;> rw [h] <;> first | exact HVAL.out 0 (by omega) | exact HVAL.out 1 (by omega) | exact HVAL.out 2 (by omega) | exact HVAL.out 3 (by omega) | exact HVAL.out 4 (by omega) | exact HVAL.out 5 (by omega) | exact HVAL.out 6 (by omega) | exact HVAL.out 7 (by omega))
  obtain ⟨K6, hK⟩ : ∃ K, K = K3 ++ Ms.nbytes [m.bal.round, m.bal.node] := ⟨_, rfl⟩
  rw [← hK] at ho
  have hk6 : K6.length ≤ 45 := by rw [hK, List.length_append]; omega
  have HO6 := Lib.hid ho; have HK6 := Lib.hid hK
  clear ho hb hK hlm p0 p1 p2 p3 p4 p5 p6 p7 p8 p9
  go_wp2_with fail
  refine (Qi.out _).mono ?_
  rintro e7 w7 ⟨rfl, hb⟩
  have HB7 := Lib.hid (HB6.out.trans (hb.mono HB6.out.size)); have HO7 := Lib.hid (HO6.out.keep hb (Nat.le_refl _))
  clear hb
  obtain ⟨p0, p1, p2, p3, p4, p5, p6, p7, p8, p9⟩ := Msgs.ten (HMW.out _ HB7.out)
  obtain ⟨w8, e8, hl8, hb8⟩ : ∃ W, w7.alloc (.cells #[.int .i64 m.index] 3) = W ∧ Lies W w7.heap.size 3 #[.int .i64 m.index] ∧ Below w7.heap.size w7 W := ⟨_, rfl, Lies.new _ _ _, (Below.refl _ _).alloc (Nat.le_refl _) _⟩
  have HL8 := Lib.hid hl8
  have HB8 := Lib.hid (HB7.out.trans (hb8.mono HB7.out.size)); have HO8 := Lib.hid (HO7.out.keep hb8 (Nat.le_refl _))
  clear hl8 hb8
  go_wp2_with fail
  refine (refNums14_any w1.heap.size w7.heap.size 1 [m.index] u6 K6 _ rfl (by omega) HO8.out HB8.out.size HL8.out (by intro y hy; have h := List.mem_singleton.1 hy; rw [h] <;> first | exact HVAL.out 0 (by omega) | exact HVAL.out 1 (by omega) | exact HVAL.out 2 (by omega) | exact HVAL.out 3 (by omega) | exact HVAL.out 4 (by omega) | exact HVAL.out 5 (by omega) | exact HVAL.out 6 (by omega) | exact HVAL.out 7 (by omega)) (by omega)).mono ?_
  rintro e9 w9 ⟨u9, rfl, ho, hb⟩
  have HB9 := Lib.hid (HB8.out.trans hb)
  have hlm := Ms.nbytes_le [m.index] 1 (by simp) (by intro y hy; have h := List.mem_singleton.1 hy; rw [h] <;> first | exact HVAL.out 0 (by omega) | exact HVAL.out 1 (by omega) | exact HVAL.out 2 (by omega) | exact HVAL.out 3 (by omega) | exact HVAL.out 4 (by omega) | exact HVAL.out 5 (by omega) | exact HVAL.out 6 (by omega) | exact HVAL.out 7 (by omega))
  obtain ⟨K9, hK⟩ : ∃ K, K = K6 ++ Ms.nbytes [m.index] := ⟨_, rfl⟩
  rw [← hK] at ho
  have hk9 : K9.length ≤ 54 := by rw [hK, List.length_append]; omega
  have HO9 := Lib.hid ho; have HK9 := Lib.hid hK
  clear ho hb hK hlm p0 p1 p2 p3 p4 p5 p6 p7 p8 p9
  go_wp2_with fail
  refine (Qc.out _).mono ?_
  rintro e10 w10 ⟨rfl, hb⟩
  have HB10 := Lib.hid (HB9.out.trans (hb.mono HB9.out.size)); have HO10 := Lib.hid (HO9.out.keep hb (Nat.le_refl _))
  clear hb
  obtain ⟨p0, p1, p2, p3, p4, p5, p6, p7, p8, p9⟩ := Msgs.ten (HMW.out _ HB10.out)
  obtain ⟨w11, e11, hl11, hb11⟩ : ∃ W, w10.alloc (.cells #[.int .i64 m.commit] 3) = W ∧ Lies W w10.heap.size 3 #[.int .i64 m.commit] ∧ Below w10.heap.size w10 W := ⟨_, rfl, Lies.new _ _ _, (Below.refl _ _).alloc (Nat.le_refl _) _⟩
  have HL11 := Lib.hid hl11
  have HB11 := Lib.hid (HB10.out.trans (hb11.mono HB10.out.size)); have HO11 := Lib.hid (HO10.out.keep hb11 (Nat.le_refl _))
  clear hl11 hb11
  go_wp2_with fail
  refine (refNums14_any w1.heap.size w10.heap.size 1 [m.commit] u9 K9 _ rfl (by omega) HO11.out HB11.out.size HL11.out (by intro y hy; have h := List.mem_singleton.1 hy; rw [h] <;> first | exact HVAL.out 0 (by omega) | exact HVAL.out 1 (by omega) | exact HVAL.out 2 (by omega) | exact HVAL.out 3 (by omega) | exact HVAL.out 4 (by omega) | exact HVAL.out 5 (by omega) | exact HVAL.out 6 (by omega) | exact HVAL.out 7 (by omega)) (by omega)).mono ?_
  rintro e12 w12 ⟨u12, rfl, ho, hb⟩
  have HB12 := Lib.hid (HB11.out.trans hb)
  have hlm := Ms.nbytes_le [m.commit] 1 (by simp) (by intro y hy; have h := List.mem_singleton.1 hy; rw [h] <;> first | exact HVAL.out 0 (by omega) | exact HVAL.out 1 (by omega) | exact HVAL.out 2 (by omega) | exact HVAL.out 3 (by omega) | exact HVAL.out 4 (by omega) | exact HVAL.out 5 (by omega) | exact HVAL.out 6 (by omega) | exact HVAL.out 7 (by omega))
  obtain ⟨K12, hK⟩ : ∃ K, K = K9 ++ Ms.nbytes [m.commit] := ⟨_, rfl⟩
  rw [← hK] at ho
  have hk12 : K12.length ≤ 63 := by rw [hK, List.length_append]; omega
  have HO12 := Lib.hid ho; have HK12 := Lib.hid hK
  clear ho hb hK hlm p0 p1 p2 p3 p4 p5 p6 p7 p8 p9
  go_wp2_with fail
  refine (Qv.out _).mono ?_
  rintro e13 w13 ⟨rfl, hb⟩
  have HB13 := Lib.hid (HB12.out.trans (hb.mono HB12.out.size)); have HO13 := Lib.hid (HO12.out.keep hb (Nat.le_refl _))
  clear hb
  go_wp2_with fail
  refine (Qe.out _).mono ?_
  rintro e14 w14 ⟨rfl, hb⟩
  have HB14 := Lib.hid (HB13.out.trans (hb.mono HB13.out.size)); have HO14 := Lib.hid (HO13.out.keep hb (Nat.le_refl _))
  clear hb
  obtain ⟨p0, p1, p2, p3, p4, p5, p6, p7, p8, p9⟩ := Msgs.ten (HMW.out _ HB14.out)
  go_wp2_with fail
  refine (refEBytes_any 2 ve m.ents _ (.inr rfl) (HEW.out _ HB14.out) HENT.out (by have := HLEN.out.1; omega)).mono ?_
  rintro e15 w15 ⟨ua, rfl, hoa, hba⟩
  have hm : (En.bytes 2 m.ents).length ≤ 7000000 := by have h1 := En.flat_len 2 m.ents (fun e h => (HENT.out e h).1); have h2 := enc_nine (n := m.ents.length) (by have := HLEN.out.1; omega); have := HLEN.out.1; unfold En.bytes; rw [List.length_append]; omega
  obtain ⟨M15, hM⟩ : ∃ M, M = En.bytes 2 m.ents := ⟨_, rfl⟩
  rw [← hM] at hoa hm
  have HM15 := Lib.hid hM
  have hown := HO14.out.keep hba (Nat.le_refl _)
  have hB := HB14.out.trans (hba.mono HB14.out.size)
  clear hM hba p0 p1 p2 p3 p4 p5 p6 p7 p8 p9
  go_wp2_with (at_builtin; refine append_bytes rfl _ _ 25 5 rfl Tryz.underlying25 info_u8 w1.heap.size K12 M15 _ _ rfl rfl hown hoa.reads (by omega) w1 hB (Nat.le_refl _) ?_; intro u16 w16 hoz hbz hgz; have HO16 := Lib.hid hoz; have HB16 := Lib.hid hbz; clear hoz hbz hgz)
  obtain ⟨K16, hK⟩ : ∃ K, K = K12 ++ M15 := ⟨_, rfl⟩
  have hk16 : K16.length ≤ 7000063 := by rw [hK, List.length_append]; omega
  rw [← hK] at HO16
  have HK16 := Lib.hid hK
  clear hK hown hB hoa hm
  go_wp2_with fail
  refine (Qm.out _).mono ?_
  rintro e17 w17 ⟨rfl, hb⟩
  have HB17 := Lib.hid (HB16.out.trans (hb.mono HB16.out.size)); have HO17 := Lib.hid (HO16.out.keep hb (Nat.le_refl _))
  clear hb
  go_wp2
  go_ret
  have hfin := HO17.out.mono HB0.out.size
  rw [HK16.out, HK12.out, HK9.out, HK6.out, HK3.out, HM15.out] at hfin
  rw [HALL.out]
  exact ⟨_, rfl, hfin, HB0.out.trans (HB17.out.mono HB0.out.size)⟩

set_option maxRecDepth 8000 in
set_option maxHeartbeats 6400000 in
theorem refBytes14_010010 (m : Ms.Msg) (ve vi : Value) (w : World) (hck : Ms.check m = 0) (he : ReadsE w ve m.ents) (hi : Reads w vi m.img) (hf : m.Fits) (hs : ∀ e ∈ m.ents, e.cmd.Short 1000) (gv : Ms.hv m.kind = false) (gb : Ms.hb m.kind = true) (gi : Ms.hi m.kind = false) (gc : Ms.hc m.kind = false) (ge : Ms.he m.kind = true) (gm : Ms.hm m.kind = false) (g5 : m.kind = 5) :
    Calls Tryz.prog 26 #[.agg (Ms.cells m ve vi)] w (Makes w 5 (Mt.bytes m)) := by
  obtain ⟨kd, fr, ds, bl, ix, cm, vr, es, im⟩ := m
  dsimp only at he hi hs gv gb gi gc ge gm g5
  subst g5
  obtain ⟨w1, e1, hl1, hB1, hz1⟩ := box_msg w (⟨5, fr, ds, bl, ix, cm, vr, es, im⟩ : Ms.Msg) ve vi
  obtain ⟨p0, p1, p2, p3, p4, p5, p6, p7, p8, p9⟩ := Msgs.ten hl1
  have hkinds := Ms.ent_kinds hck
  have HENT : Hid (∀ e ∈ es, (e.Fits ∧ e.cmd.Short 1000) ∧ (1 ≤ e.cmd.kind ∧ e.cmd.kind ≤ 8)) := fun e h => ⟨⟨hf.e e h, hs e h⟩, hkinds e h⟩
  have HLEN : Hid (es.length ≤ 256 ∧ im.length ≤ 32768) := Ms.good_len (Ms.check_good hck)
  have HVAL : Hid (∀ k, k < 8 → -9223372036854775808 ≤ Mt.val (⟨5, fr, ds, bl, ix, cm, vr, es, im⟩ : Ms.Msg) k ∧ Mt.val (⟨5, fr, ds, bl, ix, cm, vr, es, im⟩ : Ms.Msg) k ≤ 9223372036854775807) := fun k hk => by have := Mt.val_good hck k hk; omega
  have HEW : Hid (∀ W, Below w1.heap.size w1 W → ReadsE W ve es) := fun W h => ReadsR.below (ReadsR.below he hB1) h
  have HIW : Hid (∀ W, Below w1.heap.size w1 W → Reads W vi im) := fun W h => (hi.below hB1).below h
  have HMW : Hid (∀ W, Below w1.heap.size w1 W → Msgs W w.heap.size (⟨5, fr, ds, bl, ix, cm, vr, es, im⟩ : Ms.Msg) ve vi) := fun W h => hl1.below h hl1.lt
  have HB0 := Lib.hid hB1
  obtain ⟨x, hx, _⟩ := Mt.good_sole hck rfl
  dsimp only at hx
  have HALL : Hid (Mt.bytes (⟨5, fr, ds, bl, ix, cm, vr, es, im⟩ : Ms.Msg) = (((Ms.nbytes [(5 : Int), fr, ds] ++ Ms.nbytes [bl.round, bl.node]) ++ Ms.nbytes [x.index]) ++ Cm.bytes 2 x.cmd)) := by
    show _ = _
    unfold Mt.bytes Mt.ents
    dsimp only
    rw [gv, gb, gi, gc, gm, if_pos rfl, hx]
    simp [Mt.part, Mt.one, Ms.nbytes]
  have hHas := fun (t : Bool) (h : Ms.hb (5 : Int) = t) W => refHas_b' (5 : Int) t h W
  have Qb := Lib.hid (fun W => refHas_b' (5 : Int) true gb W)
  have Qi := Lib.hid (fun W => refHas_i' (5 : Int) false gi W)
  have Qc := Lib.hid (fun W => refHas_c' (5 : Int) false gc W)
  have Qv := Lib.hid (fun W => refHas_v' (5 : Int) false gv W)
  have Qe := Lib.hid (fun W => refHas_e' (5 : Int) true ge W)
  have Qm := Lib.hid (fun W => refHas_m' (5 : Int) false gm W)
  have hrd := HEW.out w1 (Below.refl _ _)
  rw [hx] at hrd
  obtain ⟨ao, cap, hve, hc1, hc2⟩ := ReadsE.shape hrd
  rw [List.length_singleton] at hve hc1
  subst hve
  obtain ⟨bg, off, rfl, hgl, hcell⟩ := ReadsE.places hrd (by simp)
  have HAT := Lib.hid (fun W (h : Below w1.heap.size w1 W) => hcell W h 0 x rfl)
  have HX := Lib.hid (HENT.out x (by rw [hx]; simp))
  clear hrd hcell hx hc1 hc2 hgl
  obtain ⟨w2, e2, hl2, hb2⟩ : ∃ W, w1.alloc (.cells #[.int .i64 (5 : Int), .int .i64 fr, .int .i64 ds] 3) = W ∧ Lies W w1.heap.size 3 #[.int .i64 (5 : Int), .int .i64 fr, .int .i64 ds] ∧ Below w1.heap.size w1 W := ⟨_, rfl, Lies.new _ _ _, (Below.refl _ _).alloc (Nat.le_refl _) _⟩
  have HL2 := Lib.hid hl2
  have HB2 := Lib.hid hb2
  clear hl2 hb2
  clear hl1 hB1 hz1 he hi hf hs hkinds hck hHas gv gb gi gc ge gm
  go_enter Tryz.func26, Tryz.ntmps26
  go_wp2_with fail
  refine (refNums14_any w1.heap.size w1.heap.size 3 [(5 : Int), fr, ds] (.slice none 0 0) [] _ rfl (by omega) (Owns.empty _ _ _) HB2.out.size HL2.out (by intro y hy; simp only [List.mem_cons, List.not_mem_nil, or_false] at hy; rcases hy with h | h | h <;> rw [h] <;> first | exact HVAL.out 0 (by omega) | exact HVAL.out 1 (by omega) | exact HVAL.out 2 (by omega) | exact HVAL.out 3 (by omega) | exact HVAL.out 4 (by omega) | exact HVAL.out 5 (by omega) | exact HVAL.out 6 (by omega) | exact HVAL.out 7 (by omega)) (by simp)).mono ?_
  rintro e3 w3 ⟨u3, rfl, ho, hb⟩
  have HB3 := Lib.hid (HB2.out.trans hb)
  have hlm := Ms.nbytes_le [(5 : Int), fr, ds] 3 (by simp) (by intro y hy; simp only [List.mem_cons, List.not_mem_nil, or_false] at hy; rcases hy with h | h | h <;> rw [h] <;> first | exact HVAL.out 0 (by omega) | exact HVAL.out 1 (by omega) | exact HVAL.out 2 (by omega) | exact HVAL.out 3 (by omega) | exact HVAL.out 4 (by omega) | exact HVAL.out 5 (by omega) | exact HVAL.out 6 (by omega) | exact HVAL.out 7 (by omega))
  obtain ⟨K3, hK⟩ : ∃ K, K = Ms.nbytes [(5 : Int), fr, ds] := ⟨_, rfl⟩
  rw [List.nil_append, ← hK] at ho
  have hk3 : K3.length ≤ 27 := by rw [hK]; omega
  have HO3 := Lib.hid ho; have HK3 := Lib.hid hK
  clear ho hb hK hlm p0 p1 p2 p3 p4 p5 p6 p7 p8 p9
  go_wp2_with fail
  refine (Qb.out _).mono ?_
  rintro e4 w4 ⟨rfl, hb⟩
  have HB4 := Lib.hid (HB3.out.trans (hb.mono HB3.out.size)); have HO4 := Lib.hid (HO3.out.keep hb (Nat.le_refl _))
  clear hb
  obtain ⟨p0, p1, p2, p3, p4, p5, p6, p7, p8, p9⟩ := Msgs.ten (HMW.out _ HB4.out)
  obtain ⟨w5, e5, hl5, hb5⟩ : ∃ W, w4.alloc (.cells #[.int .i64 bl.round, .int .i64 bl.node] 3) = W ∧ Lies W w4.heap.size 3 #[.int .i64 bl.round, .int .i64 bl.node] ∧ Below w4.heap.size w4 W := ⟨_, rfl, Lies.new _ _ _, (Below.refl _ _).alloc (Nat.le_refl _) _⟩
  have HL5 := Lib.hid hl5
  have HB5 := Lib.hid (HB4.out.trans (hb5.mono HB4.out.size)); have HO5 := Lib.hid (HO4.out.keep hb5 (Nat.le_refl _))
  clear hl5 hb5
  go_wp2_with fail
  refine (refNums14_any w1.heap.size w4.heap.size 2 [bl.round, bl.node] u3 K3 _ rfl (by omega) HO5.out HB5.out.size HL5.out (by intro y hy; simp only [List.mem_cons, List.not_mem_nil, or_false] at hy; rcases hy with h | h <;> rw [h] <;> first | exact HVAL.out 0 (by omega) | exact HVAL.out 1 (by omega) | exact HVAL.out 2 (by omega) | exact HVAL.out 3 (by omega) | exact HVAL.out 4 (by omega) | exact HVAL.out 5 (by omega) | exact HVAL.out 6 (by omega) | exact HVAL.out 7 (by omega)) (by omega)).mono ?_
  rintro e6 w6 ⟨u6, rfl, ho, hb⟩
  have HB6 := Lib.hid (HB5.out.trans hb)
  have hlm := Ms.nbytes_le [bl.round, bl.node] 2 (by simp) (by intro y hy; simp only [List.mem_cons, List.not_mem_nil, or_false] at hy; rcases hy with h | h <;> rw [h] <;> first | exact HVAL.out 0 (by omega) | exact HVAL.out 1 (by omega) | exact HVAL.out 2 (by omega) | exact HVAL.out 3 (by omega) | exact HVAL.out 4 (by omega) | exact HVAL.out 5 (by omega) | exact HVAL.out 6 (by omega) | exact HVAL.out 7 (by omega))
  obtain ⟨K6, hK⟩ : ∃ K, K = K3 ++ Ms.nbytes [bl.round, bl.node] := ⟨_, rfl⟩
  rw [← hK] at ho
  have hk6 : K6.length ≤ 45 := by rw [hK, List.length_append]; omega
  have HO6 := Lib.hid ho; have HK6 := Lib.hid hK
  clear ho hb hK hlm p0 p1 p2 p3 p4 p5 p6 p7 p8 p9
  go_wp2_with fail
  refine (Qi.out _).mono ?_
  rintro e7 w7 ⟨rfl, hb⟩
  have HB7 := Lib.hid (HB6.out.trans (hb.mono HB6.out.size)); have HO7 := Lib.hid (HO6.out.keep hb (Nat.le_refl _))
  clear hb
  go_wp2_with fail
  refine (Qc.out _).mono ?_
  rintro e8 w8 ⟨rfl, hb⟩
  have HB8 := Lib.hid (HB7.out.trans (hb.mono HB7.out.size)); have HO8 := Lib.hid (HO7.out.keep hb (Nat.le_refl _))
  clear hb
  go_wp2_with fail
  refine (Qv.out _).mono ?_
  rintro e9 w9 ⟨rfl, hb⟩
  have HB9 := Lib.hid (HB8.out.trans (hb.mono HB8.out.size)); have HO9 := Lib.hid (HO8.out.keep hb (Nat.le_refl _))
  clear hb
  obtain ⟨p0, p1, p2, p3, p4, p5, p6, p7, p8, p9⟩ := Msgs.ten (HMW.out _ HB9.out)
  obtain ⟨c0, c1, c2, c3, c4, c5, c6, c7, c8, c9⟩ := HAT.out _ HB9.out
  simp only [Nat.zero_mul, Nat.add_zero] at c0 c1 c2 c3 c4 c5 c6 c7 c8 c9
  obtain ⟨w10, e10, hl10, hb10⟩ : ∃ W, w9.alloc (.cells #[.int .i64 x.index] 3) = W ∧ Lies W w9.heap.size 3 #[.int .i64 x.index] ∧ Below w9.heap.size w9 W := ⟨_, rfl, Lies.new _ _ _, (Below.refl _ _).alloc (Nat.le_refl _) _⟩
  have HL10 := Lib.hid hl10
  have HB10 := Lib.hid (HB9.out.trans (hb10.mono HB9.out.size)); have HO10 := Lib.hid (HO9.out.keep hb10 (Nat.le_refl _))
  clear hl10 hb10
  go_wp2_with fail
  refine (refNums14_any w1.heap.size w9.heap.size 1 [x.index] u6 K6 _ rfl (by omega) HO10.out HB10.out.size HL10.out (by intro y hy; obtain rfl := List.mem_singleton.1 hy; exact ⟨HX.out.1.1.i0, HX.out.1.1.i1⟩) (by omega)).mono ?_
  rintro e11 w11 ⟨u11, rfl, ho, hb⟩
  have HB11 := Lib.hid (HB10.out.trans hb)
  have hlm := Ms.nbytes_le [x.index] 1 (by simp) (by intro y hy; obtain rfl := List.mem_singleton.1 hy; exact ⟨HX.out.1.1.i0, HX.out.1.1.i1⟩)
  obtain ⟨K11, hK⟩ : ∃ K, K = K6 ++ Ms.nbytes [x.index] := ⟨_, rfl⟩
  rw [← hK] at ho
  have hk11 : K11.length ≤ 54 := by rw [hK, List.length_append]; omega
  have HO11 := Lib.hid ho; have HK11 := Lib.hid hK
  clear ho hb hK hlm p0 p1 p2 p3 p4 p5 p6 p7 p8 p9 c0 c1 c2 c3 c4 c5 c6 c7 c8 c9
  obtain ⟨p0, p1, p2, p3, p4, p5, p6, p7, p8, p9⟩ := Msgs.ten (HMW.out _ HB11.out)
  obtain ⟨c0, c1, c2, c3, c4, c5, c6, c7, c8, c9⟩ := HAT.out _ HB11.out
  simp only [Nat.zero_mul, Nat.add_zero] at c0 c1 c2 c3 c4 c5 c6 c7 c8 c9
  go_wp2_with fail
  refine (refBytesCmd_any 2 x.cmd _ (.inr rfl) HX.out.2.1 HX.out.2.2 HX.out.1.1.cmd HX.out.1.2).mono ?_
  rintro e12 w12 ⟨ua, rfl, hoa, hba⟩
  have hm : (Cm.bytes 2 x.cmd).length ≤ 7000 := by have := Cm.bytes_len 2 x.cmd HX.out.1.1.cmd HX.out.1.2; omega
  obtain ⟨M12, hM⟩ : ∃ M, M = Cm.bytes 2 x.cmd := ⟨_, rfl⟩
  rw [← hM] at hoa hm
  have HM12 := Lib.hid hM
  have hown := HO11.out.keep hba (Nat.le_refl _)
  have hB := HB11.out.trans (hba.mono HB11.out.size)
  clear hM hba p0 p1 p2 p3 p4 p5 p6 p7 p8 p9 c0 c1 c2 c3 c4 c5 c6 c7 c8 c9
  go_wp2_with (at_builtin; refine append_bytes rfl _ _ 25 5 rfl Tryz.underlying25 info_u8 w1.heap.size K11 M12 _ _ rfl rfl hown hoa.reads (by omega) w1 hB (Nat.le_refl _) ?_; intro u13 w13 hoz hbz hgz; have HO13 := Lib.hid hoz; have HB13 := Lib.hid hbz; clear hoz hbz hgz)
  obtain ⟨K13, hK⟩ : ∃ K, K = K11 ++ M12 := ⟨_, rfl⟩
  have hk13 : K13.length ≤ 7054 := by rw [hK, List.length_append]; omega
  rw [← hK] at HO13
  have HK13 := Lib.hid hK
  clear hK hown hB hoa hm
  go_wp2_with fail
  refine (Qm.out _).mono ?_
  rintro e14 w14 ⟨rfl, hb⟩
  have HB14 := Lib.hid (HB13.out.trans (hb.mono HB13.out.size)); have HO14 := Lib.hid (HO13.out.keep hb (Nat.le_refl _))
  clear hb
  go_wp2
  go_ret
  have hfin := HO14.out.mono HB0.out.size
  rw [HK13.out, HK11.out, HK6.out, HK3.out, HM12.out] at hfin
  rw [HALL.out]
  exact ⟨_, rfl, hfin, HB0.out.trans (HB14.out.mono HB0.out.size)⟩

set_option maxRecDepth 8000 in
set_option maxHeartbeats 6400000 in
theorem refBytes14_010000 (m : Ms.Msg) (ve vi : Value) (w : World) (hck : Ms.check m = 0) (he : ReadsE w ve m.ents) (hi : Reads w vi m.img) (hf : m.Fits) (hs : ∀ e ∈ m.ents, e.cmd.Short 1000) (gv : Ms.hv m.kind = false) (gb : Ms.hb m.kind = true) (gi : Ms.hi m.kind = false) (gc : Ms.hc m.kind = false) (ge : Ms.he m.kind = false) (gm : Ms.hm m.kind = false) (g5 : m.kind ≠ 5) :
    Calls Tryz.prog 26 #[.agg (Ms.cells m ve vi)] w (Makes w 5 (Mt.bytes m)) := by
  obtain ⟨w1, e1, hl1, hB1, hz1⟩ := box_msg w m ve vi
  obtain ⟨p0, p1, p2, p3, p4, p5, p6, p7, p8, p9⟩ := Msgs.ten hl1
  have hkinds := Ms.ent_kinds hck
  have HENT : Hid (∀ e ∈ m.ents, (e.Fits ∧ e.cmd.Short 1000) ∧ (1 ≤ e.cmd.kind ∧ e.cmd.kind ≤ 8)) := fun e h => ⟨⟨hf.e e h, hs e h⟩, hkinds e h⟩
  have HLEN : Hid (m.ents.length ≤ 256 ∧ m.img.length ≤ 32768) := Ms.good_len (Ms.check_good hck)
  have HVAL : Hid (∀ k, k < 8 → -9223372036854775808 ≤ Mt.val m k ∧ Mt.val m k ≤ 9223372036854775807) := fun k hk => by have := Mt.val_good hck k hk; omega
  have HEW : Hid (∀ W, Below w1.heap.size w1 W → ReadsE W ve m.ents) := fun W h => ReadsR.below (ReadsR.below he hB1) h
  have HIW : Hid (∀ W, Below w1.heap.size w1 W → Reads W vi m.img) := fun W h => (hi.below hB1).below h
  have HMW : Hid (∀ W, Below w1.heap.size w1 W → Msgs W w.heap.size m ve vi) := fun W h => hl1.below h hl1.lt
  have HB0 := Lib.hid hB1
  have HALL : Hid (Mt.bytes m = (Ms.nbytes [m.kind, m.frm, m.dst] ++ Ms.nbytes [m.bal.round, m.bal.node])) := by
    show _ = _
    unfold Mt.bytes Mt.ents
    rw [gv, gb, gi, gc, gm, if_neg g5, ge]
    simp [Mt.part, Ms.nbytes]
  have hHas := fun (t : Bool) (h : Ms.hb m.kind = t) W => refHas_b' m.kind t h W
  have Qb := Lib.hid (fun W => refHas_b' m.kind true gb W)
  have Qi := Lib.hid (fun W => refHas_i' m.kind false gi W)
  have Qc := Lib.hid (fun W => refHas_c' m.kind false gc W)
  have Qv := Lib.hid (fun W => refHas_v' m.kind false gv W)
  have Qe := Lib.hid (fun W => refHas_e' m.kind false ge W)
  have Qm := Lib.hid (fun W => refHas_m' m.kind false gm W)
  have d5 : (m.kind == 5) = false := by simpa using g5
  obtain ⟨w2, e2, hl2, hb2⟩ : ∃ W, w1.alloc (.cells #[.int .i64 m.kind, .int .i64 m.frm, .int .i64 m.dst] 3) = W ∧ Lies W w1.heap.size 3 #[.int .i64 m.kind, .int .i64 m.frm, .int .i64 m.dst] ∧ Below w1.heap.size w1 W := ⟨_, rfl, Lies.new _ _ _, (Below.refl _ _).alloc (Nat.le_refl _) _⟩
  have HL2 := Lib.hid hl2
  have HB2 := Lib.hid hb2
  clear hl2 hb2
  clear hl1 hB1 hz1 he hi hf hs hkinds hck hHas gv gb gi gc ge gm g5
  go_enter Tryz.func26, Tryz.ntmps26
  go_wp2_with fail
  refine (refNums14_any w1.heap.size w1.heap.size 3 [m.kind, m.frm, m.dst] (.slice none 0 0) [] _ rfl (by omega) (Owns.empty _ _ _) HB2.out.size HL2.out (by intro y hy; simp only [List.mem_cons, List.not_mem_nil, or_false] at hy; rcases hy with h | h | h <;> rw [h] <;> first | exact HVAL.out 0 (by omega) | exact HVAL.out 1 (by omega) | exact HVAL.out 2 (by omega) | exact HVAL.out 3 (by omega) | exact HVAL.out 4 (by omega) | exact HVAL.out 5 (by omega) | exact HVAL.out 6 (by omega) | exact HVAL.out 7 (by omega)) (by simp)).mono ?_
  rintro e3 w3 ⟨u3, rfl, ho, hb⟩
  have HB3 := Lib.hid (HB2.out.trans hb)
  have hlm := Ms.nbytes_le [m.kind, m.frm, m.dst] 3 (by simp) (by intro y hy; simp only [List.mem_cons, List.not_mem_nil, or_false] at hy; rcases hy with h | h | h <;> rw [h] <;> first | exact HVAL.out 0 (by omega) | exact HVAL.out 1 (by omega) | exact HVAL.out 2 (by omega) | exact HVAL.out 3 (by omega) | exact HVAL.out 4 (by omega) | exact HVAL.out 5 (by omega) | exact HVAL.out 6 (by omega) | exact HVAL.out 7 (by omega))
  obtain ⟨K3, hK⟩ : ∃ K, K = Ms.nbytes [m.kind, m.frm, m.dst] := ⟨_, rfl⟩
  rw [List.nil_append, ← hK] at ho
  have hk3 : K3.length ≤ 27 := by rw [hK]; omega
  have HO3 := Lib.hid ho; have HK3 := Lib.hid hK
  clear ho hb hK hlm p0 p1 p2 p3 p4 p5 p6 p7 p8 p9
  go_wp2_with fail
  refine (Qb.out _).mono ?_
  rintro e4 w4 ⟨rfl, hb⟩
  have HB4 := Lib.hid (HB3.out.trans (hb.mono HB3.out.size)); have HO4 := Lib.hid (HO3.out.keep hb (Nat.le_refl _))
  clear hb
  obtain ⟨p0, p1, p2, p3, p4, p5, p6, p7, p8, p9⟩ := Msgs.ten (HMW.out _ HB4.out)
  obtain ⟨w5, e5, hl5, hb5⟩ : ∃ W, w4.alloc (.cells #[.int .i64 m.bal.round, .int .i64 m.bal.node] 3) = W ∧ Lies W w4.heap.size 3 #[.int .i64 m.bal.round, .int .i64 m.bal.node] ∧ Below w4.heap.size w4 W := ⟨_, rfl, Lies.new _ _ _, (Below.refl _ _).alloc (Nat.le_refl _) _⟩
  have HL5 := Lib.hid hl5
  have HB5 := Lib.hid (HB4.out.trans (hb5.mono HB4.out.size)); have HO5 := Lib.hid (HO4.out.keep hb5 (Nat.le_refl _))
  clear hl5 hb5
  go_wp2_with fail
  refine (refNums14_any w1.heap.size w4.heap.size 2 [m.bal.round, m.bal.node] u3 K3 _ rfl (by omega) HO5.out HB5.out.size HL5.out (by intro y hy; simp only [List.mem_cons, List.not_mem_nil, or_false] at hy; rcases hy with h | h <;> rw [h] <;> first | exact HVAL.out 0 (by omega) | exact HVAL.out 1 (by omega) | exact HVAL.out 2 (by omega) | exact HVAL.out 3 (by omega) | exact HVAL.out 4 (by omega) | exact HVAL.out 5 (by omega) | exact HVAL.out 6 (by omega) | exact HVAL.out 7 (by omega)) (by omega)).mono ?_
  rintro e6 w6 ⟨u6, rfl, ho, hb⟩
  have HB6 := Lib.hid (HB5.out.trans hb)
  have hlm := Ms.nbytes_le [m.bal.round, m.bal.node] 2 (by simp) (by intro y hy; simp only [List.mem_cons, List.not_mem_nil, or_false] at hy; rcases hy with h | h <;> rw [h] <;> first | exact HVAL.out 0 (by omega) | exact HVAL.out 1 (by omega) | exact HVAL.out 2 (by omega) | exact HVAL.out 3 (by omega) | exact HVAL.out 4 (by omega) | exact HVAL.out 5 (by omega) | exact HVAL.out 6 (by omega) | exact HVAL.out 7 (by omega))
  obtain ⟨K6, hK⟩ : ∃ K, K = K3 ++ Ms.nbytes [m.bal.round, m.bal.node] := ⟨_, rfl⟩
  rw [← hK] at ho
  have hk6 : K6.length ≤ 45 := by rw [hK, List.length_append]; omega
  have HO6 := Lib.hid ho; have HK6 := Lib.hid hK
  clear ho hb hK hlm p0 p1 p2 p3 p4 p5 p6 p7 p8 p9
  go_wp2_with fail
  refine (Qi.out _).mono ?_
  rintro e7 w7 ⟨rfl, hb⟩
  have HB7 := Lib.hid (HB6.out.trans (hb.mono HB6.out.size)); have HO7 := Lib.hid (HO6.out.keep hb (Nat.le_refl _))
  clear hb
  go_wp2_with fail
  refine (Qc.out _).mono ?_
  rintro e8 w8 ⟨rfl, hb⟩
  have HB8 := Lib.hid (HB7.out.trans (hb.mono HB7.out.size)); have HO8 := Lib.hid (HO7.out.keep hb (Nat.le_refl _))
  clear hb
  go_wp2_with fail
  refine (Qv.out _).mono ?_
  rintro e9 w9 ⟨rfl, hb⟩
  have HB9 := Lib.hid (HB8.out.trans (hb.mono HB8.out.size)); have HO9 := Lib.hid (HO8.out.keep hb (Nat.le_refl _))
  clear hb
  go_wp2_with fail
  refine (Qe.out _).mono ?_
  rintro e10 w10 ⟨rfl, hb⟩
  have HB10 := Lib.hid (HB9.out.trans (hb.mono HB9.out.size)); have HO10 := Lib.hid (HO9.out.keep hb (Nat.le_refl _))
  clear hb
  go_wp2_with fail
  refine (Qm.out _).mono ?_
  rintro e11 w11 ⟨rfl, hb⟩
  have HB11 := Lib.hid (HB10.out.trans (hb.mono HB10.out.size)); have HO11 := Lib.hid (HO10.out.keep hb (Nat.le_refl _))
  clear hb
  go_wp2
  go_ret
  have hfin := HO11.out.mono HB0.out.size
  rw [HK6.out, HK3.out] at hfin
  rw [HALL.out]
  exact ⟨_, rfl, hfin, HB0.out.trans (HB11.out.mono HB0.out.size)⟩

set_option maxRecDepth 8000 in
set_option maxHeartbeats 6400000 in
theorem refBytes14_010100 (m : Ms.Msg) (ve vi : Value) (w : World) (hck : Ms.check m = 0) (he : ReadsE w ve m.ents) (hi : Reads w vi m.img) (hf : m.Fits) (hs : ∀ e ∈ m.ents, e.cmd.Short 1000) (gv : Ms.hv m.kind = false) (gb : Ms.hb m.kind = true) (gi : Ms.hi m.kind = false) (gc : Ms.hc m.kind = true) (ge : Ms.he m.kind = false) (gm : Ms.hm m.kind = false) (g5 : m.kind ≠ 5) :
    Calls Tryz.prog 26 #[.agg (Ms.cells m ve vi)] w (Makes w 5 (Mt.bytes m)) := by
  obtain ⟨w1, e1, hl1, hB1, hz1⟩ := box_msg w m ve vi
  obtain ⟨p0, p1, p2, p3, p4, p5, p6, p7, p8, p9⟩ := Msgs.ten hl1
  have hkinds := Ms.ent_kinds hck
  have HENT : Hid (∀ e ∈ m.ents, (e.Fits ∧ e.cmd.Short 1000) ∧ (1 ≤ e.cmd.kind ∧ e.cmd.kind ≤ 8)) := fun e h => ⟨⟨hf.e e h, hs e h⟩, hkinds e h⟩
  have HLEN : Hid (m.ents.length ≤ 256 ∧ m.img.length ≤ 32768) := Ms.good_len (Ms.check_good hck)
  have HVAL : Hid (∀ k, k < 8 → -9223372036854775808 ≤ Mt.val m k ∧ Mt.val m k ≤ 9223372036854775807) := fun k hk => by have := Mt.val_good hck k hk; omega
  have HEW : Hid (∀ W, Below w1.heap.size w1 W → ReadsE W ve m.ents) := fun W h => ReadsR.below (ReadsR.below he hB1) h
  have HIW : Hid (∀ W, Below w1.heap.size w1 W → Reads W vi m.img) := fun W h => (hi.below hB1).below h
  have HMW : Hid (∀ W, Below w1.heap.size w1 W → Msgs W w.heap.size m ve vi) := fun W h => hl1.below h hl1.lt
  have HB0 := Lib.hid hB1
  have HALL : Hid (Mt.bytes m = ((Ms.nbytes [m.kind, m.frm, m.dst] ++ Ms.nbytes [m.bal.round, m.bal.node]) ++ Ms.nbytes [m.commit])) := by
    show _ = _
    unfold Mt.bytes Mt.ents
    rw [gv, gb, gi, gc, gm, if_neg g5, ge]
    simp [Mt.part, Ms.nbytes]
  have hHas := fun (t : Bool) (h : Ms.hb m.kind = t) W => refHas_b' m.kind t h W
  have Qb := Lib.hid (fun W => refHas_b' m.kind true gb W)
  have Qi := Lib.hid (fun W => refHas_i' m.kind false gi W)
  have Qc := Lib.hid (fun W => refHas_c' m.kind true gc W)
  have Qv := Lib.hid (fun W => refHas_v' m.kind false gv W)
  have Qe := Lib.hid (fun W => refHas_e' m.kind false ge W)
  have Qm := Lib.hid (fun W => refHas_m' m.kind false gm W)
  have d5 : (m.kind == 5) = false := by simpa using g5
  obtain ⟨w2, e2, hl2, hb2⟩ : ∃ W, w1.alloc (.cells #[.int .i64 m.kind, .int .i64 m.frm, .int .i64 m.dst] 3) = W ∧ Lies W w1.heap.size 3 #[.int .i64 m.kind, .int .i64 m.frm, .int .i64 m.dst] ∧ Below w1.heap.size w1 W := ⟨_, rfl, Lies.new _ _ _, (Below.refl _ _).alloc (Nat.le_refl _) _⟩
  have HL2 := Lib.hid hl2
  have HB2 := Lib.hid hb2
  clear hl2 hb2
  clear hl1 hB1 hz1 he hi hf hs hkinds hck hHas gv gb gi gc ge gm g5
  go_enter Tryz.func26, Tryz.ntmps26
  go_wp2_with fail
  refine (refNums14_any w1.heap.size w1.heap.size 3 [m.kind, m.frm, m.dst] (.slice none 0 0) [] _ rfl (by omega) (Owns.empty _ _ _) HB2.out.size HL2.out (by intro y hy; simp only [List.mem_cons, List.not_mem_nil, or_false] at hy; rcases hy with h | h | h <;> rw [h] <;> first | exact HVAL.out 0 (by omega) | exact HVAL.out 1 (by omega) | exact HVAL.out 2 (by omega) | exact HVAL.out 3 (by omega) | exact HVAL.out 4 (by omega) | exact HVAL.out 5 (by omega) | exact HVAL.out 6 (by omega) | exact HVAL.out 7 (by omega)) (by simp)).mono ?_
  rintro e3 w3 ⟨u3, rfl, ho, hb⟩
  have HB3 := Lib.hid (HB2.out.trans hb)
  have hlm := Ms.nbytes_le [m.kind, m.frm, m.dst] 3 (by simp) (by intro y hy; simp only [List.mem_cons, List.not_mem_nil, or_false] at hy; rcases hy with h | h | h <;> rw [h] <;> first | exact HVAL.out 0 (by omega) | exact HVAL.out 1 (by omega) | exact HVAL.out 2 (by omega) | exact HVAL.out 3 (by omega) | exact HVAL.out 4 (by omega) | exact HVAL.out 5 (by omega) | exact HVAL.out 6 (by omega) | exact HVAL.out 7 (by omega))
  obtain ⟨K3, hK⟩ : ∃ K, K = Ms.nbytes [m.kind, m.frm, m.dst] := ⟨_, rfl⟩
  rw [List.nil_append, ← hK] at ho
  have hk3 : K3.length ≤ 27 := by rw [hK]; omega
  have HO3 := Lib.hid ho; have HK3 := Lib.hid hK
  clear ho hb hK hlm p0 p1 p2 p3 p4 p5 p6 p7 p8 p9
  go_wp2_with fail
  refine (Qb.out _).mono ?_
  rintro e4 w4 ⟨rfl, hb⟩
  have HB4 := Lib.hid (HB3.out.trans (hb.mono HB3.out.size)); have HO4 := Lib.hid (HO3.out.keep hb (Nat.le_refl _))
  clear hb
  obtain ⟨p0, p1, p2, p3, p4, p5, p6, p7, p8, p9⟩ := Msgs.ten (HMW.out _ HB4.out)
  obtain ⟨w5, e5, hl5, hb5⟩ : ∃ W, w4.alloc (.cells #[.int .i64 m.bal.round, .int .i64 m.bal.node] 3) = W ∧ Lies W w4.heap.size 3 #[.int .i64 m.bal.round, .int .i64 m.bal.node] ∧ Below w4.heap.size w4 W := ⟨_, rfl, Lies.new _ _ _, (Below.refl _ _).alloc (Nat.le_refl _) _⟩
  have HL5 := Lib.hid hl5
  have HB5 := Lib.hid (HB4.out.trans (hb5.mono HB4.out.size)); have HO5 := Lib.hid (HO4.out.keep hb5 (Nat.le_refl _))
  clear hl5 hb5
  go_wp2_with fail
  refine (refNums14_any w1.heap.size w4.heap.size 2 [m.bal.round, m.bal.node] u3 K3 _ rfl (by omega) HO5.out HB5.out.size HL5.out (by intro y hy; simp only [List.mem_cons, List.not_mem_nil, or_false] at hy; rcases hy with h | h <;> rw [h] <;> first | exact HVAL.out 0 (by omega) | exact HVAL.out 1 (by omega) | exact HVAL.out 2 (by omega) | exact HVAL.out 3 (by omega) | exact HVAL.out 4 (by omega) | exact HVAL.out 5 (by omega) | exact HVAL.out 6 (by omega) | exact HVAL.out 7 (by omega)) (by omega)).mono ?_
  rintro e6 w6 ⟨u6, rfl, ho, hb⟩
  have HB6 := Lib.hid (HB5.out.trans hb)
  have hlm := Ms.nbytes_le [m.bal.round, m.bal.node] 2 (by simp) (by intro y hy; simp only [List.mem_cons, List.not_mem_nil, or_false] at hy; rcases hy with h | h <;> rw [h] <;> first | exact HVAL.out 0 (by omega) | exact HVAL.out 1 (by omega) | exact HVAL.out 2 (by omega) | exact HVAL.out 3 (by omega) | exact HVAL.out 4 (by omega) | exact HVAL.out 5 (by omega) | exact HVAL.out 6 (by omega) | exact HVAL.out 7 (by omega))
  obtain ⟨K6, hK⟩ : ∃ K, K = K3 ++ Ms.nbytes [m.bal.round, m.bal.node] := ⟨_, rfl⟩
  rw [← hK] at ho
  have hk6 : K6.length ≤ 45 := by rw [hK, List.length_append]; omega
  have HO6 := Lib.hid ho; have HK6 := Lib.hid hK
  clear ho hb hK hlm p0 p1 p2 p3 p4 p5 p6 p7 p8 p9
  go_wp2_with fail
  refine (Qi.out _).mono ?_
  rintro e7 w7 ⟨rfl, hb⟩
  have HB7 := Lib.hid (HB6.out.trans (hb.mono HB6.out.size)); have HO7 := Lib.hid (HO6.out.keep hb (Nat.le_refl _))
  clear hb
  go_wp2_with fail
  refine (Qc.out _).mono ?_
  rintro e8 w8 ⟨rfl, hb⟩
  have HB8 := Lib.hid (HB7.out.trans (hb.mono HB7.out.size)); have HO8 := Lib.hid (HO7.out.keep hb (Nat.le_refl _))
  clear hb
  obtain ⟨p0, p1, p2, p3, p4, p5, p6, p7, p8, p9⟩ := Msgs.ten (HMW.out _ HB8.out)
  obtain ⟨w9, e9, hl9, hb9⟩ : ∃ W, w8.alloc (.cells #[.int .i64 m.commit] 3) = W ∧ Lies W w8.heap.size 3 #[.int .i64 m.commit] ∧ Below w8.heap.size w8 W := ⟨_, rfl, Lies.new _ _ _, (Below.refl _ _).alloc (Nat.le_refl _) _⟩
  have HL9 := Lib.hid hl9
  have HB9 := Lib.hid (HB8.out.trans (hb9.mono HB8.out.size)); have HO9 := Lib.hid (HO8.out.keep hb9 (Nat.le_refl _))
  clear hl9 hb9
  go_wp2_with fail
  refine (refNums14_any w1.heap.size w8.heap.size 1 [m.commit] u6 K6 _ rfl (by omega) HO9.out HB9.out.size HL9.out (by intro y hy; have h := List.mem_singleton.1 hy; rw [h] <;> first | exact HVAL.out 0 (by omega) | exact HVAL.out 1 (by omega) | exact HVAL.out 2 (by omega) | exact HVAL.out 3 (by omega) | exact HVAL.out 4 (by omega) | exact HVAL.out 5 (by omega) | exact HVAL.out 6 (by omega) | exact HVAL.out 7 (by omega)) (by omega)).mono ?_
  rintro e10 w10 ⟨u10, rfl, ho, hb⟩
  have HB10 := Lib.hid (HB9.out.trans hb)
  have hlm := Ms.nbytes_le [m.commit] 1 (by simp) (by intro y hy; have h := List.mem_singleton.1 hy; rw [h] <;> first | exact HVAL.out 0 (by omega) | exact HVAL.out 1 (by omega) | exact HVAL.out 2 (by omega) | exact HVAL.out 3 (by omega) | exact HVAL.out 4 (by omega) | exact HVAL.out 5 (by omega) | exact HVAL.out 6 (by omega) | exact HVAL.out 7 (by omega))
  obtain ⟨K10, hK⟩ : ∃ K, K = K6 ++ Ms.nbytes [m.commit] := ⟨_, rfl⟩
  rw [← hK] at ho
  have hk10 : K10.length ≤ 54 := by rw [hK, List.length_append]; omega
  have HO10 := Lib.hid ho; have HK10 := Lib.hid hK
  clear ho hb hK hlm p0 p1 p2 p3 p4 p5 p6 p7 p8 p9
  go_wp2_with fail
  refine (Qv.out _).mono ?_
  rintro e11 w11 ⟨rfl, hb⟩
  have HB11 := Lib.hid (HB10.out.trans (hb.mono HB10.out.size)); have HO11 := Lib.hid (HO10.out.keep hb (Nat.le_refl _))
  clear hb
  go_wp2_with fail
  refine (Qe.out _).mono ?_
  rintro e12 w12 ⟨rfl, hb⟩
  have HB12 := Lib.hid (HB11.out.trans (hb.mono HB11.out.size)); have HO12 := Lib.hid (HO11.out.keep hb (Nat.le_refl _))
  clear hb
  go_wp2_with fail
  refine (Qm.out _).mono ?_
  rintro e13 w13 ⟨rfl, hb⟩
  have HB13 := Lib.hid (HB12.out.trans (hb.mono HB12.out.size)); have HO13 := Lib.hid (HO12.out.keep hb (Nat.le_refl _))
  clear hb
  go_wp2
  go_ret
  have hfin := HO13.out.mono HB0.out.size
  rw [HK10.out, HK6.out, HK3.out] at hfin
  rw [HALL.out]
  exact ⟨_, rfl, hfin, HB0.out.trans (HB13.out.mono HB0.out.size)⟩

set_option maxRecDepth 8000 in
set_option maxHeartbeats 6400000 in
theorem refBytes14_001000 (m : Ms.Msg) (ve vi : Value) (w : World) (hck : Ms.check m = 0) (he : ReadsE w ve m.ents) (hi : Reads w vi m.img) (hf : m.Fits) (hs : ∀ e ∈ m.ents, e.cmd.Short 1000) (gv : Ms.hv m.kind = false) (gb : Ms.hb m.kind = false) (gi : Ms.hi m.kind = true) (gc : Ms.hc m.kind = false) (ge : Ms.he m.kind = false) (gm : Ms.hm m.kind = false) (g5 : m.kind ≠ 5) :
    Calls Tryz.prog 26 #[.agg (Ms.cells m ve vi)] w (Makes w 5 (Mt.bytes m)) := by
  obtain ⟨w1, e1, hl1, hB1, hz1⟩ := box_msg w m ve vi
  obtain ⟨p0, p1, p2, p3, p4, p5, p6, p7, p8, p9⟩ := Msgs.ten hl1
  have hkinds := Ms.ent_kinds hck
  have HENT : Hid (∀ e ∈ m.ents, (e.Fits ∧ e.cmd.Short 1000) ∧ (1 ≤ e.cmd.kind ∧ e.cmd.kind ≤ 8)) := fun e h => ⟨⟨hf.e e h, hs e h⟩, hkinds e h⟩
  have HLEN : Hid (m.ents.length ≤ 256 ∧ m.img.length ≤ 32768) := Ms.good_len (Ms.check_good hck)
  have HVAL : Hid (∀ k, k < 8 → -9223372036854775808 ≤ Mt.val m k ∧ Mt.val m k ≤ 9223372036854775807) := fun k hk => by have := Mt.val_good hck k hk; omega
  have HEW : Hid (∀ W, Below w1.heap.size w1 W → ReadsE W ve m.ents) := fun W h => ReadsR.below (ReadsR.below he hB1) h
  have HIW : Hid (∀ W, Below w1.heap.size w1 W → Reads W vi m.img) := fun W h => (hi.below hB1).below h
  have HMW : Hid (∀ W, Below w1.heap.size w1 W → Msgs W w.heap.size m ve vi) := fun W h => hl1.below h hl1.lt
  have HB0 := Lib.hid hB1
  have HALL : Hid (Mt.bytes m = (Ms.nbytes [m.kind, m.frm, m.dst] ++ Ms.nbytes [m.index])) := by
    show _ = _
    unfold Mt.bytes Mt.ents
    rw [gv, gb, gi, gc, gm, if_neg g5, ge]
    simp [Mt.part, Ms.nbytes]
  have hHas := fun (t : Bool) (h : Ms.hb m.kind = t) W => refHas_b' m.kind t h W
  have Qb := Lib.hid (fun W => refHas_b' m.kind false gb W)
  have Qi := Lib.hid (fun W => refHas_i' m.kind true gi W)
  have Qc := Lib.hid (fun W => refHas_c' m.kind false gc W)
  have Qv := Lib.hid (fun W => refHas_v' m.kind false gv W)
  have Qe := Lib.hid (fun W => refHas_e' m.kind false ge W)
  have Qm := Lib.hid (fun W => refHas_m' m.kind false gm W)
  have d5 : (m.kind == 5) = false := by simpa using g5
  obtain ⟨w2, e2, hl2, hb2⟩ : ∃ W, w1.alloc (.cells #[.int .i64 m.kind, .int .i64 m.frm, .int .i64 m.dst] 3) = W ∧ Lies W w1.heap.size 3 #[.int .i64 m.kind, .int .i64 m.frm, .int .i64 m.dst] ∧ Below w1.heap.size w1 W := ⟨_, rfl, Lies.new _ _ _, (Below.refl _ _).alloc (Nat.le_refl _) _⟩
  have HL2 := Lib.hid hl2
  have HB2 := Lib.hid hb2
  clear hl2 hb2
  clear hl1 hB1 hz1 he hi hf hs hkinds hck hHas gv gb gi gc ge gm g5
  go_enter Tryz.func26, Tryz.ntmps26
  go_wp2_with fail
  refine (refNums14_any w1.heap.size w1.heap.size 3 [m.kind, m.frm, m.dst] (.slice none 0 0) [] _ rfl (by omega) (Owns.empty _ _ _) HB2.out.size HL2.out (by intro y hy; simp only [List.mem_cons, List.not_mem_nil, or_false] at hy; rcases hy with h | h | h <;> rw [h] <;> first | exact HVAL.out 0 (by omega) | exact HVAL.out 1 (by omega) | exact HVAL.out 2 (by omega) | exact HVAL.out 3 (by omega) | exact HVAL.out 4 (by omega) | exact HVAL.out 5 (by omega) | exact HVAL.out 6 (by omega) | exact HVAL.out 7 (by omega)) (by simp)).mono ?_
  rintro e3 w3 ⟨u3, rfl, ho, hb⟩
  have HB3 := Lib.hid (HB2.out.trans hb)
  have hlm := Ms.nbytes_le [m.kind, m.frm, m.dst] 3 (by simp) (by intro y hy; simp only [List.mem_cons, List.not_mem_nil, or_false] at hy; rcases hy with h | h | h <;> rw [h] <;> first | exact HVAL.out 0 (by omega) | exact HVAL.out 1 (by omega) | exact HVAL.out 2 (by omega) | exact HVAL.out 3 (by omega) | exact HVAL.out 4 (by omega) | exact HVAL.out 5 (by omega) | exact HVAL.out 6 (by omega) | exact HVAL.out 7 (by omega))
  obtain ⟨K3, hK⟩ : ∃ K, K = Ms.nbytes [m.kind, m.frm, m.dst] := ⟨_, rfl⟩
  rw [List.nil_append, ← hK] at ho
  have hk3 : K3.length ≤ 27 := by rw [hK]; omega
  have HO3 := Lib.hid ho; have HK3 := Lib.hid hK
  clear ho hb hK hlm p0 p1 p2 p3 p4 p5 p6 p7 p8 p9
  go_wp2_with fail
  refine (Qb.out _).mono ?_
  rintro e4 w4 ⟨rfl, hb⟩
  have HB4 := Lib.hid (HB3.out.trans (hb.mono HB3.out.size)); have HO4 := Lib.hid (HO3.out.keep hb (Nat.le_refl _))
  clear hb
  go_wp2_with fail
  refine (Qi.out _).mono ?_
  rintro e5 w5 ⟨rfl, hb⟩
  have HB5 := Lib.hid (HB4.out.trans (hb.mono HB4.out.size)); have HO5 := Lib.hid (HO4.out.keep hb (Nat.le_refl _))
  clear hb
  obtain ⟨p0, p1, p2, p3, p4, p5, p6, p7, p8, p9⟩ := Msgs.ten (HMW.out _ HB5.out)
  obtain ⟨w6, e6, hl6, hb6⟩ : ∃ W, w5.alloc (.cells #[.int .i64 m.index] 3) = W ∧ Lies W w5.heap.size 3 #[.int .i64 m.index] ∧ Below w5.heap.size w5 W := ⟨_, rfl, Lies.new _ _ _, (Below.refl _ _).alloc (Nat.le_refl _) _⟩
  have HL6 := Lib.hid hl6
  have HB6 := Lib.hid (HB5.out.trans (hb6.mono HB5.out.size)); have HO6 := Lib.hid (HO5.out.keep hb6 (Nat.le_refl _))
  clear hl6 hb6
  go_wp2_with fail
  refine (refNums14_any w1.heap.size w5.heap.size 1 [m.index] u3 K3 _ rfl (by omega) HO6.out HB6.out.size HL6.out (by intro y hy; have h := List.mem_singleton.1 hy; rw [h] <;> first | exact HVAL.out 0 (by omega) | exact HVAL.out 1 (by omega) | exact HVAL.out 2 (by omega) | exact HVAL.out 3 (by omega) | exact HVAL.out 4 (by omega) | exact HVAL.out 5 (by omega) | exact HVAL.out 6 (by omega) | exact HVAL.out 7 (by omega)) (by omega)).mono ?_
  rintro e7 w7 ⟨u7, rfl, ho, hb⟩
  have HB7 := Lib.hid (HB6.out.trans hb)
  have hlm := Ms.nbytes_le [m.index] 1 (by simp) (by intro y hy; have h := List.mem_singleton.1 hy; rw [h] <;> first | exact HVAL.out 0 (by omega) | exact HVAL.out 1 (by omega) | exact HVAL.out 2 (by omega) | exact HVAL.out 3 (by omega) | exact HVAL.out 4 (by omega) | exact HVAL.out 5 (by omega) | exact HVAL.out 6 (by omega) | exact HVAL.out 7 (by omega))
  obtain ⟨K7, hK⟩ : ∃ K, K = K3 ++ Ms.nbytes [m.index] := ⟨_, rfl⟩
  rw [← hK] at ho
  have hk7 : K7.length ≤ 36 := by rw [hK, List.length_append]; omega
  have HO7 := Lib.hid ho; have HK7 := Lib.hid hK
  clear ho hb hK hlm p0 p1 p2 p3 p4 p5 p6 p7 p8 p9
  go_wp2_with fail
  refine (Qc.out _).mono ?_
  rintro e8 w8 ⟨rfl, hb⟩
  have HB8 := Lib.hid (HB7.out.trans (hb.mono HB7.out.size)); have HO8 := Lib.hid (HO7.out.keep hb (Nat.le_refl _))
  clear hb
  go_wp2_with fail
  refine (Qv.out _).mono ?_
  rintro e9 w9 ⟨rfl, hb⟩
  have HB9 := Lib.hid (HB8.out.trans (hb.mono HB8.out.size)); have HO9 := Lib.hid (HO8.out.keep hb (Nat.le_refl _))
  clear hb
  go_wp2_with fail
  refine (Qe.out _).mono ?_
  rintro e10 w10 ⟨rfl, hb⟩
  have HB10 := Lib.hid (HB9.out.trans (hb.mono HB9.out.size)); have HO10 := Lib.hid (HO9.out.keep hb (Nat.le_refl _))
  clear hb
  go_wp2_with fail
  refine (Qm.out _).mono ?_
  rintro e11 w11 ⟨rfl, hb⟩
  have HB11 := Lib.hid (HB10.out.trans (hb.mono HB10.out.size)); have HO11 := Lib.hid (HO10.out.keep hb (Nat.le_refl _))
  clear hb
  go_wp2
  go_ret
  have hfin := HO11.out.mono HB0.out.size
  rw [HK7.out, HK3.out] at hfin
  rw [HALL.out]
  exact ⟨_, rfl, hfin, HB0.out.trans (HB11.out.mono HB0.out.size)⟩

set_option maxRecDepth 8000 in
set_option maxHeartbeats 6400000 in
theorem refBytes14_000110 (m : Ms.Msg) (ve vi : Value) (w : World) (hck : Ms.check m = 0) (he : ReadsE w ve m.ents) (hi : Reads w vi m.img) (hf : m.Fits) (hs : ∀ e ∈ m.ents, e.cmd.Short 1000) (gv : Ms.hv m.kind = false) (gb : Ms.hb m.kind = false) (gi : Ms.hi m.kind = false) (gc : Ms.hc m.kind = true) (ge : Ms.he m.kind = true) (gm : Ms.hm m.kind = false) (g5 : m.kind ≠ 5) :
    Calls Tryz.prog 26 #[.agg (Ms.cells m ve vi)] w (Makes w 5 (Mt.bytes m)) := by
  obtain ⟨w1, e1, hl1, hB1, hz1⟩ := box_msg w m ve vi
  obtain ⟨p0, p1, p2, p3, p4, p5, p6, p7, p8, p9⟩ := Msgs.ten hl1
  have hkinds := Ms.ent_kinds hck
  have HENT : Hid (∀ e ∈ m.ents, (e.Fits ∧ e.cmd.Short 1000) ∧ (1 ≤ e.cmd.kind ∧ e.cmd.kind ≤ 8)) := fun e h => ⟨⟨hf.e e h, hs e h⟩, hkinds e h⟩
  have HLEN : Hid (m.ents.length ≤ 256 ∧ m.img.length ≤ 32768) := Ms.good_len (Ms.check_good hck)
  have HVAL : Hid (∀ k, k < 8 → -9223372036854775808 ≤ Mt.val m k ∧ Mt.val m k ≤ 9223372036854775807) := fun k hk => by have := Mt.val_good hck k hk; omega
  have HEW : Hid (∀ W, Below w1.heap.size w1 W → ReadsE W ve m.ents) := fun W h => ReadsR.below (ReadsR.below he hB1) h
  have HIW : Hid (∀ W, Below w1.heap.size w1 W → Reads W vi m.img) := fun W h => (hi.below hB1).below h
  have HMW : Hid (∀ W, Below w1.heap.size w1 W → Msgs W w.heap.size m ve vi) := fun W h => hl1.below h hl1.lt
  have HB0 := Lib.hid hB1
  have HALL : Hid (Mt.bytes m = ((Ms.nbytes [m.kind, m.frm, m.dst] ++ Ms.nbytes [m.commit]) ++ En.bytes 2 m.ents)) := by
    show _ = _
    unfold Mt.bytes Mt.ents
    rw [gv, gb, gi, gc, gm, if_neg g5, ge]
    simp [Mt.part, Ms.nbytes]
  have hHas := fun (t : Bool) (h : Ms.hb m.kind = t) W => refHas_b' m.kind t h W
  have Qb := Lib.hid (fun W => refHas_b' m.kind false gb W)
  have Qi := Lib.hid (fun W => refHas_i' m.kind false gi W)
  have Qc := Lib.hid (fun W => refHas_c' m.kind true gc W)
  have Qv := Lib.hid (fun W => refHas_v' m.kind false gv W)
  have Qe := Lib.hid (fun W => refHas_e' m.kind true ge W)
  have Qm := Lib.hid (fun W => refHas_m' m.kind false gm W)
  have d5 : (m.kind == 5) = false := by simpa using g5
  obtain ⟨w2, e2, hl2, hb2⟩ : ∃ W, w1.alloc (.cells #[.int .i64 m.kind, .int .i64 m.frm, .int .i64 m.dst] 3) = W ∧ Lies W w1.heap.size 3 #[.int .i64 m.kind, .int .i64 m.frm, .int .i64 m.dst] ∧ Below w1.heap.size w1 W := ⟨_, rfl, Lies.new _ _ _, (Below.refl _ _).alloc (Nat.le_refl _) _⟩
  have HL2 := Lib.hid hl2
  have HB2 := Lib.hid hb2
  clear hl2 hb2
  clear hl1 hB1 hz1 he hi hf hs hkinds hck hHas gv gb gi gc ge gm g5
  go_enter Tryz.func26, Tryz.ntmps26
  go_wp2_with fail
  refine (refNums14_any w1.heap.size w1.heap.size 3 [m.kind, m.frm, m.dst] (.slice none 0 0) [] _ rfl (by omega) (Owns.empty _ _ _) HB2.out.size HL2.out (by intro y hy; simp only [List.mem_cons, List.not_mem_nil, or_false] at hy; rcases hy with h | h | h <;> rw [h] <;> first | exact HVAL.out 0 (by omega) | exact HVAL.out 1 (by omega) | exact HVAL.out 2 (by omega) | exact HVAL.out 3 (by omega) | exact HVAL.out 4 (by omega) | exact HVAL.out 5 (by omega) | exact HVAL.out 6 (by omega) | exact HVAL.out 7 (by omega)) (by simp)).mono ?_
  rintro e3 w3 ⟨u3, rfl, ho, hb⟩
  have HB3 := Lib.hid (HB2.out.trans hb)
  have hlm := Ms.nbytes_le [m.kind, m.frm, m.dst] 3 (by simp) (by intro y hy; simp only [List.mem_cons, List.not_mem_nil, or_false] at hy; rcases hy with h | h | h <;> rw [h] <;> first | exact HVAL.out 0 (by omega) | exact HVAL.out 1 (by omega) | exact HVAL.out 2 (by omega) | exact HVAL.out 3 (by omega) | exact HVAL.out 4 (by omega) | exact HVAL.out 5 (by omega) | exact HVAL.out 6 (by omega) | exact HVAL.out 7 (by omega))
  obtain ⟨K3, hK⟩ : ∃ K, K = Ms.nbytes [m.kind, m.frm, m.dst] := ⟨_, rfl⟩
  rw [List.nil_append, ← hK] at ho
  have hk3 : K3.length ≤ 27 := by rw [hK]; omega
  have HO3 := Lib.hid ho; have HK3 := Lib.hid hK
  clear ho hb hK hlm p0 p1 p2 p3 p4 p5 p6 p7 p8 p9
  go_wp2_with fail
  refine (Qb.out _).mono ?_
  rintro e4 w4 ⟨rfl, hb⟩
  have HB4 := Lib.hid (HB3.out.trans (hb.mono HB3.out.size)); have HO4 := Lib.hid (HO3.out.keep hb (Nat.le_refl _))
  clear hb
  go_wp2_with fail
  refine (Qi.out _).mono ?_
  rintro e5 w5 ⟨rfl, hb⟩
  have HB5 := Lib.hid (HB4.out.trans (hb.mono HB4.out.size)); have HO5 := Lib.hid (HO4.out.keep hb (Nat.le_refl _))
  clear hb
  go_wp2_with fail
  refine (Qc.out _).mono ?_
  rintro e6 w6 ⟨rfl, hb⟩
  have HB6 := Lib.hid (HB5.out.trans (hb.mono HB5.out.size)); have HO6 := Lib.hid (HO5.out.keep hb (Nat.le_refl _))
  clear hb
  obtain ⟨p0, p1, p2, p3, p4, p5, p6, p7, p8, p9⟩ := Msgs.ten (HMW.out _ HB6.out)
  obtain ⟨w7, e7, hl7, hb7⟩ : ∃ W, w6.alloc (.cells #[.int .i64 m.commit] 3) = W ∧ Lies W w6.heap.size 3 #[.int .i64 m.commit] ∧ Below w6.heap.size w6 W := ⟨_, rfl, Lies.new _ _ _, (Below.refl _ _).alloc (Nat.le_refl _) _⟩
  have HL7 := Lib.hid hl7
  have HB7 := Lib.hid (HB6.out.trans (hb7.mono HB6.out.size)); have HO7 := Lib.hid (HO6.out.keep hb7 (Nat.le_refl _))
  clear hl7 hb7
  go_wp2_with fail
  refine (refNums14_any w1.heap.size w6.heap.size 1 [m.commit] u3 K3 _ rfl (by omega) HO7.out HB7.out.size HL7.out (by intro y hy; have h := List.mem_singleton.1 hy; rw [h] <;> first | exact HVAL.out 0 (by omega) | exact HVAL.out 1 (by omega) | exact HVAL.out 2 (by omega) | exact HVAL.out 3 (by omega) | exact HVAL.out 4 (by omega) | exact HVAL.out 5 (by omega) | exact HVAL.out 6 (by omega) | exact HVAL.out 7 (by omega)) (by omega)).mono ?_
  rintro e8 w8 ⟨u8, rfl, ho, hb⟩
  have HB8 := Lib.hid (HB7.out.trans hb)
  have hlm := Ms.nbytes_le [m.commit] 1 (by simp) (by intro y hy; have h := List.mem_singleton.1 hy; rw [h] <;> first | exact HVAL.out 0 (by omega) | exact HVAL.out 1 (by omega) | exact HVAL.out 2 (by omega) | exact HVAL.out 3 (by omega) | exact HVAL.out 4 (by omega) | exact HVAL.out 5 (by omega) | exact HVAL.out 6 (by omega) | exact HVAL.out 7 (by omega))
  obtain ⟨K8, hK⟩ : ∃ K, K = K3 ++ Ms.nbytes [m.commit] := ⟨_, rfl⟩
  rw [← hK] at ho
  have hk8 : K8.length ≤ 36 := by rw [hK, List.length_append]; omega
  have HO8 := Lib.hid ho; have HK8 := Lib.hid hK
  clear ho hb hK hlm p0 p1 p2 p3 p4 p5 p6 p7 p8 p9
  go_wp2_with fail
  refine (Qv.out _).mono ?_
  rintro e9 w9 ⟨rfl, hb⟩
  have HB9 := Lib.hid (HB8.out.trans (hb.mono HB8.out.size)); have HO9 := Lib.hid (HO8.out.keep hb (Nat.le_refl _))
  clear hb
  go_wp2_with fail
  refine (Qe.out _).mono ?_
  rintro e10 w10 ⟨rfl, hb⟩
  have HB10 := Lib.hid (HB9.out.trans (hb.mono HB9.out.size)); have HO10 := Lib.hid (HO9.out.keep hb (Nat.le_refl _))
  clear hb
  obtain ⟨p0, p1, p2, p3, p4, p5, p6, p7, p8, p9⟩ := Msgs.ten (HMW.out _ HB10.out)
  go_wp2_with fail
  refine (refEBytes_any 2 ve m.ents _ (.inr rfl) (HEW.out _ HB10.out) HENT.out (by have := HLEN.out.1; omega)).mono ?_
  rintro e11 w11 ⟨ua, rfl, hoa, hba⟩
  have hm : (En.bytes 2 m.ents).length ≤ 7000000 := by have h1 := En.flat_len 2 m.ents (fun e h => (HENT.out e h).1); have h2 := enc_nine (n := m.ents.length) (by have := HLEN.out.1; omega); have := HLEN.out.1; unfold En.bytes; rw [List.length_append]; omega
  obtain ⟨M11, hM⟩ : ∃ M, M = En.bytes 2 m.ents := ⟨_, rfl⟩
  rw [← hM] at hoa hm
  have HM11 := Lib.hid hM
  have hown := HO10.out.keep hba (Nat.le_refl _)
  have hB := HB10.out.trans (hba.mono HB10.out.size)
  clear hM hba p0 p1 p2 p3 p4 p5 p6 p7 p8 p9
  go_wp2_with (at_builtin; refine append_bytes rfl _ _ 25 5 rfl Tryz.underlying25 info_u8 w1.heap.size K8 M11 _ _ rfl rfl hown hoa.reads (by omega) w1 hB (Nat.le_refl _) ?_; intro u12 w12 hoz hbz hgz; have HO12 := Lib.hid hoz; have HB12 := Lib.hid hbz; clear hoz hbz hgz)
  obtain ⟨K12, hK⟩ : ∃ K, K = K8 ++ M11 := ⟨_, rfl⟩
  have hk12 : K12.length ≤ 7000036 := by rw [hK, List.length_append]; omega
  rw [← hK] at HO12
  have HK12 := Lib.hid hK
  clear hK hown hB hoa hm
  go_wp2_with fail
  refine (Qm.out _).mono ?_
  rintro e13 w13 ⟨rfl, hb⟩
  have HB13 := Lib.hid (HB12.out.trans (hb.mono HB12.out.size)); have HO13 := Lib.hid (HO12.out.keep hb (Nat.le_refl _))
  clear hb
  go_wp2
  go_ret
  have hfin := HO13.out.mono HB0.out.size
  rw [HK12.out, HK8.out, HK3.out, HM11.out] at hfin
  rw [HALL.out]
  exact ⟨_, rfl, hfin, HB0.out.trans (HB13.out.mono HB0.out.size)⟩

set_option maxRecDepth 8000 in
set_option maxHeartbeats 6400000 in
theorem refBytes14_000001 (m : Ms.Msg) (ve vi : Value) (w : World) (hck : Ms.check m = 0) (he : ReadsE w ve m.ents) (hi : Reads w vi m.img) (hf : m.Fits) (hs : ∀ e ∈ m.ents, e.cmd.Short 1000) (gv : Ms.hv m.kind = false) (gb : Ms.hb m.kind = false) (gi : Ms.hi m.kind = false) (gc : Ms.hc m.kind = false) (ge : Ms.he m.kind = false) (gm : Ms.hm m.kind = true) (g5 : m.kind ≠ 5) :
    Calls Tryz.prog 26 #[.agg (Ms.cells m ve vi)] w (Makes w 5 (Mt.bytes m)) := by
  obtain ⟨w1, e1, hl1, hB1, hz1⟩ := box_msg w m ve vi
  obtain ⟨p0, p1, p2, p3, p4, p5, p6, p7, p8, p9⟩ := Msgs.ten hl1
  have hkinds := Ms.ent_kinds hck
  have HENT : Hid (∀ e ∈ m.ents, (e.Fits ∧ e.cmd.Short 1000) ∧ (1 ≤ e.cmd.kind ∧ e.cmd.kind ≤ 8)) := fun e h => ⟨⟨hf.e e h, hs e h⟩, hkinds e h⟩
  have HLEN : Hid (m.ents.length ≤ 256 ∧ m.img.length ≤ 32768) := Ms.good_len (Ms.check_good hck)
  have HVAL : Hid (∀ k, k < 8 → -9223372036854775808 ≤ Mt.val m k ∧ Mt.val m k ≤ 9223372036854775807) := fun k hk => by have := Mt.val_good hck k hk; omega
  have HEW : Hid (∀ W, Below w1.heap.size w1 W → ReadsE W ve m.ents) := fun W h => ReadsR.below (ReadsR.below he hB1) h
  have HIW : Hid (∀ W, Below w1.heap.size w1 W → Reads W vi m.img) := fun W h => (hi.below hB1).below h
  have HMW : Hid (∀ W, Below w1.heap.size w1 W → Msgs W w.heap.size m ve vi) := fun W h => hl1.below h hl1.lt
  have HB0 := Lib.hid hB1
  obtain ⟨io, ic, rfl⟩ := hi.shape
  have HALL : Hid (Mt.bytes m = ((Ms.nbytes [m.kind, m.frm, m.dst] ++ Ms.nbytes [(m.img.length : Int)]) ++ m.img)) := by
    show _ = _
    unfold Mt.bytes Mt.ents
    rw [gv, gb, gi, gc, gm, if_neg g5, ge]
    simp [Mt.part, Ms.nbytes, Pk.text]
  have hHas := fun (t : Bool) (h : Ms.hb m.kind = t) W => refHas_b' m.kind t h W
  have Qb := Lib.hid (fun W => refHas_b' m.kind false gb W)
  have Qi := Lib.hid (fun W => refHas_i' m.kind false gi W)
  have Qc := Lib.hid (fun W => refHas_c' m.kind false gc W)
  have Qv := Lib.hid (fun W => refHas_v' m.kind false gv W)
  have Qe := Lib.hid (fun W => refHas_e' m.kind false ge W)
  have Qm := Lib.hid (fun W => refHas_m' m.kind true gm W)
  have d5 : (m.kind == 5) = false := by simpa using g5
  obtain ⟨w2, e2, hl2, hb2⟩ : ∃ W, w1.alloc (.cells #[.int .i64 m.kind, .int .i64 m.frm, .int .i64 m.dst] 3) = W ∧ Lies W w1.heap.size 3 #[.int .i64 m.kind, .int .i64 m.frm, .int .i64 m.dst] ∧ Below w1.heap.size w1 W := ⟨_, rfl, Lies.new _ _ _, (Below.refl _ _).alloc (Nat.le_refl _) _⟩
  have HL2 := Lib.hid hl2
  have HB2 := Lib.hid hb2
  clear hl2 hb2
  clear hl1 hB1 hz1 he hi hf hs hkinds hck hHas gv gb gi gc ge gm g5
  go_enter Tryz.func26, Tryz.ntmps26
  go_wp2_with fail
  refine (refNums14_any w1.heap.size w1.heap.size 3 [m.kind, m.frm, m.dst] (.slice none 0 0) [] _ rfl (by omega) (Owns.empty _ _ _) HB2.out.size HL2.out (by intro y hy; simp only [List.mem_cons, List.not_mem_nil, or_false] at hy; rcases hy with h | h | h <;> rw [h] <;> first | exact HVAL.out 0 (by omega) | exact HVAL.out 1 (by omega) | exact HVAL.out 2 (by omega) | exact HVAL.out 3 (by omega) | exact HVAL.out 4 (by omega) | exact HVAL.out 5 (by omega) | exact HVAL.out 6 (by omega) | exact HVAL.out 7 (by omega)) (by simp)).mono ?_
  rintro e3 w3 ⟨u3, rfl, ho, hb⟩
  have HB3 := Lib.hid (HB2.out.trans hb)
  have hlm := Ms.nbytes_le [m.kind, m.frm, m.dst] 3 (by simp) (by intro y hy; simp only [List.mem_cons, List.not_mem_nil, or_false] at hy; rcases hy with h | h | h <;> rw [h] <;> first | exact HVAL.out 0 (by omega) | exact HVAL.out 1 (by omega) | exact HVAL.out 2 (by omega) | exact HVAL.out 3 (by omega) | exact HVAL.out 4 (by omega) | exact HVAL.out 5 (by omega) | exact HVAL.out 6 (by omega) | exact HVAL.out 7 (by omega))
  obtain ⟨K3, hK⟩ : ∃ K, K = Ms.nbytes [m.kind, m.frm, m.dst] := ⟨_, rfl⟩
  rw [List.nil_append, ← hK] at ho
  have hk3 : K3.length ≤ 27 := by rw [hK]; omega
  have HO3 := Lib.hid ho; have HK3 := Lib.hid hK
  clear ho hb hK hlm p0 p1 p2 p3 p4 p5 p6 p7 p8 p9
  go_wp2_with fail
  refine (Qb.out _).mono ?_
  rintro e4 w4 ⟨rfl, hb⟩
  have HB4 := Lib.hid (HB3.out.trans (hb.mono HB3.out.size)); have HO4 := Lib.hid (HO3.out.keep hb (Nat.le_refl _))
  clear hb
  go_wp2_with fail
  refine (Qi.out _).mono ?_
  rintro e5 w5 ⟨rfl, hb⟩
  have HB5 := Lib.hid (HB4.out.trans (hb.mono HB4.out.size)); have HO5 := Lib.hid (HO4.out.keep hb (Nat.le_refl _))
  clear hb
  go_wp2_with fail
  refine (Qc.out _).mono ?_
  rintro e6 w6 ⟨rfl, hb⟩
  have HB6 := Lib.hid (HB5.out.trans (hb.mono HB5.out.size)); have HO6 := Lib.hid (HO5.out.keep hb (Nat.le_refl _))
  clear hb
  go_wp2_with fail
  refine (Qv.out _).mono ?_
  rintro e7 w7 ⟨rfl, hb⟩
  have HB7 := Lib.hid (HB6.out.trans (hb.mono HB6.out.size)); have HO7 := Lib.hid (HO6.out.keep hb (Nat.le_refl _))
  clear hb
  go_wp2_with fail
  refine (Qe.out _).mono ?_
  rintro e8 w8 ⟨rfl, hb⟩
  have HB8 := Lib.hid (HB7.out.trans (hb.mono HB7.out.size)); have HO8 := Lib.hid (HO7.out.keep hb (Nat.le_refl _))
  clear hb
  go_wp2_with fail
  refine (Qm.out _).mono ?_
  rintro e9 w9 ⟨rfl, hb⟩
  have HB9 := Lib.hid (HB8.out.trans (hb.mono HB8.out.size)); have HO9 := Lib.hid (HO8.out.keep hb (Nat.le_refl _))
  clear hb
  obtain ⟨p0, p1, p2, p3, p4, p5, p6, p7, p8, p9⟩ := Msgs.ten (HMW.out _ HB9.out)
  obtain ⟨w10, e10, hl10, hb10⟩ : ∃ W, w9.alloc (.cells #[.int .i64 (m.img.length : Int)] 3) = W ∧ Lies W w9.heap.size 3 #[.int .i64 (m.img.length : Int)] ∧ Below w9.heap.size w9 W := ⟨_, rfl, Lies.new _ _ _, (Below.refl _ _).alloc (Nat.le_refl _) _⟩
  have HL10 := Lib.hid hl10
  have HB10 := Lib.hid (HB9.out.trans (hb10.mono HB9.out.size)); have HO10 := Lib.hid (HO9.out.keep hb10 (Nat.le_refl _))
  clear hl10 hb10
  go_wp2_with fail
  refine (refNums14_any w1.heap.size w9.heap.size 1 [(m.img.length : Int)] u3 K3 _ rfl (by omega) HO10.out HB10.out.size HL10.out (by intro y hy; obtain rfl := List.mem_singleton.1 hy; have := HLEN.out.2; omega) (by omega)).mono ?_
  rintro e11 w11 ⟨u11, rfl, ho, hb⟩
  have HB11 := Lib.hid (HB10.out.trans hb)
  have hlm := Ms.nbytes_le [(m.img.length : Int)] 1 (by simp) (by intro y hy; obtain rfl := List.mem_singleton.1 hy; have := HLEN.out.2; omega)
  obtain ⟨K11, hK⟩ : ∃ K, K = K3 ++ Ms.nbytes [(m.img.length : Int)] := ⟨_, rfl⟩
  rw [← hK] at ho
  have hk11 : K11.length ≤ 36 := by rw [hK, List.length_append]; omega
  have HO11 := Lib.hid ho; have HK11 := Lib.hid hK
  clear ho hb hK hlm p0 p1 p2 p3 p4 p5 p6 p7 p8 p9
  obtain ⟨p0, p1, p2, p3, p4, p5, p6, p7, p8, p9⟩ := Msgs.ten (HMW.out _ HB11.out)
  have himg := HLEN.out.2
  go_wp2_with (at_builtin; refine append_bytes rfl _ _ 25 5 rfl Tryz.underlying25 info_u8 w1.heap.size K11 m.img _ _ rfl rfl HO11.out (HIW.out _ HB11.out) (by omega) w1 HB11.out (Nat.le_refl _) ?_; intro u12 w12 hoz hbz hgz; have HO12 := Lib.hid hoz; have HB12 := Lib.hid hbz; clear hoz hbz hgz)
  go_wp2
  go_ret
  have hfin := HO12.out.mono HB0.out.size
  rw [HK11.out, HK3.out] at hfin
  rw [HALL.out]
  exact ⟨_, rfl, hfin, HB0.out.trans (HB12.out.mono HB0.out.size)⟩

theorem refBytes14_any (m : Ms.Msg) (ve vi : Value) (w : World) (hck : Ms.check m = 0) (he : ReadsE w ve m.ents) (hi : Reads w vi m.img) (hf : m.Fits) (hs : ∀ e ∈ m.ents, e.cmd.Short 1000) :
    Calls Tryz.prog 26 #[.agg (Ms.cells m ve vi)] w (Makes w 5 (Mt.bytes m)) := by
  have hk := (Ms.check_good hck).kind
  rcases Ms.kinds m.kind with q | q | q | q | q | q | q | q | q | q | q | q
  rotate_right
  · rw [(Ms.has_no q).2.2.2.2.2.2] at hk; cases hk
  · exact refBytes14_100000 m ve vi w hck he hi hf hs (by rw [q]; decide) (by rw [q]; decide) (by rw [q]; decide) (by rw [q]; decide) (by rw [q]; decide) (by rw [q]; decide) (by rw [q]; decide)
  · exact refBytes14_100000 m ve vi w hck he hi hf hs (by rw [q]; decide) (by rw [q]; decide) (by rw [q]; decide) (by rw [q]; decide) (by rw [q]; decide) (by rw [q]; decide) (by rw [q]; decide)
  · exact refBytes14_011000 m ve vi w hck he hi hf hs (by rw [q]; decide) (by rw [q]; decide) (by rw [q]; decide) (by rw [q]; decide) (by rw [q]; decide) (by rw [q]; decide) (by rw [q]; decide)
  · exact refBytes14_011110 m ve vi w hck he hi hf hs (by rw [q]; decide) (by rw [q]; decide) (by rw [q]; decide) (by rw [q]; decide) (by rw [q]; decide) (by rw [q]; decide) (by rw [q]; decide)
  · exact refBytes14_010010 m ve vi w hck he hi hf hs (by rw [q]; decide) (by rw [q]; decide) (by rw [q]; decide) (by rw [q]; decide) (by rw [q]; decide) (by rw [q]; decide) (by rw [q])
  · exact refBytes14_011000 m ve vi w hck he hi hf hs (by rw [q]; decide) (by rw [q]; decide) (by rw [q]; decide) (by rw [q]; decide) (by rw [q]; decide) (by rw [q]; decide) (by rw [q]; decide)
  · exact refBytes14_010000 m ve vi w hck he hi hf hs (by rw [q]; decide) (by rw [q]; decide) (by rw [q]; decide) (by rw [q]; decide) (by rw [q]; decide) (by rw [q]; decide) (by rw [q]; decide)
  · exact refBytes14_010100 m ve vi w hck he hi hf hs (by rw [q]; decide) (by rw [q]; decide) (by rw [q]; decide) (by rw [q]; decide) (by rw [q]; decide) (by rw [q]; decide) (by rw [q]; decide)
  · exact refBytes14_001000 m ve vi w hck he hi hf hs (by rw [q]; decide) (by rw [q]; decide) (by rw [q]; decide) (by rw [q]; decide) (by rw [q]; decide) (by rw [q]; decide) (by rw [q]; decide)
  · exact refBytes14_000110 m ve vi w hck he hi hf hs (by rw [q]; decide) (by rw [q]; decide) (by rw [q]; decide) (by rw [q]; decide) (by rw [q]; decide) (by rw [q]; decide) (by rw [q]; decide)
  · exact refBytes14_000001 m ve vi w hck he hi hf hs (by rw [q]; decide) (by rw [q]; decide) (by rw [q]; decide) (by rw [q]; decide) (by rw [q]; decide) (by rw [q]; decide) (by rw [q]; decide)

end Go.Proofs.YtndicjpbanmpjaaGreatDoor
