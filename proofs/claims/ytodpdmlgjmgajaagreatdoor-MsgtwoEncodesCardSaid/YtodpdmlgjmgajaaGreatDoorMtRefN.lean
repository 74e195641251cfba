/- Numbers appended one behind the other, as the document says. -/
import Derived.Test.YtodpdmlgjmgajaaGreatDoorMtEnc
import Derived.Test.YtodpdmlgjmgajaaGreatDoorMsRefB
import Derived.Test.YtodpdmlgjmgajaaGreatDoorGMr
namespace Go.Proofs.YtodpdmlgjmgajaaGreatDoor
open Go.RowKit

set_option maxRecDepth 4000 in
set_option maxHeartbeats 3200000 in
theorem refNums14_any (base g n : Nat) (l : List Int) (out : Value) (K : List UInt8) (w : World) (hn : l.length = n) (hn8 : n ≤ 8) (hown : Owns w base 5 out K) (hbase : base ≤ w.heap.size) (hl : Lies w g 3 (l.map fun x => Value.int .i64 x).toArray) (hf : ∀ x ∈ l, -9223372036854775808 ≤ x ∧ x ≤ 9223372036854775807) (hK : K.length ≤ 100000000) :
    Calls Tryz.prog 29 #[out, .slice (some ⟨g, 0, none⟩) n n] w (fun e w' => ∃ v, e = .returned v ∧ Owns w' base 5 v (K ++ Ms.nbytes l) ∧ Below base w w') := by
  subst hn
  have HO := Lib.hid hown; have HL := Lib.hid hl; have HF := Lib.hid hf
  have HNB : Hid (∀ k, (K ++ Ms.nbytes (l.take k)).length ≤ 100000072) := by
    intro k
    have := Ms.nbytes_len (l.take k) fun x hx => (hf x (List.mem_of_mem_take hx)).2
    rw [List.length_take] at this
    rw [List.length_append]
    omega
  clear hown hl hf
  go_enter Tryz.func29, Tryz.ntmps29
  go_wp2
  go_loopw [0, 5] (fun y i wr => ∃ (k : Nat), i = .int .i64 (k : Int) ∧ k ≤ l.length ∧ Hid (Below base w wr) ∧ Hid (Owns wr base 5 y (K ++ Ms.nbytes (l.take k))) ∧ Hid (Lies wr g 3 (l.map fun x => Value.int .i64 x).toArray)) (fun _ i _ => l.length - (intOf i).toNat)
  case atStart => exact ⟨0, rfl, by omega, Below.refl _ _, by show Owns _ _ _ _ _; rw [show Ms.nbytes (l.take 0) = [] from rfl, List.append_nil]; exact HO.out, HL.out⟩
  case round =>
    obtain ⟨k, rfl, hk, HB, HOr, HLr⟩ := hrel
    by_cases hlt : k < l.length
    · have hlt' : (k : Int) < (l.length : Int) := by omega
      obtain ⟨x, hx⟩ : ∃ x, l[k]? = some x := ⟨_, List.getElem?_eq_getElem hlt⟩
      have hcell := HLr.out.cell k (.int .i64 x) (by simp [hx])
      have HX := Lib.hid (HF.out x (List.mem_of_getElem? hx))
      have HST : Hid (K ++ Ms.nbytes (l.take (k + 1)) = (K ++ Ms.nbytes (l.take k)) ++ enc x.toNat) := by show _ = _; rw [List.take_add_one, hx, Ms.nbytes_app, List.append_assoc]; show _ ++ (_ ++ Ms.nbytes [x]) = _; rw [Ms.nbytes_one]
      have hlen := HNB.out k
      obtain ⟨K0, hK0⟩ : ∃ K0, K0 = K ++ Ms.nbytes (l.take k) := ⟨_, rfl⟩
      rw [← hK0] at HOr HST hlen
      clear hx hK0
      go_wp2_with fail
      refine (bytes_any x _ HX.out.1 HX.out.2).mono ?_
      rintro e5 wa ⟨ua, rfl, hoa, hba⟩
      have hm : (enc x.toNat).length ≤ 9 := enc_nine (by have := HX.out.2; omega)
      obtain ⟨M, hM⟩ : ∃ M, M = enc x.toNat := ⟨_, rfl⟩
      rw [← hM] at hoa hm HST
      have hown := HOr.out.keep hba (Nat.le_refl _)
      have hB := HB.out.trans (hba.mono (Nat.le_trans hbase HB.out.size))
      have hLa := HLr.out.below hba HLr.out.lt
      clear hM hba hcell
      go_wp2_with (at_builtin; refine append_bytes rfl _ _ 25 5 rfl Tryz.underlying25 info_u8 base K0 M _ _ rfl rfl hown hoa.reads (by omega) w hB hbase ?_; intro vb wb hoz hbz hgz; have HOwb := Lib.hid hoz; have HBwb := Lib.hid hbz; have HLwb := Lib.hid (hLa.kept hgz (hLa.not_row (by decide) hown)); clear hoz hbz hgz)
      rw [← HST.out] at HOwb
      go_roundw
      case rel => exact ⟨k + 1, by go_num, by omega, HBwb, HOwb, HLwb⟩
      case measure => simp [intOf]; omega
    · have hlt' : ¬ (k : Int) < (l.length : Int) := by omega
      have hw5 := HOr.out
      rw [List.take_of_length_le (by omega)] at hw5
      have HO5 := Lib.hid hw5
      clear hw5
      go_wp2
      go_ret
      exact ⟨_, rfl, HO5.out, HB.out⟩

end Go.Proofs.YtodpdmlgjmgajaaGreatDoor
