/- Parse. -/
import Derived.Test.YteaebmgnofmemaaGreatDoorCmdKind
namespace Go.Proofs.YteaebmgnofmemaaGreatDoor
open Go.RowKit

namespace Cm
def heardOf (c : Cmd) (l : List (F × List UInt8)) : Cmd := l.foldl (fun a p => hear a p.1 p.2) c
def parseWords (l : List (List UInt8)) : Cmd := heardOf (bareOf (kindOf (l.headD []))) ((fields (kindOf (l.headD []))).zip l.tail)
/-- What Parse gives: the command, the error. -/
def parse (s : ByteArray) : Cmd × Int :=
  if Qt.lineOk s = true ∧ Qt.words s ≠ [] then (if text (parseWords (Qt.words s)) = s.data.toList then (parseWords (Qt.words s), 0) else (zero, 3)) else (zero, 3)

theorem kindOf_small (w : List UInt8) : 0 ≤ kindOf w ∧ kindOf w ≤ 8 := by
  unfold kindOf
  repeat' split
  all_goals decide
theorem bareOf_fits (w : List UInt8) : (bareOf (kindOf w)).Fits := by
  have := kindOf_small w
  constructor <;> simp [bareOf] <;> omega
theorem hear_fits {c : Cmd} (h : c.Fits) (f : F) (w : List UInt8) : (hear c f w).Fits := by
  unfold hear
  split
  · exact h.setN f (heardN_fits w).1 (heardN_fits w).2
  · exact h.setS f _
theorem hear_short {c : Cmd} {m : Nat} (h : c.Short m) (f : F) (w : List UInt8) (hw : 4 * w.length ≤ m) : (hear c f w).Short m := by
  unfold hear
  split
  · exact h.setN f _
  · exact h.setS f (Nat.le_trans (heardS_len w) hw)
theorem hear_kind (c : Cmd) (f : F) (w : List UInt8) : (hear c f w).kind = c.kind := by
  unfold hear
  split
  · exact Cmd.setN_kind _ _ _
  · exact Cmd.setS_kind _ _ _
end Cm

/-- What Parse tells. -/
def Parsed (w : World) (r : Cm.Cmd × Int) (e : Ending) (w' : World) : Prop := e = .returned (.tuple #[.agg (Cm.cells r.1), .int .i64 r.2]) ∧ Below w.heap.size w w'

set_option maxRecDepth 4000 in
set_option maxHeartbeats 3200000 in
theorem parse_any (s : ByteArray) (w : World) (hv : WordsIn w) (hp : PowIn w) (he : ErrsIn w) (hs : s.size ≤ 1000000) :
    Calls Tryz.prog 8 #[.string s] w (Parsed w (Cm.parse s)) := by
  obtain ⟨w1, e1, hl1, hB1, hz1⟩ := box_cmd w Cm.zero
  dsimp only [Cm.cells, Cm.zero, Cm.bareOf] at e1
  have HL1 := Lib.hid hl1; have HB1 := Lib.hid hB1
  have HV := Lib.hid hv; have HP := Lib.hid hp; have HE := Lib.hid he
  clear hl1 hB1 hz1 hv hp he
  obtain ⟨r, hr⟩ : ∃ r, r = Cm.parse s := ⟨_, rfl⟩
  rw [← hr]
  unfold Cm.parse at hr
  have HRES := Lib.hid hr
  clear hr
  go_enter Tryz.func8, Tryz.ntmps8
  go_wp2_with fail
  refine (words_any s _ (by omega)).mono ?_
  rintro e w2 ⟨hB2, hW⟩
  have HL2 := Lib.hid (HL1.out.below hB2 HL1.out.lt)
  have HB2 := Lib.hid (HB1.out.trans (hB2.mono HB1.out.size))
  have hz2 : w.heap.size < w2.heap.size := HL2.out.lt
  clear hB2
  by_cases hok : Qt.lineOk s = true
  · rw [if_pos hok] at hW
    obtain ⟨v, us, rfl, hrd, hus⟩ := hW
    have HUS := Lib.hid hus
    cases us with
    | nil =>
      obtain ⟨ao, cap, rfl⟩ := hrd.shape
      have HZ : Hid (r = (Cm.zero, 3)) := by
        show _ = _
        rw [HRES.out, if_neg]
        rintro ⟨_, h⟩
        exact h hus.symm
      clear hus hrd
      go_wp2_with (refine store_cmd (by rfl) _ _ (by rfl) w.heap.size Cm.zero Cm.zero (by rfl) (by rfl) HL2.out ?_; intro w6 hl6 hg6)
      refine ret_cmd2 rfl rfl hl6 rfl ?_
      rw [HZ.out]
      exact ⟨rfl, HB2.out.grown hg6 HB2.out.size (by rintro j hj; cases hj; exact Nat.le_refl _)⟩
    | cons u0 ut =>
      have HRES2 : Hid (r = if Cm.text (Cm.parseWords (Qt.words s)) = s.data.toList then (Cm.parseWords (Qt.words s), 0) else (Cm.zero, 3)) := by
        show _ = _
        rw [HRES.out, if_pos ⟨hok, by rw [← hus]; simp⟩]
      have HPW : Hid (Cm.parseWords (Qt.words s) = Cm.heardOf (Cm.bareOf (Cm.kindOf u0.data.toList)) ((Cm.fields (Cm.kindOf u0.data.toList)).zip (ut.map (·.data.toList)))) := by
        show _ = _
        rw [← hus]
        rfl
      have HSM : Hid (∀ (k : Nat) (x : ByteArray), ut[k]? = some x → x.size ≤ s.size) := by
        intro k x hx
        have hm : x.data.toList ∈ Qt.words s := by rw [← hus]; exact List.mem_map_of_mem (List.mem_cons_of_mem _ (List.mem_of_getElem? hx))
        have h2 : Qt.words s = Qt.split s.data.toList := by
          unfold Qt.words at hm ⊢
          split at hm
          · cases hm
          · rename_i h0; rw [if_neg h0]
        rw [h2] at hm
        have := Qt.mem_join [32] _ _ hm
        rw [Qt.split_join] at this
        exact this
      obtain ⟨ao, cap, rfl⟩ := hrd.shape
      obtain ⟨b, off, rfl, _, hcap, hcm, hbl, hcells⟩ := hrd.place (by simp)
      have hcell0 : w2.cell? ⟨b, off, none⟩ = some (.string u0) := hcells 0 u0 rfl
      have HRD := Lib.hid hrd
      obtain ⟨N, hN⟩ : ∃ N, N = (u0 :: ut).length := ⟨_, rfl⟩
      rw [← hN] at hcap ⊢
      have HN : Hid (N = ut.length + 1) := by show _ = _; rw [hN]; simp
      have hN1 : 1 ≤ N := by have := HN.out; omega
      have hne : ((N : Int) == 0) = false := by simp; omega
      clear hus hrd hcells hN
      unfold maxLen at hcm
      go_wp2_with fail
      refine (kindOf_any u0 _ (HV.out.below HB2.out)).mono ?_
      rintro e w3 ⟨rfl, rfl⟩
      obtain ⟨K, hK⟩ : ∃ K, K = Cm.kindOf u0.data.toList := ⟨_, rfl⟩
      rw [← hK] at HPW ⊢
      have hfit0 : (Cm.bareOf K).Fits := by rw [hK]; exact Cm.bareOf_fits _
      have HFIT := Lib.hid hfit0
      clear hK hfit0
      go_wp2_with (refine store_cmd (by rfl) _ _ (by rfl) w2.heap.size Cm.zero (Cm.bareOf K) (by rfl) (by rfl) (Lies.new _ _ _) ?_; intro w3 hl3 hg3)
      have hB3 : Below w2.heap.size w2 w3 := ((Below.refl _ w2).alloc (Nat.le_refl _) _).grown hg3 (by simp) (by rintro j hj; cases hj; exact Nat.le_refl _)
      have hk3 : w3.cell? ⟨w2.heap.size, 0, none⟩ = some (.int .i64 K) := hl3.cell 0 _ rfl
      have hz3 : w2.heap.size < w3.heap.size := hl3.lt
      have HL3 := Lib.hid hl3
      have HB3 := Lib.hid hB3
      clear hl3 hB3 hg3
      go_wp2_with fail
      refine (fields_any w2.heap.size K _ hk3).mono ?_
      rintro e w4 ⟨fv, rfl, hr4, hB4⟩
      obtain ⟨fo, rfl⟩ := hr4.shape
      have hn := Cm.fields_len K
      obtain ⟨fs, hfs⟩ : ∃ fs, fs = Cm.fields K := ⟨_, rfl⟩
      rw [← hfs] at hr4 hn HPW ⊢
      have HF4 := Lib.hid hr4
      have HL4 := Lib.hid (HL3.out.below hB4 HL3.out.lt)
      have HB4 := Lib.hid (HB3.out.trans (hB4.mono HB3.out.size))
      clear hr4 hfs hB4 hk3
      go_wp2
      go_loopw [7, 8, 29] (fun _ _ i wr => ∃ (k : Nat) (c : Cm.Cmd), i = .int .i64 (k : Int) ∧ k ≤ fs.length ∧ Hid (Below w2.heap.size w2 wr) ∧ Hid (c = Cm.heardOf (Cm.bareOf K) ((fs.zip (ut.map (·.data.toList))).take k)) ∧ Hid (c.Fits ∧ c.Short 4000000) ∧ Hid (Cmds wr w2.heap.size c) ∧ Hid (FRow wr w3.heap.size (.slice fo fs.length fs.length) w2.heap.size fs)) (fun _ _ i _ => fs.length - (intOf i).toNat)
      case atStart => exact ⟨0, Cm.bareOf K, rfl, by omega, HB4, rfl, ⟨HFIT.out, by simp [Cm.bareOf], by simp [Cm.bareOf], by simp [Cm.bareOf]⟩, HL4, HF4⟩
      case round =>
        obtain ⟨k, c, rfl, hk, HB, HC, HI, HL, HF⟩ := hrel
        by_cases hlt : k < fs.length
        · have hlt' : (k : Int) < (fs.length : Int) := by omega
          obtain ⟨f, hff⟩ : ∃ f, fs[k]? = some f := ⟨_, List.getElem?_eq_getElem hlt⟩
          obtain ⟨g, rfl, hcell⟩ := HF.out.cell hff
          have HFK := Lib.hid hff
          clear hff
          by_cases hu : k < ut.length
          · obtain ⟨x, hx⟩ : ∃ x, ut[k]? = some x := ⟨_, List.getElem?_eq_getElem hu⟩
            obtain ⟨b', off', hbo, _, _, _, _, hcells⟩ := (HRD.out.below HB.out).place (by simp)
            cases hbo
            have hcx := hcells (k + 1) x (by simpa using hx)
            have hxs := HSM.out k x hx
            have HXK := Lib.hid hx
            have hkl : (k : Int) + 1 < (N : Int) := by have := HN.out; omega
            have hxs2 : x.size ≤ 200000000000 := by omega
            have HXS := Lib.hid hxs
            clear hcells hx hxs
            go_wp2_with fail
            refine (fhear_any w2.heap.size c f x _ (HE.out.below (HB2.out.trans (HB.out.mono HB2.out.size))) hxs2 HL.out).mono ?_
            rintro e w5 ⟨rfl, hl5, hg5⟩
            have HB5 := Lib.hid (HB.out.grown hg5 HB.out.size (by rintro j hj; cases hj; exact Nat.le_refl _))
            have HL5 := Lib.hid hl5
            have HF5 := Lib.hid (HF.out.kept hg5 (by intro j hj e; cases e; omega))
            clear hl5 hg5
            go_wp2
            go_roundw
            case rel =>
              refine ⟨k + 1, Cm.hear c f x.data.toList, by go_num, by omega, HB5, ?_, ⟨Cm.hear_fits HI.out.1 f _, Cm.hear_short HI.out.2 f _ ?_⟩, HL5, HF5⟩
              · show _ = _
                have hz : (fs.zip (ut.map (·.data.toList)))[k]? = some (f, x.data.toList) := by
                  rw [List.getElem?_zip_eq_some]
                  exact ⟨HFK.out, by rw [List.getElem?_map, HXK.out]; rfl⟩
                rw [List.take_add_one, hz]
                unfold Cm.heardOf
                rw [List.foldl_append]
                have := HC.out
                unfold Cm.heardOf at this
                rw [← this]
                rfl
              · have := HXS.out
                show 4 * x.size ≤ 4000000
                omega
            case measure => simp [intOf]; omega
          · have hkl : ¬ (k : Int) + 1 < (N : Int) := by have := HN.out; omega
            go_wp2
            go_roundw
            case rel =>
              refine ⟨k + 1, c, by go_num, by omega, HB, ?_, HI, HL, HF⟩
              show _ = _
              rw [List.take_of_length_le (by rw [List.length_zip, List.length_map]; omega), HC.out, List.take_of_length_le (by rw [List.length_zip, List.length_map]; omega)]
            case measure => simp [intOf]; omega
        · have hlt' : ¬ (k : Int) < (fs.length : Int) := by omega
          have hc : Hid (c = Cm.parseWords (Qt.words s)) := by
            show _ = _
            rw [HC.out, HPW.out, List.take_of_length_le (by rw [List.length_zip, List.length_map]; omega)]
          have HRES3 : Hid (r = if Cm.text c = s.data.toList then (c, 0) else (Cm.zero, 3)) := by show _ = _; rw [HRES2.out, ← hc.out]
          obtain ⟨p0, p1, p2, p3, p4, p5, p6⟩ := Cmds.all HL.out
          have HBW := Lib.hid (HB2.out.trans (HB.out.mono HB2.out.size))
          have HRB := Lib.hid (HL2.out.below HB.out HL2.out.lt)
          clear hc
          go_wp2_with fail
          refine (text_any c _ (HV.out.below HBW.out) (HP.out.below HBW.out) HI.out.1 ⟨by have := HI.out.2.1; omega, by have := HI.out.2.2.1; omega, by have := HI.out.2.2.2; omega⟩).mono ?_
          rintro e w5 ⟨rfl, hB5⟩
          obtain ⟨q0, q1, q2, q3, q4, q5, q6⟩ := Cmds.all (HL.out.below hB5 HL.out.lt)
          have HRB5 := Lib.hid (HRB.out.below hB5 HRB.out.lt)
          have HB5 := Lib.hid (HBW.out.trans (hB5.mono HBW.out.size))
          clear hB5 p0 p1 p2 p3 p4 p5 p6
          obtain ⟨T, hT⟩ : ∃ T, T = ByteArray.mk (Cm.text c).toArray := ⟨_, rfl⟩
          rw [← hT]
          by_cases ht : Cm.text c = s.data.toList
          · have HZ : Hid (r = (c, 0)) := by show _ = _; rw [HRES3.out, if_pos ht]
            have hTs : T = s := by rw [hT, ht]
            clear ht hT
            subst hTs
            have hcmp : (T.toList == T.toList) = true := by simp
            go_wp2_with (refine store_cmd (by rfl) _ _ (by rfl) w.heap.size Cm.zero c (by rfl) (by rfl) HRB5.out ?_; intro w6 hl6 hg6)
            refine ret_cmd2 rfl rfl hl6 rfl ?_
            rw [HZ.out]
            exact ⟨rfl, HB5.out.grown hg6 HB5.out.size (by rintro j hj; cases hj; exact Nat.le_refl _)⟩
          · have HZ : Hid (r = (Cm.zero, 3)) := by show _ = _; rw [HRES3.out, if_neg ht]
            have hcmp : (T.toList == s.toList) = false := Qt.ne_list (by rw [hT]; intro e; exact ht (by rw [← e]))
            clear ht hT
            go_wp2_with (refine store_cmd (by rfl) _ _ (by rfl) w.heap.size Cm.zero Cm.zero (by rfl) (by rfl) HRB5.out ?_; intro w6 hl6 hg6)
            refine ret_cmd2 rfl rfl hl6 rfl ?_
            rw [HZ.out]
            exact ⟨rfl, HB5.out.grown hg6 HB5.out.size (by rintro j hj; cases hj; exact Nat.le_refl _)⟩
  · rw [if_neg hok] at hW
    subst hW
    have HZ : Hid (r = (Cm.zero, 3)) := by show _ = _; rw [HRES.out, if_neg (fun h => hok h.1)]
    go_wp2_with (refine store_cmd (by rfl) _ _ (by rfl) w.heap.size Cm.zero Cm.zero (by rfl) (by rfl) HL2.out ?_; intro w6 hl6 hg6)
    refine ret_cmd2 rfl rfl hl6 rfl ?_
    rw [HZ.out]
    exact ⟨rfl, HB2.out.grown hg6 HB2.out.size (by rintro j hj; cases hj; exact Nat.le_refl _)⟩

end Go.Proofs.YteaebmgnofmemaaGreatDoor
