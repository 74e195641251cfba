/- Quoted strings: the laws QuoteLines, QuoteWords. -/
import Derived.Test.YtgnjbbedeeiemaaQtLaws
namespace Go.Proofs.Ytgnjbbedeeiemaa
open Go.RowKit

set_option maxRecDepth 4000 in
set_option maxHeartbeats 3200000 in
theorem quoteLines_any (s : ByteArray) (w : World) : Calls Try.prog 5 #[.string s] w (Truly w) := by
  by_cases hl : 300 < s.size
  · have hl' : (300 : Int) < (s.size : Int) := by omega
    go_enter Try.func5, Try.ntmps5
    go_wp2_with fail
    refine (awake_any _).mono ?_
    rintro e w1 ⟨rfl, hb⟩
    go_wp2
    go_ret
    exact ⟨rfl, hb⟩
  · have hl' : ¬ (300 : Int) < (s.size : Int) := by omega
    have hwd := fun w => words_any s w (by omega)
    have HBK := Lib.hid (Qt.words_back s)
    have hsz : s.data.toList.length = s.size := rfl
    go_enter Try.func5, Try.ntmps5
    go_wp2_with fail
    refine (hwd _).mono ?_
    rintro e w1 ⟨hb1, hX⟩
    clear hwd
    by_cases hok : Qt.lineOk s = true
    · rw [if_pos hok] at hX
      obtain ⟨v, us, rfl, hr, hus⟩ := hX
      have hJ : (Lib.join (us.map (·.data.toList)) [32]) = s.data.toList := by rw [hus]; exact HBK.out
      have hall : Hid (∀ (j : Nat) (u : ByteArray), us[j]? = some u → Qt.word u = true ∧ u.size ≤ 300) := by
        intro j u hu
        have hm := List.mem_of_getElem? hu
        have hm2 : u.data.toList ∈ us.map (·.data.toList) := List.mem_map_of_mem hm
        have h1 := Qt.mem_join [32] _ _ hm2
        rw [hJ] at h1
        have e2 : u.data.toList.length = u.size := rfl
        refine ⟨?_, by omega⟩
        unfold Qt.lineOk at hok
        rw [← hus] at hok
        have := List.all_eq_true.1 hok _ hm2
        rwa [Qt.word_of] at this
      have hn : us.length ≤ 140737488355328 := by
        have h1 := congrArg List.length hus
        rw [List.length_map] at h1
        have : ∀ (l : List (List UInt8)), l.length ≤ (Lib.join l [32]).length + 1 := by
          intro l
          cases l with
          | nil => simp
          | cons x r =>
            rw [Lib.join_cons, List.length_append, Lib.joinTail_length]
            simp
            omega
        have h2 := this (us.map (·.data.toList))
        rw [hJ, List.length_map] at h2
        omega
      have HR := Lib.hid hr
      have HJ := Lib.hid hJ
      obtain ⟨ao, cap, rfl⟩ := hr.shape
      clear hr hus hJ hok
      go_wp2
      go_loopw [5] (fun i wr => ∃ k : Nat, i = .int .i64 (k : Int) ∧ k ≤ us.length ∧ Below w1.heap.size w1 wr) (fun i _ => us.length - (intOf i).toNat)
      case atStart => exact ⟨0, rfl, by omega, Below.refl _ _⟩
      case round =>
        obtain ⟨k, rfl, hk, hb⟩ := hrel
        have hszw := hb.size
        by_cases hlt : k < us.length
        · have hlt' : (k : Int) < (us.length : Int) := by omega
          obtain ⟨u, hu⟩ : ∃ u, us[k]? = some u := ⟨_, List.getElem?_eq_getElem hlt⟩
          obtain ⟨b1, o1, rfl, _, _, _, _, hc1⟩ := (HR.out.below hb).place (by omega)
          have c1 := hc1 k u hu
          obtain ⟨hw1, hw2⟩ := hall.out k u hu
          have HW := Lib.hid hw1
          clear hc1 hu hw1
          go_wp2_with fail
          refine (refWord_any u _ (by omega)).mono ?_
          rintro e w2 ⟨rfl, hb2⟩
          rw [HW.out]
          go_wp2
          go_roundw
          case rel => exact ⟨k + 1, by go_num, by omega, on hb hb2⟩
          case measure => simp [intOf]; omega
        · have hlt' : ¬ (k : Int) < (us.length : Int) := by omega
          have hln := line_any us _ wr (HR.out.below hb) hn (by rw [HJ.out]; omega)
          rw [HJ.out, show (ByteArray.mk s.data.toList.toArray) = s from rfl] at hln
          go_wp2_with fail
          refine hln.mono ?_
          rintro e w2 ⟨rfl, hb2⟩
          go_wp2_with fail
          refine (awake_any _).mono ?_
          rintro e w3 ⟨rfl, hb3⟩
          go_wp2
          go_ret
          exact ⟨rfl, on (on (on hb1 hb) hb2) hb3⟩
    · rw [if_neg hok] at hX
      subst hX
      go_wp2_with fail
      refine (awake_any _).mono ?_
      rintro e w2 ⟨rfl, hb2⟩
      go_wp2
      go_ret
      exact ⟨rfl, on hb1 hb2⟩

set_option maxRecDepth 4000 in
set_option maxHeartbeats 6400000 in
theorem quoteWords_any (v : Value) (ls : List ByteArray) (w : World) (hr : ReadsS w v ls) (hsm : ∀ s ∈ ls, s.size ≤ reachBytes) : Calls Try.prog 6 #[v] w (Truly w) := by
  have HR := Lib.hid hr
  have HS := Lib.hid hsm
  obtain ⟨ao, cap, rfl⟩ := hr.shape
  have hlm : ls.length ≤ 9223372036854775807 := by
    obtain ⟨_, _, _, h1, h2, _⟩ := hr
    unfold maxLen at h2; omega
  clear hr hsm
  go_enter Try.func6, Try.ntmps6
  go_wp2
  go_loop [3, 4] (fun n i => ∃ k m : Nat, n = .int .i64 (m : Int) ∧ i = .int .i64 (k : Int) ∧ k ≤ ls.length ∧ k ≤ 61 ∧ m ≤ 500 ∧ Hid (m = Lib.lens ((ls.take k).map (·.data.toList)))) (fun _ i => ls.length - (intOf i).toNat)
  case atStart => exact ⟨0, 0, rfl, rfl, by omega, by omega, by omega, rfl⟩
  case round =>
    obtain ⟨k, m, rfl, rfl, hk, hk61, hm, HM⟩ := hrel
    by_cases hlt : k < ls.length
    · have hlt' : (k : Int) < (ls.length : Int) := by omega
      obtain ⟨u, hu⟩ : ∃ u, ls[k]? = some u := ⟨_, List.getElem?_eq_getElem hlt⟩
      obtain ⟨b1, o1, rfl, _, _, _, _, hc1⟩ := HR.out.place (by omega)
      have c1 := hc1 k u hu
      have hus : u.size ≤ 140737488351232 := HS.out u (List.mem_of_getElem? hu)
      have HN : Hid (m + u.size = Lib.lens ((ls.take (k + 1)).map (·.data.toList))) := by
        show _ = _
        rw [List.map_take, Lib.lens_take_succ _ k u.data.toList (by rw [List.getElem?_map, hu]; rfl), ← List.map_take, ← HM.out]; rfl
      obtain ⟨z, hz⟩ : ∃ z, z = m + u.size := ⟨_, rfl⟩
      have hzi : (m : Int) + (u.size : Int) = (z : Int) := by omega
      have hz2 : z ≤ 140737488352232 := by omega
      rw [← hz] at HN
      clear hc1 hu hz
      by_cases h500 : 500 < z
      · have h500' : (500 : Int) < (z : Int) := by omega
        go_wp2_with fail
        refine (awake_any _).mono ?_
        rintro e w1 ⟨rfl, hb⟩
        go_wp2
        go_ret
        exact ⟨rfl, hb⟩
      · have h500' : ¬ (500 : Int) < (z : Int) := by omega
        by_cases h60 : 60 < k
        · have h60' : (60 : Int) < (k : Int) := by omega
          go_wp2_with fail
          refine (awake_any _).mono ?_
          rintro e w1 ⟨rfl, hb⟩
          go_wp2
          go_ret
          exact ⟨rfl, hb⟩
        · have h60' : ¬ (60 : Int) < (k : Int) := by omega
          go_wp2
          go_round
          case rel => exact ⟨k + 1, z, rfl, by go_num, by omega, by omega, by omega, HN.out⟩
          case measure => simp [intOf]; omega
    · have hlt' : ¬ (k : Int) < (ls.length : Int) := by omega
      have hkl : k = ls.length := by omega
      have HL : Hid (Lib.lens (ls.map (·.data.toList)) ≤ 500) := by
        have h := HM.out
        rw [hkl, List.take_length] at h
        show _ ≤ _
        omega
      have hl61 : ls.length ≤ 61 := by omega
      have hone : Hid (∀ (j : Nat) (u : ByteArray), ls[j]? = some u → u.size ≤ 500) := by
        intro j u hu
        have h1 : u.size ≤ Lib.lens (ls.map (·.data.toList)) := by
          have h2 := Lib.lens_take_succ (ls.map (·.data.toList)) j u.data.toList (by rw [List.getElem?_map, hu]; rfl)
          have h3 := Lib.lens_take_le (ls.map (·.data.toList)) (j + 1)
          have e2 : u.data.toList.length = u.size := rfl
          omega
        have := HL.out
        omega
      have HJ : Hid ((Lib.join (ls.map (·.data.toList)) [32]).length ≤ 1000) := by
        show _ ≤ _
        have h1 := HL.out
        cases ls with
        | nil => simp [Lib.join_nil]
        | cons x r =>
          rw [List.map_cons, Lib.join_cons, List.length_append, Lib.joinTail_length]
          rw [List.map_cons, Lib.lens, List.map_cons, List.sum_cons] at h1
          simp only [List.length_cons] at hl61
          have e : Lib.lens (r.map (·.data.toList)) = ((r.map (·.data.toList)).map (·.length)).sum := rfl
          rw [e]
          simp only [List.length_map, List.length_cons, List.length_nil]
          omega
      clear hkl hk61 hm HM hk hlt
      go_wp2
      go_loopw [5, 6] (fun a i wr => ∃ (j : Nat) (t : Bool), a = .bool t ∧ i = .int .i64 (j : Int) ∧ j ≤ ls.length ∧ Below w.heap.size w wr ∧ Hid (t = (ls.take j).all Qt.word)) (fun _ i _ => ls.length - (intOf i).toNat)
      case atStart => exact ⟨0, true, rfl, rfl, by omega, Below.refl _ _, rfl⟩
      case round =>
        obtain ⟨j, t, rfl, rfl, hj, hb, HT⟩ := hrel
        have hszw := hb.size
        by_cases hjt : j < ls.length
        · have hjt' : (j : Int) < (ls.length : Int) := by omega
          obtain ⟨u, hu⟩ : ∃ u, ls[j]? = some u := ⟨_, List.getElem?_eq_getElem hjt⟩
          obtain ⟨b1, o1, rfl, _, _, _, _, hc1⟩ := (HR.out.below hb).place (by omega)
          have c1 := hc1 j u hu
          have hus := hone.out j u hu
          have HN : Hid ((ls.take (j + 1)).all Qt.word = (t && Qt.word u)) := by
            show _ = _
            rw [List.take_add_one, hu, List.all_append, ← HT.out]
            simp
          clear hc1 hu
          cases t with
          | true =>
            go_wp2_with fail
            refine (refWord_any u _ (by omega)).mono ?_
            rintro e w2 ⟨rfl, hb2⟩
            go_wp2
            all_goals
              go_roundw
              case rel => exact ⟨j + 1, Qt.word u, rfl, by go_num, by omega, on hb hb2, by show _ = _; rw [HN.out]; rfl⟩
              case measure => simp [intOf]; omega
          | false =>
            go_wp2
            go_roundw
            case rel => exact ⟨j + 1, false, rfl, by go_num, by omega, hb, by show _ = _; rw [HN.out]; rfl⟩
            case measure => simp [intOf]; omega
        · have hjt' : ¬ (j : Int) < (ls.length : Int) := by omega
          have HA : Hid (t = ls.all Qt.word) := by
            show _ = _
            rw [HT.out, List.take_of_length_le (by omega)]
          cases t with
          | false =>
            go_wp2_with fail
            refine (awake_any _).mono ?_
            rintro e w2 ⟨rfl, hb2⟩
            go_wp2
            go_ret
            exact ⟨rfl, on hb hb2⟩
          | true =>
            have hw : ∀ s ∈ ls, Qt.word s = true := List.all_eq_true.1 HA.out.symm
            have h1 := Qt.lineOk_join ls hw
            have h2 := Qt.words_join ls hw
            have hln := line_any ls _ wr (HR.out.below hb) (by omega) (by have := HJ.out; omega)
            have hwd := fun w => words_any ⟨(Lib.join (ls.map (·.data.toList)) [32]).toArray⟩ w (by have := HJ.out; simp [ByteArray.size]; omega)
            unfold WordsGot at hwd
            rw [h1, h2] at hwd
            clear hw h1 h2
            go_wp2_with fail
            refine hln.mono ?_
            rintro e w2 ⟨rfl, hb2⟩
            go_wp2_with fail
            refine (hwd _).mono ?_
            rintro e w3 ⟨hb3, hX⟩
            simp only [if_true] at hX
            obtain ⟨v, us, rfl, hr3, hus⟩ := hX
            obtain rfl := Qt.map_same hus
            have hr4 := ((HR.out.below hb).below hb2).below hb3
            clear hln hwd hus
            go_wp2_with fail
            refine (texts_same _ _ us _ hr3 hr4 (by omega)).mono ?_
            rintro e w4 ⟨rfl, hb4⟩
            go_wp2_with fail
            refine (awake_any _).mono ?_
            rintro e w5 ⟨rfl, hb5⟩
            go_wp2
            go_ret
            exact ⟨rfl, on (on (on (on hb hb2) hb3) hb4) hb5⟩
end Go.Proofs.Ytgnjbbedeeiemaa
