/- Quoted strings: Words, Line; the document's Texts. -/
import Derived.Test.YtgnjbbedeeiemaaQtParts
namespace Go.Proofs.Ytgnjbbedeeiemaa
open Go.RowKit

namespace Qt
theorem mem_join (sep : List UInt8) : ∀ (l : List (List UInt8)) (x : List UInt8), x ∈ l → x.length ≤ (Lib.join l sep).length := by
  intro l x hx
  cases l with
  | nil => cases hx
  | cons y r =>
    rw [Lib.join_cons, List.length_append]
    rcases List.mem_cons.1 hx with rfl | h
    · omega
    · have : ∀ (r : List (List UInt8)), x ∈ r → x.length ≤ (Lib.joinTail sep r).length := by
        intro r
        induction r with
        | nil => intro h; cases h
        | cons z r ih =>
          intro h
          rw [Lib.joinTail_length, Lib.lens, List.map_cons, List.sum_cons]
          rcases List.mem_cons.1 h with rfl | h
          · omega
          · have := ih h
            rw [Lib.joinTail_length, Lib.lens] at this
            simp only [List.length_cons]
            have h2 : sep.length * r.length ≤ sep.length * (r.length + 1) := Nat.mul_le_mul_left _ (by omega)
            omega
      have := this r h
      omega
theorem sp_some : ∀ (r cur : List UInt8) (qd es : Bool) (l : List (List UInt8)), 1 ≤ (sp r cur qd es l).length := by
  intro r
  induction r with
  | nil => intro cur qd es l; simp [sp]
  | cons c r ih =>
    intro cur qd es l
    simp only [sp]
    repeat' split
    all_goals exact ih _ _ _ _
/-- The words of a line, and whether it is one. -/
def words (s : ByteArray) : List (List UInt8) := if s.size = 0 then [] else split s.data.toList
def lineOk (s : ByteArray) : Bool := (words s).all fun l => word ⟨l.toArray⟩
end Qt

/-- What Words tells. -/
def WordsGot (w : World) (s : ByteArray) (e : Ending) (w' : World) : Prop :=
  Below w.heap.size w w' ∧ (if Qt.lineOk s = true then ∃ v us, e = .returned (.tuple #[v, .int .i64 0]) ∧ ReadsS w' v us ∧ us.map (·.data.toList) = Qt.words s else e = .returned (.tuple #[.slice none 0 0, .int .i64 3]))

theorem Qt.word_of (u : ByteArray) : Qt.word ⟨u.data.toList.toArray⟩ = Qt.word u := by
  congr 1

set_option maxRecDepth 4000 in
set_option maxHeartbeats 3200000 in
theorem words_any (s : ByteArray) (w : World) (hs : s.size ≤ 200000000000) :
    Calls Try.prog 12 #[.string s] w (WordsGot w s) := by
  by_cases h0 : s.size = 0
  · have hE : s.toList.isEmpty = true := by rw [Qt.empty_eq]; simp [h0]
    have hw : Qt.words s = [] := by unfold Qt.words; rw [if_pos h0]
    have hl : Hid (Qt.lineOk s = true ∧ Qt.words s = []) := by refine ⟨?_, hw⟩; unfold Qt.lineOk; rw [hw]; rfl
    clear hw
    go_enter Try.func12, Try.ntmps12
    go_wp2
    go_ret2
    refine ⟨Below.refl _ _, ?_⟩
    rw [if_pos hl.out.1]
    exact ⟨_, [], rfl, ⟨none, 0, rfl, by simp, by simp [maxLen], fun _ => rfl, (fun x hx => by cases hx)⟩, by rw [hl.out.2]; rfl⟩
  · have hE : s.toList.isEmpty = false := by rw [Qt.empty_eq]; simp [h0]
    have HW : Hid (Qt.words s = Qt.split s.data.toList) := by show _ = _; unfold Qt.words; rw [if_neg h0]
    clear h0
    go_enter Try.func12, Try.ntmps12
    go_wp2_with fail
    refine (split_any s _ hs).mono ?_
    rintro e w1 ⟨v, us, rfl, ho, hus, hb1⟩
    have hlen : 1 ≤ us.length := by
      have := Qt.sp_some s.data.toList [] false false []
      have h2 := congrArg List.length hus
      rw [List.length_map] at h2
      unfold Qt.split at h2
      omega
    have hsmall : Hid (∀ (k : Nat) (u : ByteArray), us[k]? = some u → u.size ≤ 200000000000) := by
      intro k u hu
      have hm : u.data.toList ∈ Qt.split s.data.toList := by rw [← hus]; exact List.mem_map_of_mem (List.mem_of_getElem? hu)
      have := Qt.mem_join [32] _ _ hm
      rw [Qt.split_join] at this
      have e1 : s.data.toList.length = s.size := rfl
      have e2 : u.data.toList.length = u.size := rfl
      omega
    have hr := ho.reads
    have HOK : Hid (Qt.lineOk s = us.all Qt.word) := by
      show _ = _
      unfold Qt.lineOk
      rw [HW.out, ← hus, List.all_map]
      congr 1
    obtain ⟨ao, cap, rfl⟩ := hr.shape
    obtain ⟨b, off, rfl, _, hcap, hcm, hbl, _⟩ := hr.place (by omega)
    have HR := Lib.hid hr
    have HU := Lib.hid hus
    clear ho hr hus
    unfold maxLen at hcm
    go_wp2
    go_loopw [6, 13] (fun _ i wr => ∃ k : Nat, i = .int .i64 (k : Int) ∧ k ≤ us.length ∧ Below w1.heap.size w1 wr ∧ Hid (∀ (j : Nat) (u : ByteArray), j < k → us[j]? = some u → Qt.word u = true)) (fun _ i _ => us.length - (intOf i).toNat)
    case atStart => exact ⟨0, rfl, by omega, Below.refl _ _, fun j u hj => by omega⟩
    case round =>
      obtain ⟨k, rfl, hk, hb, HQ⟩ := hrel
      have hsz := hb.size
      by_cases hlt : k < us.length
      · have hlt' : (k : Int) < (us.length : Int) := by omega
        obtain ⟨u, hu⟩ : ∃ u, us[k]? = some u := ⟨_, List.getElem?_eq_getElem hlt⟩
        obtain ⟨b', off', hbo, _, _, _, _, hcells⟩ := (HR.out.below hb).place (by omega)
        cases hbo
        have hcell := hcells k u hu
        have hsm := hsmall.out k u hu
        have HUk := Lib.hid hu
        clear hcells hu
        obtain ⟨t, ht⟩ : ∃ t, t = Qt.word u := ⟨_, rfl⟩
        have HT := Lib.hid ht
        clear ht
        go_wp2_with fail
        refine (word_any u _ hsm).mono ?_
        rintro e w2 ⟨rfl, hb2⟩
        rw [← HT.out]
        cases t with
        | true =>
          go_wp2
          go_roundw
          case rel =>
            refine ⟨k + 1, by go_num, by omega, on hb hb2, fun j x hj hx => ?_⟩
            by_cases e : j = k
            · subst e
              have := HUk.out
              rw [hx] at this
              cases this
              exact HT.out.symm
            · exact HQ.out j x (by omega) hx
          case measure => simp [intOf]; omega
        | false =>
          have HF : Hid (Qt.lineOk s = false) := by
            show _ = _
            rw [HOK.out]
            cases h : us.all Qt.word with
            | false => rfl
            | true =>
              have := List.all_eq_true.1 h u (List.mem_of_getElem? HUk.out)
              rw [← HT.out] at this; cases this
          go_wp2
          go_ret2
          refine ⟨on (on hb1 hb) hb2, ?_⟩
          rw [if_neg (by rw [HF.out]; simp)]
          rfl
      · have hlt' : ¬ (k : Int) < (us.length : Int) := by omega
        have HT : Hid (Qt.lineOk s = true) := by
          show _ = _
          rw [HOK.out, List.all_eq_true]
          intro u hu
          obtain ⟨j, hj, rfl⟩ := List.mem_iff_getElem.1 hu
          exact HQ.out j _ (by omega) (List.getElem?_eq_getElem hj)
        go_wp2
        go_ret2
        refine ⟨on hb1 hb, ?_⟩
        rw [if_pos HT.out]
        exact ⟨_, us, rfl, HR.out.below hb, by rw [HU.out, HW.out]⟩

set_option maxRecDepth 4000 in
theorem line_any (ls : List ByteArray) (v : Value) (w : World) (hr : ReadsS w v ls) (hn : ls.length ≤ 140737488355328) (hj : (Lib.join (ls.map (·.data.toList)) [32]).length ≤ 140737488355328) :
    Calls Try.prog 14 #[v] w (Finds w (.string ⟨(Lib.join (ls.map (·.data.toList)) [32]).toArray⟩)) := by
  by_cases h0 : ls.length = 0
  · obtain rfl : ls = [] := List.eq_nil_of_length_eq_zero h0
    obtain ⟨ao, cap, rfl⟩ := hr.shape
    go_enter Try.func14, Try.ntmps14
    go_wp2_with fail
    refine (Try.strings_Join_none _ _ _ _).mono ?_
    rintro e w1 ⟨rfl, rfl⟩
    go_wp2
    go_ret
    exact ⟨rfl, Below.refl _ _⟩
  · obtain ⟨ao, cap, rfl⟩ := hr.shape
    obtain ⟨b, off, rfl, _, hcap, hcm, hbl, hcells⟩ := hr.place (by omega)
    have HC : Hid (∀ (j : Nat) x, ls[j]? = some x → w.cell? ⟨b, off + j, none⟩ = some (.string x)) := hcells
    have HJ := Lib.hid hj
    clear hcells hj hr
    go_enter Try.func14, Try.ntmps14
    go_wp2_with fail
    refine (Try.strings_Join b off cap ls ⟨#[32]⟩ _ HC.out hbl hn hcap HJ.out).mono ?_
    rintro e w1 ⟨rfl, hb⟩
    go_wp2
    go_ret
    exact ⟨rfl, hb⟩

set_option maxRecDepth 4000 in
set_option maxHeartbeats 1600000 in
/-- Two lists that are the same. -/
theorem texts_same (v u : Value) (ls : List ByteArray) (w : World) (hv : ReadsS w v ls) (hu : ReadsS w u ls) (hn : ls.length ≤ 140737488355328) :
    Calls Try.prog 15 #[v, u] w (Finds w (.bool true)) := by
  obtain ⟨ao, cap, rfl⟩ := hv.shape
  obtain ⟨bo, dap, rfl⟩ := hu.shape
  have HV := Lib.hid hv
  have HU := Lib.hid hu
  clear hv hu
  go_enter Try.func15, Try.ntmps15
  go_wp2
  go_loopw [5] (fun i wr => ∃ k : Nat, i = .int .i64 (k : Int) ∧ k ≤ ls.length ∧ Below w.heap.size w wr) (fun i _ => ls.length - (intOf i).toNat)
  case atStart => exact ⟨0, rfl, by omega, Below.refl _ _⟩
  case round =>
    obtain ⟨k, rfl, hk, hb⟩ := hrel
    have hsz := hb.size
    by_cases hlt : k < ls.length
    · have hlt' : (k : Int) < (ls.length : Int) := by omega
      obtain ⟨x, hx⟩ : ∃ x, ls[k]? = some x := ⟨_, List.getElem?_eq_getElem hlt⟩
      obtain ⟨b1, o1, rfl, _, _, _, _, hc1⟩ := (HV.out.below hb).place (by omega)
      obtain ⟨b2, o2, rfl, _, _, _, _, hc2⟩ := (HU.out.below hb).place (by omega)
      have c1 := hc1 k x hx
      have c2 := hc2 k x hx
      have c1' : wr.drew.cell? ⟨b1, o1 + k, none⟩ = some (.string x) := c1
      have c2' : wr.drew.cell? ⟨b2, o2 + k, none⟩ = some (.string x) := c2
      have hbd := belowDrew hb hsz
      clear hc1 hc2 hx
      go_wp2
      go_region
      go_wp2
      go_roundw
      case rel => exact ⟨k + 1, by go_num, by omega, hbd⟩
      case measure => simp [intOf]; omega
    · have hlt' : ¬ (k : Int) < (ls.length : Int) := by omega
      go_wp2
      go_ret
      exact ⟨rfl, hb⟩
end Go.Proofs.Ytgnjbbedeeiemaa
