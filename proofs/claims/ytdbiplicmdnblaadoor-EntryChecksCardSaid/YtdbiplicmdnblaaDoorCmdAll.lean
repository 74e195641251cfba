/- A command's fields, each looked at. -/
import Derived.Test.YtdbiplicmdnblaaDoorCmdFlds
namespace Go.Proofs.YtdbiplicmdnblaaDoor
open Go.RowKit

/-- A command lies in a block. -/
def Cm.cells (c : Cm.Cmd) : Array Value := #[.int .i64 c.kind, .int .i64 c.client, .int .i64 c.seq, .string ⟨c.key.toArray⟩, .string ⟨c.val.toArray⟩, .string ⟨c.old.toArray⟩, .int .i64 c.node]
abbrev Cmds (w : World) (b : Nat) (c : Cm.Cmd) : Prop := Lies w b 31 (Cm.cells c)

theorem Cm.cells_num (c : Cm.Cmd) (f : Cm.F) (h : f.num = true) : (Cm.cells c)[f.at]? = some (.int .i64 (c.n f)) := by
  cases f <;> first | rfl | cases h
theorem Cm.cells_str (c : Cm.Cmd) (f : Cm.F) (h : f.num = false) : (Cm.cells c)[f.at]? = some (.string ⟨(c.s f).toArray⟩) := by
  cases f <;> first | rfl | cases h
theorem Cm.cells_setN (c : Cm.Cmd) (f : Cm.F) (n : Int) (h : f.num = true) : (Cm.cells c).setIfInBounds f.at (.int .i64 n) = Cm.cells (c.setN n f) := by
  cases f <;> first | rfl | cases h
theorem Cm.cells_setS (c : Cm.Cmd) (f : Cm.F) (s : List UInt8) (h : f.num = false) : (Cm.cells c).setIfInBounds f.at (.string ⟨s.toArray⟩) = Cm.cells (c.setS s f) := by
  cases f <;> first | rfl | cases h

theorem FRow.kept {w w' : World} {lo : Nat} {v : Value} {b : Nat} {fs : List Cm.F} (h : FRow w lo v b fs) {row : Option Nat} (hg : w.grownBy w' row) (hne : ∀ g, lo ≤ g → some g ≠ row) : FRow w' lo v b fs := by
  rcases h with ⟨rfl, rfl⟩ | ⟨g, h1, rfl, h2⟩
  · exact .inl ⟨rfl, rfl⟩
  · exact .inr ⟨g, h1, rfl, h2.kept hg (hne g h1)⟩
theorem FRow.below {w w' : World} {lo : Nat} {v : Value} {b : Nat} {fs : List Cm.F} (h : FRow w lo v b fs) (hb : Below w.heap.size w w') : FRow w' lo v b fs := h.kept (grown_of hb none) (by simp)
theorem FRow.shape {w : World} {lo : Nat} {v : Value} {b : Nat} {fs : List Cm.F} (h : FRow w lo v b fs) : ∃ ao, v = .slice ao fs.length fs.length := by
  rcases h with ⟨rfl, rfl⟩ | ⟨g, h1, rfl, h2⟩
  · exact ⟨_, rfl⟩
  · exact ⟨_, rfl⟩
theorem FRow.cell {w : World} {lo : Nat} {ao : Option Addr} {n m : Nat} {b : Nat} {fs : List Cm.F} (h : FRow w lo (.slice ao n m) b fs) {k : Nat} {f : Cm.F} (hk : fs[k]? = some f) :
    ∃ g, ao = some ⟨g, 0, none⟩ ∧ w.cell? ⟨g, k, none⟩ = some (Cm.fv b f) := by
  rcases h with ⟨rfl, _⟩ | ⟨g, h1, hv, h2⟩
  · simp at hk
  · cases hv
    exact ⟨g, rfl, h2.cell k _ (by simp [hk])⟩

theorem fwithin_any (b : Nat) (c : Cm.Cmd) (f : Cm.F) (w : World) (hl : Cmds w b c) : Calls Tryd.prog 43 #[Cm.fv b f] w (Looks w (.bool (Cm.within c f))) := by
  cases h : f.num with
  | true =>
    rw [show Cm.fv b f = _ from if_pos h, show Cm.within c f = (decide (1 ≤ c.n f) && decide (c.n f ≤ f.most)) by simp [Cm.within, h]]
    exact within_num b f.at f.most (c.n f) w (hl.cell _ _ (Cm.cells_num c f h))
  | false =>
    rw [show Cm.fv b f = _ from if_neg (by simp [h]), show Cm.within c f = true by simp [Cm.within, h]]
    exact within_text _ _ w
theorem fspelt_any (b : Nat) (c : Cm.Cmd) (f : Cm.F) (w : World) (hl : Cmds w b c) (hs : c.Short 140737488355328) : Calls Tryd.prog 44 #[Cm.fv b f] w (Looks w (.bool (Cm.spelt c f))) := by
  cases h : f.num with
  | true =>
    rw [show Cm.fv b f = _ from if_pos h, show Cm.spelt c f = true by simp [Cm.spelt, h]]
    exact spelt_num _ _ w
  | false =>
    rw [show Cm.fv b f = _ from if_neg (by simp [h]), show Cm.spelt c f = Cm.okS f (c.s f) by simp [Cm.spelt, h]]
    by_cases hk : f = .key
    · subst hk
      exact spelt_key b _ (c.s .key) w (hl.cell _ _ (Cm.cells_str c _ h)) (hs.s _)
    · rw [if_neg hk, show Cm.okS f (c.s f) = Rn.val ⟨(c.s f).toArray⟩ from if_neg hk]
      exact spelt_val b _ (c.s f) w (hl.cell _ _ (Cm.cells_str c _ h)) (hs.s _)
theorem fwipe_any (b : Nat) (c : Cm.Cmd) (f : Cm.F) (w : World) (hl : Cmds w b c) : Calls Tryd.prog 52 #[Cm.fv b f] w (Turned w b 31 (Cm.cells (Cm.wipe c f))) := by
  cases h : f.num with
  | true =>
    rw [show Cm.fv b f = _ from if_pos h, show Cm.wipe c f = c.setN 0 f by simp [Cm.wipe, h], ← Cm.cells_setN c f 0 h]
    exact wipe_num b _ _ _ _ _ w hl (Cm.cells_num c f h)
  | false =>
    rw [show Cm.fv b f = _ from if_neg (by simp [h]), show Cm.wipe c f = c.setS [] f by simp [Cm.wipe, h], ← Cm.cells_setS c f [] h]
    exact wipe_text b _ _ _ _ _ w hl (Cm.cells_str c f h)

set_option maxRecDepth 4000 in
set_option maxHeartbeats 800000 in
theorem all_within (c : Cm.Cmd) (b lo : Nat) (fs : List Cm.F) (v : Value) (w : World) (hr : FRow w lo v b fs) (hn : fs.length ≤ 5) (hl : Cmds w b c) :
    Calls Tryd.prog 42 #[v, .func (.func 43) #[] #[]] w (Looks w (.bool (fs.all (Cm.within c)))) := by
  obtain ⟨ao, rfl⟩ := hr.shape
  obtain ⟨r, hr'⟩ : ∃ r, r = fs.all (Cm.within c) := ⟨_, rfl⟩
  rw [← hr']
  have HRES := Lib.hid hr'
  have HR := Lib.hid hr
  have HL := Lib.hid hl
  clear hr hr' hl
  go_enter Tryd.func42, Tryd.ntmps42
  go_wp2
  go_loopw [6, 9] (fun _ i wr => ∃ k : Nat, i = .int .i64 (k : Int) ∧ k ≤ fs.length ∧ Below w.heap.size w wr ∧ Hid ((fs.take k).all (Cm.within c) = true)) (fun _ i _ => fs.length - (intOf i).toNat)
  case atStart => exact ⟨0, rfl, by omega, Below.refl _ _, rfl⟩
  case round =>
    obtain ⟨k, rfl, hk, hb, HQ⟩ := hrel
    by_cases hlt : k < fs.length
    · have hlt' : (k : Int) < (fs.length : Int) := by omega
      obtain ⟨f, hf⟩ : ∃ f, fs[k]? = some f := ⟨_, List.getElem?_eq_getElem hlt⟩
      obtain ⟨g, rfl, hcell⟩ := (HR.out.below hb).cell hf
      obtain ⟨t, ht⟩ : ∃ t, t = Cm.within c f := ⟨_, rfl⟩
      have HT := Lib.hid ht
      have HF := Lib.hid hf
      have HLW := Lib.hid (HL.out.below hb HL.out.lt)
      clear ht hf
      go_wp2_with fail
      refine (fwithin_any b c f _ HLW.out).mono ?_
      rintro e w2 ⟨rfl, hb2⟩
      rw [← HT.out]
      have hb3 := on hb hb2
      cases t with
      | true =>
        go_wp2
        go_roundw
        case rel =>
          refine ⟨k + 1, by go_num, by omega, hb3, ?_⟩
          show _ = _
          rw [List.take_add_one, HF.out, List.all_append, HQ.out, Option.toList_some, List.all_cons, List.all_nil, ← HT.out]
          rfl
        case measure => simp [intOf]; omega
      | false =>
        have HZ : Hid (r = false) := by
          show _ = _
          rw [HRES.out, List.all_eq_false]
          exact ⟨f, List.mem_of_getElem? HF.out, by rw [← HT.out]; simp⟩
        go_wp2
        go_ret
        exact ⟨by rw [HZ.out]; rfl, hb3⟩
    · have hlt' : ¬ (k : Int) < (fs.length : Int) := by omega
      have HZ : Hid (r = true) := by
        show _ = _
        have := HQ.out
        rw [List.take_of_length_le (by omega)] at this
        rw [HRES.out, this]
      go_wp2
      go_ret
      exact ⟨by rw [HZ.out]; rfl, hb⟩

set_option maxRecDepth 4000 in
set_option maxHeartbeats 800000 in
theorem all_spelt (c : Cm.Cmd) (b lo : Nat) (fs : List Cm.F) (v : Value) (w : World) (hr : FRow w lo v b fs) (hn : fs.length ≤ 5) (hl : Cmds w b c) (hs : c.Short 140737488355328) :
    Calls Tryd.prog 42 #[v, .func (.func 44) #[] #[]] w (Looks w (.bool (fs.all (Cm.spelt c)))) := by
  obtain ⟨ao, rfl⟩ := hr.shape
  obtain ⟨r, hr'⟩ : ∃ r, r = fs.all (Cm.spelt c) := ⟨_, rfl⟩
  rw [← hr']
  have HRES := Lib.hid hr'
  have HR := Lib.hid hr
  have HL := Lib.hid hl
  clear hr hr' hl
  go_enter Tryd.func42, Tryd.ntmps42
  go_wp2
  go_loopw [6, 9] (fun _ i wr => ∃ k : Nat, i = .int .i64 (k : Int) ∧ k ≤ fs.length ∧ Below w.heap.size w wr ∧ Hid ((fs.take k).all (Cm.spelt c) = true)) (fun _ i _ => fs.length - (intOf i).toNat)
  case atStart => exact ⟨0, rfl, by omega, Below.refl _ _, rfl⟩
  case round =>
    obtain ⟨k, rfl, hk, hb, HQ⟩ := hrel
    by_cases hlt : k < fs.length
    · have hlt' : (k : Int) < (fs.length : Int) := by omega
      obtain ⟨f, hf⟩ : ∃ f, fs[k]? = some f := ⟨_, List.getElem?_eq_getElem hlt⟩
      obtain ⟨g, rfl, hcell⟩ := (HR.out.below hb).cell hf
      obtain ⟨t, ht⟩ : ∃ t, t = Cm.spelt c f := ⟨_, rfl⟩
      have HT := Lib.hid ht
      have HF := Lib.hid hf
      have HLW := Lib.hid (HL.out.below hb HL.out.lt)
      clear ht hf
      go_wp2_with fail
      refine (fspelt_any b c f _ HLW.out hs).mono ?_
      rintro e w2 ⟨rfl, hb2⟩
      rw [← HT.out]
      have hb3 := on hb hb2
      cases t with
      | true =>
        go_wp2
        go_roundw
        case rel =>
          refine ⟨k + 1, by go_num, by omega, hb3, ?_⟩
          show _ = _
          rw [List.take_add_one, HF.out, List.all_append, HQ.out, Option.toList_some, List.all_cons, List.all_nil, ← HT.out]
          rfl
        case measure => simp [intOf]; omega
      | false =>
        have HZ : Hid (r = false) := by
          show _ = _
          rw [HRES.out, List.all_eq_false]
          exact ⟨f, List.mem_of_getElem? HF.out, by rw [← HT.out]; simp⟩
        go_wp2
        go_ret
        exact ⟨by rw [HZ.out]; rfl, hb3⟩
    · have hlt' : ¬ (k : Int) < (fs.length : Int) := by omega
      have HZ : Hid (r = true) := by
        show _ = _
        have := HQ.out
        rw [List.take_of_length_le (by omega)] at this
        rw [HRES.out, this]
      go_wp2
      go_ret
      exact ⟨by rw [HZ.out]; rfl, hb⟩

end Go.Proofs.YtdbiplicmdnblaaDoor
