/- Several texts of mine in one: MsEq MsChk. -/
import Derived.Test.YtfdnmmmjaipgoaaDoorGMa
import Derived.Test.YtfdnmmmjaipgoaaDoorGEr
import Derived.Test.YtfdnmmmjaipgoaaDoorGNum
import Derived.Test.YtfdnmmmjaipgoaaDoorEnChk
namespace Go.Proofs.YtfdnmmmjaipgoaaDoor
open Go.RowKit

set_option maxRecDepth 4000 in
set_option maxHeartbeats 400000 in
theorem equalB_any (v u : Value) (l m : List UInt8) (w : World) (hv : Reads w v l) (hu : Reads w u m) :
    Calls Tryd.prog 38 #[v, u] w (Looks w (.bool (l == m))) := by
  obtain ⟨ao, cap, rfl⟩ := hv.shape
  obtain ⟨ao2, cap2, rfl⟩ := hu.shape
  have c1 := run_string_of (P := Tryd.prog) l Tryd.underlying27 Tryd.underlying5 Tryd.underlying9 hv
  have c2 := run_string_of (P := Tryd.prog) m Tryd.underlying27 Tryd.underlying5 Tryd.underlying9 hu
  go_enter Tryd.func38, Tryd.ntmps38
  go_wp2
  go_ret
  exact ⟨ret_bool rfl, Below.refl _ _⟩
theorem sameB_any (v u : Value) (l m : List UInt8) (w : World) (hv : Reads w v l) (hu : Reads w u m) :
    Calls Tryd.prog 24 #[v, u] w (Looks w (.bool (l == m))) := by
  refine (same_any v u l m w hv hu).mono ?_
  rintro e w' ⟨rfl, k, rfl⟩
  exact ⟨rfl, drawn w k⟩

set_option maxRecDepth 4000 in
set_option maxHeartbeats 3200000 in
theorem equalE_any (v u : Value) (l m : List En.Ent) (w : World) (hv : ReadsE w v l) (hu : ReadsE w u m) :
    Calls Tryd.prog 39 #[v, u] w (Looks w (.bool (decide (l = m)))) := by
  obtain ⟨ao, cap, rfl, hc1, hc2⟩ := ReadsE.shape hv
  obtain ⟨bo, bcap, rfl, hd1, hd2⟩ := ReadsE.shape hu
  have HP := Lib.hid (fun h => ReadsE.places hv h)
  have HQ := Lib.hid (fun h => ReadsE.places hu h)
  obtain ⟨r, hr⟩ : ∃ r, r = decide (l = m) := ⟨_, rfl⟩
  rw [← hr]
  have HR := Lib.hid hr
  obtain ⟨n, hnn⟩ : ∃ n, n = l.length := ⟨_, rfl⟩
  obtain ⟨p, hpp⟩ : ∃ p, p = m.length := ⟨_, rfl⟩
  rw [← hnn] at hc1 ⊢
  rw [← hpp] at hd1 ⊢
  have HN := Lib.hid hnn
  have HM := Lib.hid hpp
  have hnb : n < 9223372036854775808 := by omega
  have hpb : p < 9223372036854775808 := by omega
  clear hv hu hnn hpp hr
  by_cases hnp : n = p
  · subst hnp
    have hne : ((n : Int) != (n : Int)) = false := by simp
    go_enter Tryd.func39, Tryd.ntmps39
    go_wp2
    go_loopw [5, 13] (fun _ i wr => ∃ k : Nat, i = .int .i64 (k : Int) ∧ k ≤ n ∧ Hid (l.take k = m.take k) ∧ Below w.heap.size w wr) (fun _ i _ => n - (intOf i).toNat)
    case atStart => exact ⟨0, rfl, by omega, by show _ = _; simp, Below.refl _ _⟩
    case round =>
      obtain ⟨k, rfl, hk, HI, hB⟩ := hrel
      have HB := Lib.hid hB
      clear hB
      by_cases hlt : k < n
      · obtain ⟨a, ha⟩ : ∃ e, l[k]? = some e := ⟨_, List.getElem?_eq_getElem (by have := HN.out; omega)⟩
        obtain ⟨b, hb⟩ : ∃ e, m[k]? = some e := ⟨_, List.getElem?_eq_getElem (by have := HM.out; omega)⟩
        obtain ⟨g, off, rfl, hgl, hcell⟩ := HP.out (by have := HN.out; omega)
        obtain ⟨h, oof, rfl, hhl, hdell⟩ := HQ.out (by have := HM.out; omega)
        obtain ⟨c0, c1, c2, c3, c4, c5, c6, c7, c8, c9⟩ := hcell wr HB.out k a ha
        obtain ⟨d0, d1, d2, d3, d4, d5, d6, d7, d8, d9⟩ := hdell wr HB.out k b hb
        have HA := Lib.hid ha; have HBB := Lib.hid hb
        have hgd := guard_ent
        have hneq := fun W => run_neq_ent W a b
        obtain ⟨t, ht⟩ : ∃ t, t = decide (a = b) := ⟨_, rfl⟩
        rw [← ht] at hneq
        have HT := Lib.hid ht
        dsimp only [En.cells] at hneq
        clear hcell hdell ha hb ht
        cases t with
        | true =>
          have HZ : Hid (l.take (k + 1) = m.take (k + 1)) := by
            show _ = _
            rw [List.take_add_one, List.take_add_one, HA.out, HBB.out, HI.out, of_decide_eq_true HT.out.symm]
          simp only [Bool.not_true] at hneq
          go_wp2
          go_quiet (fail)
          all_goals
            go_wp2
            go_roundw
            case rel => exact ⟨k + 1, by go_num, by omega, HZ.out, HB.out.trans ((drawn wr _).mono HB.out.size)⟩
            case measure => simp [intOf]; omega
        | false =>
          have HZ : Hid (r = false) := by
            show _ = _
            rw [HR.out]
            refine decide_eq_false fun h => ?_
            have h1 := HA.out
            rw [h, HBB.out] at h1
            exact of_decide_eq_false HT.out.symm (Option.some.inj h1).symm
          simp only [Bool.not_false] at hneq
          go_wp2
          go_quiet (fail)
          all_goals
            go_wp2
            go_ret
            exact ⟨by rw [HZ.out]; rfl, HB.out.trans ((drawn wr _).mono HB.out.size)⟩
      · have HZ : Hid (r = true) := by
          show _ = _
          rw [HR.out]
          refine decide_eq_true ?_
          have := HI.out
          rwa [List.take_of_length_le (by have := HN.out; omega), List.take_of_length_le (by have := HM.out; omega)] at this
        go_wp2
        go_ret
        exact ⟨by rw [HZ.out]; rfl, HB.out⟩
  · have hne : ((n : Int) != (p : Int)) = true := by simp; omega
    have HZ : Hid (r = false) := by
      show _ = _
      rw [HR.out]
      exact decide_eq_false fun h => hnp (by rw [HN.out, HM.out, h])
    go_enter Tryd.func39, Tryd.ntmps39
    go_wp2
    go_ret
    exact ⟨by rw [HZ.out]; rfl, Below.refl _ _⟩

theorem Ms.ext_iff (a b : Ms.Msg) : a = b ↔ a.kind = b.kind ∧ a.frm = b.frm ∧ a.dst = b.dst ∧ a.bal = b.bal ∧ a.index = b.index ∧ a.commit = b.commit ∧ a.version = b.version ∧ a.ents = b.ents ∧ a.img = b.img := by
  obtain ⟨a1, a2, a3, a4, a5, a6, a7, a8, a9⟩ := a
  obtain ⟨b1, b2, b3, b4, b5, b6, b7, b8, b9⟩ := b
  simp only [Ms.Msg.mk.injEq]

end Go.Proofs.YtfdnmmmjaipgoaaDoor


namespace Go.Proofs.YtfdnmmmjaipgoaaDoor
open Go.RowKit

/-- What own tells: the entries and the image read as the message's own. -/
def Owned (w : World) (m : Ms.Msg) (e : Ending) (w' : World) : Prop :=
  Below w.heap.size w w' ∧ ∃ (eo : Option Addr) (ec : Nat) (io : Option Addr) (ic : Nat), e = .returned (.agg (Ms.cells (Ms.own m) (.slice eo (Ms.own m).ents.length ec) (.slice io (Ms.own m).img.length ic))) ∧
    ReadsE w' (.slice eo (Ms.own m).ents.length ec) (Ms.own m).ents ∧ Reads w' (.slice io (Ms.own m).img.length ic) (Ms.own m).img
end Go.Proofs.YtfdnmmmjaipgoaaDoor
