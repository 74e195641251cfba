/- slices.Equal over pairs and over sessions, slices.Clone over sessions. Written by a program. -/
import Derived.Test.YtgcjjlkjlabneaaKwRef
import Derived.Test.YtgcjjlkjlabneaaSeRef
import Derived.Test.YtgcjjlkjlabneaaSeCopy
import Derived.Deep.QuietTactic
import Derived.BigQuiet
namespace Go.Proofs.Ytgcjjlkjlabneaa
open Go.RowKit

set_option maxRecDepth 4000 in
set_option maxHeartbeats 3200000 in
theorem equalKv_any (v u : Value) (l m : List Kv.Item) (w : World) (hv : ReadsK w v l) (hu : ReadsK w u m) :
    Calls Try.prog 21 #[v, u] w (Looks w (.bool (decide (l = m)))) := by
  obtain ⟨ao, cap, rfl, hc1, hc2⟩ := ReadsK.shape hv
  obtain ⟨bo, bcap, rfl, hd1, hd2⟩ := ReadsK.shape hu
  have HP := Lib.hid (fun h => ReadsK.places hv h)
  have HQ := Lib.hid (fun h => ReadsK.places hu h)
  obtain ⟨r, hr⟩ : ∃ r, r = decide (l = m) := ⟨_, rfl⟩
  rw [← hr]
  have HR := Lib.hid hr
  obtain ⟨n, hnn⟩ : ∃ n, n = l.length := ⟨_, rfl⟩
  obtain ⟨p, hpp⟩ : ∃ p, p = m.length := ⟨_, rfl⟩
  rw [← hnn] at hc1 ⊢
  rw [← hpp] at hd1 ⊢
  have HN := Lib.hid hnn
  have HM := Lib.hid hpp
  have hnb : n < 9223372036854775808 := by omega
  have hpb : p < 9223372036854775808 := by omega
  clear hv hu hnn hpp hr
  by_cases hnp : n = p
  · subst hnp
    have hne : ((n : Int) != (n : Int)) = false := by simp
    go_enter Try.func21, Try.ntmps21
    go_wp2
    go_loopw [13] (fun i wr => ∃ k : Nat, i = .int .i64 (k : Int) ∧ k ≤ n ∧ Hid (l.take k = m.take k) ∧ Below w.heap.size w wr) (fun i _ => n - (intOf i).toNat)
    case atStart => exact ⟨0, rfl, by omega, by show _ = _; simp, Below.refl _ _⟩
    case round =>
      obtain ⟨k, rfl, hk, HI, hB⟩ := hrel
      have HB := Lib.hid hB
      clear hB
      by_cases hlt : k < n
      · obtain ⟨a, ha⟩ : ∃ e, l[k]? = some e := ⟨_, List.getElem?_eq_getElem (by have := HN.out; omega)⟩
        obtain ⟨b, hb⟩ : ∃ e, m[k]? = some e := ⟨_, List.getElem?_eq_getElem (by have := HM.out; omega)⟩
        obtain ⟨g, off, rfl, hgl, hcell⟩ := HP.out (by have := HN.out; omega)
        obtain ⟨h, oof, rfl, hhl, hdell⟩ := HQ.out (by have := HM.out; omega)
        obtain ⟨c0, c1, c2⟩ := hcell wr HB.out k a ha
        obtain ⟨d0, d1, d2⟩ := hdell wr HB.out k b hb
        have HA := Lib.hid ha; have HBB := Lib.hid hb
        have hgd := guard_kv
        have hneq := fun W => run_neq_kv W a b
        obtain ⟨t, ht⟩ : ∃ t, t = decide (a = b) := ⟨_, rfl⟩
        rw [← ht] at hneq
        have HT := Lib.hid ht
        dsimp only [Kv.cells] at hneq
        clear hcell hdell ha hb ht
        cases t with
        | true =>
          have HZ : Hid (l.take (k + 1) = m.take (k + 1)) := by
            show _ = _
            rw [List.take_add_one, List.take_add_one, HA.out, HBB.out, HI.out, of_decide_eq_true HT.out.symm]
          simp only [Bool.not_true] at hneq
          go_wp2
          go_quiet (fail)
          all_goals
            go_wp2
            go_roundw
            case rel => exact ⟨k + 1, by go_num, by omega, HZ.out, HB.out.trans ((drawn wr _).mono HB.out.size)⟩
            case measure => simp [intOf]; omega
        | false =>
          have HZ : Hid (r = false) := by
            show _ = _
            rw [HR.out]
            refine decide_eq_false fun h => ?_
            have h1 := HA.out
            rw [h, HBB.out] at h1
            exact of_decide_eq_false HT.out.symm (Option.some.inj h1).symm
          simp only [Bool.not_false] at hneq
          go_wp2
          go_quiet (fail)
          all_goals
            go_wp2
            go_ret
            exact ⟨by rw [HZ.out]; rfl, HB.out.trans ((drawn wr _).mono HB.out.size)⟩
      · have HZ : Hid (r = true) := by
          show _ = _
          rw [HR.out]
          refine decide_eq_true ?_
          have := HI.out
          rwa [List.take_of_length_le (by have := HN.out; omega), List.take_of_length_le (by have := HM.out; omega)] at this
        go_wp2
        go_ret
        exact ⟨by rw [HZ.out]; rfl, HB.out⟩
  · have hne : ((n : Int) != (p : Int)) = true := by simp; omega
    have HZ : Hid (r = false) := by
      show _ = _
      rw [HR.out]
      exact decide_eq_false fun h => hnp (by rw [HN.out, HM.out, h])
    go_enter Try.func21, Try.ntmps21
    go_wp2
    go_ret
    exact ⟨by rw [HZ.out]; rfl, Below.refl _ _⟩

set_option maxRecDepth 4000 in
set_option maxHeartbeats 3200000 in
theorem equalSe_any (v u : Value) (l m : List Se.Ses) (w : World) (hv : ReadsN w v l) (hu : ReadsN w u m) :
    Calls Try.prog 22 #[v, u] w (Looks w (.bool (decide (l = m)))) := by
  obtain ⟨ao, cap, rfl, hc1, hc2⟩ := ReadsN.shape hv
  obtain ⟨bo, bcap, rfl, hd1, hd2⟩ := ReadsN.shape hu
  have HP := Lib.hid (fun h => ReadsN.places hv h)
  have HQ := Lib.hid (fun h => ReadsN.places hu h)
  obtain ⟨r, hr⟩ : ∃ r, r = decide (l = m) := ⟨_, rfl⟩
  rw [← hr]
  have HR := Lib.hid hr
  obtain ⟨n, hnn⟩ : ∃ n, n = l.length := ⟨_, rfl⟩
  obtain ⟨p, hpp⟩ : ∃ p, p = m.length := ⟨_, rfl⟩
  rw [← hnn] at hc1 ⊢
  rw [← hpp] at hd1 ⊢
  have HN := Lib.hid hnn
  have HM := Lib.hid hpp
  have hnb : n < 9223372036854775808 := by omega
  have hpb : p < 9223372036854775808 := by omega
  clear hv hu hnn hpp hr
  by_cases hnp : n = p
  · subst hnp
    have hne : ((n : Int) != (n : Int)) = false := by simp
    go_enter Try.func22, Try.ntmps22
    go_wp2
    go_loopw [13] (fun i wr => ∃ k : Nat, i = .int .i64 (k : Int) ∧ k ≤ n ∧ Hid (l.take k = m.take k) ∧ Below w.heap.size w wr) (fun i _ => n - (intOf i).toNat)
    case atStart => exact ⟨0, rfl, by omega, by show _ = _; simp, Below.refl _ _⟩
    case round =>
      obtain ⟨k, rfl, hk, HI, hB⟩ := hrel
      have HB := Lib.hid hB
      clear hB
      by_cases hlt : k < n
      · obtain ⟨a, ha⟩ : ∃ e, l[k]? = some e := ⟨_, List.getElem?_eq_getElem (by have := HN.out; omega)⟩
        obtain ⟨b, hb⟩ : ∃ e, m[k]? = some e := ⟨_, List.getElem?_eq_getElem (by have := HM.out; omega)⟩
        obtain ⟨g, off, rfl, hgl, hcell⟩ := HP.out (by have := HN.out; omega)
        obtain ⟨h, oof, rfl, hhl, hdell⟩ := HQ.out (by have := HM.out; omega)
        obtain ⟨c0, c1, c2, c3, c4, c5, c6, c7⟩ := hcell wr HB.out k a ha
        obtain ⟨d0, d1, d2, d3, d4, d5, d6, d7⟩ := hdell wr HB.out k b hb
        have HA := Lib.hid ha; have HBB := Lib.hid hb
        have hgd := guard_ses
        have hneq := fun W => run_neq_ses W a b
        obtain ⟨t, ht⟩ : ∃ t, t = decide (a = b) := ⟨_, rfl⟩
        rw [← ht] at hneq
        have HT := Lib.hid ht
        dsimp only [Se.cells] at hneq
        clear hcell hdell ha hb ht
        cases t with
        | true =>
          have HZ : Hid (l.take (k + 1) = m.take (k + 1)) := by
            show _ = _
            rw [List.take_add_one, List.take_add_one, HA.out, HBB.out, HI.out, of_decide_eq_true HT.out.symm]
          simp only [Bool.not_true] at hneq
          go_wp2
          go_quiet (fail)
          all_goals
            go_wp2
            go_roundw
            case rel => exact ⟨k + 1, by go_num, by omega, HZ.out, HB.out.trans ((drawn wr _).mono HB.out.size)⟩
            case measure => simp [intOf]; omega
        | false =>
          have HZ : Hid (r = false) := by
            show _ = _
            rw [HR.out]
            refine decide_eq_false fun h => ?_
            have h1 := HA.out
            rw [h, HBB.out] at h1
            exact of_decide_eq_false HT.out.symm (Option.some.inj h1).symm
          simp only [Bool.not_false] at hneq
          go_wp2
          go_quiet (fail)
          all_goals
            go_wp2
            go_ret
            exact ⟨by rw [HZ.out]; rfl, HB.out.trans ((drawn wr _).mono HB.out.size)⟩
      · have HZ : Hid (r = true) := by
          show _ = _
          rw [HR.out]
          refine decide_eq_true ?_
          have := HI.out
          rwa [List.take_of_length_le (by have := HN.out; omega), List.take_of_length_le (by have := HM.out; omega)] at this
        go_wp2
        go_ret
        exact ⟨by rw [HZ.out]; rfl, HB.out⟩
  · have hne : ((n : Int) != (p : Int)) = true := by simp; omega
    have HZ : Hid (r = false) := by
      show _ = _
      rw [HR.out]
      exact decide_eq_false fun h => hnp (by rw [HN.out, HM.out, h])
    go_enter Try.func22, Try.ntmps22
    go_wp2
    go_ret
    exact ⟨by rw [HZ.out]; rfl, Below.refl _ _⟩

set_option maxRecDepth 4000 in
set_option maxHeartbeats 800000 in
theorem clone_sess (v : Value) (rs : List (Array Value)) (w : World) (hv : ReadsR w v 8 rs) (hz : Sized 8 rs) (hn : rs.length ≤ 1099511627776) :
    Calls Try.prog 26 #[v] w fun e w' => ∃ v', e = .returned v' ∧ OwnsR w' w.heap.size 43 8 v' rs ∧ Below w.heap.size w w' := by
  have hq : ∀ (w : World) (a : Option Addr) (n c n' c' : Nat), (binOp .eql 23 (.slice a n c) (.slice none n' c')).run Try.prog w = .ok (.bool a.isNone) w := fun w a n c n' c' => Lib.run_eql_slice_nil w _ _ a n c n' c' Try.underlying23
  obtain ⟨ao, cap, rfl, hc1, hc2⟩ := hv.shape
  cases ao with
  | none =>
    obtain ⟨_, h1, h2, _⟩ := ReadsR.len hv
    have h3 := h2 rfl
    obtain rfl : rs = [] := List.eq_nil_of_length_eq_zero (by omega)
    go_enter Try.func26, Try.ntmps26
    go_wp2
    go_ret
    exact ⟨_, rfl, OwnsR.empty _ _ _ _, Below.refl _ _⟩
  | some a =>
    have HV : Hid (ReadsR (w.alloc (.cells #[] 43)) (.slice (some a) rs.length cap) 8 rs) := ReadsR.below hv ((Below.refl _ w).alloc (Nat.le_refl _) _)
    obtain ⟨n, hnn⟩ : ∃ n, n = rs.length := ⟨_, rfl⟩
    rw [← hnn] at hn HV ⊢
    have HN := Lib.hid hnn; have HZ := Lib.hid hz
    clear hv hc1 hnn hz
    go_enter Try.func26, Try.ntmps26
    go_wp2_with (at_builtin; refine append_rows rfl _ _ 23 43 8 72 _ rfl Try.underlying23 info_ses rfl (by decide) w.heap.size [] rs _ _ rfl rfl (World.ownsRow_made w #[] 0 (Nat.le_refl _) (Nat.zero_le _) (by simp)) HV.out HZ.out (by rw [← HN.out]; simp; omega) (by rw [← HN.out]; simp; omega) w ((Below.refl _ w).alloc (Nat.le_refl _) _) (Nat.le_refl _) ?_; intro v' w' ho' hb' _)
    all_goals
      rw [List.nil_append] at ho'
      obtain ⟨ao', cap', hs'⟩ := ho'.shape
      have HO := Lib.hid ho'
      rw [← HN.out] at hs'
      clear ho'
      subst hs'
      go_wp2
      go_ret
      exact ⟨_, rfl, HO.out, hb'⟩

theorem cloneSe_any (v : Value) (l : List Se.Ses) (w : World) (hv : ReadsN w v l) (hn : l.length ≤ 1048576) : Calls Try.prog 26 #[v] w (MadeN w l) :=
  clone_sess v (l.map Se.cells) w hv (Se.sized l) (by rw [List.length_map]; omega)

end Go.Proofs.Ytgcjjlkjlabneaa
