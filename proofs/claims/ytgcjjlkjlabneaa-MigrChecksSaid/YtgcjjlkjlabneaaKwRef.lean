/- The document's words for pairs: two lists the same, which may be in schema 2. Written by a program. -/
import Derived.Test.YtgcjjlkjlabneaaKwMath
import Derived.Test.YtgcjjlkjlabneaaKvRef
namespace Go.Proofs.Ytgcjjlkjlabneaa
open Go.RowKit

set_option maxRecDepth 4000 in
set_option maxHeartbeats 3200000 in
theorem sameKv_any (v u : Value) (l m : List Kv.Item) (w : World) (hv : ReadsK w v l) (hu : ReadsK w u m) :
    Calls Try.prog 23 #[v, u] w (Looks w (.bool (decide (l = m)))) := by
  obtain ⟨ao, cap, rfl, hc1, hc2⟩ := ReadsK.shape hv
  obtain ⟨bo, bcap, rfl, hd1, hd2⟩ := ReadsK.shape hu
  have HP := Lib.hid (fun h => ReadsK.places hv h)
  have HQ := Lib.hid (fun h => ReadsK.places hu h)
  obtain ⟨r, hr⟩ : ∃ r, r = decide (l = m) := ⟨_, rfl⟩
  rw [← hr]
  have HR := Lib.hid hr
  obtain ⟨n, hnn⟩ : ∃ n, n = l.length := ⟨_, rfl⟩
  obtain ⟨p, hpp⟩ : ∃ p, p = m.length := ⟨_, rfl⟩
  rw [← hnn] at hc1 ⊢
  rw [← hpp] at hd1 ⊢
  have HN := Lib.hid hnn
  have HM := Lib.hid hpp
  have hnb : n < 9223372036854775808 := by omega
  have hpb : p < 9223372036854775808 := by omega
  clear hv hu hnn hpp hr
  by_cases hnp : n = p
  · subst hnp
    have hne : ((n : Int) != (n : Int)) = false := by simp
    go_enter Try.func23, Try.ntmps23
    go_wp2
    go_loopw [5] (fun i wr => ∃ k : Nat, i = .int .i64 (k : Int) ∧ k ≤ n ∧ Hid (l.take k = m.take k) ∧ Below w.heap.size w wr) (fun i _ => n - (intOf i).toNat)
    case atStart => exact ⟨0, rfl, by omega, by show _ = _; simp, Below.refl _ _⟩
    case round =>
      obtain ⟨k, rfl, hk, HI, hB⟩ := hrel
      have HB := Lib.hid hB
      clear hB
      by_cases hlt : k < n
      · obtain ⟨a, ha⟩ : ∃ e, l[k]? = some e := ⟨_, List.getElem?_eq_getElem (by have := HN.out; omega)⟩
        obtain ⟨b, hb⟩ : ∃ e, m[k]? = some e := ⟨_, List.getElem?_eq_getElem (by have := HM.out; omega)⟩
        obtain ⟨g, off, rfl, hgl, hcell⟩ := HP.out (by have := HN.out; omega)
        obtain ⟨h, oof, rfl, hhl, hdell⟩ := HQ.out (by have := HM.out; omega)
        obtain ⟨c0, c1, c2⟩ := hcell wr HB.out k a ha
        obtain ⟨d0, d1, d2⟩ := hdell wr HB.out k b hb
        have HA := Lib.hid ha; have HBB := Lib.hid hb
        have hgd := guard_kv
        have hneq := fun W => run_neq_kv W a b
        obtain ⟨t, ht⟩ : ∃ t, t = decide (a = b) := ⟨_, rfl⟩
        rw [← ht] at hneq
        have HT := Lib.hid ht
        dsimp only [Kv.cells] at hneq
        clear hcell hdell ha hb ht
        cases t with
        | true =>
          have HZ : Hid (l.take (k + 1) = m.take (k + 1)) := by
            show _ = _
            rw [List.take_add_one, List.take_add_one, HA.out, HBB.out, HI.out, of_decide_eq_true HT.out.symm]
          simp only [Bool.not_true] at hneq
          go_wp2
          go_quiet (fail)
          all_goals
            go_wp2
            go_roundw
            case rel => exact ⟨k + 1, by go_num, by omega, HZ.out, HB.out.trans ((drawn wr _).mono HB.out.size)⟩
            case measure => simp [intOf]; omega
        | false =>
          have HZ : Hid (r = false) := by
            show _ = _
            rw [HR.out]
            refine decide_eq_false fun h => ?_
            have h1 := HA.out
            rw [h, HBB.out] at h1
            exact of_decide_eq_false HT.out.symm (Option.some.inj h1).symm
          simp only [Bool.not_false] at hneq
          go_wp2
          go_quiet (fail)
          all_goals
            go_wp2
            go_ret
            exact ⟨by rw [HZ.out]; rfl, HB.out.trans ((drawn wr _).mono HB.out.size)⟩
      · have HZ : Hid (r = true) := by
          show _ = _
          rw [HR.out]
          refine decide_eq_true ?_
          have := HI.out
          rwa [List.take_of_length_le (by have := HN.out; omega), List.take_of_length_le (by have := HM.out; omega)] at this
        go_wp2
        go_ret
        exact ⟨by rw [HZ.out]; rfl, HB.out⟩
  · have hne : ((n : Int) != (p : Int)) = true := by simp; omega
    have HZ : Hid (r = false) := by
      show _ = _
      rw [HR.out]
      exact decide_eq_false fun h => hnp (by rw [HN.out, HM.out, h])
    go_enter Try.func23, Try.ntmps23
    go_wp2
    go_ret
    exact ⟨by rw [HZ.out]; rfl, Below.refl _ _⟩

set_option maxRecDepth 4000 in
set_option maxHeartbeats 3200000 in
theorem refCheck2Kv_any (v : Value) (l : List Kv.Item) (w : World) (hv : ReadsK w v l) (hs : ∀ e ∈ l, e.key.length ≤ 140737488355328 ∧ e.val.length ≤ 140737488355328) :
    Calls Try.prog 17 #[.int .i64 2, v] w (Looks w (.bool (Kv.refCheck2 l))) := by
  have HV := Lib.hid hv
  obtain ⟨ao, cap, rfl, hc1, hc2⟩ := ReadsK.shape hv
  have HP := Lib.hid (fun h => ReadsK.places hv h)
  have HS := Lib.hid hs
  obtain ⟨n, hnn⟩ : ∃ n, n = l.length := ⟨_, rfl⟩
  rw [← hnn] at hc1 HV ⊢
  have HN := Lib.hid hnn
  obtain ⟨r, hr⟩ : ∃ r, r = Kv.refCheck2 l := ⟨_, rfl⟩
  rw [← hr]
  have HR := Lib.hid hr
  have hnb : n < 9223372036854775808 := by omega
  clear hv hnn hr hs
  go_enter Try.func17, Try.ntmps17
  go_wp2
  go_loopw [5] (fun i wr => ∃ k : Nat, i = .int .i64 (k : Int) ∧ k ≤ n ∧ Hid (∀ (j : Nat) (e : Kv.Item), j < k → l[j]? = some e → Kv.valid2 e = true) ∧ Below w.heap.size w wr) (fun i _ => n - (intOf i).toNat)
  case atStart => exact ⟨0, rfl, by omega, fun j e hj => by omega, Below.refl _ _⟩
  case round =>
    obtain ⟨k, rfl, hk, HI, hB⟩ := hrel
    have HB := Lib.hid hB
    clear hB
    by_cases hlt : k < n
    · obtain ⟨s, hse⟩ : ∃ s, l[k]? = some s := ⟨_, List.getElem?_eq_getElem (by have := HN.out; omega)⟩
      obtain ⟨g, off, rfl, hgl, hcell⟩ := HP.out (by have := HN.out; omega)
      obtain ⟨c0, c1, c2⟩ := hcell wr HB.out k s hse
      have HS1 := Lib.hid hse
      obtain ⟨hs1, hs2⟩ := HS.out s (List.mem_of_getElem? hse)
      have hkey := fun W => refKey_any ⟨s.key.toArray⟩ W (by rw [str_size]; exact hs1)
      have hval := fun W => refVal_any ⟨s.val.toArray⟩ W (by rw [str_size]; exact hs2)
      obtain ⟨t1, ht1⟩ : ∃ t, Rn.key ⟨s.key.toArray⟩ = t := ⟨_, rfl⟩
      obtain ⟨t2, ht2⟩ : ∃ t, Rn.val ⟨s.val.toArray⟩ = t := ⟨_, rfl⟩
      obtain ⟨t3, ht3⟩ : ∃ t, decide (s.rev < 1) = t := ⟨_, rfl⟩
      obtain ⟨t4, ht4⟩ : ∃ t, decide (4294967296 < s.rev) = t := ⟨_, rfl⟩
      have HVA : Hid (Kv.valid2 s = (t1 && (t2 && (!t3 && !t4)))) := by
        show _ = _
        rw [← ht1, ← ht2, ← ht3, ← ht4, Kv.valid2, Kv.inRev]
        rw [show (decide (1 ≤ s.rev)) = !decide (s.rev < 1) by rw [← decide_not]; exact decide_eq_decide.2 (by omega), show (decide (s.rev ≤ 4294967296)) = !decide (4294967296 < s.rev) by rw [← decide_not]; exact decide_eq_decide.2 (by omega)]
      rw [ht1] at hkey
      rw [ht2] at hval
      have HKEY := Lib.hid hkey
      have HVAL := Lib.hid hval
      clear hcell hse ht1 ht2 hs1 hs2 hkey hval
      cases t1 with
      | false =>
        have HZ : Hid (r = false) := by show _ = _; rw [HR.out]; exact Kv.all_no2 HS1.out (by rw [HVA.out]; rfl)
        go_wp2_with (go_at_call 28; refine (HKEY.out _).mono ?_; rintro e w' ⟨rfl, rfl⟩)
        go_ret
        exact ⟨by rw [HZ.out]; rfl, HB.out⟩
      | true =>
        cases t2 with
        | false =>
          have HZ : Hid (r = false) := by show _ = _; rw [HR.out]; exact Kv.all_no2 HS1.out (by rw [HVA.out]; rfl)
          go_wp2_with (first
            | (go_at_call 28; refine (HKEY.out _).mono ?_; rintro e w' ⟨rfl, rfl⟩)
            | (go_at_call 29; refine (HVAL.out _).mono ?_; rintro e w' ⟨rfl, rfl⟩))
          go_ret
          exact ⟨by rw [HZ.out]; rfl, HB.out⟩
        | true =>
          cases t3 with
          | true =>
            have HZ : Hid (r = false) := by show _ = _; rw [HR.out]; exact Kv.all_no2 HS1.out (by rw [HVA.out]; rfl)
            go_wp2_with (first
              | (go_at_call 28; refine (HKEY.out _).mono ?_; rintro e w' ⟨rfl, rfl⟩)
              | (go_at_call 29; refine (HVAL.out _).mono ?_; rintro e w' ⟨rfl, rfl⟩))
            go_ret
            exact ⟨by rw [HZ.out]; rfl, HB.out⟩
          | false =>
            cases t4 with
              | true =>
                have HZ : Hid (r = false) := by show _ = _; rw [HR.out]; exact Kv.all_no2 HS1.out (by rw [HVA.out]; rfl)
                go_wp2_with (first
                  | (go_at_call 28; refine (HKEY.out _).mono ?_; rintro e w' ⟨rfl, rfl⟩)
                  | (go_at_call 29; refine (HVAL.out _).mono ?_; rintro e w' ⟨rfl, rfl⟩))
                go_ret
                exact ⟨by rw [HZ.out]; rfl, HB.out⟩
              | false =>
                have HZ : Hid (∀ (j : Nat) (e : Kv.Item), j < k + 1 → l[j]? = some e → Kv.valid2 e = true) := by
                  intro j d hj hd
                  by_cases hjk : j = k
                  · subst hjk; rw [HS1.out] at hd; cases hd; rw [HVA.out]; rfl
                  · exact HI.out j d (by omega) hd
                go_wp2_with (first
                  | (go_at_call 28; refine (HKEY.out _).mono ?_; rintro e w' ⟨rfl, rfl⟩)
                  | (go_at_call 29; refine (HVAL.out _).mono ?_; rintro e w' ⟨rfl, rfl⟩))
                go_roundw
                case rel => exact ⟨k + 1, by go_num, by omega, HZ.out, HB.out⟩
                case measure => simp [intOf]; omega
    · have HZ0 : Hid (r = (decide (n ≤ 64) && Kv.rises l)) := by
        show _ = _
        rw [HR.out, Kv.all_yes2 fun j e he => HI.out j e (by have := HN.out; have := (List.getElem?_eq_some_iff.1 he).1; omega) he, ← HN.out]
      by_cases h64 : n ≤ 64
      · have d1 : decide ((n : Int) ≤ 64) = true := by simp; omega
        have HZ : Hid (r = Kv.rises l) := by show _ = _; rw [HZ0.out, decide_eq_true h64]; rfl
        have hrise := riseKv_any _ l wr (HV.out.below HB.out)
        go_wp2_with (go_at_call 30; refine hrise.mono ?_; rintro e w2 ⟨rfl, hB2⟩)
        go_ret
        exact ⟨by rw [HZ.out]; rfl, HB.out.trans (hB2.mono HB.out.size)⟩
      · have d1 : decide ((n : Int) ≤ 64) = false := by simp; omega
        have HZ : Hid (r = false) := by show _ = _; rw [HZ0.out, decide_eq_false h64]; rfl
        go_wp2
        go_ret
        exact ⟨by rw [HZ.out]; rfl, HB.out⟩

end Go.Proofs.Ytgcjjlkjlabneaa
