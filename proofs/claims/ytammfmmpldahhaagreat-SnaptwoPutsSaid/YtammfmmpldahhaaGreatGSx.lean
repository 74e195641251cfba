/- Several texts of mine in one: KvRef KwRef SeRef MgEq MgSame MgRef. -/
import Derived.Test.YtammfmmpldahhaaGreatGSu
import Derived.Test.YtammfmmpldahhaaGreatGRune
import Derived.Test.YtammfmmpldahhaaGreatOnce
import Derived.Deep.QuietTactic
import Derived.BigQuiet
import Derived.Test.YtammfmmpldahhaaGreatGSt
import Derived.Test.YtammfmmpldahhaaGreatGSv
import Derived.Test.YtammfmmpldahhaaGreatAnsRefC
import Derived.Test.YtammfmmpldahhaaGreatGSw
namespace Go.Proofs.YtammfmmpldahhaaGreat
open Go.RowKit

set_option maxRecDepth 4000 in
set_option maxHeartbeats 1600000 in
theorem riseKv_any (v : Value) (l : List Kv.Item) (w : World) (hv : ReadsK w v l) :
    Calls Tryz.prog 52 #[v] w (Looks w (.bool (Kv.rises l))) := by
  obtain ⟨ao, cap, rfl, hc1, hc2⟩ := ReadsK.shape hv
  have HP := Lib.hid (fun h => ReadsK.places hv h)
  obtain ⟨n, hnn⟩ : ∃ n, n = l.length := ⟨_, rfl⟩
  rw [← hnn] at hc1 ⊢
  have HN := Lib.hid hnn
  obtain ⟨r, hr⟩ : ∃ r, r = Kv.rises l := ⟨_, rfl⟩
  rw [← hr]
  have HR := Lib.hid hr
  have hnb : n < 9223372036854775808 := by omega
  clear hv hnn hr
  go_enter Tryz.func52, Tryz.ntmps52
  go_wp2
  go_loopw [3] (fun i wr => ∃ q : Nat, i = .int .i64 ((q + 1 : Nat) : Int) ∧ (q ≤ n) ∧ Hid (∀ (j : Nat) (a b : Kv.Item), j < q → l[j]? = some a → l[j + 1]? = some b → a.key < b.key) ∧ Below w.heap.size w wr) (fun i _ => n + 1 - (intOf i).toNat)
  case atStart => exact ⟨0, rfl, by omega, fun j a b hj => by omega, Below.refl _ _⟩
  case round =>
    obtain ⟨q, rfl, hq, HI, hB⟩ := hrel
    have HB := Lib.hid hB
    clear hB
    obtain ⟨k, hk⟩ : ∃ k, k = q + 1 := ⟨_, rfl⟩
    rw [← hk]
    have HK := Lib.hid hk
    have hkq : (k : Int) - 1 = (q : Int) := by omega
    by_cases hlt : k < n
    · obtain ⟨e, he⟩ : ∃ e, l[k]? = some e := ⟨_, List.getElem?_eq_getElem (by have := HN.out; omega)⟩
      obtain ⟨d, hd⟩ : ∃ d, l[q]? = some d := ⟨_, List.getElem?_eq_getElem (by have := HN.out; omega)⟩
      obtain ⟨g, off, rfl, hgl, hcell⟩ := HP.out (by have := HN.out; omega)
      have c0 := (hcell wr HB.out k e he).c0
      have d0 := (hcell wr HB.out q d hd).c0
      have hqn : q < n := by omega
      have HE := Lib.hid he; have HD := Lib.hid hd
      clear hcell he hd hk
      have hle := fun W => run_leq_str W e.key d.key
      by_cases hx : ¬ d.key < e.key
      · have HZ : Hid (r = false) := by show _ = _; rw [HR.out]; exact Kv.rises_no HD.out (by rw [← HK.out]; exact HE.out) hx
        rw [decide_eq_false hx, Bool.not_false] at hle
        clear hx
        go_wp2
        go_quiet (fail)
        all_goals
          go_wp2
          go_ret
          exact ⟨by rw [HZ.out]; rfl, HB.out.trans ((drawn wr _).mono HB.out.size)⟩
      · have HZ : Hid (∀ (j : Nat) (a b : Kv.Item), j < k → l[j]? = some a → l[j + 1]? = some b → a.key < b.key) := by
          intro j a b hj ha hb
          by_cases hjk : j = q
          · subst hjk
            rw [HD.out] at ha
            rw [← HK.out, HE.out] at hb
            cases ha; cases hb
            exact Classical.not_not.1 hx
          · exact HI.out j a b (by have := HK.out; omega) ha hb
        rw [decide_eq_true (Classical.not_not.1 hx), Bool.not_true] at hle
        clear hx
        go_wp2
        go_quiet (fail)
        all_goals
          go_wp2
          go_roundw
          case rel => exact ⟨k, by go_num, by omega, HZ.out, HB.out.trans ((drawn wr _).mono HB.out.size)⟩
          case measure => simp [intOf]; omega
    · have HZ : Hid (r = true) := by
        show _ = _
        rw [HR.out]
        refine Kv.rises_yes fun j a b ha hb => HI.out j a b ?_ ha hb
        have := HK.out; have := HN.out; have := (List.getElem?_eq_some_iff.1 hb).1
        omega
      clear hk
      go_wp2
      go_ret
      exact ⟨by rw [HZ.out]; rfl, HB.out⟩

set_option maxRecDepth 8000 in
set_option maxHeartbeats 3200000 in
theorem largeKv_any (v : Value) (l : List Kv.Item) (w : World) (hv : ReadsK w v l) (hs : ∀ e ∈ l, e.key.length ≤ 9223372036854775807 ∧ e.val.length ≤ 9223372036854775807) :
    Calls Tryz.prog 20 #[v] w (Looks w (.bool (Kv.large l))) := by
  obtain ⟨ao, cap, rfl, hc1, hc2⟩ := ReadsK.shape hv
  have HP := Lib.hid (fun h => ReadsK.places hv h)
  have HS := Lib.hid hs
  obtain ⟨n, hnn⟩ : ∃ n, n = l.length := ⟨_, rfl⟩
  rw [← hnn] at hc1 ⊢
  have HN := Lib.hid hnn
  obtain ⟨r, hr⟩ : ∃ r, r = Kv.large l := ⟨_, rfl⟩
  rw [← hr]
  have HR := Lib.hid hr
  have hnb : n < 9223372036854775808 := by omega
  clear hv hnn hr hs
  go_enter Tryz.func20, Tryz.ntmps20
  go_wp2
  go_loopw [3] (fun i wr => ∃ k : Nat, i = .int .i64 (k : Int) ∧ k ≤ n ∧ k ≤ 80 ∧ Hid (∀ (j : Nat) (e : Kv.Item), j < k → l[j]? = some e → Kv.long e = false) ∧ Below w.heap.size w wr) (fun i _ => 80 - (intOf i).toNat)
  case atStart => exact ⟨0, rfl, by omega, by omega, fun j e hj => by omega, Below.refl _ _⟩
  case round =>
    obtain ⟨k, rfl, hk, hk80, HI, hB⟩ := hrel
    have HB := Lib.hid hB
    clear hB
    by_cases hlt : k < n
    · by_cases hlt80 : k < 80
      · obtain ⟨e, he⟩ : ∃ e, l[k]? = some e := ⟨_, List.getElem?_eq_getElem (by have := HN.out; omega)⟩
        obtain ⟨g, off, rfl, hgl, hcell⟩ := HP.out (by have := HN.out; omega)
        obtain ⟨c0, c1, _⟩ := hcell wr HB.out k e he
        have HE := Lib.hid he
        obtain ⟨hs1, hs2⟩ := HS.out e (List.mem_of_getElem? he)
        have k1 := str_size e.key
        have k2 := str_size e.val
        obtain ⟨x1, hx1⟩ : ∃ x, x = e.key.length := ⟨_, rfl⟩
        obtain ⟨x2, hx2⟩ : ∃ x, x = e.val.length := ⟨_, rfl⟩
        have HL : Hid (Kv.long e = (decide (200 < x1) || decide (200 < x2))) := by show _ = _; rw [Kv.long, hx1, hx2]
        rw [← hx1] at k1 hs1
        rw [← hx2] at k2 hs2
        clear hcell he hx1 hx2
        by_cases h1 : 200 < x1
        · have HZ : Hid (r = true) := by show _ = _; rw [HR.out]; exact Kv.large_yes HE.out hlt80 (by rw [HL.out]; simp [h1])
          have d1 : decide ((200 : Int) < (x1 : Int)) = true := by simp; omega
          go_wp2
          go_ret
          exact ⟨by rw [HZ.out]; rfl, HB.out⟩
        · have d1 : decide ((200 : Int) < (x1 : Int)) = false := by simp; omega
          by_cases h2 : 200 < x2
          · have HZ : Hid (r = true) := by show _ = _; rw [HR.out]; exact Kv.large_yes HE.out hlt80 (by rw [HL.out]; simp [h2])
            have d2 : decide ((200 : Int) < (x2 : Int)) = true := by simp; omega
            go_wp2
            go_ret
            exact ⟨by rw [HZ.out]; rfl, HB.out⟩
          · have d2 : decide ((200 : Int) < (x2 : Int)) = false := by simp; omega
            have HZ : Hid (∀ (j : Nat) (e : Kv.Item), j < k + 1 → l[j]? = some e → Kv.long e = false) := by
              intro j d hj hd
              by_cases hjk : j = k
              · subst hjk; rw [HE.out] at hd; cases hd; rw [HL.out]; simp [h1, h2]
              · exact HI.out j d (by omega) hd
            go_wp2
            go_roundw
            case rel => exact ⟨k + 1, by go_num, by omega, by omega, HZ.out, HB.out⟩
            case measure => simp [intOf]; omega
      · obtain rfl : k = 80 := by omega
        have HZ : Hid (r = true) := by
          show _ = _
          rw [HR.out, Kv.large_no HI.out]
          exact decide_eq_true (by rw [← HN.out]; exact hlt)
        have d1 : decide ((80 : Int) < (n : Int)) = true := by simp; omega
        go_wp2
        go_ret
        exact ⟨by rw [HZ.out]; rfl, HB.out⟩
    · have HZ : Hid (r = decide ((80 : Int) < (n : Int))) := by
        show _ = _
        rw [HR.out, Kv.large_no fun j e h80 he => HI.out j e (by have := HN.out; have := (List.getElem?_eq_some_iff.1 he).1; omega) he, ← HN.out]
        exact decide_eq_decide.2 (by omega)
      have d1 : decide ((80 : Int) < (n : Int)) = false := by simp; omega
      go_wp2
      go_ret
      exact ⟨by rw [HZ.out, d1]; rfl, HB.out⟩

set_option maxRecDepth 4000 in
set_option maxHeartbeats 3200000 in
theorem refCheckKv_any (v : Value) (l : List Kv.Item) (w : World) (hv : ReadsK w v l) (hs : ∀ e ∈ l, e.key.length ≤ 140737488355328 ∧ e.val.length ≤ 140737488355328) :
    Calls Tryz.prog 27 #[.int .i64 1, v] w (Looks w (.bool (Kv.refCheck l))) := by
  have HV := Lib.hid hv
  obtain ⟨ao, cap, rfl, hc1, hc2⟩ := ReadsK.shape hv
  have HP := Lib.hid (fun h => ReadsK.places hv h)
  have HS := Lib.hid hs
  obtain ⟨n, hnn⟩ : ∃ n, n = l.length := ⟨_, rfl⟩
  rw [← hnn] at hc1 HV ⊢
  have HN := Lib.hid hnn
  obtain ⟨r, hr⟩ : ∃ r, r = Kv.refCheck l := ⟨_, rfl⟩
  rw [← hr]
  have HR := Lib.hid hr
  have hnb : n < 9223372036854775808 := by omega
  clear hv hnn hr hs
  go_enter Tryz.func27, Tryz.ntmps27
  go_wp2
  go_loopw [5] (fun i wr => ∃ k : Nat, i = .int .i64 (k : Int) ∧ k ≤ n ∧ Hid (∀ (j : Nat) (e : Kv.Item), j < k → l[j]? = some e → Kv.valid e = true) ∧ Below w.heap.size w wr) (fun i _ => n - (intOf i).toNat)
  case atStart => exact ⟨0, rfl, by omega, fun j e hj => by omega, Below.refl _ _⟩
  case round =>
    obtain ⟨k, rfl, hk, HI, hB⟩ := hrel
    have HB := Lib.hid hB
    clear hB
    by_cases hlt : k < n
    · obtain ⟨s, hse⟩ : ∃ s, l[k]? = some s := ⟨_, List.getElem?_eq_getElem (by have := HN.out; omega)⟩
      obtain ⟨g, off, rfl, hgl, hcell⟩ := HP.out (by have := HN.out; omega)
      obtain ⟨c0, c1, c2⟩ := hcell wr HB.out k s hse
      have HS1 := Lib.hid hse
      obtain ⟨hs1, hs2⟩ := HS.out s (List.mem_of_getElem? hse)
      have hkey := fun W => refKey_any ⟨s.key.toArray⟩ W (by rw [str_size]; exact hs1)
      have hval := fun W => refVal_any ⟨s.val.toArray⟩ W (by rw [str_size]; exact hs2)
      obtain ⟨t1, ht1⟩ : ∃ t, Rn.key ⟨s.key.toArray⟩ = t := ⟨_, rfl⟩
      obtain ⟨t2, ht2⟩ : ∃ t, Rn.val ⟨s.val.toArray⟩ = t := ⟨_, rfl⟩
      obtain ⟨t3, ht3⟩ : ∃ t, (s.rev != 0) = t := ⟨_, rfl⟩
      have HVA : Hid (Kv.valid s = (t1 && (t2 && !t3))) := by
        show _ = _
        rw [← ht1, ← ht2, ← ht3]
        simp [Kv.valid, bne]
      rw [ht1] at hkey
      rw [ht2] at hval
      have HKEY := Lib.hid hkey
      have HVAL := Lib.hid hval
      clear hcell hse ht1 ht2 hs1 hs2 hkey hval
      cases t1 with
      | false =>
        have HZ : Hid (r = false) := by show _ = _; rw [HR.out]; exact Kv.all_no HS1.out (by rw [HVA.out]; rfl)
        go_wp2_with (go_at_call 50; refine (HKEY.out _).mono ?_; rintro e w' ⟨rfl, rfl⟩)
        go_ret
        exact ⟨by rw [HZ.out]; rfl, HB.out⟩
      | true =>
        cases t2 with
        | false =>
          have HZ : Hid (r = false) := by show _ = _; rw [HR.out]; exact Kv.all_no HS1.out (by rw [HVA.out]; rfl)
          go_wp2_with (first
            | (go_at_call 50; refine (HKEY.out _).mono ?_; rintro e w' ⟨rfl, rfl⟩)
            | (go_at_call 51; refine (HVAL.out _).mono ?_; rintro e w' ⟨rfl, rfl⟩))
          go_ret
          exact ⟨by rw [HZ.out]; rfl, HB.out⟩
        | true =>
          cases t3 with
          | true =>
            have HZ : Hid (r = false) := by show _ = _; rw [HR.out]; exact Kv.all_no HS1.out (by rw [HVA.out]; rfl)
            go_wp2_with (first
              | (go_at_call 50; refine (HKEY.out _).mono ?_; rintro e w' ⟨rfl, rfl⟩)
              | (go_at_call 51; refine (HVAL.out _).mono ?_; rintro e w' ⟨rfl, rfl⟩))
            go_ret
            exact ⟨by rw [HZ.out]; rfl, HB.out⟩
          | false =>
            have HZ : Hid (∀ (j : Nat) (e : Kv.Item), j < k + 1 → l[j]? = some e → Kv.valid e = true) := by
              intro j d hj hd
              by_cases hjk : j = k
              · subst hjk; rw [HS1.out] at hd; cases hd; rw [HVA.out]; rfl
              · exact HI.out j d (by omega) hd
            go_wp2_with (first
              | (go_at_call 50; refine (HKEY.out _).mono ?_; rintro e w' ⟨rfl, rfl⟩)
              | (go_at_call 51; refine (HVAL.out _).mono ?_; rintro e w' ⟨rfl, rfl⟩))
            go_roundw
            case rel => exact ⟨k + 1, by go_num, by omega, HZ.out, HB.out⟩
            case measure => simp [intOf]; omega
    · have HZ0 : Hid (r = (decide (n ≤ 64) && Kv.rises l)) := by
        show _ = _
        rw [HR.out, Kv.all_yes fun j e he => HI.out j e (by have := HN.out; have := (List.getElem?_eq_some_iff.1 he).1; omega) he, ← HN.out]
      by_cases h64 : n ≤ 64
      · have d1 : decide ((n : Int) ≤ 64) = true := by simp; omega
        have HZ : Hid (r = Kv.rises l) := by show _ = _; rw [HZ0.out, decide_eq_true h64]; rfl
        have hrise := riseKv_any _ l wr (HV.out.below HB.out)
        go_wp2_with (go_at_call 52; refine hrise.mono ?_; rintro e w2 ⟨rfl, hB2⟩)
        go_ret
        exact ⟨by rw [HZ.out]; rfl, HB.out.trans (hB2.mono HB.out.size)⟩
      · have d1 : decide ((n : Int) ≤ 64) = false := by simp; omega
        have HZ : Hid (r = false) := by show _ = _; rw [HZ0.out, decide_eq_false h64]; rfl
        go_wp2
        go_ret
        exact ⟨by rw [HZ.out]; rfl, HB.out⟩

end Go.Proofs.YtammfmmpldahhaaGreat


namespace Go.Proofs.YtammfmmpldahhaaGreat
open Go.RowKit

set_option maxRecDepth 4000 in
set_option maxHeartbeats 3200000 in
theorem sameKv_any (v u : Value) (l m : List Kv.Item) (w : World) (hv : ReadsK w v l) (hu : ReadsK w u m) :
    Calls Tryz.prog 34 #[v, u] w (Looks w (.bool (decide (l = m)))) := by
  obtain ⟨ao, cap, rfl, hc1, hc2⟩ := ReadsK.shape hv
  obtain ⟨bo, bcap, rfl, hd1, hd2⟩ := ReadsK.shape hu
  have HP := Lib.hid (fun h => ReadsK.places hv h)
  have HQ := Lib.hid (fun h => ReadsK.places hu h)
  obtain ⟨r, hr⟩ : ∃ r, r = decide (l = m) := ⟨_, rfl⟩
  rw [← hr]
  have HR := Lib.hid hr
  obtain ⟨n, hnn⟩ : ∃ n, n = l.length := ⟨_, rfl⟩
  obtain ⟨p, hpp⟩ : ∃ p, p = m.length := ⟨_, rfl⟩
  rw [← hnn] at hc1 ⊢
  rw [← hpp] at hd1 ⊢
  have HN := Lib.hid hnn
  have HM := Lib.hid hpp
  have hnb : n < 9223372036854775808 := by omega
  have hpb : p < 9223372036854775808 := by omega
  clear hv hu hnn hpp hr
  by_cases hnp : n = p
  · subst hnp
    have hne : ((n : Int) != (n : Int)) = false := by simp
    go_enter Tryz.func34, Tryz.ntmps34
    go_wp2
    go_loopw [5] (fun i wr => ∃ k : Nat, i = .int .i64 (k : Int) ∧ k ≤ n ∧ Hid (l.take k = m.take k) ∧ Below w.heap.size w wr) (fun i _ => n - (intOf i).toNat)
    case atStart => exact ⟨0, rfl, by omega, by show _ = _; simp, Below.refl _ _⟩
    case round =>
      obtain ⟨k, rfl, hk, HI, hB⟩ := hrel
      have HB := Lib.hid hB
      clear hB
      by_cases hlt : k < n
      · obtain ⟨a, ha⟩ : ∃ e, l[k]? = some e := ⟨_, List.getElem?_eq_getElem (by have := HN.out; omega)⟩
        obtain ⟨b, hb⟩ : ∃ e, m[k]? = some e := ⟨_, List.getElem?_eq_getElem (by have := HM.out; omega)⟩
        obtain ⟨g, off, rfl, hgl, hcell⟩ := HP.out (by have := HN.out; omega)
        obtain ⟨h, oof, rfl, hhl, hdell⟩ := HQ.out (by have := HM.out; omega)
        obtain ⟨c0, c1, c2⟩ := hcell wr HB.out k a ha
        obtain ⟨d0, d1, d2⟩ := hdell wr HB.out k b hb
        have HA := Lib.hid ha; have HBB := Lib.hid hb
        have hgd := guard_kv
        have hneq := fun W => run_neq_kv W a b
        obtain ⟨t, ht⟩ : ∃ t, t = decide (a = b) := ⟨_, rfl⟩
        rw [← ht] at hneq
        have HT := Lib.hid ht
        dsimp only [Kv.cells] at hneq
        clear hcell hdell ha hb ht
        cases t with
        | true =>
          have HZ : Hid (l.take (k + 1) = m.take (k + 1)) := by
            show _ = _
            rw [List.take_add_one, List.take_add_one, HA.out, HBB.out, HI.out, of_decide_eq_true HT.out.symm]
          simp only [Bool.not_true] at hneq
          go_wp2
          go_quiet (fail)
          all_goals
            go_wp2
            go_roundw
            case rel => exact ⟨k + 1, by go_num, by omega, HZ.out, HB.out.trans ((drawn wr _).mono HB.out.size)⟩
            case measure => simp [intOf]; omega
        | false =>
          have HZ : Hid (r = false) := by
            show _ = _
            rw [HR.out]
            refine decide_eq_false fun h => ?_
            have h1 := HA.out
            rw [h, HBB.out] at h1
            exact of_decide_eq_false HT.out.symm (Option.some.inj h1).symm
          simp only [Bool.not_false] at hneq
          go_wp2
          go_quiet (fail)
          all_goals
            go_wp2
            go_ret
            exact ⟨by rw [HZ.out]; rfl, HB.out.trans ((drawn wr _).mono HB.out.size)⟩
      · have HZ : Hid (r = true) := by
          show _ = _
          rw [HR.out]
          refine decide_eq_true ?_
          have := HI.out
          rwa [List.take_of_length_le (by have := HN.out; omega), List.take_of_length_le (by have := HM.out; omega)] at this
        go_wp2
        go_ret
        exact ⟨by rw [HZ.out]; rfl, HB.out⟩
  · have hne : ((n : Int) != (p : Int)) = true := by simp; omega
    have HZ : Hid (r = false) := by
      show _ = _
      rw [HR.out]
      exact decide_eq_false fun h => hnp (by rw [HN.out, HM.out, h])
    go_enter Tryz.func34, Tryz.ntmps34
    go_wp2
    go_ret
    exact ⟨by rw [HZ.out]; rfl, Below.refl _ _⟩

set_option maxRecDepth 4000 in
set_option maxHeartbeats 3200000 in
theorem refCheck2Kv_any (v : Value) (l : List Kv.Item) (w : World) (hv : ReadsK w v l) (hs : ∀ e ∈ l, e.key.length ≤ 140737488355328 ∧ e.val.length ≤ 140737488355328) :
    Calls Tryz.prog 27 #[.int .i64 2, v] w (Looks w (.bool (Kv.refCheck2 l))) := by
  have HV := Lib.hid hv
  obtain ⟨ao, cap, rfl, hc1, hc2⟩ := ReadsK.shape hv
  have HP := Lib.hid (fun h => ReadsK.places hv h)
  have HS := Lib.hid hs
  obtain ⟨n, hnn⟩ : ∃ n, n = l.length := ⟨_, rfl⟩
  rw [← hnn] at hc1 HV ⊢
  have HN := Lib.hid hnn
  obtain ⟨r, hr⟩ : ∃ r, r = Kv.refCheck2 l := ⟨_, rfl⟩
  rw [← hr]
  have HR := Lib.hid hr
  have hnb : n < 9223372036854775808 := by omega
  clear hv hnn hr hs
  go_enter Tryz.func27, Tryz.ntmps27
  go_wp2
  go_loopw [5] (fun i wr => ∃ k : Nat, i = .int .i64 (k : Int) ∧ k ≤ n ∧ Hid (∀ (j : Nat) (e : Kv.Item), j < k → l[j]? = some e → Kv.valid2 e = true) ∧ Below w.heap.size w wr) (fun i _ => n - (intOf i).toNat)
  case atStart => exact ⟨0, rfl, by omega, fun j e hj => by omega, Below.refl _ _⟩
  case round =>
    obtain ⟨k, rfl, hk, HI, hB⟩ := hrel
    have HB := Lib.hid hB
    clear hB
    by_cases hlt : k < n
    · obtain ⟨s, hse⟩ : ∃ s, l[k]? = some s := ⟨_, List.getElem?_eq_getElem (by have := HN.out; omega)⟩
      obtain ⟨g, off, rfl, hgl, hcell⟩ := HP.out (by have := HN.out; omega)
      obtain ⟨c0, c1, c2⟩ := hcell wr HB.out k s hse
      have HS1 := Lib.hid hse
      obtain ⟨hs1, hs2⟩ := HS.out s (List.mem_of_getElem? hse)
      have hkey := fun W => refKey_any ⟨s.key.toArray⟩ W (by rw [str_size]; exact hs1)
      have hval := fun W => refVal_any ⟨s.val.toArray⟩ W (by rw [str_size]; exact hs2)
      obtain ⟨t1, ht1⟩ : ∃ t, Rn.key ⟨s.key.toArray⟩ = t := ⟨_, rfl⟩
      obtain ⟨t2, ht2⟩ : ∃ t, Rn.val ⟨s.val.toArray⟩ = t := ⟨_, rfl⟩
      obtain ⟨t3, ht3⟩ : ∃ t, decide (s.rev < 1) = t := ⟨_, rfl⟩
      obtain ⟨t4, ht4⟩ : ∃ t, decide (4294967296 < s.rev) = t := ⟨_, rfl⟩
      have HVA : Hid (Kv.valid2 s = (t1 && (t2 && (!t3 && !t4)))) := by
        show _ = _
        rw [← ht1, ← ht2, ← ht3, ← ht4, Kv.valid2, Kv.inRev]
        rw [show (decide (1 ≤ s.rev)) = !decide (s.rev < 1) by rw [← decide_not]; exact decide_eq_decide.2 (by omega), show (decide (s.rev ≤ 4294967296)) = !decide (4294967296 < s.rev) by rw [← decide_not]; exact decide_eq_decide.2 (by omega)]
      rw [ht1] at hkey
      rw [ht2] at hval
      have HKEY := Lib.hid hkey
      have HVAL := Lib.hid hval
      clear hcell hse ht1 ht2 hs1 hs2 hkey hval
      cases t1 with
      | false =>
        have HZ : Hid (r = false) := by show _ = _; rw [HR.out]; exact Kv.all_no2 HS1.out (by rw [HVA.out]; rfl)
        go_wp2_with (go_at_call 50; refine (HKEY.out _).mono ?_; rintro e w' ⟨rfl, rfl⟩)
        go_ret
        exact ⟨by rw [HZ.out]; rfl, HB.out⟩
      | true =>
        cases t2 with
        | false =>
          have HZ : Hid (r = false) := by show _ = _; rw [HR.out]; exact Kv.all_no2 HS1.out (by rw [HVA.out]; rfl)
          go_wp2_with (first
            | (go_at_call 50; refine (HKEY.out _).mono ?_; rintro e w' ⟨rfl, rfl⟩)
            | (go_at_call 51; refine (HVAL.out _).mono ?_; rintro e w' ⟨rfl, rfl⟩))
          go_ret
          exact ⟨by rw [HZ.out]; rfl, HB.out⟩
        | true =>
          cases t3 with
          | true =>
            have HZ : Hid (r = false) := by show _ = _; rw [HR.out]; exact Kv.all_no2 HS1.out (by rw [HVA.out]; rfl)
            go_wp2_with (first
              | (go_at_call 50; refine (HKEY.out _).mono ?_; rintro e w' ⟨rfl, rfl⟩)
              | (go_at_call 51; refine (HVAL.out _).mono ?_; rintro e w' ⟨rfl, rfl⟩))
            go_ret
            exact ⟨by rw [HZ.out]; rfl, HB.out⟩
          | false =>
            cases t4 with
              | true =>
                have HZ : Hid (r = false) := by show _ = _; rw [HR.out]; exact Kv.all_no2 HS1.out (by rw [HVA.out]; rfl)
                go_wp2_with (first
                  | (go_at_call 50; refine (HKEY.out _).mono ?_; rintro e w' ⟨rfl, rfl⟩)
                  | (go_at_call 51; refine (HVAL.out _).mono ?_; rintro e w' ⟨rfl, rfl⟩))
                go_ret
                exact ⟨by rw [HZ.out]; rfl, HB.out⟩
              | false =>
                have HZ : Hid (∀ (j : Nat) (e : Kv.Item), j < k + 1 → l[j]? = some e → Kv.valid2 e = true) := by
                  intro j d hj hd
                  by_cases hjk : j = k
                  · subst hjk; rw [HS1.out] at hd; cases hd; rw [HVA.out]; rfl
                  · exact HI.out j d (by omega) hd
                go_wp2_with (first
                  | (go_at_call 50; refine (HKEY.out _).mono ?_; rintro e w' ⟨rfl, rfl⟩)
                  | (go_at_call 51; refine (HVAL.out _).mono ?_; rintro e w' ⟨rfl, rfl⟩))
                go_roundw
                case rel => exact ⟨k + 1, by go_num, by omega, HZ.out, HB.out⟩
                case measure => simp [intOf]; omega
    · have HZ0 : Hid (r = (decide (n ≤ 64) && Kv.rises l)) := by
        show _ = _
        rw [HR.out, Kv.all_yes2 fun j e he => HI.out j e (by have := HN.out; have := (List.getElem?_eq_some_iff.1 he).1; omega) he, ← HN.out]
      by_cases h64 : n ≤ 64
      · have d1 : decide ((n : Int) ≤ 64) = true := by simp; omega
        have HZ : Hid (r = Kv.rises l) := by show _ = _; rw [HZ0.out, decide_eq_true h64]; rfl
        have hrise := riseKv_any _ l wr (HV.out.below HB.out)
        go_wp2_with (go_at_call 52; refine hrise.mono ?_; rintro e w2 ⟨rfl, hB2⟩)
        go_ret
        exact ⟨by rw [HZ.out]; rfl, HB.out.trans (hB2.mono HB.out.size)⟩
      · have d1 : decide ((n : Int) ≤ 64) = false := by simp; omega
        have HZ : Hid (r = false) := by show _ = _; rw [HZ0.out, decide_eq_false h64]; rfl
        go_wp2
        go_ret
        exact ⟨by rw [HZ.out]; rfl, HB.out⟩

end Go.Proofs.YtammfmmpldahhaaGreat


namespace Go.Proofs.YtammfmmpldahhaaGreat
open Go.RowKit

set_option maxRecDepth 4000 in
set_option maxHeartbeats 1600000 in
theorem riseSe_any (v : Value) (l : List Se.Ses) (w : World) (hv : ReadsN w v l) :
    Calls Tryz.prog 54 #[v] w (Looks w (.bool (Se.rises l))) := by
  obtain ⟨ao, cap, rfl, hc1, hc2⟩ := ReadsN.shape hv
  have HP := Lib.hid (fun h => ReadsN.places hv h)
  obtain ⟨n, hnn⟩ : ∃ n, n = l.length := ⟨_, rfl⟩
  rw [← hnn] at hc1 ⊢
  have HN := Lib.hid hnn
  obtain ⟨r, hr⟩ : ∃ r, r = Se.rises l := ⟨_, rfl⟩
  rw [← hr]
  have HR := Lib.hid hr
  have hnb : n < 9223372036854775808 := by omega
  clear hv hnn hr
  go_enter Tryz.func54, Tryz.ntmps54
  go_wp2
  go_loopw [3] (fun i wr => ∃ q : Nat, i = .int .i64 ((q + 1 : Nat) : Int) ∧ (q ≤ n) ∧ Hid (∀ (j : Nat) (a b : Se.Ses), j < q → l[j]? = some a → l[j + 1]? = some b → a.client < b.client) ∧ Below w.heap.size w wr) (fun i _ => n + 1 - (intOf i).toNat)
  case atStart => exact ⟨0, rfl, by omega, fun j a b hj => by omega, Below.refl _ _⟩
  case round =>
    obtain ⟨q, rfl, hq, HI, hB⟩ := hrel
    have HB := Lib.hid hB
    clear hB
    obtain ⟨k, hk⟩ : ∃ k, k = q + 1 := ⟨_, rfl⟩
    rw [← hk]
    have HK := Lib.hid hk
    have hkq : (k : Int) - 1 = (q : Int) := by omega
    by_cases hlt : k < n
    · obtain ⟨e, he⟩ : ∃ e, l[k]? = some e := ⟨_, List.getElem?_eq_getElem (by have := HN.out; omega)⟩
      obtain ⟨d, hd⟩ : ∃ d, l[q]? = some d := ⟨_, List.getElem?_eq_getElem (by have := HN.out; omega)⟩
      obtain ⟨g, off, rfl, hgl, hcell⟩ := HP.out (by have := HN.out; omega)
      have c0 := (hcell wr HB.out k e he).c0
      have d0 := (hcell wr HB.out q d hd).c0
      have hqn : q < n := by omega
      have HE := Lib.hid he; have HD := Lib.hid hd
      clear hcell he hd hk
      by_cases hx : e.client ≤ d.client
      · have HZ : Hid (r = false) := by show _ = _; rw [HR.out]; exact Se.rises_no HD.out (by rw [← HK.out]; exact HE.out) hx
        have hx1 : decide (e.client ≤ d.client) = true := decide_eq_true hx
        clear hx
        go_wp2
        go_quiet (fail)
        all_goals
          go_wp2
          go_ret
          exact ⟨by rw [HZ.out]; rfl, HB.out.trans ((drawn wr _).mono HB.out.size)⟩
      · have HZ : Hid (∀ (j : Nat) (a b : Se.Ses), j < k → l[j]? = some a → l[j + 1]? = some b → a.client < b.client) := by
          intro j a b hj ha hb
          by_cases hjk : j = q
          · subst hjk
            rw [HD.out] at ha
            rw [← HK.out, HE.out] at hb
            cases ha; cases hb
            omega
          · exact HI.out j a b (by have := HK.out; omega) ha hb
        have hx1 : decide (e.client ≤ d.client) = false := decide_eq_false hx
        clear hx
        go_wp2
        go_quiet (fail)
        all_goals
          go_wp2
          go_roundw
          case rel => exact ⟨k, by go_num, by omega, HZ.out, HB.out.trans ((drawn wr _).mono HB.out.size)⟩
          case measure => simp [intOf]; omega
    · have HZ : Hid (r = true) := by
        show _ = _
        rw [HR.out]
        refine Se.rises_yes fun j a b ha hb => HI.out j a b ?_ ha hb
        have := HK.out; have := HN.out; have := (List.getElem?_eq_some_iff.1 hb).1
        omega
      clear hk
      go_wp2
      go_ret
      exact ⟨by rw [HZ.out]; rfl, HB.out⟩

set_option maxRecDepth 4000 in
set_option maxHeartbeats 3200000 in
theorem sameSe_any (v u : Value) (l m : List Se.Ses) (w : World) (hv : ReadsN w v l) (hu : ReadsN w u m) :
    Calls Tryz.prog 35 #[v, u] w (Looks w (.bool (decide (l = m)))) := by
  obtain ⟨ao, cap, rfl, hc1, hc2⟩ := ReadsN.shape hv
  obtain ⟨bo, bcap, rfl, hd1, hd2⟩ := ReadsN.shape hu
  have HP := Lib.hid (fun h => ReadsN.places hv h)
  have HQ := Lib.hid (fun h => ReadsN.places hu h)
  obtain ⟨r, hr⟩ : ∃ r, r = decide (l = m) := ⟨_, rfl⟩
  rw [← hr]
  have HR := Lib.hid hr
  obtain ⟨n, hnn⟩ : ∃ n, n = l.length := ⟨_, rfl⟩
  obtain ⟨p, hpp⟩ : ∃ p, p = m.length := ⟨_, rfl⟩
  rw [← hnn] at hc1 ⊢
  rw [← hpp] at hd1 ⊢
  have HN := Lib.hid hnn
  have HM := Lib.hid hpp
  have hnb : n < 9223372036854775808 := by omega
  have hpb : p < 9223372036854775808 := by omega
  clear hv hu hnn hpp hr
  by_cases hnp : n = p
  · subst hnp
    have hne : ((n : Int) != (n : Int)) = false := by simp
    go_enter Tryz.func35, Tryz.ntmps35
    go_wp2
    go_loopw [5] (fun i wr => ∃ k : Nat, i = .int .i64 (k : Int) ∧ k ≤ n ∧ Hid (l.take k = m.take k) ∧ Below w.heap.size w wr) (fun i _ => n - (intOf i).toNat)
    case atStart => exact ⟨0, rfl, by omega, by show _ = _; simp, Below.refl _ _⟩
    case round =>
      obtain ⟨k, rfl, hk, HI, hB⟩ := hrel
      have HB := Lib.hid hB
      clear hB
      by_cases hlt : k < n
      · obtain ⟨a, ha⟩ : ∃ e, l[k]? = some e := ⟨_, List.getElem?_eq_getElem (by have := HN.out; omega)⟩
        obtain ⟨b, hb⟩ : ∃ e, m[k]? = some e := ⟨_, List.getElem?_eq_getElem (by have := HM.out; omega)⟩
        obtain ⟨g, off, rfl, hgl, hcell⟩ := HP.out (by have := HN.out; omega)
        obtain ⟨h, oof, rfl, hhl, hdell⟩ := HQ.out (by have := HM.out; omega)
        obtain ⟨c0, c1, c2, c3, c4, c5, c6, c7⟩ := hcell wr HB.out k a ha
        obtain ⟨d0, d1, d2, d3, d4, d5, d6, d7⟩ := hdell wr HB.out k b hb
        have HA := Lib.hid ha; have HBB := Lib.hid hb
        have hgd := guard_ses
        have hneq := fun W => run_neq_ses W a b
        obtain ⟨t, ht⟩ : ∃ t, t = decide (a = b) := ⟨_, rfl⟩
        rw [← ht] at hneq
        have HT := Lib.hid ht
        dsimp only [Se.cells] at hneq
        clear hcell hdell ha hb ht
        cases t with
        | true =>
          have HZ : Hid (l.take (k + 1) = m.take (k + 1)) := by
            show _ = _
            rw [List.take_add_one, List.take_add_one, HA.out, HBB.out, HI.out, of_decide_eq_true HT.out.symm]
          simp only [Bool.not_true] at hneq
          go_wp2
          go_quiet (fail)
          all_goals
            go_wp2
            go_roundw
            case rel => exact ⟨k + 1, by go_num, by omega, HZ.out, HB.out.trans ((drawn wr _).mono HB.out.size)⟩
            case measure => simp [intOf]; omega
        | false =>
          have HZ : Hid (r = false) := by
            show _ = _
            rw [HR.out]
            refine decide_eq_false fun h => ?_
            have h1 := HA.out
            rw [h, HBB.out] at h1
            exact of_decide_eq_false HT.out.symm (Option.some.inj h1).symm
          simp only [Bool.not_false] at hneq
          go_wp2
          go_quiet (fail)
          all_goals
            go_wp2
            go_ret
            exact ⟨by rw [HZ.out]; rfl, HB.out.trans ((drawn wr _).mono HB.out.size)⟩
      · have HZ : Hid (r = true) := by
          show _ = _
          rw [HR.out]
          refine decide_eq_true ?_
          have := HI.out
          rwa [List.take_of_length_le (by have := HN.out; omega), List.take_of_length_le (by have := HM.out; omega)] at this
        go_wp2
        go_ret
        exact ⟨by rw [HZ.out]; rfl, HB.out⟩
  · have hne : ((n : Int) != (p : Int)) = true := by simp; omega
    have HZ : Hid (r = false) := by
      show _ = _
      rw [HR.out]
      exact decide_eq_false fun h => hnp (by rw [HN.out, HM.out, h])
    go_enter Tryz.func35, Tryz.ntmps35
    go_wp2
    go_ret
    exact ⟨by rw [HZ.out]; rfl, Below.refl _ _⟩

set_option maxRecDepth 4000 in
set_option maxHeartbeats 3200000 in
theorem largeSe_any (v : Value) (l : List Se.Ses) (w : World) (hv : ReadsN w v l) (hs : ∀ e ∈ l, e.last.val.length ≤ 9223372036854775807) :
    Calls Tryz.prog 19 #[v] w (Looks w (.bool (Se.large l))) := by
  obtain ⟨ao, cap, rfl, hc1, hc2⟩ := ReadsN.shape hv
  have HP := Lib.hid (fun h => ReadsN.places hv h)
  have HS := Lib.hid hs
  obtain ⟨n, hnn⟩ : ∃ n, n = l.length := ⟨_, rfl⟩
  rw [← hnn] at hc1 ⊢
  have HN := Lib.hid hnn
  obtain ⟨r, hr⟩ : ∃ r, r = Se.large l := ⟨_, rfl⟩
  rw [← hr]
  have HR := Lib.hid hr
  have hnb : n < 9223372036854775808 := by omega
  clear hv hnn hr hs
  go_enter Tryz.func19, Tryz.ntmps19
  go_wp2
  go_loopw [3] (fun i wr => ∃ k : Nat, i = .int .i64 (k : Int) ∧ k ≤ n ∧ k ≤ 40 ∧ Hid (∀ (j : Nat) (e : Se.Ses), j < k → l[j]? = some e → Se.long e = false) ∧ Below w.heap.size w wr) (fun i _ => 40 - (intOf i).toNat)
  case atStart => exact ⟨0, rfl, by omega, by omega, fun j e hj => by omega, Below.refl _ _⟩
  case round =>
    obtain ⟨k, rfl, hk, hk40, HI, hB⟩ := hrel
    have HB := Lib.hid hB
    clear hB
    by_cases hlt : k < n
    · by_cases hlt40 : k < 40
      · obtain ⟨e, he⟩ : ∃ e, l[k]? = some e := ⟨_, List.getElem?_eq_getElem (by have := HN.out; omega)⟩
        obtain ⟨g, off, rfl, hgl, hcell⟩ := HP.out (by have := HN.out; omega)
        obtain ⟨_, _, _, _, _, _, c6, _⟩ := hcell wr HB.out k e he
        have HE := Lib.hid he
        have hse := HS.out e (List.mem_of_getElem? he)
        have k1 := str_size e.last.val
        obtain ⟨x1, hx1⟩ : ∃ x, x = e.last.val.length := ⟨_, rfl⟩
        have HL : Hid (Se.long e = decide (200 < x1)) := by show _ = _; rw [Se.long, hx1]
        rw [← hx1] at k1 hse
        clear hcell he hx1
        by_cases h1 : 200 < x1
        · have HZ : Hid (r = true) := by show _ = _; rw [HR.out]; exact Se.large_yes HE.out hlt40 (by rw [HL.out]; simp [h1])
          have d1 : decide ((200 : Int) < (x1 : Int)) = true := by simp; omega
          go_wp2
          go_ret
          exact ⟨by rw [HZ.out]; rfl, HB.out⟩
        · have d1 : decide ((200 : Int) < (x1 : Int)) = false := by simp; omega
          have HZ : Hid (∀ (j : Nat) (e : Se.Ses), j < k + 1 → l[j]? = some e → Se.long e = false) := by
            intro j d hj hd
            by_cases hjk : j = k
            · subst hjk; rw [HE.out] at hd; cases hd; rw [HL.out]; simp [h1]
            · exact HI.out j d (by omega) hd
          go_wp2
          go_roundw
          case rel => exact ⟨k + 1, by go_num, by omega, by omega, HZ.out, HB.out⟩
          case measure => simp [intOf]; omega
      · obtain rfl : k = 40 := by omega
        have HZ : Hid (r = true) := by
          show _ = _
          rw [HR.out, Se.large_no HI.out]
          exact decide_eq_true (by rw [← HN.out]; exact hlt)
        have d1 : decide ((40 : Int) < (n : Int)) = true := by simp; omega
        go_wp2
        go_ret
        exact ⟨by rw [HZ.out]; rfl, HB.out⟩
    · have HZ : Hid (r = decide ((40 : Int) < (n : Int))) := by
        show _ = _
        rw [HR.out, Se.large_no fun j e h40 he => HI.out j e (by have := HN.out; have := (List.getElem?_eq_some_iff.1 he).1; omega) he, ← HN.out]
        exact decide_eq_decide.2 (by omega)
      have d1 : decide ((40 : Int) < (n : Int)) = false := by simp; omega
      go_wp2
      go_ret
      exact ⟨by rw [HZ.out, d1]; rfl, HB.out⟩

set_option maxRecDepth 4000 in
set_option maxHeartbeats 3200000 in
theorem refCheckSe_any (v : Value) (l : List Se.Ses) (w : World) (hv : ReadsN w v l) (hs : ∀ e ∈ l, e.last.val.length ≤ 140737488355328) :
    Calls Tryz.prog 28 #[v] w (Looks w (.bool (Se.refCheck l))) := by
  have HV := Lib.hid hv
  obtain ⟨ao, cap, rfl, hc1, hc2⟩ := ReadsN.shape hv
  have HP := Lib.hid (fun h => ReadsN.places hv h)
  have HS := Lib.hid hs
  obtain ⟨n, hnn⟩ : ∃ n, n = l.length := ⟨_, rfl⟩
  rw [← hnn] at hc1 HV ⊢
  have HN := Lib.hid hnn
  obtain ⟨r, hr⟩ : ∃ r, r = Se.refCheck l := ⟨_, rfl⟩
  rw [← hr]
  have HR := Lib.hid hr
  have hnb : n < 9223372036854775808 := by omega
  clear hv hnn hr hs
  go_enter Tryz.func28, Tryz.ntmps28
  go_wp2
  go_loopw [3] (fun i wr => ∃ k : Nat, i = .int .i64 (k : Int) ∧ k ≤ n ∧ Hid (∀ (j : Nat) (e : Se.Ses), j < k → l[j]? = some e → Se.valid e = true) ∧ Below w.heap.size w wr) (fun i _ => n - (intOf i).toNat)
  case atStart => exact ⟨0, rfl, by omega, fun j e hj => by omega, Below.refl _ _⟩
  case round =>
    obtain ⟨k, rfl, hk, HI, hB⟩ := hrel
    have HB := Lib.hid hB
    clear hB
    by_cases hlt : k < n
    · obtain ⟨s, hse⟩ : ∃ s, l[k]? = some s := ⟨_, List.getElem?_eq_getElem (by have := HN.out; omega)⟩
      obtain ⟨g, off, rfl, hgl, hcell⟩ := HP.out (by have := HN.out; omega)
      have HC : Hid (∀ W, Below w.heap.size w W → SesAt W g (off + k * 8) s) := fun W hW => hcell W hW k s hse
      have HS1 := Lib.hid hse
      have HF := Lib.hid (fun W => arefCheck_any s.last W (HS.out s (List.mem_of_getElem? hse)))
      obtain ⟨y, hy⟩ : ∃ y, y = An.check s.last := ⟨_, rfl⟩
      rw [← hy] at HF
      obtain ⟨t1, ht1⟩ : ∃ t, (s.last.client != s.client) = t := ⟨_, rfl⟩
      obtain ⟨t2, ht2⟩ : ∃ t, (s.last.seq != s.seq) = t := ⟨_, rfl⟩
      obtain ⟨t3, ht3⟩ : ∃ t, (y != 0) = t := ⟨_, rfl⟩
      have HVA : Hid (Se.valid s = (!t1 && (!t2 && !t3))) := by
        show _ = _
        rw [← ht1, ← ht2, ← ht3, hy]
        simp [Se.valid, bne]
      clear hcell hse hy
      cases t1 with
      | true =>
        have HZ : Hid (r = false) := by show _ = _; rw [HR.out]; exact Se.all_no HS1.out (by rw [HVA.out]; rfl)
        go_wp2
        have k0 := fun p' : Behind wr => (HC.out p'.world (HB.out.trans (p'.below.mono HB.out.size))).c0
        have k1 := fun p' : Behind wr => (HC.out p'.world (HB.out.trans (p'.below.mono HB.out.size))).c1
        have k2 := fun p' : Behind wr => (HC.out p'.world (HB.out.trans (p'.below.mono HB.out.size))).c2
        have k3 := fun p' : Behind wr => (HC.out p'.world (HB.out.trans (p'.below.mono HB.out.size))).c3
        have k4 := fun p' : Behind wr => (HC.out p'.world (HB.out.trans (p'.below.mono HB.out.size))).c4
        have k5 := fun p' : Behind wr => (HC.out p'.world (HB.out.trans (p'.below.mono HB.out.size))).c5
        have k6 := fun p' : Behind wr => (HC.out p'.world (HB.out.trans (p'.below.mono HB.out.size))).c6
        have k7 := fun p' : Behind wr => (HC.out p'.world (HB.out.trans (p'.below.mono HB.out.size))).c7
        refine wp_region_behind (by kernel_rfl) (by kernel_rfl) ?_
        repeat (go_big_quiet_step (fail))
        refine wpQuiet_nil ?_
        rintro w5 ⟨⟨w5, hw5⟩, rfl⟩
        (try dsimp only)
        have HBw5 := Lib.hid (HB.out.trans (hw5.mono HB.out.size))
        clear k0 k1 k2 k3 k4 k5 k6 k7 hw5
        go_wp2
        go_ret
        exact ⟨by rw [HZ.out]; rfl, HBw5.out⟩
      | false =>
        cases t2 with
        | true =>
          have HZ : Hid (r = false) := by show _ = _; rw [HR.out]; exact Se.all_no HS1.out (by rw [HVA.out]; rfl)
          go_wp2
          have k0 := fun p' : Behind wr => (HC.out p'.world (HB.out.trans (p'.below.mono HB.out.size))).c0
          have k1 := fun p' : Behind wr => (HC.out p'.world (HB.out.trans (p'.below.mono HB.out.size))).c1
          have k2 := fun p' : Behind wr => (HC.out p'.world (HB.out.trans (p'.below.mono HB.out.size))).c2
          have k3 := fun p' : Behind wr => (HC.out p'.world (HB.out.trans (p'.below.mono HB.out.size))).c3
          have k4 := fun p' : Behind wr => (HC.out p'.world (HB.out.trans (p'.below.mono HB.out.size))).c4
          have k5 := fun p' : Behind wr => (HC.out p'.world (HB.out.trans (p'.below.mono HB.out.size))).c5
          have k6 := fun p' : Behind wr => (HC.out p'.world (HB.out.trans (p'.below.mono HB.out.size))).c6
          have k7 := fun p' : Behind wr => (HC.out p'.world (HB.out.trans (p'.below.mono HB.out.size))).c7
          refine wp_region_behind (by kernel_rfl) (by kernel_rfl) ?_
          repeat (go_big_quiet_step (fail))
          refine wpQuiet_nil ?_
          rintro w5 ⟨⟨w5, hw5⟩, rfl⟩
          (try dsimp only)
          have HBw5 := Lib.hid (HB.out.trans (hw5.mono HB.out.size))
          clear k0 k1 k2 k3 k4 k5 k6 k7 hw5
          go_wp2
          go_ret
          exact ⟨by rw [HZ.out]; rfl, HBw5.out⟩
        | false =>
          cases t3 with
          | true =>
            have HZ : Hid (r = false) := by show _ = _; rw [HR.out]; exact Se.all_no HS1.out (by rw [HVA.out]; rfl)
            go_wp2
            have k0 := fun p' : Behind wr => (HC.out p'.world (HB.out.trans (p'.below.mono HB.out.size))).c0
            have k1 := fun p' : Behind wr => (HC.out p'.world (HB.out.trans (p'.below.mono HB.out.size))).c1
            have k2 := fun p' : Behind wr => (HC.out p'.world (HB.out.trans (p'.below.mono HB.out.size))).c2
            have k3 := fun p' : Behind wr => (HC.out p'.world (HB.out.trans (p'.below.mono HB.out.size))).c3
            have k4 := fun p' : Behind wr => (HC.out p'.world (HB.out.trans (p'.below.mono HB.out.size))).c4
            have k5 := fun p' : Behind wr => (HC.out p'.world (HB.out.trans (p'.below.mono HB.out.size))).c5
            have k6 := fun p' : Behind wr => (HC.out p'.world (HB.out.trans (p'.below.mono HB.out.size))).c6
            have k7 := fun p' : Behind wr => (HC.out p'.world (HB.out.trans (p'.below.mono HB.out.size))).c7
            refine wp_region_behind (by kernel_rfl) (by kernel_rfl) ?_
            repeat (go_big_quiet_step ((go_at_call 53; exact Looks.behind (HF.out _))))
            refine wpQuiet_nil ?_
            rintro w5 ⟨⟨w5, hw5⟩, rfl⟩
            (try dsimp only)
            have HBw5 := Lib.hid (HB.out.trans (hw5.mono HB.out.size))
            clear k0 k1 k2 k3 k4 k5 k6 k7 hw5
            go_wp2
            go_ret
            exact ⟨by rw [HZ.out]; rfl, HBw5.out⟩
          | false =>
            have HZ : Hid (∀ (j : Nat) (e : Se.Ses), j < k + 1 → l[j]? = some e → Se.valid e = true) := by
              intro j d hj hd
              by_cases hjk : j = k
              · subst hjk; rw [HS1.out] at hd; cases hd; exact HVA.out
              · exact HI.out j d (by omega) hd
            go_wp2
            have k0 := fun p' : Behind wr => (HC.out p'.world (HB.out.trans (p'.below.mono HB.out.size))).c0
            have k1 := fun p' : Behind wr => (HC.out p'.world (HB.out.trans (p'.below.mono HB.out.size))).c1
            have k2 := fun p' : Behind wr => (HC.out p'.world (HB.out.trans (p'.below.mono HB.out.size))).c2
            have k3 := fun p' : Behind wr => (HC.out p'.world (HB.out.trans (p'.below.mono HB.out.size))).c3
            have k4 := fun p' : Behind wr => (HC.out p'.world (HB.out.trans (p'.below.mono HB.out.size))).c4
            have k5 := fun p' : Behind wr => (HC.out p'.world (HB.out.trans (p'.below.mono HB.out.size))).c5
            have k6 := fun p' : Behind wr => (HC.out p'.world (HB.out.trans (p'.below.mono HB.out.size))).c6
            have k7 := fun p' : Behind wr => (HC.out p'.world (HB.out.trans (p'.below.mono HB.out.size))).c7
            refine wp_region_behind (by kernel_rfl) (by kernel_rfl) ?_
            repeat (go_big_quiet_step ((go_at_call 53; exact Looks.behind (HF.out _))))
            refine wpQuiet_nil ?_
            rintro w5 ⟨⟨w5, hw5⟩, rfl⟩
            (try dsimp only)
            have HBw5 := Lib.hid (HB.out.trans (hw5.mono HB.out.size))
            clear k0 k1 k2 k3 k4 k5 k6 k7 hw5
            go_wp2
            go_roundw
            case rel => exact ⟨k + 1, by go_num, by omega, HZ.out, HBw5.out⟩
            case measure => simp [intOf]; omega
    · have HZ : Hid (r = Se.rises l) := by
        show _ = _
        rw [HR.out]
        exact Se.all_yes fun j e he => HI.out j e (by have := HN.out; have := (List.getElem?_eq_some_iff.1 he).1; omega) he
      go_wp2_with fail
      refine (riseSe_any _ l wr (HV.out.below HB.out)).mono ?_
      rintro e w2 ⟨rfl, hB2⟩
      go_wp2
      go_ret
      exact ⟨by rw [HZ.out]; rfl, HB.out.trans (hB2.mono HB.out.size)⟩

end Go.Proofs.YtammfmmpldahhaaGreat


namespace Go.Proofs.YtammfmmpldahhaaGreat
open Go.RowKit

set_option maxRecDepth 4000 in
set_option maxHeartbeats 800000 in
theorem clone_sess (v : Value) (rs : List (Array Value)) (w : World) (hv : ReadsR w v 8 rs) (hz : Sized 8 rs) (hn : rs.length ≤ 1099511627776) :
    Calls Tryz.prog 98 #[v] w fun e w' => ∃ v', e = .returned v' ∧ OwnsR w' w.heap.size 55 8 v' rs ∧ Below w.heap.size w w' := by
  have hq : ∀ (w : World) (a : Option Addr) (n c n' c' : Nat), (binOp .eql 23 (.slice a n c) (.slice none n' c')).run Tryz.prog w = .ok (.bool a.isNone) w := fun w a n c n' c' => Lib.run_eql_slice_nil w _ _ a n c n' c' Tryz.underlying23
  obtain ⟨ao, cap, rfl, hc1, hc2⟩ := hv.shape
  cases ao with
  | none =>
    obtain ⟨_, h1, h2, _⟩ := ReadsR.len hv
    have h3 := h2 rfl
    obtain rfl : rs = [] := List.eq_nil_of_length_eq_zero (by omega)
    go_enter Tryz.func98, Tryz.ntmps98
    go_wp2
    go_ret
    exact ⟨_, rfl, OwnsR.empty _ _ _ _, Below.refl _ _⟩
  | some a =>
    have HV : Hid (ReadsR (w.alloc (.cells #[] 55)) (.slice (some a) rs.length cap) 8 rs) := ReadsR.below hv ((Below.refl _ w).alloc (Nat.le_refl _) _)
    obtain ⟨n, hnn⟩ : ∃ n, n = rs.length := ⟨_, rfl⟩
    rw [← hnn] at hn HV ⊢
    have HN := Lib.hid hnn; have HZ := Lib.hid hz
    clear hv hc1 hnn hz
    go_enter Tryz.func98, Tryz.ntmps98
    go_wp2_with (at_builtin; refine append_rows rfl _ _ 23 55 8 72 _ rfl Tryz.underlying23 info_ses rfl (by decide) w.heap.size [] rs _ _ rfl rfl (World.ownsRow_made w #[] 0 (Nat.le_refl _) (Nat.zero_le _) (by simp)) HV.out HZ.out (by rw [← HN.out]; simp; omega) (by rw [← HN.out]; simp; omega) w ((Below.refl _ w).alloc (Nat.le_refl _) _) (Nat.le_refl _) ?_; intro v' w' ho' hb' _)
    all_goals
      rw [List.nil_append] at ho'
      obtain ⟨ao', cap', hs'⟩ := ho'.shape
      have HO := Lib.hid ho'
      rw [← HN.out] at hs'
      clear ho'
      subst hs'
      go_wp2
      go_ret
      exact ⟨_, rfl, HO.out, hb'⟩

theorem cloneSe_any (v : Value) (l : List Se.Ses) (w : World) (hv : ReadsN w v l) (hn : l.length ≤ 1048576) : Calls Tryz.prog 98 #[v] w (MadeN w l) :=
  clone_sess v (l.map Se.cells) w hv (Se.sized l) (by rw [List.length_map]; omega)

end Go.Proofs.YtammfmmpldahhaaGreat


namespace Go.Proofs.YtammfmmpldahhaaGreat
open Go.RowKit

set_option maxRecDepth 4000 in
set_option maxHeartbeats 1600000 in
theorem sameSt_any (s t : Mg.St) (vp vs up us : Value) (w : World) (hr : StR w s vp vs) (kr : StR w t up us) :
    Calls Tryz.prog 14 #[.agg (Mg.cells s.schema vp vs), .agg (Mg.cells t.schema up us)] w (Looks w (.bool (decide (s = t)))) := by
  obtain ⟨w1, e1, hx1, hB1, hz1⟩ := box_st w s s.schema vp vs hr
  obtain ⟨w2, e2, hx2, hB2, hz2⟩ := box_st w1 t t.schema up us (kr.below hB1)
  rw [hz1] at hx2
  have hx3 := hx1.below hB2 (by omega)
  have HB : Hid (Below w.heap.size w w2) := hB1.trans (hB2.mono hB1.size)
  have HX := Lib.hid hx3
  have HY := Lib.hid hx2
  have HR := Lib.hid (hr.below HB.out)
  have KR := Lib.hid (kr.below HB.out)
  obtain ⟨c0, c1, c2⟩ := hx3.all
  obtain ⟨d0, d1, d2⟩ := hx2.all
  obtain ⟨D, hD⟩ : ∃ D, D = decide (s = t) := ⟨_, rfl⟩
  rw [← hD]
  obtain ⟨n, l, m⟩ := s
  obtain ⟨n', l', m'⟩ := t
  dsimp only at *
  obtain ⟨r, hb⟩ : ∃ r, (n == n') = r := ⟨_, rfl⟩
  obtain ⟨q, hq⟩ : ∃ q, decide (l = l') = q := ⟨_, rfl⟩
  obtain ⟨u, hu⟩ : ∃ u, decide (m = m') = u := ⟨_, rfl⟩
  have HM : Hid (D = (r && (q && u))) := by
    show _ = _
    rw [hD, ← hb, ← hq, ← hu, Bool.eq_iff_iff]
    simp
  have HQ := Lib.hid hq; have HU := Lib.hid hu
  clear hD hq hu hx1 hx2 hx3 hB1 hB2 hz2 hr kr
  go_enter Tryz.func14, Tryz.ntmps14
  cases r with
  | false =>
    go_wp2
    go_ret
    exact ⟨by rw [HM.out]; rfl, HB.out⟩
  | true =>
    go_wp2_with fail
    refine (sameKv_any _ _ l l' _ HR.out.kv KR.out.kv).mono ?_
    rintro e w3 ⟨rfl, hb3⟩
    rw [HQ.out]
    have HB3 := Lib.hid hb3
    obtain ⟨_, _, m2⟩ := (HX.out.below hb3 HX.out.lies.lt).all
    obtain ⟨_, _, n2⟩ := (HY.out.below hb3 HY.out.lies.lt).all
    clear hb3 c0 c1 c2 d0 d1 d2
    cases q with
    | false =>
      go_wp2
      go_ret
      exact ⟨by rw [HM.out]; rfl, HB.out.trans (HB3.out.mono HB.out.size)⟩
    | true =>
      go_wp2_with fail
      refine (sameSe_any _ _ m m' _ (HR.out.below HB3.out).ses (KR.out.below HB3.out).ses).mono ?_
      rintro e w4 ⟨rfl, hb4⟩
      rw [HU.out]
      have HB4 := Lib.hid (HB3.out.trans (hb4.mono HB3.out.size))
      clear hb4
      go_wp2
      go_ret
      exact ⟨by rw [HM.out]; rfl, HB.out.trans (HB4.out.mono HB.out.size)⟩

set_option maxRecDepth 4000 in
theorem largeSt_any (s : Mg.St) (vp vs : Value) (w : World) (hr : StR w s vp vs) (hk : ∀ e ∈ s.pairs, e.key.length ≤ 9223372036854775807 ∧ e.val.length ≤ 9223372036854775807) (hs : ∀ e ∈ s.sess, e.last.val.length ≤ 9223372036854775807) :
    Calls Tryz.prog 6 #[.agg (Mg.cells s.schema vp vs)] w (Looks w (.bool (Mg.large s))) := by
  obtain ⟨w1, e1, hx1, hB1, hz1⟩ := box_st w s s.schema vp vs hr
  have HB := Lib.hid hB1
  have HX := Lib.hid hx1
  have HR := Lib.hid (hr.below hB1)
  obtain ⟨c0, c1, c2⟩ := hx1.all
  obtain ⟨D, hD⟩ : ∃ D, D = Mg.large s := ⟨_, rfl⟩
  rw [← hD]
  obtain ⟨n, l, m⟩ := s
  dsimp only at *
  have HK := Lib.hid hk; have HS := Lib.hid hs
  obtain ⟨q, hq⟩ : ∃ q, Se.large m = q := ⟨_, rfl⟩
  obtain ⟨u, hu⟩ : ∃ u, Kv.large l = u := ⟨_, rfl⟩
  have HM : Hid (D = (q || u)) := by show _ = _; rw [hD, ← hq, ← hu]; rfl
  have HQ := Lib.hid hq; have HU := Lib.hid hu
  clear hD hq hu hx1 hB1 hz1 hr hk hs
  go_enter Tryz.func6, Tryz.ntmps6
  go_wp2_with fail
  refine (largeSe_any _ m _ HR.out.ses HS.out).mono ?_
  rintro e w3 ⟨rfl, hb3⟩
  rw [HQ.out]
  have HB3 := Lib.hid hb3
  obtain ⟨_, m1, _⟩ := (HX.out.below hb3 HX.out.lies.lt).all
  clear hb3 c0 c1 c2
  cases q with
  | true =>
    go_wp2
    go_ret
    exact ⟨by rw [HM.out]; rfl, HB.out.trans (HB3.out.mono HB.out.size)⟩
  | false =>
    go_wp2_with fail
    refine (largeKv_any _ l _ (HR.out.below HB3.out).kv HK.out).mono ?_
    rintro e w4 ⟨rfl, hb4⟩
    rw [HU.out]
    have HB4 := Lib.hid (HB3.out.trans (hb4.mono HB3.out.size))
    clear hb4
    go_wp2
    go_ret
    exact ⟨by rw [HM.out]; rfl, HB.out.trans (HB4.out.mono HB.out.size)⟩

end Go.Proofs.YtammfmmpldahhaaGreat


namespace Go.Proofs.YtammfmmpldahhaaGreat
open Go.RowKit

theorem Mg.check_one (l : List Kv.Item) (m : List Se.Ses) : Mg.check ⟨1, l, m⟩ = (Kv.refCheck l && (Se.refCheck m && !m.any Mg.tells)) := by
  unfold Mg.check Mg.pairsOk Mg.sessOk
  dsimp only
  rw [if_pos rfl]
  cases m.any Mg.tells <;> simp
theorem Mg.check_two (l : List Kv.Item) (m : List Se.Ses) : Mg.check ⟨2, l, m⟩ = (Kv.refCheck2 l && Se.refCheck m) := by
  unfold Mg.check Mg.pairsOk Mg.sessOk
  dsimp only
  rw [if_neg (by decide), if_pos rfl, if_neg (fun h => absurd h.1 (by decide))]
theorem Mg.check_none {n : Int} (l : List Kv.Item) (m : List Se.Ses) (h1 : n ≠ 1) (h2 : n ≠ 2) : Mg.check ⟨n, l, m⟩ = false := by
  unfold Mg.check Mg.pairsOk
  dsimp only
  rw [if_neg h1, if_neg h2]
  rfl

set_option maxRecDepth 4000 in
set_option maxHeartbeats 1600000 in
theorem refCheckSt1_any (l : List Kv.Item) (m : List Se.Ses) (vp vs : Value) (w : World) (hr : StR w ⟨1, l, m⟩ vp vs) (hf : Mg.St.Few ⟨1, l, m⟩) :
    Calls Tryz.prog 10 #[.agg (Mg.cells 1 vp vs)] w (Looks w (.bool (Mg.check ⟨1, l, m⟩))) := by
  obtain ⟨w1, e1, hx1, hB1, hz1⟩ := box_st w ⟨1, l, m⟩ 1 vp vs hr
  obtain ⟨ao, cap, rfl, hc1, hc2⟩ := ReadsN.shape hr.ses
  dsimp only at *
  have HB := Lib.hid hB1
  have HX := Lib.hid hx1
  have HR := Lib.hid (hr.below hB1)
  have hpl := ReadsN.places (hr.below hB1).ses
  have HPL := Lib.hid hpl
  obtain ⟨c0, c1, c2⟩ := hx1.all
  have HK := Lib.hid (refCheckKv_any vp l w1 HR.out.kv hf.str)
  have HS := Lib.hid (fun W h => refCheckSe_any (.slice ao m.length cap) m W h hf.ses)
  obtain ⟨D, hD⟩ : ∃ D, D = Mg.check ⟨1, l, m⟩ := ⟨_, rfl⟩
  rw [← hD]
  rw [Mg.check_one] at hD
  obtain ⟨a, ha⟩ : ∃ a, a = Kv.refCheck l := ⟨_, rfl⟩
  rw [← ha] at HK hD
  obtain ⟨b, hb⟩ : ∃ b, b = Se.refCheck m := ⟨_, rfl⟩
  rw [← hb] at HS hD
  have HD := Lib.hid hD
  obtain ⟨n, hn⟩ : ∃ n, n = m.length := ⟨_, rfl⟩
  rw [← hn] at hc1 HS HX HR HPL e1 c2 ⊢
  have HN := Lib.hid hn
  have hnb : n < 9223372036854775808 := by omega
  clear hD ha hb hx1 hB1 hz1 hr hf hpl hn
  go_enter Tryz.func10, Tryz.ntmps10
  go_wp2_with fail
  refine HK.out.mono ?_
  rintro e w2 ⟨rfl, hB2⟩
  have HB2 := Lib.hid hB2
  have HX2 := Lib.hid (HX.out.below hB2 HX.out.lies.lt)
  have HR2 := Lib.hid (HR.out.below hB2)
  clear hB2 c0 c1 c2
  cases a with
  | false =>
    go_wp2
    go_ret
    exact ⟨by rw [HD.out]; rfl, HB.out.trans (HB2.out.mono HB.out.size)⟩
  | true =>
    obtain ⟨m0, m1, m2⟩ := HX2.out.all
    go_wp2_with fail
    refine (HS.out _ HR2.out.ses).mono ?_
    rintro e w3 ⟨rfl, hB3⟩
    have HB3 := Lib.hid (HB2.out.trans (hB3.mono HB2.out.size))
    have HX3 := Lib.hid (HX2.out.below hB3 HX2.out.lies.lt)
    clear hB3 m0 m1 m2
    cases b with
    | false =>
      go_wp2
      go_ret
      exact ⟨by rw [HD.out]; rfl, HB.out.trans (HB3.out.mono HB.out.size)⟩
    | true =>
      obtain ⟨k0, k1, k2⟩ := HX3.out.all
      go_wp2
      go_loopw [3] (fun i wr => ∃ k : Nat, i = .int .i64 (k : Int) ∧ k ≤ n ∧ Hid (∀ (j : Nat) (e : Se.Ses), j < k → m[j]? = some e → Mg.tells e = false) ∧ Below w3.heap.size w3 wr) (fun i _ => n - (intOf i).toNat)
      case atStart => exact ⟨0, rfl, by omega, fun j e hj => by omega, Below.refl _ _⟩
      case round =>
        clear k0 k1 k2
        obtain ⟨k, rfl, hk, HI, hB⟩ := hrel
        have HB4 := Lib.hid (HB3.out.trans (hB.mono HB3.out.size))
        have HBr := Lib.hid hB
        obtain ⟨k0, k1, k2⟩ := (HX3.out.below hB HX3.out.lies.lt).all
        clear hB
        by_cases hlt : k < n
        · obtain ⟨s, hs⟩ : ∃ s, m[k]? = some s := ⟨_, List.getElem?_eq_getElem (by have := HN.out; omega)⟩
          obtain ⟨g, off, rfl, hgl, hcell⟩ := HPL.out (by have := HN.out; omega)
          have d7 := (hcell wr HB4.out k s hs).c7
          have HS1 := Lib.hid hs
          obtain ⟨t, ht⟩ : ∃ t, (s.last.rev != 0) = t := ⟨_, rfl⟩
          have HT : Hid (Mg.tells s = t) := ht
          clear hcell hs
          cases t with
          | true =>
            have HZ : Hid (D = false) := by show _ = _; rw [HD.out, Mg.tells_no HS1.out HT.out]; rfl
            go_wp2
            go_ret
            exact ⟨by rw [HZ.out]; rfl, HB.out.trans (HB4.out.mono HB.out.size)⟩
          | false =>
            have HZ : Hid (∀ (j : Nat) (e : Se.Ses), j < k + 1 → m[j]? = some e → Mg.tells e = false) := by
              intro j d hj hd
              by_cases hjk : j = k
              · subst hjk; rw [HS1.out] at hd; cases hd; exact HT.out
              · exact HI.out j d (by omega) hd
            go_wp2
            go_roundw
            case rel => exact ⟨k + 1, by go_num, by omega, HZ.out, HBr.out⟩
            case measure => simp [intOf]; omega
        · have HZ : Hid (D = true) := by
            show _ = _
            rw [HD.out, Mg.tells_yes fun j e he => HI.out j e (by have := HN.out; have := (List.getElem?_eq_some_iff.1 he).1; omega) he]
            rfl
          go_wp2
          go_ret
          exact ⟨by rw [HZ.out]; rfl, HB.out.trans (HB4.out.mono HB.out.size)⟩

set_option maxRecDepth 4000 in
set_option maxHeartbeats 1600000 in
theorem refCheckSt2_any (l : List Kv.Item) (m : List Se.Ses) (vp vs : Value) (w : World) (hr : StR w ⟨2, l, m⟩ vp vs) (hf : Mg.St.Few ⟨2, l, m⟩) :
    Calls Tryz.prog 10 #[.agg (Mg.cells 2 vp vs)] w (Looks w (.bool (Mg.check ⟨2, l, m⟩))) := by
  obtain ⟨w1, e1, hx1, hB1, hz1⟩ := box_st w ⟨2, l, m⟩ 2 vp vs hr
  obtain ⟨ao, cap, rfl, hc1, hc2⟩ := ReadsN.shape hr.ses
  dsimp only at *
  have HB := Lib.hid hB1
  have HX := Lib.hid hx1
  have HR := Lib.hid (hr.below hB1)
  obtain ⟨c0, c1, c2⟩ := hx1.all
  have HK := Lib.hid (refCheck2Kv_any vp l w1 HR.out.kv hf.str)
  have HS := Lib.hid (fun W h => refCheckSe_any (.slice ao m.length cap) m W h hf.ses)
  obtain ⟨D, hD⟩ : ∃ D, D = Mg.check ⟨2, l, m⟩ := ⟨_, rfl⟩
  rw [← hD]
  rw [Mg.check_two] at hD
  obtain ⟨a, ha⟩ : ∃ a, a = Kv.refCheck2 l := ⟨_, rfl⟩
  rw [← ha] at HK hD
  obtain ⟨b, hb⟩ : ∃ b, b = Se.refCheck m := ⟨_, rfl⟩
  rw [← hb] at HS hD
  have HD := Lib.hid hD
  obtain ⟨n, hn⟩ : ∃ n, n = m.length := ⟨_, rfl⟩
  rw [← hn] at hc1 HS HX HR e1 c2 ⊢
  have hnb : n < 9223372036854775808 := by omega
  clear hD ha hb hx1 hB1 hz1 hr hf hn
  go_enter Tryz.func10, Tryz.ntmps10
  go_wp2_with fail
  refine HK.out.mono ?_
  rintro e w2 ⟨rfl, hB2⟩
  have HB2 := Lib.hid hB2
  have HX2 := Lib.hid (HX.out.below hB2 HX.out.lies.lt)
  have HR2 := Lib.hid (HR.out.below hB2)
  clear hB2 c0 c1 c2
  cases a with
  | false =>
    go_wp2
    go_ret
    exact ⟨by rw [HD.out]; rfl, HB.out.trans (HB2.out.mono HB.out.size)⟩
  | true =>
    obtain ⟨m0, m1, m2⟩ := HX2.out.all
    go_wp2_with fail
    refine (HS.out _ HR2.out.ses).mono ?_
    rintro e w3 ⟨rfl, hB3⟩
    have HB3 := Lib.hid (HB2.out.trans (hB3.mono HB2.out.size))
    have HX3 := Lib.hid (HX2.out.below hB3 HX2.out.lies.lt)
    clear hB3 m0 m1 m2
    cases b with
    | false =>
      go_wp2
      go_ret
      exact ⟨by rw [HD.out]; rfl, HB.out.trans (HB3.out.mono HB.out.size)⟩
    | true =>
      obtain ⟨k0, k1, k2⟩ := HX3.out.all
      go_wp2
      go_loopw [3] (fun i wr => ∃ k : Nat, i = .int .i64 (k : Int) ∧ k ≤ n ∧ Below w3.heap.size w3 wr) (fun i _ => n - (intOf i).toNat)
      case atStart => exact ⟨0, rfl, by omega, Below.refl _ _⟩
      case round =>
        clear k0 k1 k2
        obtain ⟨k, rfl, hk, hB⟩ := hrel
        have HB4 := Lib.hid (HB3.out.trans (hB.mono HB3.out.size))
        have HBr := Lib.hid hB
        obtain ⟨k0, k1, k2⟩ := (HX3.out.below hB HX3.out.lies.lt).all
        clear hB
        by_cases hlt : k < n
        · go_wp2
          go_roundw
          case rel => exact ⟨k + 1, by go_num, by omega, HBr.out⟩
          case measure => simp [intOf]; omega
        · go_wp2
          go_ret
          exact ⟨by rw [HD.out]; rfl, HB.out.trans (HB4.out.mono HB.out.size)⟩

set_option maxRecDepth 4000 in
theorem refCheckSt_any (s : Mg.St) (vp vs : Value) (w : World) (hr : StR w s vp vs) (hf : s.Few) :
    Calls Tryz.prog 10 #[.agg (Mg.cells s.schema vp vs)] w (Looks w (.bool (Mg.check s))) := by
  obtain ⟨n, l, m⟩ := s
  by_cases h1 : n = 1
  · subst h1
    exact refCheckSt1_any l m vp vs w hr hf
  · by_cases h2 : n = 2
    · subst h2
      exact refCheckSt2_any l m vp vs w hr hf
    · obtain ⟨w1, e1, hx1, hB1, hz1⟩ := box_st w ⟨n, l, m⟩ n vp vs hr
      have HB := Lib.hid hB1
      obtain ⟨c0, c1, c2⟩ := hx1.all
      rw [Mg.check_none l m h1 h2]
      dsimp only
      by_cases h3 : n < 1
      · have d3 : decide (n < 1) = true := decide_eq_true h3
        clear h1 h2 h3 hx1 hB1 hz1 hr hf
        go_enter Tryz.func10, Tryz.ntmps10
        go_wp2
        go_ret
        exact ⟨rfl, HB.out⟩
      · have d3 : decide (n < 1) = false := decide_eq_false h3
        have d4 : decide (2 < n) = true := decide_eq_true (by omega)
        clear h1 h2 h3 hx1 hB1 hz1 hr hf
        go_enter Tryz.func10, Tryz.ntmps10
        go_wp2
        go_ret
        exact ⟨rfl, HB.out⟩

end Go.Proofs.YtammfmmpldahhaaGreat
