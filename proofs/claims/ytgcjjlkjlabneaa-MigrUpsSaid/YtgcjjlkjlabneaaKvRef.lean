/- The document's own answers for pairs: Rise, Place, Large, Check. Written by a program. -/
import Derived.Test.YtgcjjlkjlabneaaKvMem
import Derived.Test.YtgcjjlkjlabneaaGRune
import Derived.Test.YtgcjjlkjlabneaaOnce
import Derived.Deep.QuietTactic
import Derived.BigQuiet
namespace Go.Proofs.Ytgcjjlkjlabneaa
open Go.RowKit

set_option maxRecDepth 4000 in
set_option maxHeartbeats 1600000 in
theorem riseKv_any (v : Value) (l : List Kv.Item) (w : World) (hv : ReadsK w v l) :
    Calls Try.prog 30 #[v] w (Looks w (.bool (Kv.rises l))) := by
  obtain ⟨ao, cap, rfl, hc1, hc2⟩ := ReadsK.shape hv
  have HP := Lib.hid (fun h => ReadsK.places hv h)
  obtain ⟨n, hnn⟩ : ∃ n, n = l.length := ⟨_, rfl⟩
  rw [← hnn] at hc1 ⊢
  have HN := Lib.hid hnn
  obtain ⟨r, hr⟩ : ∃ r, r = Kv.rises l := ⟨_, rfl⟩
  rw [← hr]
  have HR := Lib.hid hr
  have hnb : n < 9223372036854775808 := by omega
  clear hv hnn hr
  go_enter Try.func30, Try.ntmps30
  go_wp2
  go_loopw [3] (fun i wr => ∃ q : Nat, i = .int .i64 ((q + 1 : Nat) : Int) ∧ (q ≤ n) ∧ Hid (∀ (j : Nat) (a b : Kv.Item), j < q → l[j]? = some a → l[j + 1]? = some b → a.key < b.key) ∧ Below w.heap.size w wr) (fun i _ => n + 1 - (intOf i).toNat)
  case atStart => exact ⟨0, rfl, by omega, fun j a b hj => by omega, Below.refl _ _⟩
  case round =>
    obtain ⟨q, rfl, hq, HI, hB⟩ := hrel
    have HB := Lib.hid hB
    clear hB
    obtain ⟨k, hk⟩ : ∃ k, k = q + 1 := ⟨_, rfl⟩
    rw [← hk]
    have HK := Lib.hid hk
    have hkq : (k : Int) - 1 = (q : Int) := by omega
    by_cases hlt : k < n
    · obtain ⟨e, he⟩ : ∃ e, l[k]? = some e := ⟨_, List.getElem?_eq_getElem (by have := HN.out; omega)⟩
      obtain ⟨d, hd⟩ : ∃ d, l[q]? = some d := ⟨_, List.getElem?_eq_getElem (by have := HN.out; omega)⟩
      obtain ⟨g, off, rfl, hgl, hcell⟩ := HP.out (by have := HN.out; omega)
      have c0 := (hcell wr HB.out k e he).c0
      have d0 := (hcell wr HB.out q d hd).c0
      have hqn : q < n := by omega
      have HE := Lib.hid he; have HD := Lib.hid hd
      clear hcell he hd hk
      have hle := fun W => run_leq_str W e.key d.key
      by_cases hx : ¬ d.key < e.key
      · have HZ : Hid (r = false) := by show _ = _; rw [HR.out]; exact Kv.rises_no HD.out (by rw [← HK.out]; exact HE.out) hx
        rw [decide_eq_false hx, Bool.not_false] at hle
        clear hx
        go_wp2
        go_quiet (fail)
        all_goals
          go_wp2
          go_ret
          exact ⟨by rw [HZ.out]; rfl, HB.out.trans ((drawn wr _).mono HB.out.size)⟩
      · have HZ : Hid (∀ (j : Nat) (a b : Kv.Item), j < k → l[j]? = some a → l[j + 1]? = some b → a.key < b.key) := by
          intro j a b hj ha hb
          by_cases hjk : j = q
          · subst hjk
            rw [HD.out] at ha
            rw [← HK.out, HE.out] at hb
            cases ha; cases hb
            exact Classical.not_not.1 hx
          · exact HI.out j a b (by have := HK.out; omega) ha hb
        rw [decide_eq_true (Classical.not_not.1 hx), Bool.not_true] at hle
        clear hx
        go_wp2
        go_quiet (fail)
        all_goals
          go_wp2
          go_roundw
          case rel => exact ⟨k, by go_num, by omega, HZ.out, HB.out.trans ((drawn wr _).mono HB.out.size)⟩
          case measure => simp [intOf]; omega
    · have HZ : Hid (r = true) := by
        show _ = _
        rw [HR.out]
        refine Kv.rises_yes fun j a b ha hb => HI.out j a b ?_ ha hb
        have := HK.out; have := HN.out; have := (List.getElem?_eq_some_iff.1 hb).1
        omega
      clear hk
      go_wp2
      go_ret
      exact ⟨by rw [HZ.out]; rfl, HB.out⟩

set_option maxRecDepth 8000 in
set_option maxHeartbeats 3200000 in
theorem largeKv_any (v : Value) (l : List Kv.Item) (w : World) (hv : ReadsK w v l) (hs : ∀ e ∈ l, e.key.length ≤ 9223372036854775807 ∧ e.val.length ≤ 9223372036854775807) :
    Calls Try.prog 16 #[v] w (Looks w (.bool (Kv.large l))) := by
  obtain ⟨ao, cap, rfl, hc1, hc2⟩ := ReadsK.shape hv
  have HP := Lib.hid (fun h => ReadsK.places hv h)
  have HS := Lib.hid hs
  obtain ⟨n, hnn⟩ : ∃ n, n = l.length := ⟨_, rfl⟩
  rw [← hnn] at hc1 ⊢
  have HN := Lib.hid hnn
  obtain ⟨r, hr⟩ : ∃ r, r = Kv.large l := ⟨_, rfl⟩
  rw [← hr]
  have HR := Lib.hid hr
  have hnb : n < 9223372036854775808 := by omega
  clear hv hnn hr hs
  go_enter Try.func16, Try.ntmps16
  go_wp2
  go_loopw [3] (fun i wr => ∃ k : Nat, i = .int .i64 (k : Int) ∧ k ≤ n ∧ k ≤ 80 ∧ Hid (∀ (j : Nat) (e : Kv.Item), j < k → l[j]? = some e → Kv.long e = false) ∧ Below w.heap.size w wr) (fun i _ => 80 - (intOf i).toNat)
  case atStart => exact ⟨0, rfl, by omega, by omega, fun j e hj => by omega, Below.refl _ _⟩
  case round =>
    obtain ⟨k, rfl, hk, hk80, HI, hB⟩ := hrel
    have HB := Lib.hid hB
    clear hB
    by_cases hlt : k < n
    · by_cases hlt80 : k < 80
      · obtain ⟨e, he⟩ : ∃ e, l[k]? = some e := ⟨_, List.getElem?_eq_getElem (by have := HN.out; omega)⟩
        obtain ⟨g, off, rfl, hgl, hcell⟩ := HP.out (by have := HN.out; omega)
        obtain ⟨c0, c1, _⟩ := hcell wr HB.out k e he
        have HE := Lib.hid he
        obtain ⟨hs1, hs2⟩ := HS.out e (List.mem_of_getElem? he)
        have k1 := str_size e.key
        have k2 := str_size e.val
        obtain ⟨x1, hx1⟩ : ∃ x, x = e.key.length := ⟨_, rfl⟩
        obtain ⟨x2, hx2⟩ : ∃ x, x = e.val.length := ⟨_, rfl⟩
        have HL : Hid (Kv.long e = (decide (200 < x1) || decide (200 < x2))) := by show _ = _; rw [Kv.long, hx1, hx2]
        rw [← hx1] at k1 hs1
        rw [← hx2] at k2 hs2
        clear hcell he hx1 hx2
        by_cases h1 : 200 < x1
        · have HZ : Hid (r = true) := by show _ = _; rw [HR.out]; exact Kv.large_yes HE.out hlt80 (by rw [HL.out]; simp [h1])
          have d1 : decide ((200 : Int) < (x1 : Int)) = true := by simp; omega
          go_wp2
          go_ret
          exact ⟨by rw [HZ.out]; rfl, HB.out⟩
        · have d1 : decide ((200 : Int) < (x1 : Int)) = false := by simp; omega
          by_cases h2 : 200 < x2
          · have HZ : Hid (r = true) := by show _ = _; rw [HR.out]; exact Kv.large_yes HE.out hlt80 (by rw [HL.out]; simp [h2])
            have d2 : decide ((200 : Int) < (x2 : Int)) = true := by simp; omega
            go_wp2
            go_ret
            exact ⟨by rw [HZ.out]; rfl, HB.out⟩
          · have d2 : decide ((200 : Int) < (x2 : Int)) = false := by simp; omega
            have HZ : Hid (∀ (j : Nat) (e : Kv.Item), j < k + 1 → l[j]? = some e → Kv.long e = false) := by
              intro j d hj hd
              by_cases hjk : j = k
              · subst hjk; rw [HE.out] at hd; cases hd; rw [HL.out]; simp [h1, h2]
              · exact HI.out j d (by omega) hd
            go_wp2
            go_roundw
            case rel => exact ⟨k + 1, by go_num, by omega, by omega, HZ.out, HB.out⟩
            case measure => simp [intOf]; omega
      · obtain rfl : k = 80 := by omega
        have HZ : Hid (r = true) := by
          show _ = _
          rw [HR.out, Kv.large_no HI.out]
          exact decide_eq_true (by rw [← HN.out]; exact hlt)
        have d1 : decide ((80 : Int) < (n : Int)) = true := by simp; omega
        go_wp2
        go_ret
        exact ⟨by rw [HZ.out]; rfl, HB.out⟩
    · have HZ : Hid (r = decide ((80 : Int) < (n : Int))) := by
        show _ = _
        rw [HR.out, Kv.large_no fun j e h80 he => HI.out j e (by have := HN.out; have := (List.getElem?_eq_some_iff.1 he).1; omega) he, ← HN.out]
        exact decide_eq_decide.2 (by omega)
      have d1 : decide ((80 : Int) < (n : Int)) = false := by simp; omega
      go_wp2
      go_ret
      exact ⟨by rw [HZ.out, d1]; rfl, HB.out⟩

set_option maxRecDepth 4000 in
set_option maxHeartbeats 3200000 in
theorem refCheckKv_any (v : Value) (l : List Kv.Item) (w : World) (hv : ReadsK w v l) (hs : ∀ e ∈ l, e.key.length ≤ 140737488355328 ∧ e.val.length ≤ 140737488355328) :
    Calls Try.prog 17 #[.int .i64 1, v] w (Looks w (.bool (Kv.refCheck l))) := by
  have HV := Lib.hid hv
  obtain ⟨ao, cap, rfl, hc1, hc2⟩ := ReadsK.shape hv
  have HP := Lib.hid (fun h => ReadsK.places hv h)
  have HS := Lib.hid hs
  obtain ⟨n, hnn⟩ : ∃ n, n = l.length := ⟨_, rfl⟩
  rw [← hnn] at hc1 HV ⊢
  have HN := Lib.hid hnn
  obtain ⟨r, hr⟩ : ∃ r, r = Kv.refCheck l := ⟨_, rfl⟩
  rw [← hr]
  have HR := Lib.hid hr
  have hnb : n < 9223372036854775808 := by omega
  clear hv hnn hr hs
  go_enter Try.func17, Try.ntmps17
  go_wp2
  go_loopw [5] (fun i wr => ∃ k : Nat, i = .int .i64 (k : Int) ∧ k ≤ n ∧ Hid (∀ (j : Nat) (e : Kv.Item), j < k → l[j]? = some e → Kv.valid e = true) ∧ Below w.heap.size w wr) (fun i _ => n - (intOf i).toNat)
  case atStart => exact ⟨0, rfl, by omega, fun j e hj => by omega, Below.refl _ _⟩
  case round =>
    obtain ⟨k, rfl, hk, HI, hB⟩ := hrel
    have HB := Lib.hid hB
    clear hB
    by_cases hlt : k < n
    · obtain ⟨s, hse⟩ : ∃ s, l[k]? = some s := ⟨_, List.getElem?_eq_getElem (by have := HN.out; omega)⟩
      obtain ⟨g, off, rfl, hgl, hcell⟩ := HP.out (by have := HN.out; omega)
      obtain ⟨c0, c1, c2⟩ := hcell wr HB.out k s hse
      have HS1 := Lib.hid hse
      obtain ⟨hs1, hs2⟩ := HS.out s (List.mem_of_getElem? hse)
      have hkey := fun W => refKey_any ⟨s.key.toArray⟩ W (by rw [str_size]; exact hs1)
      have hval := fun W => refVal_any ⟨s.val.toArray⟩ W (by rw [str_size]; exact hs2)
      obtain ⟨t1, ht1⟩ : ∃ t, Rn.key ⟨s.key.toArray⟩ = t := ⟨_, rfl⟩
      obtain ⟨t2, ht2⟩ : ∃ t, Rn.val ⟨s.val.toArray⟩ = t := ⟨_, rfl⟩
      obtain ⟨t3, ht3⟩ : ∃ t, (s.rev != 0) = t := ⟨_, rfl⟩
      have HVA : Hid (Kv.valid s = (t1 && (t2 && !t3))) := by
        show _ = _
        rw [← ht1, ← ht2, ← ht3]
        simp [Kv.valid, bne]
      rw [ht1] at hkey
      rw [ht2] at hval
      have HKEY := Lib.hid hkey
      have HVAL := Lib.hid hval
      clear hcell hse ht1 ht2 hs1 hs2 hkey hval
      cases t1 with
      | false =>
        have HZ : Hid (r = false) := by show _ = _; rw [HR.out]; exact Kv.all_no HS1.out (by rw [HVA.out]; rfl)
        go_wp2_with (go_at_call 28; refine (HKEY.out _).mono ?_; rintro e w' ⟨rfl, rfl⟩)
        go_ret
        exact ⟨by rw [HZ.out]; rfl, HB.out⟩
      | true =>
        cases t2 with
        | false =>
          have HZ : Hid (r = false) := by show _ = _; rw [HR.out]; exact Kv.all_no HS1.out (by rw [HVA.out]; rfl)
          go_wp2_with (first
            | (go_at_call 28; refine (HKEY.out _).mono ?_; rintro e w' ⟨rfl, rfl⟩)
            | (go_at_call 29; refine (HVAL.out _).mono ?_; rintro e w' ⟨rfl, rfl⟩))
          go_ret
          exact ⟨by rw [HZ.out]; rfl, HB.out⟩
        | true =>
          cases t3 with
          | true =>
            have HZ : Hid (r = false) := by show _ = _; rw [HR.out]; exact Kv.all_no HS1.out (by rw [HVA.out]; rfl)
            go_wp2_with (first
              | (go_at_call 28; refine (HKEY.out _).mono ?_; rintro e w' ⟨rfl, rfl⟩)
              | (go_at_call 29; refine (HVAL.out _).mono ?_; rintro e w' ⟨rfl, rfl⟩))
            go_ret
            exact ⟨by rw [HZ.out]; rfl, HB.out⟩
          | false =>
            have HZ : Hid (∀ (j : Nat) (e : Kv.Item), j < k + 1 → l[j]? = some e → Kv.valid e = true) := by
              intro j d hj hd
              by_cases hjk : j = k
              · subst hjk; rw [HS1.out] at hd; cases hd; rw [HVA.out]; rfl
              · exact HI.out j d (by omega) hd
            go_wp2_with (first
              | (go_at_call 28; refine (HKEY.out _).mono ?_; rintro e w' ⟨rfl, rfl⟩)
              | (go_at_call 29; refine (HVAL.out _).mono ?_; rintro e w' ⟨rfl, rfl⟩))
            go_roundw
            case rel => exact ⟨k + 1, by go_num, by omega, HZ.out, HB.out⟩
            case measure => simp [intOf]; omega
    · have HZ0 : Hid (r = (decide (n ≤ 64) && Kv.rises l)) := by
        show _ = _
        rw [HR.out, Kv.all_yes fun j e he => HI.out j e (by have := HN.out; have := (List.getElem?_eq_some_iff.1 he).1; omega) he, ← HN.out]
      by_cases h64 : n ≤ 64
      · have d1 : decide ((n : Int) ≤ 64) = true := by simp; omega
        have HZ : Hid (r = Kv.rises l) := by show _ = _; rw [HZ0.out, decide_eq_true h64]; rfl
        have hrise := riseKv_any _ l wr (HV.out.below HB.out)
        go_wp2_with (go_at_call 30; refine hrise.mono ?_; rintro e w2 ⟨rfl, hB2⟩)
        go_ret
        exact ⟨by rw [HZ.out]; rfl, HB.out.trans (hB2.mono HB.out.size)⟩
      · have d1 : decide ((n : Int) ≤ 64) = false := by simp; omega
        have HZ : Hid (r = false) := by show _ = _; rw [HZ0.out, decide_eq_false h64]; rfl
        go_wp2
        go_ret
        exact ⟨by rw [HZ.out]; rfl, HB.out⟩

end Go.Proofs.Ytgcjjlkjlabneaa
