/- The document's own answers for sessions: Rise, Same, Has, Last, Large, Check. -/
import Derived.Test.YtgcjjlkjlabneaaSeMem
import Derived.Test.YtgcjjlkjlabneaaAnsRefC
import Derived.Test.YtgcjjlkjlabneaaOnce
import Derived.Deep.QuietTactic
import Derived.BigQuiet
namespace Go.Proofs.Ytgcjjlkjlabneaa
open Go.RowKit

set_option maxRecDepth 4000 in
set_option maxHeartbeats 1600000 in
theorem riseSe_any (v : Value) (l : List Se.Ses) (w : World) (hv : ReadsN w v l) :
    Calls Try.prog 32 #[v] w (Looks w (.bool (Se.rises l))) := by
  obtain ⟨ao, cap, rfl, hc1, hc2⟩ := ReadsN.shape hv
  have HP := Lib.hid (fun h => ReadsN.places hv h)
  obtain ⟨n, hnn⟩ : ∃ n, n = l.length := ⟨_, rfl⟩
  rw [← hnn] at hc1 ⊢
  have HN := Lib.hid hnn
  obtain ⟨r, hr⟩ : ∃ r, r = Se.rises l := ⟨_, rfl⟩
  rw [← hr]
  have HR := Lib.hid hr
  have hnb : n < 9223372036854775808 := by omega
  clear hv hnn hr
  go_enter Try.func32, Try.ntmps32
  go_wp2
  go_loopw [3] (fun i wr => ∃ q : Nat, i = .int .i64 ((q + 1 : Nat) : Int) ∧ (q ≤ n) ∧ Hid (∀ (j : Nat) (a b : Se.Ses), j < q → l[j]? = some a → l[j + 1]? = some b → a.client < b.client) ∧ Below w.heap.size w wr) (fun i _ => n + 1 - (intOf i).toNat)
  case atStart => exact ⟨0, rfl, by omega, fun j a b hj => by omega, Below.refl _ _⟩
  case round =>
    obtain ⟨q, rfl, hq, HI, hB⟩ := hrel
    have HB := Lib.hid hB
    clear hB
    obtain ⟨k, hk⟩ : ∃ k, k = q + 1 := ⟨_, rfl⟩
    rw [← hk]
    have HK := Lib.hid hk
    have hkq : (k : Int) - 1 = (q : Int) := by omega
    by_cases hlt : k < n
    · obtain ⟨e, he⟩ : ∃ e, l[k]? = some e := ⟨_, List.getElem?_eq_getElem (by have := HN.out; omega)⟩
      obtain ⟨d, hd⟩ : ∃ d, l[q]? = some d := ⟨_, List.getElem?_eq_getElem (by have := HN.out; omega)⟩
      obtain ⟨g, off, rfl, hgl, hcell⟩ := HP.out (by have := HN.out; omega)
      have c0 := (hcell wr HB.out k e he).c0
      have d0 := (hcell wr HB.out q d hd).c0
      have hqn : q < n := by omega
      have HE := Lib.hid he; have HD := Lib.hid hd
      clear hcell he hd hk
      by_cases hx : e.client ≤ d.client
      · have HZ : Hid (r = false) := by show _ = _; rw [HR.out]; exact Se.rises_no HD.out (by rw [← HK.out]; exact HE.out) hx
        have hx1 : decide (e.client ≤ d.client) = true := decide_eq_true hx
        clear hx
        go_wp2
        go_quiet (fail)
        all_goals
          go_wp2
          go_ret
          exact ⟨by rw [HZ.out]; rfl, HB.out.trans ((drawn wr _).mono HB.out.size)⟩
      · have HZ : Hid (∀ (j : Nat) (a b : Se.Ses), j < k → l[j]? = some a → l[j + 1]? = some b → a.client < b.client) := by
          intro j a b hj ha hb
          by_cases hjk : j = q
          · subst hjk
            rw [HD.out] at ha
            rw [← HK.out, HE.out] at hb
            cases ha; cases hb
            omega
          · exact HI.out j a b (by have := HK.out; omega) ha hb
        have hx1 : decide (e.client ≤ d.client) = false := decide_eq_false hx
        clear hx
        go_wp2
        go_quiet (fail)
        all_goals
          go_wp2
          go_roundw
          case rel => exact ⟨k, by go_num, by omega, HZ.out, HB.out.trans ((drawn wr _).mono HB.out.size)⟩
          case measure => simp [intOf]; omega
    · have HZ : Hid (r = true) := by
        show _ = _
        rw [HR.out]
        refine Se.rises_yes fun j a b ha hb => HI.out j a b ?_ ha hb
        have := HK.out; have := HN.out; have := (List.getElem?_eq_some_iff.1 hb).1
        omega
      clear hk
      go_wp2
      go_ret
      exact ⟨by rw [HZ.out]; rfl, HB.out⟩

set_option maxRecDepth 4000 in
set_option maxHeartbeats 3200000 in
theorem sameSe_any (v u : Value) (l m : List Se.Ses) (w : World) (hv : ReadsN w v l) (hu : ReadsN w u m) :
    Calls Try.prog 24 #[v, u] w (Looks w (.bool (decide (l = m)))) := by
  obtain ⟨ao, cap, rfl, hc1, hc2⟩ := ReadsN.shape hv
  obtain ⟨bo, bcap, rfl, hd1, hd2⟩ := ReadsN.shape hu
  have HP := Lib.hid (fun h => ReadsN.places hv h)
  have HQ := Lib.hid (fun h => ReadsN.places hu h)
  obtain ⟨r, hr⟩ : ∃ r, r = decide (l = m) := ⟨_, rfl⟩
  rw [← hr]
  have HR := Lib.hid hr
  obtain ⟨n, hnn⟩ : ∃ n, n = l.length := ⟨_, rfl⟩
  obtain ⟨p, hpp⟩ : ∃ p, p = m.length := ⟨_, rfl⟩
  rw [← hnn] at hc1 ⊢
  rw [← hpp] at hd1 ⊢
  have HN := Lib.hid hnn
  have HM := Lib.hid hpp
  have hnb : n < 9223372036854775808 := by omega
  have hpb : p < 9223372036854775808 := by omega
  clear hv hu hnn hpp hr
  by_cases hnp : n = p
  · subst hnp
    have hne : ((n : Int) != (n : Int)) = false := by simp
    go_enter Try.func24, Try.ntmps24
    go_wp2
    go_loopw [5] (fun i wr => ∃ k : Nat, i = .int .i64 (k : Int) ∧ k ≤ n ∧ Hid (l.take k = m.take k) ∧ Below w.heap.size w wr) (fun i _ => n - (intOf i).toNat)
    case atStart => exact ⟨0, rfl, by omega, by show _ = _; simp, Below.refl _ _⟩
    case round =>
      obtain ⟨k, rfl, hk, HI, hB⟩ := hrel
      have HB := Lib.hid hB
      clear hB
      by_cases hlt : k < n
      · obtain ⟨a, ha⟩ : ∃ e, l[k]? = some e := ⟨_, List.getElem?_eq_getElem (by have := HN.out; omega)⟩
        obtain ⟨b, hb⟩ : ∃ e, m[k]? = some e := ⟨_, List.getElem?_eq_getElem (by have := HM.out; omega)⟩
        obtain ⟨g, off, rfl, hgl, hcell⟩ := HP.out (by have := HN.out; omega)
        obtain ⟨h, oof, rfl, hhl, hdell⟩ := HQ.out (by have := HM.out; omega)
        obtain ⟨c0, c1, c2, c3, c4, c5, c6, c7⟩ := hcell wr HB.out k a ha
        obtain ⟨d0, d1, d2, d3, d4, d5, d6, d7⟩ := hdell wr HB.out k b hb
        have HA := Lib.hid ha; have HBB := Lib.hid hb
        have hgd := guard_ses
        have hneq := fun W => run_neq_ses W a b
        obtain ⟨t, ht⟩ : ∃ t, t = decide (a = b) := ⟨_, rfl⟩
        rw [← ht] at hneq
        have HT := Lib.hid ht
        dsimp only [Se.cells] at hneq
        clear hcell hdell ha hb ht
        cases t with
        | true =>
          have HZ : Hid (l.take (k + 1) = m.take (k + 1)) := by
            show _ = _
            rw [List.take_add_one, List.take_add_one, HA.out, HBB.out, HI.out, of_decide_eq_true HT.out.symm]
          simp only [Bool.not_true] at hneq
          go_wp2
          go_quiet (fail)
          all_goals
            go_wp2
            go_roundw
            case rel => exact ⟨k + 1, by go_num, by omega, HZ.out, HB.out.trans ((drawn wr _).mono HB.out.size)⟩
            case measure => simp [intOf]; omega
        | false =>
          have HZ : Hid (r = false) := by
            show _ = _
            rw [HR.out]
            refine decide_eq_false fun h => ?_
            have h1 := HA.out
            rw [h, HBB.out] at h1
            exact of_decide_eq_false HT.out.symm (Option.some.inj h1).symm
          simp only [Bool.not_false] at hneq
          go_wp2
          go_quiet (fail)
          all_goals
            go_wp2
            go_ret
            exact ⟨by rw [HZ.out]; rfl, HB.out.trans ((drawn wr _).mono HB.out.size)⟩
      · have HZ : Hid (r = true) := by
          show _ = _
          rw [HR.out]
          refine decide_eq_true ?_
          have := HI.out
          rwa [List.take_of_length_le (by have := HN.out; omega), List.take_of_length_le (by have := HM.out; omega)] at this
        go_wp2
        go_ret
        exact ⟨by rw [HZ.out]; rfl, HB.out⟩
  · have hne : ((n : Int) != (p : Int)) = true := by simp; omega
    have HZ : Hid (r = false) := by
      show _ = _
      rw [HR.out]
      exact decide_eq_false fun h => hnp (by rw [HN.out, HM.out, h])
    go_enter Try.func24, Try.ntmps24
    go_wp2
    go_ret
    exact ⟨by rw [HZ.out]; rfl, Below.refl _ _⟩

set_option maxRecDepth 4000 in
set_option maxHeartbeats 3200000 in
theorem largeSe_any (v : Value) (l : List Se.Ses) (w : World) (hv : ReadsN w v l) (hs : ∀ e ∈ l, e.last.val.length ≤ 9223372036854775807) :
    Calls Try.prog 15 #[v] w (Looks w (.bool (Se.large l))) := by
  obtain ⟨ao, cap, rfl, hc1, hc2⟩ := ReadsN.shape hv
  have HP := Lib.hid (fun h => ReadsN.places hv h)
  have HS := Lib.hid hs
  obtain ⟨n, hnn⟩ : ∃ n, n = l.length := ⟨_, rfl⟩
  rw [← hnn] at hc1 ⊢
  have HN := Lib.hid hnn
  obtain ⟨r, hr⟩ : ∃ r, r = Se.large l := ⟨_, rfl⟩
  rw [← hr]
  have HR := Lib.hid hr
  have hnb : n < 9223372036854775808 := by omega
  clear hv hnn hr hs
  go_enter Try.func15, Try.ntmps15
  go_wp2
  go_loopw [3] (fun i wr => ∃ k : Nat, i = .int .i64 (k : Int) ∧ k ≤ n ∧ k ≤ 40 ∧ Hid (∀ (j : Nat) (e : Se.Ses), j < k → l[j]? = some e → Se.long e = false) ∧ Below w.heap.size w wr) (fun i _ => 40 - (intOf i).toNat)
  case atStart => exact ⟨0, rfl, by omega, by omega, fun j e hj => by omega, Below.refl _ _⟩
  case round =>
    obtain ⟨k, rfl, hk, hk40, HI, hB⟩ := hrel
    have HB := Lib.hid hB
    clear hB
    by_cases hlt : k < n
    · by_cases hlt40 : k < 40
      · obtain ⟨e, he⟩ : ∃ e, l[k]? = some e := ⟨_, List.getElem?_eq_getElem (by have := HN.out; omega)⟩
        obtain ⟨g, off, rfl, hgl, hcell⟩ := HP.out (by have := HN.out; omega)
        obtain ⟨_, _, _, _, _, _, c6, _⟩ := hcell wr HB.out k e he
        have HE := Lib.hid he
        have hse := HS.out e (List.mem_of_getElem? he)
        have k1 := str_size e.last.val
        obtain ⟨x1, hx1⟩ : ∃ x, x = e.last.val.length := ⟨_, rfl⟩
        have HL : Hid (Se.long e = decide (200 < x1)) := by show _ = _; rw [Se.long, hx1]
        rw [← hx1] at k1 hse
        clear hcell he hx1
        by_cases h1 : 200 < x1
        · have HZ : Hid (r = true) := by show _ = _; rw [HR.out]; exact Se.large_yes HE.out hlt40 (by rw [HL.out]; simp [h1])
          have d1 : decide ((200 : Int) < (x1 : Int)) = true := by simp; omega
          go_wp2
          go_ret
          exact ⟨by rw [HZ.out]; rfl, HB.out⟩
        · have d1 : decide ((200 : Int) < (x1 : Int)) = false := by simp; omega
          have HZ : Hid (∀ (j : Nat) (e : Se.Ses), j < k + 1 → l[j]? = some e → Se.long e = false) := by
            intro j d hj hd
            by_cases hjk : j = k
            · subst hjk; rw [HE.out] at hd; cases hd; rw [HL.out]; simp [h1]
            · exact HI.out j d (by omega) hd
          go_wp2
          go_roundw
          case rel => exact ⟨k + 1, by go_num, by omega, by omega, HZ.out, HB.out⟩
          case measure => simp [intOf]; omega
      · obtain rfl : k = 40 := by omega
        have HZ : Hid (r = true) := by
          show _ = _
          rw [HR.out, Se.large_no HI.out]
          exact decide_eq_true (by rw [← HN.out]; exact hlt)
        have d1 : decide ((40 : Int) < (n : Int)) = true := by simp; omega
        go_wp2
        go_ret
        exact ⟨by rw [HZ.out]; rfl, HB.out⟩
    · have HZ : Hid (r = decide ((40 : Int) < (n : Int))) := by
        show _ = _
        rw [HR.out, Se.large_no fun j e h40 he => HI.out j e (by have := HN.out; have := (List.getElem?_eq_some_iff.1 he).1; omega) he, ← HN.out]
        exact decide_eq_decide.2 (by omega)
      have d1 : decide ((40 : Int) < (n : Int)) = false := by simp; omega
      go_wp2
      go_ret
      exact ⟨by rw [HZ.out, d1]; rfl, HB.out⟩

set_option maxRecDepth 4000 in
set_option maxHeartbeats 3200000 in
theorem refCheckSe_any (v : Value) (l : List Se.Ses) (w : World) (hv : ReadsN w v l) (hs : ∀ e ∈ l, e.last.val.length ≤ 140737488355328) :
    Calls Try.prog 18 #[v] w (Looks w (.bool (Se.refCheck l))) := by
  have HV := Lib.hid hv
  obtain ⟨ao, cap, rfl, hc1, hc2⟩ := ReadsN.shape hv
  have HP := Lib.hid (fun h => ReadsN.places hv h)
  have HS := Lib.hid hs
  obtain ⟨n, hnn⟩ : ∃ n, n = l.length := ⟨_, rfl⟩
  rw [← hnn] at hc1 HV ⊢
  have HN := Lib.hid hnn
  obtain ⟨r, hr⟩ : ∃ r, r = Se.refCheck l := ⟨_, rfl⟩
  rw [← hr]
  have HR := Lib.hid hr
  have hnb : n < 9223372036854775808 := by omega
  clear hv hnn hr hs
  go_enter Try.func18, Try.ntmps18
  go_wp2
  go_loopw [3] (fun i wr => ∃ k : Nat, i = .int .i64 (k : Int) ∧ k ≤ n ∧ Hid (∀ (j : Nat) (e : Se.Ses), j < k → l[j]? = some e → Se.valid e = true) ∧ Below w.heap.size w wr) (fun i _ => n - (intOf i).toNat)
  case atStart => exact ⟨0, rfl, by omega, fun j e hj => by omega, Below.refl _ _⟩
  case round =>
    obtain ⟨k, rfl, hk, HI, hB⟩ := hrel
    have HB := Lib.hid hB
    clear hB
    by_cases hlt : k < n
    · obtain ⟨s, hse⟩ : ∃ s, l[k]? = some s := ⟨_, List.getElem?_eq_getElem (by have := HN.out; omega)⟩
      obtain ⟨g, off, rfl, hgl, hcell⟩ := HP.out (by have := HN.out; omega)
      have HC : Hid (∀ W, Below w.heap.size w W → SesAt W g (off + k * 8) s) := fun W hW => hcell W hW k s hse
      have HS1 := Lib.hid hse
      have HF := Lib.hid (fun W => arefCheck_any s.last W (HS.out s (List.mem_of_getElem? hse)))
      obtain ⟨y, hy⟩ : ∃ y, y = An.check s.last := ⟨_, rfl⟩
      rw [← hy] at HF
      obtain ⟨t1, ht1⟩ : ∃ t, (s.last.client != s.client) = t := ⟨_, rfl⟩
      obtain ⟨t2, ht2⟩ : ∃ t, (s.last.seq != s.seq) = t := ⟨_, rfl⟩
      obtain ⟨t3, ht3⟩ : ∃ t, (y != 0) = t := ⟨_, rfl⟩
      have HVA : Hid (Se.valid s = (!t1 && (!t2 && !t3))) := by
        show _ = _
        rw [← ht1, ← ht2, ← ht3, hy]
        simp [Se.valid, bne]
      clear hcell hse hy
      cases t1 with
      | true =>
        have HZ : Hid (r = false) := by show _ = _; rw [HR.out]; exact Se.all_no HS1.out (by rw [HVA.out]; rfl)
        go_wp2
        have k0 := fun p' : Behind wr => (HC.out p'.world (HB.out.trans (p'.below.mono HB.out.size))).c0
        have k1 := fun p' : Behind wr => (HC.out p'.world (HB.out.trans (p'.below.mono HB.out.size))).c1
        have k2 := fun p' : Behind wr => (HC.out p'.world (HB.out.trans (p'.below.mono HB.out.size))).c2
        have k3 := fun p' : Behind wr => (HC.out p'.world (HB.out.trans (p'.below.mono HB.out.size))).c3
        have k4 := fun p' : Behind wr => (HC.out p'.world (HB.out.trans (p'.below.mono HB.out.size))).c4
        have k5 := fun p' : Behind wr => (HC.out p'.world (HB.out.trans (p'.below.mono HB.out.size))).c5
        have k6 := fun p' : Behind wr => (HC.out p'.world (HB.out.trans (p'.below.mono HB.out.size))).c6
        have k7 := fun p' : Behind wr => (HC.out p'.world (HB.out.trans (p'.below.mono HB.out.size))).c7
        refine wp_region_behind (by kernel_rfl) (by kernel_rfl) ?_
        repeat (go_big_quiet_step (fail))
        refine wpQuiet_nil ?_
        rintro w5 ⟨⟨w5, hw5⟩, rfl⟩
        (try dsimp only)
        have HBw5 := Lib.hid (HB.out.trans (hw5.mono HB.out.size))
        clear k0 k1 k2 k3 k4 k5 k6 k7 hw5
        go_wp2
        go_ret
        exact ⟨by rw [HZ.out]; rfl, HBw5.out⟩
      | false =>
        cases t2 with
        | true =>
          have HZ : Hid (r = false) := by show _ = _; rw [HR.out]; exact Se.all_no HS1.out (by rw [HVA.out]; rfl)
          go_wp2
          have k0 := fun p' : Behind wr => (HC.out p'.world (HB.out.trans (p'.below.mono HB.out.size))).c0
          have k1 := fun p' : Behind wr => (HC.out p'.world (HB.out.trans (p'.below.mono HB.out.size))).c1
          have k2 := fun p' : Behind wr => (HC.out p'.world (HB.out.trans (p'.below.mono HB.out.size))).c2
          have k3 := fun p' : Behind wr => (HC.out p'.world (HB.out.trans (p'.below.mono HB.out.size))).c3
          have k4 := fun p' : Behind wr => (HC.out p'.world (HB.out.trans (p'.below.mono HB.out.size))).c4
          have k5 := fun p' : Behind wr => (HC.out p'.world (HB.out.trans (p'.below.mono HB.out.size))).c5
          have k6 := fun p' : Behind wr => (HC.out p'.world (HB.out.trans (p'.below.mono HB.out.size))).c6
          have k7 := fun p' : Behind wr => (HC.out p'.world (HB.out.trans (p'.below.mono HB.out.size))).c7
          refine wp_region_behind (by kernel_rfl) (by kernel_rfl) ?_
          repeat (go_big_quiet_step (fail))
          refine wpQuiet_nil ?_
          rintro w5 ⟨⟨w5, hw5⟩, rfl⟩
          (try dsimp only)
          have HBw5 := Lib.hid (HB.out.trans (hw5.mono HB.out.size))
          clear k0 k1 k2 k3 k4 k5 k6 k7 hw5
          go_wp2
          go_ret
          exact ⟨by rw [HZ.out]; rfl, HBw5.out⟩
        | false =>
          cases t3 with
          | true =>
            have HZ : Hid (r = false) := by show _ = _; rw [HR.out]; exact Se.all_no HS1.out (by rw [HVA.out]; rfl)
            go_wp2
            have k0 := fun p' : Behind wr => (HC.out p'.world (HB.out.trans (p'.below.mono HB.out.size))).c0
            have k1 := fun p' : Behind wr => (HC.out p'.world (HB.out.trans (p'.below.mono HB.out.size))).c1
            have k2 := fun p' : Behind wr => (HC.out p'.world (HB.out.trans (p'.below.mono HB.out.size))).c2
            have k3 := fun p' : Behind wr => (HC.out p'.world (HB.out.trans (p'.below.mono HB.out.size))).c3
            have k4 := fun p' : Behind wr => (HC.out p'.world (HB.out.trans (p'.below.mono HB.out.size))).c4
            have k5 := fun p' : Behind wr => (HC.out p'.world (HB.out.trans (p'.below.mono HB.out.size))).c5
            have k6 := fun p' : Behind wr => (HC.out p'.world (HB.out.trans (p'.below.mono HB.out.size))).c6
            have k7 := fun p' : Behind wr => (HC.out p'.world (HB.out.trans (p'.below.mono HB.out.size))).c7
            refine wp_region_behind (by kernel_rfl) (by kernel_rfl) ?_
            repeat (go_big_quiet_step ((go_at_call 31; exact Looks.behind (HF.out _))))
            refine wpQuiet_nil ?_
            rintro w5 ⟨⟨w5, hw5⟩, rfl⟩
            (try dsimp only)
            have HBw5 := Lib.hid (HB.out.trans (hw5.mono HB.out.size))
            clear k0 k1 k2 k3 k4 k5 k6 k7 hw5
            go_wp2
            go_ret
            exact ⟨by rw [HZ.out]; rfl, HBw5.out⟩
          | false =>
            have HZ : Hid (∀ (j : Nat) (e : Se.Ses), j < k + 1 → l[j]? = some e → Se.valid e = true) := by
              intro j d hj hd
              by_cases hjk : j = k
              · subst hjk; rw [HS1.out] at hd; cases hd; exact HVA.out
              · exact HI.out j d (by omega) hd
            go_wp2
            have k0 := fun p' : Behind wr => (HC.out p'.world (HB.out.trans (p'.below.mono HB.out.size))).c0
            have k1 := fun p' : Behind wr => (HC.out p'.world (HB.out.trans (p'.below.mono HB.out.size))).c1
            have k2 := fun p' : Behind wr => (HC.out p'.world (HB.out.trans (p'.below.mono HB.out.size))).c2
            have k3 := fun p' : Behind wr => (HC.out p'.world (HB.out.trans (p'.below.mono HB.out.size))).c3
            have k4 := fun p' : Behind wr => (HC.out p'.world (HB.out.trans (p'.below.mono HB.out.size))).c4
            have k5 := fun p' : Behind wr => (HC.out p'.world (HB.out.trans (p'.below.mono HB.out.size))).c5
            have k6 := fun p' : Behind wr => (HC.out p'.world (HB.out.trans (p'.below.mono HB.out.size))).c6
            have k7 := fun p' : Behind wr => (HC.out p'.world (HB.out.trans (p'.below.mono HB.out.size))).c7
            refine wp_region_behind (by kernel_rfl) (by kernel_rfl) ?_
            repeat (go_big_quiet_step ((go_at_call 31; exact Looks.behind (HF.out _))))
            refine wpQuiet_nil ?_
            rintro w5 ⟨⟨w5, hw5⟩, rfl⟩
            (try dsimp only)
            have HBw5 := Lib.hid (HB.out.trans (hw5.mono HB.out.size))
            clear k0 k1 k2 k3 k4 k5 k6 k7 hw5
            go_wp2
            go_roundw
            case rel => exact ⟨k + 1, by go_num, by omega, HZ.out, HBw5.out⟩
            case measure => simp [intOf]; omega
    · have HZ : Hid (r = Se.rises l) := by
        show _ = _
        rw [HR.out]
        exact Se.all_yes fun j e he => HI.out j e (by have := HN.out; have := (List.getElem?_eq_some_iff.1 he).1; omega) he
      go_wp2_with fail
      refine (riseSe_any _ l wr (HV.out.below HB.out)).mono ?_
      rintro e w2 ⟨rfl, hB2⟩
      go_wp2
      go_ret
      exact ⟨by rw [HZ.out]; rfl, HB.out.trans (hB2.mono HB.out.size)⟩

end Go.Proofs.Ytgcjjlkjlabneaa
