/- The document's own answers for entries: Check, Rise, Has, Find, Large. -/
import Derived.Test.YtdbiplicmdnblaaDoorEnChk
import Derived.Test.YtdbiplicmdnblaaDoorCmdHas
import Derived.Deep.QuietTactic
import Derived.BigQuiet
namespace Go.Proofs.YtdbiplicmdnblaaDoor
open Go.RowKit

set_option maxRecDepth 4000 in
set_option maxHeartbeats 1600000 in
theorem refHasE_any (v : Int) (u : Value) (l : List En.Ent) (w : World) (hv : ReadsE w u l) :
    Calls Tryd.prog 10 #[.int .i64 v, u] w (Looks w (.bool (En.has v l))) := by
  obtain ⟨ao, cap, rfl, hc1, hc2⟩ := ReadsE.shape hv
  have HP := Lib.hid (fun h => ReadsE.places hv h)
  obtain ⟨n, hnn⟩ : ∃ n, n = l.length := ⟨_, rfl⟩
  rw [← hnn] at hc1 ⊢
  have HN := Lib.hid hnn
  obtain ⟨r, hr⟩ : ∃ r, r = En.has v l := ⟨_, rfl⟩
  rw [← hr]
  have HR := Lib.hid hr
  have hnb : n < 9223372036854775808 := by omega
  clear hv hnn hr
  go_enter Tryd.func10, Tryd.ntmps10
  go_wp2
  go_loopw [5] (fun i wr => ∃ k : Nat, i = .int .i64 (k : Int) ∧ k ≤ n ∧ Hid (En.has v (l.take k) = true) ∧ Below w.heap.size w wr) (fun i _ => n - (intOf i).toNat)
  case atStart => exact ⟨0, rfl, by omega, by show _ = _; simp [En.has], Below.refl _ _⟩
  case round =>
    obtain ⟨k, rfl, hk, HI, hB⟩ := hrel
    have HB := Lib.hid hB
    clear hB
    by_cases hlt : k < n
    · obtain ⟨e, he⟩ : ∃ e, l[k]? = some e := ⟨_, List.getElem?_eq_getElem (by have := HN.out; omega)⟩
      obtain ⟨g, off, rfl, hgl, hcell⟩ := HP.out (by have := HN.out; omega)
      have c3 := (hcell wr HB.out k e he).c3
      have HE := Lib.hid he
      obtain ⟨t, ht⟩ : ∃ t, t = Vs.has v e.cmd.kind := ⟨_, rfl⟩
      have hcall := fun W => refHas_any v e.cmd.kind W
      rw [← ht] at hcall
      have HT := Lib.hid ht
      clear hcell he ht
      cases t with
      | false =>
        have HZ : Hid (r = false) := by show _ = _; rw [HR.out, En.has_no HE.out HT.out.symm]
        go_wp2_with (go_at_call 24; refine (hcall _).mono ?_; rintro e' w4 ⟨rfl, rfl⟩)
        go_ret
        exact ⟨by rw [HZ.out]; rfl, HB.out⟩
      | true =>
        have HZ : Hid (En.has v (l.take (k + 1)) = true) := by show _ = _; rw [En.has_step HE.out, HI.out, ← HT.out]; rfl
        go_wp2_with (go_at_call 24; refine (hcall _).mono ?_; rintro e' w4 ⟨rfl, rfl⟩)
        go_roundw
        case rel => exact ⟨k + 1, by go_num, by omega, HZ.out, HB.out⟩
        case measure => simp [intOf]; omega
    · have HZ : Hid (r = true) := by show _ = _; rw [HR.out, ← HI.out, List.take_of_length_le (by have := HN.out; omega)]
      go_wp2
      go_ret
      exact ⟨by rw [HZ.out]; rfl, HB.out⟩

set_option maxRecDepth 4000 in
theorem refFindE_any (v : Value) (l : List En.Ent) (x : Int) (w : World) (hv : ReadsE w v l) (hp : En.Asc l) :
    Calls Tryd.prog 13 #[v, .int .i64 x] w (Looks w (.int .i64 (En.pos l x))) := by
  obtain ⟨ao, cap, rfl, hc1, hc2⟩ := ReadsE.shape hv
  have HP := Lib.hid (fun h => ReadsE.places hv h)
  have HA := Lib.hid hp
  obtain ⟨n, hnn⟩ : ∃ n, n = l.length := ⟨_, rfl⟩
  rw [← hnn] at hc1 ⊢
  have HN := Lib.hid hnn
  obtain ⟨r, hr⟩ : ∃ r, r = En.pos l x := ⟨_, rfl⟩
  rw [← hr]
  have HR := Lib.hid hr
  have hnb : n < 9223372036854775808 := by omega
  clear hv hnn hr hp
  go_enter Tryd.func13, Tryd.ntmps13
  go_wp2
  go_loopw [5] (fun i wr => ∃ k : Nat, i = .int .i64 (k : Int) ∧ k ≤ n ∧ Hid (∀ (j : Nat) (e : En.Ent), j < k → l[j]? = some e → e.index ≠ x) ∧ Below w.heap.size w wr) (fun i _ => n - (intOf i).toNat)
  case atStart => exact ⟨0, rfl, by omega, fun j e hj => by omega, Below.refl _ _⟩
  case round =>
    obtain ⟨k, rfl, hk, HI, hB⟩ := hrel
    have HB := Lib.hid hB
    clear hB
    by_cases hlt : k < n
    · obtain ⟨e, he⟩ : ∃ e, l[k]? = some e := ⟨_, List.getElem?_eq_getElem (by have := HN.out; omega)⟩
      obtain ⟨g, off, rfl, hgl, hcell⟩ := HP.out (by have := HN.out; omega)
      have c0 := (hcell wr HB.out k e he).c0
      have HE := Lib.hid he
      clear hcell he
      by_cases hx : e.index = x
      · have HZ : Hid (r = (k : Int)) := by
          obtain ⟨h1, h2⟩ := En.at_found HA.out HE.out
          show _ = _
          rw [HR.out, ← hx, En.pos, if_pos h1, h2]
        have hx1 : (e.index == x) = true := by simpa using hx
        clear hx
        go_wp2
        go_ret
        exact ⟨by rw [HZ.out]; rfl, HB.out⟩
      · have HZ : Hid (∀ (j : Nat) (e : En.Ent), j < k + 1 → l[j]? = some e → e.index ≠ x) := by
          intro j d hj hd
          by_cases hjk : j = k
          · subst hjk; rw [HE.out] at hd; cases hd; exact hx
          · exact HI.out j d (by omega) hd
        have hx1 : (e.index == x) = false := by simpa using hx
        clear hx
        go_wp2
        go_roundw
        case rel => exact ⟨k + 1, by go_num, by omega, HZ.out, HB.out⟩
        case measure => simp [intOf]; omega
    · have HZ : Hid (r = -1) := by
        have h := En.not_found (l := l) (x := x) fun j e hj => HI.out j e (by have := HN.out; have := (List.getElem?_eq_some_iff.1 hj).1; omega) hj
        show _ = _
        rw [HR.out, En.pos, h]; rfl
      go_wp2
      go_ret
      exact ⟨by rw [HZ.out]; rfl, HB.out⟩

set_option maxRecDepth 4000 in
set_option maxHeartbeats 1600000 in
theorem rise_any (v : Value) (l : List En.Ent) (w : World) (hv : ReadsE w v l) :
    Calls Tryd.prog 11 #[v] w (Looks w (.bool (En.rises l))) := by
  obtain ⟨ao, cap, rfl, hc1, hc2⟩ := ReadsE.shape hv
  have HP := Lib.hid (fun h => ReadsE.places hv h)
  obtain ⟨n, hnn⟩ : ∃ n, n = l.length := ⟨_, rfl⟩
  rw [← hnn] at hc1 ⊢
  have HN := Lib.hid hnn
  obtain ⟨r, hr⟩ : ∃ r, r = En.rises l := ⟨_, rfl⟩
  rw [← hr]
  have HR := Lib.hid hr
  have hnb : n < 9223372036854775808 := by omega
  clear hv hnn hr
  go_enter Tryd.func11, Tryd.ntmps11
  go_wp2
  go_loopw [3] (fun i wr => ∃ q : Nat, i = .int .i64 ((q + 1 : Nat) : Int) ∧ (q ≤ n) ∧ Hid (∀ (j : Nat) (a b : En.Ent), j < q → l[j]? = some a → l[j + 1]? = some b → a.index < b.index) ∧ Below w.heap.size w wr) (fun i _ => n + 1 - (intOf i).toNat)
  case atStart => exact ⟨0, rfl, by omega, fun j a b hj => by omega, Below.refl _ _⟩
  case round =>
    obtain ⟨q, rfl, hq, HI, hB⟩ := hrel
    have HB := Lib.hid hB
    clear hB
    obtain ⟨k, hk⟩ : ∃ k, k = q + 1 := ⟨_, rfl⟩
    rw [← hk]
    have HK := Lib.hid hk
    have hkq : (k : Int) - 1 = (q : Int) := by omega
    by_cases hlt : k < n
    · obtain ⟨e, he⟩ : ∃ e, l[k]? = some e := ⟨_, List.getElem?_eq_getElem (by have := HN.out; omega)⟩
      obtain ⟨d, hd⟩ : ∃ d, l[q]? = some d := ⟨_, List.getElem?_eq_getElem (by have := HN.out; omega)⟩
      obtain ⟨g, off, rfl, hgl, hcell⟩ := HP.out (by have := HN.out; omega)
      have c0 := (hcell wr HB.out k e he).c0
      have d0 := (hcell wr HB.out q d hd).c0
      have hqn : q < n := by omega
      have HE := Lib.hid he; have HD := Lib.hid hd
      clear hcell he hd hk
      by_cases hx : e.index ≤ d.index
      · have HZ : Hid (r = false) := by show _ = _; rw [HR.out]; exact En.rises_no HD.out (by rw [← HK.out]; exact HE.out) hx
        have hx1 : decide (e.index ≤ d.index) = true := decide_eq_true hx
        clear hx
        go_wp2
        go_quiet (fail)
        all_goals
          go_wp2
          go_ret
          exact ⟨by rw [HZ.out]; rfl, HB.out.trans ((drawn wr _).mono HB.out.size)⟩
      · have HZ : Hid (∀ (j : Nat) (a b : En.Ent), j < k → l[j]? = some a → l[j + 1]? = some b → a.index < b.index) := by
          intro j a b hj ha hb
          by_cases hjk : j = q
          · subst hjk
            rw [HD.out] at ha
            rw [← HK.out, HE.out] at hb
            cases ha; cases hb
            omega
          · exact HI.out j a b (by have := HK.out; omega) ha hb
        have hx1 : decide (e.index ≤ d.index) = false := decide_eq_false hx
        clear hx
        go_wp2
        go_quiet (fail)
        all_goals
          go_wp2
          go_roundw
          case rel => exact ⟨k, by go_num, by omega, HZ.out, HB.out.trans ((drawn wr _).mono HB.out.size)⟩
          case measure => simp [intOf]; omega
    · have HZ : Hid (r = true) := by
        show _ = _
        rw [HR.out]
        refine En.rises_yes fun j a b ha hb => HI.out j a b ?_ ha hb
        have := HK.out; have := HN.out; have := (List.getElem?_eq_some_iff.1 hb).1
        omega
      clear hk
      go_wp2
      go_ret
      exact ⟨by rw [HZ.out]; rfl, HB.out⟩

end Go.Proofs.YtdbiplicmdnblaaDoor
