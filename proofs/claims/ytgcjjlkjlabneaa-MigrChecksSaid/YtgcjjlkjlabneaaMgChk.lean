/- May a state be: the program's Check. -/
import Derived.Test.YtgcjjlkjlabneaaMgMem
import Derived.Test.YtgcjjlkjlabneaaKvChk
import Derived.Test.YtgcjjlkjlabneaaKwChk
import Derived.Test.YtgcjjlkjlabneaaSeChk
import Derived.Test.YtgcjjlkjlabneaaSeFind
namespace Go.Proofs.Ytgcjjlkjlabneaa
open Go.RowKit

theorem Mg.ix_any (l : List Se.Ses) : (decide (0 ≤ Se.ix Mg.tells l)) = l.any Mg.tells := by
  by_cases h : l.findIdx Mg.tells < l.length
  · rw [Se.ix_yes h]
    have h1 : l.any Mg.tells = true := List.any_eq_true.2 ⟨_, List.getElem_mem h, List.findIdx_getElem (w := h)⟩
    rw [h1]
    exact decide_eq_true (by omega)
  · rw [Se.ix_no h]
    have h1 : l.any Mg.tells = false := by
      rw [List.any_eq_false]
      have h2 := Nat.le_antisymm (Se.idx_le Mg.tells l) (by omega)
      intro e he ht
      exact h (by have := List.findIdx_lt_length.2 ⟨e, he, ht⟩; omega)
    rw [h1]
    rfl

abbrev TellF : Value := .func (.func 36) #[] #[]
theorem tells_any (s : Se.Ses) (w : World) : Calls Try.prog 36 #[.agg (Se.cells s)] w (Looks w (.bool (Mg.tells s))) := by
  obtain ⟨w1, e1, hl1, hB1, hz1⟩ := box_ses w s
  obtain ⟨p0, p1, p2, p3, p4, p5, p6, p7⟩ := Sess.eight hl1
  have HB1 := Lib.hid hB1
  obtain ⟨t, ht⟩ : ∃ t, (s.last.rev != 0) = t := ⟨_, rfl⟩
  have HT : Hid (Mg.tells s = t) := ht
  clear hl1 hB1 hz1
  go_enter Try.func36, Try.ntmps36
  go_wp2
  go_ret
  exact ⟨by rw [HT.out]; rfl, HB1.out⟩

set_option maxRecDepth 4000 in
set_option maxHeartbeats 1600000 in
theorem indexTells_any (v : Value) (l : List Se.Ses) (w : World) (hv : ReadsN w v l) :
    Calls Try.prog 43 #[v, TellF] w (Looks w (.int .i64 (Se.ix Mg.tells l))) := by
  obtain ⟨ao, cap, rfl, hc1, hc2⟩ := ReadsN.shape hv
  have HP := Lib.hid (fun h => ReadsN.places hv h)
  obtain ⟨n, hnn⟩ : ∃ n, n = l.length := ⟨_, rfl⟩
  rw [← hnn] at hc1 ⊢
  have HN := Lib.hid hnn
  obtain ⟨r, hr⟩ : ∃ r, r = Se.ix Mg.tells l := ⟨_, rfl⟩
  rw [← hr]
  have HR := Lib.hid hr
  have hnb : n < 9223372036854775808 := by omega
  clear hv hnn hr
  go_enter Try.func43, Try.ntmps43
  go_wp2
  go_loopw [8] (fun i wr => ∃ k : Nat, i = .int .i64 (k : Int) ∧ k ≤ n ∧ Hid (∀ (j : Nat) (e : Se.Ses), j < k → l[j]? = some e → Mg.tells e = false) ∧ Below w.heap.size w wr) (fun i _ => n - (intOf i).toNat)
  case atStart => exact ⟨0, rfl, by omega, fun j e hj => by omega, Below.refl _ _⟩
  case round =>
    obtain ⟨k, rfl, hk, HI, hB⟩ := hrel
    have HB := Lib.hid hB
    clear hB
    by_cases hlt : k < n
    · obtain ⟨s, hs⟩ : ∃ s, l[k]? = some s := ⟨_, List.getElem?_eq_getElem (by have := HN.out; omega)⟩
      obtain ⟨b, off, rfl, hgl, hcell⟩ := HP.out (by have := HN.out; omega)
      have HC := Lib.hid (hcell wr HB.out k s hs)
      have HS := Lib.hid hs
      have hcall := tells_any s wr
      obtain ⟨t, ht⟩ : ∃ t, t = Mg.tells s := ⟨_, rfl⟩
      rw [← ht] at hcall
      have HT := Lib.hid ht
      clear hcell hs ht
      cases t with
      | true =>
        have HZ : Hid (r = (k : Int)) := by show _ = _; rw [HR.out]; exact (Se.ix_found HS.out HT.out.symm HI.out).1
        go_wp2_with (first | (refine load_ses rfl _ rfl b (off + k * 8) s rfl HC.out ?_) | (go_at_call 36; refine hcall.mono ?_; rintro e w' ⟨rfl, hB'⟩))
        go_ret
        exact ⟨by rw [HZ.out]; rfl, HB.out.trans (hB'.mono HB.out.size)⟩
      | false =>
        have HZ : Hid (∀ (j : Nat) (e : Se.Ses), j < k + 1 → l[j]? = some e → Mg.tells e = false) := by
          intro j d hj hd
          by_cases hjk : j = k
          · subst hjk; rw [HS.out] at hd; cases hd; exact HT.out.symm
          · exact HI.out j d (by omega) hd
        go_wp2_with (first | (refine load_ses rfl _ rfl b (off + k * 8) s rfl HC.out ?_) | (go_at_call 36; refine hcall.mono ?_; rintro e w' ⟨rfl, hB'⟩))
        go_roundw
        case rel => exact ⟨k + 1, by go_num, by omega, HZ.out, HB.out.trans (hB'.mono HB.out.size)⟩
        case measure => simp [intOf]; omega
    · have HZ : Hid (r = -1) := by
        show _ = _
        rw [HR.out]
        exact (Se.ix_none fun j e he => HI.out j e (by have := HN.out; have := (List.getElem?_eq_some_iff.1 he).1; omega) he).1
      go_wp2
      go_ret
      exact ⟨by rw [HZ.out]; rfl, HB.out⟩

theorem anyTells_any (v : Value) (l : List Se.Ses) (w : World) (hv : ReadsN w v l) :
    Calls Try.prog 35 #[v, TellF] w (Looks w (.bool (l.any Mg.tells))) := by
  have hcall := indexTells_any v l w hv
  obtain ⟨ao, cap, rfl, hc1, hc2⟩ := ReadsN.shape hv
  have HX := Lib.hid (Mg.ix_any l)
  obtain ⟨x, hx⟩ : ∃ x, x = Se.ix Mg.tells l := ⟨_, rfl⟩
  rw [← hx] at hcall HX
  obtain ⟨n, hn⟩ : ∃ n, n = l.length := ⟨_, rfl⟩
  rw [← hn] at hcall ⊢
  clear hx hv hc1 hc2 hn
  go_enter Try.func35, Try.ntmps35
  go_wp2_with fail
  refine hcall.mono ?_
  rintro e w2 ⟨rfl, hB2⟩
  go_wp2
  go_ret
  exact ⟨by rw [← HX.out]; rfl, hB2⟩

set_option maxRecDepth 4000 in
theorem areSessions_any (n : Int) (v : Value) (l : List Se.Ses) (w : World) (hv : ReadsN w v l) (hs : ∀ s ∈ l, s.last.val.length ≤ 140737488355328) :
    Calls Try.prog 20 #[.int .i64 n, v] w (Looks w (.bool (Mg.sessOk n l))) := by
  have HA := Lib.hid (anyTells_any v l w hv)
  have HC := Lib.hid (fun W h => checkSe_any v l W h hs)
  have HV := Lib.hid hv
  obtain ⟨D, hD⟩ : ∃ D, D = Mg.sessOk n l := ⟨_, rfl⟩
  rw [← hD]
  unfold Mg.sessOk at hD
  rw [Se.check_ref] at HC
  obtain ⟨t, ht⟩ : ∃ t, t = l.any Mg.tells := ⟨_, rfl⟩
  rw [← ht] at HA hD
  obtain ⟨r, hr⟩ : ∃ r, r = Se.refCheck l := ⟨_, rfl⟩
  rw [← hr] at HC hD
  obtain ⟨ao, cap, rfl, hc1, hc2⟩ := ReadsN.shape hv
  obtain ⟨k, hk⟩ : ∃ k, k = l.length := ⟨_, rfl⟩
  rw [← hk] at HA HC HV ⊢
  clear hv hs ht hr hc1 hc2 hk
  by_cases h1 : n = 1
  · subst h1
    cases t with
    | true =>
      rw [if_pos ⟨rfl, rfl⟩] at hD
      have HD := Lib.hid hD
      clear hD
      go_enter Try.func20, Try.ntmps20
      go_wp2_with fail
      refine HA.out.mono ?_
      rintro e w2 ⟨rfl, hB2⟩
      go_wp2
      go_ret
      exact ⟨by rw [HD.out]; rfl, hB2⟩
    | false =>
      rw [if_neg (fun h => absurd h.2 (by decide))] at hD
      have HD := Lib.hid hD
      clear hD
      go_enter Try.func20, Try.ntmps20
      go_wp2_with fail
      refine HA.out.mono ?_
      rintro e w2 ⟨rfl, hB2⟩
      have HB2 := Lib.hid hB2
      clear hB2
      go_wp2_with fail
      refine (HC.out w2 (HV.out.below HB2.out)).mono ?_
      rintro e w3 ⟨rfl, hB3⟩
      have HB3 := Lib.hid (HB2.out.trans (hB3.mono HB2.out.size))
      clear hB3
      cases r <;> (
        go_wp2
        go_ret
        exact ⟨by rw [HD.out]; rfl, HB3.out⟩)
  · have d1 : (n == 1) = false := by simpa using h1
    rw [if_neg (fun h => h1 h.1)] at hD
    have HD := Lib.hid hD
    clear hD h1
    go_enter Try.func20, Try.ntmps20
    go_wp2_with fail
    refine (HC.out w HV.out).mono ?_
    rintro e w3 ⟨rfl, hB3⟩
    have HB3 := Lib.hid hB3
    clear hB3
    cases r <;> (
      go_wp2
      go_ret
      exact ⟨by rw [HD.out]; rfl, HB3.out⟩)

set_option maxRecDepth 4000 in
theorem arePairs_any (n : Int) (v : Value) (l : List Kv.Item) (w : World) (hv : ReadsK w v l) (hn : l.length ≤ 1000000) (hs : ∀ s ∈ l, s.key.length ≤ 140737488355328 ∧ s.val.length ≤ 140737488355328) :
    Calls Try.prog 19 #[.int .i64 n, v] w (Looks w (.bool (Mg.pairsOk n l))) := by
  have H1 := Lib.hid (checkKv_any v l w hv hs)
  have H2 := Lib.hid (check2Kv_any v l w hv hn hs)
  obtain ⟨D, hD⟩ : ∃ D, D = Mg.pairsOk n l := ⟨_, rfl⟩
  rw [← hD]
  unfold Mg.pairsOk at hD
  obtain ⟨r, hr⟩ : ∃ r, r = Kv.refCheck l := ⟨_, rfl⟩
  rw [← hr] at H1 hD
  obtain ⟨q, hq⟩ : ∃ q, q = Kv.refCheck2 l := ⟨_, rfl⟩
  rw [← hq] at H2 hD
  obtain ⟨ao, cap, rfl, hc1, hc2⟩ := ReadsK.shape hv
  obtain ⟨k, hk⟩ : ∃ k, k = l.length := ⟨_, rfl⟩
  rw [← hk] at H1 H2 ⊢
  clear hv hs hr hq hc1 hc2 hn hk
  by_cases h1 : n = 1
  · subst h1
    rw [if_pos rfl] at hD
    have HD := Lib.hid hD
    clear hD
    go_enter Try.func19, Try.ntmps19
    go_wp2_with fail
    refine H1.out.mono ?_
    rintro e w2 ⟨rfl, hB2⟩
    cases r <;> (
      go_wp2
      go_ret
      exact ⟨by rw [HD.out]; rfl, hB2⟩)
  · by_cases h2 : n = 2
    · subst h2
      rw [if_neg (by decide), if_pos rfl] at hD
      have HD := Lib.hid hD
      clear hD h1
      go_enter Try.func19, Try.ntmps19
      go_wp2_with fail
      refine H2.out.mono ?_
      rintro e w2 ⟨rfl, hB2⟩
      cases q <;> (
        go_wp2
        go_ret
        exact ⟨by rw [HD.out]; rfl, hB2⟩)
    · rw [if_neg h1, if_neg h2] at hD
      have d1 : (n == 1) = false := by simpa using h1
      have d2 : (n == 2) = false := by simpa using h2
      have HD := Lib.hid hD
      clear hD h1 h2
      go_enter Try.func19, Try.ntmps19
      go_wp2
      go_ret
      exact ⟨by rw [HD.out]; rfl, Below.refl _ _⟩

/-- What a walk asks of a state's lengths. -/
structure Mg.St.Few (s : Mg.St) : Prop where
  len : s.pairs.length ≤ 1000000
  str : ∀ e ∈ s.pairs, e.key.length ≤ 140737488355328 ∧ e.val.length ≤ 140737488355328
  ses : ∀ e ∈ s.sess, e.last.val.length ≤ 140737488355328
  num : s.sess.length ≤ 1000000
theorem Mg.few {s : Mg.St} (h : Mg.large s = false) : s.Few := by
  obtain ⟨h1, h2⟩ := Mg.large_no h
  obtain ⟨a1, a2⟩ := Se.small h1
  obtain ⟨b1, b2⟩ := Kv.small h2
  exact ⟨by omega, fun e he => ⟨by have := (b2 e he).1; omega, by have := (b2 e he).2; omega⟩, fun e he => by have := a2 e he; omega, by omega⟩
theorem Mg.few_revd {s : Mg.St} (a b : Int) (h : s.Few) : (Mg.revd s a b).Few := by
  refine ⟨by show (s.pairs.map _).length ≤ _; rw [List.length_map]; exact h.len, fun e he => ?_, h.ses, h.num⟩
  obtain ⟨p, hp, rfl⟩ := List.mem_map.1 (show e ∈ s.pairs.map (Mg.rev b) from he)
  exact h.str p hp

set_option maxRecDepth 4000 in
theorem checkSt_any (s : Mg.St) (vp vs : Value) (w : World) (hr : StR w s vp vs) (hf : s.Few) :
    Calls Try.prog 8 #[.agg (Mg.cells s.schema vp vs)] w (Looks w (.int .i64 (if Mg.check s = true then 0 else 3))) := by
  obtain ⟨w1, e1, hx1, hB1, hz1⟩ := box_st w s s.schema vp vs hr
  have HB := Lib.hid hB1
  have HX := Lib.hid hx1
  have HR := Lib.hid (hr.below hB1)
  have HF := Lib.hid hf
  obtain ⟨c0, c1, c2⟩ := hx1.all
  have HP := Lib.hid (arePairs_any s.schema vp s.pairs w1 HR.out.kv hf.len hf.str)
  have HS := Lib.hid (fun W h => areSessions_any s.schema vs s.sess W h hf.ses)
  obtain ⟨y, hy⟩ : ∃ y : Int, y = if Mg.check s = true then 0 else 3 := ⟨_, rfl⟩
  rw [← hy]
  unfold Mg.check at hy
  obtain ⟨a, ha⟩ : ∃ a, a = Mg.pairsOk s.schema s.pairs := ⟨_, rfl⟩
  rw [← ha] at HP hy
  obtain ⟨b, hb⟩ : ∃ b, b = Mg.sessOk s.schema s.sess := ⟨_, rfl⟩
  rw [← hb] at HS hy
  have HY := Lib.hid hy
  obtain ⟨n, l, m⟩ := s
  dsimp only at *
  clear hy ha hb hx1 hB1 hz1 hr hf
  go_enter Try.func8, Try.ntmps8
  go_wp2_with fail
  refine HP.out.mono ?_
  rintro e w2 ⟨rfl, hB2⟩
  have HB2 := Lib.hid (HB.out.trans (hB2.mono HB.out.size))
  have HR2 := Lib.hid (HR.out.below hB2)
  obtain ⟨m0, _, m2⟩ := (HX.out.below hB2 HX.out.lies.lt).all
  clear hB2 c0 c1 c2
  cases a with
  | false =>
    go_wp2
    go_ret
    exact ⟨by rw [HY.out]; rfl, HB2.out⟩
  | true =>
    go_wp2_with fail
    refine (HS.out _ HR2.out.ses).mono ?_
    rintro e w3 ⟨rfl, hB3⟩
    have HB3 := Lib.hid (HB2.out.trans (hB3.mono HB2.out.size))
    clear hB3
    cases b <;> (
      go_wp2
      go_ret
      exact ⟨by rw [HY.out]; rfl, HB3.out⟩)

end Go.Proofs.Ytgcjjlkjlabneaa
