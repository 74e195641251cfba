/- The law KvtwoChecks. Written by a program. -/
import Derived.Test.YtiakpedioemmiaaKwLaw
import Derived.Test.YtiakpedioemmiaaKwChk
import Derived.BigQuiet
namespace Go.Proofs.Ytiakpedioemmiaa
open Go.RowKit

set_option maxRecDepth 4000 in
set_option maxHeartbeats 1600000 in
theorem kvtwoChecks_any (v : Value) (l : List Kv.Item) (w : World) (hv : ReadsK w v l) (hs : ∀ s ∈ l, s.key.length ≤ 9223372036854775807 ∧ s.val.length ≤ 9223372036854775807) :
    Calls Try.prog 3 #[v] w (Truly w) := by
  have hlarge := largeKv_any v l w hv hs
  have HV := Lib.hid hv
  obtain ⟨ao, cap, rfl, _, _⟩ := ReadsK.shape hv
  obtain ⟨t, ht⟩ : ∃ t, t = Kv.large l := ⟨_, rfl⟩
  rw [← ht] at hlarge
  have HT := Lib.hid ht
  have HPL := Lib.hid (fun W h hn => plainKv_any (.slice ao l.length cap) l W h hn)
  have HCK := Lib.hid (fun W h hn hs => check2Kv_any (.slice ao l.length cap) l W h hn hs)
  have HRC := Lib.hid (fun W h hs => refCheck2Kv_any (.slice ao l.length cap) l W h hs)
  obtain ⟨r, hr⟩ : ∃ r, r = Kv.refCheck2 l := ⟨_, rfl⟩
  rw [← hr] at HCK HRC
  obtain ⟨n, hn⟩ : ∃ n, n = l.length := ⟨_, rfl⟩
  rw [← hn] at hlarge HV HPL HCK HRC ⊢
  have HN := Lib.hid hn
  clear hv hs ht hn hr
  go_enter Try.func3, Try.ntmps3
  go_wp2_with fail
  refine hlarge.mono ?_
  rintro e w1 ⟨rfl, hB1⟩
  have HB1 := Lib.hid hB1
  clear hB1 hlarge
  cases t with
  | true =>
    go_wp2_with fail
    refine (awakeKw_any _).mono ?_
    rintro e w2 ⟨rfl, hBw2⟩
    go_wp2
    go_ret
    exact truly_of (HB1.out.trans (hBw2.mono HB1.out.size))
  | false =>
    have HN80 : Hid (n ≤ 80) := by show n ≤ 80; rw [HN.out]; exact (Kv.small HT.out.symm).1
    have HSM : Hid (∀ s ∈ l, s.key.length ≤ 140737488355328 ∧ s.val.length ≤ 140737488355328) := fun s h => by have := (Kv.small HT.out.symm).2 s h; omega
    have HPL2 := Lib.hid (fun W h => HPL.out W h (by have := HN80.out; omega))
    have HCK2 := Lib.hid (fun W h => HCK.out W h (by have := HN80.out; omega) HSM.out)
    have HRC2 := Lib.hid (fun W h => HRC.out W h HSM.out)
    clear HPL HCK HRC
    go_wp2_with fail
    refine (HRC2.out w1 (HV.out.below HB1.out)).mono ?_
    rintro e w2 ⟨rfl, hB2⟩
    have HB2 := Lib.hid (HB1.out.trans (hB2.mono HB1.out.size))
    clear hB2
    cases r <;> (
      simp only [if_true, Bool.false_eq_true, if_false] at HCK2
      go_wp2_with fail
      refine (HPL2.out w2 (HV.out.below HB2.out)).mono ?_
      rintro e w3 ⟨v3, rfl, ho3, hB3⟩
      have HR3 : Hid (ReadsK w3 v3 (Kv.plain l)) := ho3.reads (Kv.sized _)
      have HB3 := Lib.hid (HB2.out.trans (hB3.mono HB2.out.size))
      clear ho3 hB3
      obtain ⟨bo, bcap, hv3, _, _⟩ := ReadsK.shape HR3.out
      rw [Kv.plain_len, ← HN.out] at hv3
      subst hv3
      have HP := Lib.hid (fun h => ReadsK.places HV.out h)
      have HQ := Lib.hid (fun h => ReadsK.places HR3.out h)
      have hnb : (n : Int) ≤ 80 := by have := HN80.out; omega
      go_wp2
      go_loopw [5] (fun i wr => ∃ k : Nat, i = .int .i64 (k : Int) ∧ k ≤ n ∧ Below w3.heap.size w3 wr) (fun i _ => n - (intOf i).toNat)
      case atStart => exact ⟨0, rfl, by omega, Below.refl _ _⟩
      case round =>
        obtain ⟨k, rfl, hk, hB⟩ := hrel
        have HB := Lib.hid hB
        have HBw := Lib.hid (HB3.out.trans (hB.mono HB3.out.size))
        clear hB
        by_cases hlt : k < n
        · obtain ⟨a, ha⟩ : ∃ e, l[k]? = some e := ⟨_, List.getElem?_eq_getElem (by have := HN.out; omega)⟩
          obtain ⟨g, off, rfl, hgl, hcell⟩ := HP.out (by have := HN.out; omega)
          obtain ⟨h, oof, rfl, hhl, hdell⟩ := HQ.out (by rw [Kv.plain_len]; have := HN.out; omega)
          obtain ⟨c0, c1, c2⟩ := hcell wr HBw.out k a ha
          obtain ⟨d0, d1, d2⟩ := hdell wr HB.out k (Kv.bare a) (by rw [Kv.plain_at, ha]; rfl)
          dsimp only [Kv.bare] at d0 d1 d2
          have hk1 := fun W => run_neq_str W a.key a.key
          have hk2 := fun W => run_neq_str W a.val a.val
          rw [decide_eq_true rfl, Bool.not_true] at hk1 hk2
          clear hcell hdell ha
          go_wp2
          go_quiet (fail)
          all_goals
            go_wp2
            go_roundw
            case rel => exact ⟨k + 1, by go_num, by omega, HB.out.trans ((drawn wr _).mono HB.out.size)⟩
            case measure => simp [intOf]; omega
        · obtain rfl : k = n := by omega
          go_wp2_with fail
          refine (HCK2.out wr (HV.out.below HBw.out)).mono ?_
          rintro e w4 ⟨rfl, hB4⟩
          have HB4 := Lib.hid (HBw.out.trans (hB4.mono HBw.out.size))
          clear hB4
          go_wp2_with fail
          refine (awakeKw_any _).mono ?_
          rintro e w5 ⟨rfl, hB5⟩
          go_wp2
          go_ret
          exact truly_of (HB4.out.trans (hB5.mono HB4.out.size)))

end Go.Proofs.Ytiakpedioemmiaa
