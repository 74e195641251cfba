/- The laws of pairs, the first: awake, large, KvoneChecks. -/
import Derived.Test.YtdjhkgnnfkbmhaaKvDo3
import Derived.Test.YtdjhkgnnfkbmhaaKvChk
import Derived.Test.YtdjhkgnnfkbmhaaKvRef
namespace Go.Proofs.Ytdjhkgnnfkbmhaa
open Go.RowKit

/-- The two commands of 'awake', and what they come to. -/
def Kv.aput : Cm.Cmd := ⟨2, 1, 1, 0, [97], [], [49]⟩
def Kv.aget : Cm.Cmd := ⟨3, 1, 2, 0, [97], [], []⟩
theorem Kv.aput_pairs : Kv.pairs [] Kv.aput = [⟨[97], [49], 0⟩] := by decide +kernel
theorem Kv.aput_ans : Kv.ans [] Kv.aput = ⟨1, 1, 0, false, [], 0⟩ := by decide +kernel
theorem Kv.aget_ans : Kv.ans [⟨[97], [49], 0⟩] Kv.aget = ⟨1, 2, 0, true, [49], 0⟩ := by decide +kernel

set_option maxRecDepth 4000 in
set_option maxHeartbeats 1600000 in
theorem awakeKv_any (w : World) : Calls Try.prog 6 #[] w (Truly w) := by
  have hcall := do_kv (.slice none 0 0) [] Kv.aput w (ReadsR.empty w 3) (by decide) (by simp)
  rw [Kv.aput_pairs, Kv.aput_ans] at hcall
  have HGET := Lib.hid (fun v W h => do_kv v [⟨[97], [49], 0⟩] Kv.aget W h (by decide +kernel) (by simp))
  rw [Kv.aget_ans] at HGET
  have HBIG := Lib.hid (Kv.pairs_len [⟨[97], [49], 0⟩] Kv.aget)
  go_enter Try.func6, Try.ntmps6
  go_wp2_with fail
  refine hcall.mono ?_
  rintro e w2 ⟨v2, rfl, ho2, hB2⟩
  have HR2 : Hid (ReadsK w2 v2 [⟨[97], [49], 0⟩]) := ho2.reads (Kv.sized _)
  have HB2 := Lib.hid hB2
  obtain ⟨ao, cap, rfl, _, _⟩ := ReadsK.shape HR2.out
  rw [show ([⟨[97], [49], 0⟩] : List Kv.Item).length = 1 by rfl] at *
  clear hcall ho2 hB2
  go_wp2_with (first
    | (refine store_ans (by rfl) _ _ (by rfl) w2.heap.size An.zero ⟨1, 1, 0, false, [], 0⟩ (by rfl) (by rfl) (Lies.new _ _ _) ?_; intro w3 hl3 hg3
       have hB3 : Below w2.heap.size w2 w3 := ((Below.refl _ w2).alloc (Nat.le_refl _) _).grown hg3 (by simp) (by rintro j hj; cases hj; exact Nat.le_refl _)
       have HB3 := Lib.hid (HB2.out.trans (hB3.mono HB2.out.size))
       have HR3 := Lib.hid (HR2.out.below hB3)
       clear hl3 hg3 hB3)
    | (go_at_call 13; refine (HGET.out _ _ HR3.out).mono ?_; rintro e w4 ⟨v4, rfl, ho4, hB4⟩
       have HB4 := Lib.hid (HB3.out.trans (hB4.mono HB3.out.size)); clear ho4 hB4)
    | (refine store_ans (by rfl) _ _ (by rfl) w4.heap.size An.zero ⟨1, 2, 0, true, [49], 0⟩ (by rfl) (by rfl) (Lies.new _ _ _) ?_; intro w5 hl5 hg5
       have hB5 : Below w4.heap.size w4 w5 := ((Below.refl _ w4).alloc (Nat.le_refl _) _).grown hg5 (by simp) (by rintro j hj; cases hj; exact Nat.le_refl _)
       have HB5 := Lib.hid (HB4.out.trans (hB5.mono HB4.out.size))
       obtain ⟨q0, q1, q2, q3, q4, q5⟩ := Anss.every hl5
       clear hl5 hg5 hB5))
  go_ret
  exact truly_of HB5.out

/-- Whether a command's strings are too long. -/
def Kv.wide (c : Cm.Cmd) : Bool := decide (200 < c.key.length) || (decide (200 < c.val.length) || decide (200 < c.old.length))
set_option maxRecDepth 4000 in
theorem wideKv_any (c : Cm.Cmd) (w : World) (hs : c.Short 9223372036854775807) : Calls Try.prog 12 #[.agg (Cm.cells c)] w (Looks w (.bool (Kv.wide c))) := by
  obtain ⟨w1, e1, hl1, hB1, hz1⟩ := box_cmd w c
  obtain ⟨p0, p1, p2, p3, p4, p5, p6⟩ := Cmds.all hl1
  have HB1 := Lib.hid hB1
  obtain ⟨s1, s2, s3⟩ := hs
  have k1 := str_size c.key
  have k2 := str_size c.val
  have k3 := str_size c.old
  obtain ⟨r, hr⟩ : ∃ r, r = Kv.wide c := ⟨_, rfl⟩
  rw [← hr]
  unfold Kv.wide at hr
  obtain ⟨x1, hx1⟩ : ∃ x, x = c.key.length := ⟨_, rfl⟩
  obtain ⟨x2, hx2⟩ : ∃ x, x = c.val.length := ⟨_, rfl⟩
  obtain ⟨x3, hx3⟩ : ∃ x, x = c.old.length := ⟨_, rfl⟩
  rw [← hx1] at k1 s1 hr
  rw [← hx2] at k2 s3 hr
  rw [← hx3] at k3 s2 hr
  have HR := Lib.hid hr
  clear hl1 hB1 hz1 hr hx1 hx2 hx3
  go_enter Try.func12, Try.ntmps12
  by_cases h1 : 200 < x1
  · have d1 : decide ((200 : Int) < (x1 : Int)) = true := by simp; omega
    have HZ : Hid (r = true) := by show _ = _; rw [HR.out]; simp [h1]
    go_wp2
    go_ret
    exact ⟨by rw [HZ.out]; rfl, HB1.out⟩
  · have d1 : decide ((200 : Int) < (x1 : Int)) = false := by simp; omega
    by_cases h2 : 200 < x2
    · have d2 : decide ((200 : Int) < (x2 : Int)) = true := by simp; omega
      have HZ : Hid (r = true) := by show _ = _; rw [HR.out]; simp [h2]
      go_wp2
      go_ret
      exact ⟨by rw [HZ.out]; rfl, HB1.out⟩
    · have d2 : decide ((200 : Int) < (x2 : Int)) = false := by simp; omega
      have HZ : Hid (r = decide ((200 : Int) < (x3 : Int))) := by show _ = _; rw [HR.out]; simp [h1, h2]; omega
      obtain ⟨t3, d3⟩ : ∃ t, decide ((200 : Int) < (x3 : Int)) = t := ⟨_, rfl⟩
      rw [d3] at HZ
      go_wp2
      go_ret
      exact ⟨by rw [HZ.out]; rfl, HB1.out⟩

set_option maxRecDepth 4000 in
set_option maxHeartbeats 3200000 in
theorem kvoneChecks_any (v : Value) (l : List Kv.Item) (x : List UInt8) (w : World) (hv : ReadsK w v l) (hs : ∀ s ∈ l, s.key.length ≤ 9223372036854775807 ∧ s.val.length ≤ 9223372036854775807) (hx : x.length ≤ 9223372036854775807) :
    Calls Try.prog 3 #[v, .string ⟨x.toArray⟩] w (Truly w) := by
  have hlarge := largeKv_any v l w hv hs
  have HV := Lib.hid hv
  obtain ⟨ao, cap, rfl, _, _⟩ := ReadsK.shape hv
  obtain ⟨t, ht⟩ : ∃ t, t = Kv.large l := ⟨_, rfl⟩
  rw [← ht] at hlarge
  have HT := Lib.hid ht
  obtain ⟨n, hn⟩ : ∃ n, n = l.length := ⟨_, rfl⟩
  rw [← hn] at hlarge HV ⊢
  have HN := Lib.hid hn
  have k1 := str_size x
  obtain ⟨x1, hx1⟩ : ∃ y, y = x.length := ⟨_, rfl⟩
  rw [← hx1] at k1 hx
  clear hv hs ht hn hx1
  go_enter Try.func3, Try.ntmps3
  go_wp2_with fail
  refine hlarge.mono ?_
  rintro e w1 ⟨rfl, hB1⟩
  have HB1 := Lib.hid hB1
  clear hB1 hlarge
  cases t with
  | true =>
    go_wp2_with fail
    refine (awakeKv_any _).mono ?_
    rintro e w2 ⟨rfl, hBw2⟩
    go_wp2
    go_ret
    exact truly_of (HB1.out.trans (hBw2.mono HB1.out.size))
  | false =>
    by_cases h1 : 200 < x1
    · have d1 : decide ((200 : Int) < (x1 : Int)) = true := by simp; omega
      go_wp2_with fail
      refine (awakeKv_any _).mono ?_
      rintro e w2 ⟨rfl, hBw2⟩
      go_wp2
      go_ret
      exact truly_of (HB1.out.trans (hBw2.mono HB1.out.size))
    · have d1 : decide ((200 : Int) < (x1 : Int)) = false := by simp; omega
      have HN80 : Hid (l.length ≤ 80) := (Kv.small HT.out.symm).1
      have HSM : Hid (∀ s ∈ l, s.key.length ≤ 140737488355328 ∧ s.val.length ≤ 140737488355328) := fun s h => by have := (Kv.small HT.out.symm).2 s h; omega
      have hrc := refCheckKv_any _ l w1 (HV.out.below HB1.out) HSM.out
      have HCK := Lib.hid (fun W h => checkKv_any (.slice ao n cap) l W h HSM.out)
      obtain ⟨r, hr⟩ : ∃ r, r = Kv.refCheck l := ⟨_, rfl⟩
      rw [← hr] at hrc HCK
      obtain ⟨y, hy⟩ : ∃ y : Int, y = if r = true then 0 else 3 := ⟨_, rfl⟩
      rw [← hy] at HCK
      have HY := Lib.hid hy
      have HRI := Lib.hid (fun W h => riseKv_any (.slice ao n cap) l W h)
      obtain ⟨t3, ht3⟩ : ∃ t, t = Kv.rises l := ⟨_, rfl⟩
      rw [← ht3] at HRI
      have HT3 := Lib.hid ht3
      clear hr hy ht3 h1 hx
      go_wp2_with fail
      refine hrc.mono ?_
      rintro e w2 ⟨rfl, hB2⟩
      have HB2 := Lib.hid (HB1.out.trans (hB2.mono HB1.out.size))
      clear hB2 hrc d1 k1
      cases t3 with
      | false =>
        cases r <;> (
          have HY2 := HY.out
          simp only [if_true, Bool.false_eq_true, if_false] at HY2
          subst HY2
          go_wp2_with (first
            | (go_at_call 8; refine (HCK.out _ (HV.out.below HB2.out)).mono ?_; rintro e w3 ⟨rfl, hB3⟩; have HB3 := Lib.hid (HB2.out.trans (hB3.mono HB2.out.size)); clear hB3)
            | (go_at_call 9; refine (HRI.out _ (HV.out.below HB3.out)).mono ?_; rintro e w4 ⟨rfl, hB4⟩; have HB4 := Lib.hid (HB3.out.trans (hB4.mono HB3.out.size)); clear hB4)
            | (go_at_call 6; refine (awakeKv_any _).mono ?_; rintro e w5 ⟨rfl, hB5⟩))
          go_ret
          exact truly_of (HB4.out.trans (hB5.mono HB4.out.size)))
      | true =>
        have HA : Hid (Kv.Asc l) := by show Kv.Asc l; have h := HT3.out.symm; unfold Kv.rises at h; exact of_decide_eq_true h
        have HFI := Lib.hid (fun W h => find_kv (.slice ao n cap) l x W h HA.out (by have := HN80.out; omega))
        have HPL := Lib.hid (fun W h => placeKv_any (.slice ao n cap) l x W h)
        have hlk := Kv.look_eq l x HA.out
        have hix := Kv.ix_look l x
        rw [hlk.1, hlk.2] at HFI
        obtain ⟨I, hI⟩ : ∃ I, I = Kv.ix l x := ⟨_, rfl⟩
        rw [← hI] at HPL hix
        clear hI hlk
        have hgd := guard_kv
        rcases hix with ⟨hlt, hno⟩ | ⟨k, p, rfl, hkp, hyes⟩
        · rw [hno] at HFI
          have hz : decide (I < 0) = true := decide_eq_true hlt
          have heq := fun W => run_eql_kv W Kv.zero Kv.zero
          rw [decide_eq_true rfl] at heq
          dsimp only [Kv.cells, Kv.zero] at heq
          clear hlt hno
          cases r <;> (
            have HY2 := HY.out
            simp only [if_true, Bool.false_eq_true, if_false] at HY2
            subst HY2
            go_wp2_with (first
              | (go_at_call 8; refine (HCK.out _ (HV.out.below HB2.out)).mono ?_; rintro e w3 ⟨rfl, hB3⟩; have HB3 := Lib.hid (HB2.out.trans (hB3.mono HB2.out.size)); clear hB3)
              | (go_at_call 9; refine (HRI.out _ (HV.out.below HB3.out)).mono ?_; rintro e w4 ⟨rfl, hB4⟩; have HB4 := Lib.hid (HB3.out.trans (hB4.mono HB3.out.size)); clear hB4)
              | (go_at_call 10; refine (HFI.out _ (HV.out.below HB4.out)).mono ?_; rintro e w5 ⟨rfl, hB5⟩; have HB5 := Lib.hid (HB4.out.trans (hB5.mono HB4.out.size)); clear hB5)
              | (refine store_kv (by rfl) _ _ (by rfl) w5.heap.size Kv.zero Kv.zero (by rfl) (by rfl) (Lies.new _ _ _) ?_; intro w6 hl6 hg6
                 have hB6 : Below w5.heap.size w5 w6 := ((Below.refl _ w5).alloc (Nat.le_refl _) _).grown hg6 (by simp) (by rintro j hj; cases hj; exact Nat.le_refl _)
                 have HB6 := Lib.hid (HB5.out.trans (hB6.mono HB5.out.size))
                 have HL6 := Lib.hid hl6
                 clear hl6 hg6 hB6)
              | (go_at_call 11; refine (HPL.out _ (HV.out.below HB6.out)).mono ?_; rintro e w7 ⟨rfl, hB7⟩
                 obtain ⟨q0, q1, q2⟩ := Kvs.three (HL6.out.below hB7 HL6.out.lt)
                 dsimp only [Kv.zero] at q0 q1 q2
                 have HB7 := Lib.hid (HB6.out.trans (hB7.mono HB6.out.size)); clear hB7)
              | (go_at_call 6; refine (awakeKv_any _).mono ?_; rintro e w8 ⟨rfl, hB8⟩))
            go_ret
            exact truly_of (HB7.out.trans (hB8.mono HB7.out.size)))
        · rw [hyes] at HFI
          have hkn : k < n := by have := (List.getElem?_eq_some_iff.1 hkp).1; have := HN.out; omega
          have hz : decide ((k : Int) < 0) = false := by simp
          have heq := fun W => run_eql_kv W p p
          rw [decide_eq_true rfl] at heq
          dsimp only [Kv.cells] at heq
          have HPS := Lib.hid (fun h => ReadsK.places HV.out h)
          obtain ⟨g, off, rfl, hgl, hcell⟩ := HPS.out (by have := HN.out; omega)
          have HC := Lib.hid (fun W h => hcell W h k p hkp)
          clear hyes hkp hcell
          cases r <;> (
            have HY2 := HY.out
            simp only [if_true, Bool.false_eq_true, if_false] at HY2
            subst HY2
            go_wp2_with (first
              | (go_at_call 8; refine (HCK.out _ (HV.out.below HB2.out)).mono ?_; rintro e w3 ⟨rfl, hB3⟩; have HB3 := Lib.hid (HB2.out.trans (hB3.mono HB2.out.size)); clear hB3)
              | (go_at_call 9; refine (HRI.out _ (HV.out.below HB3.out)).mono ?_; rintro e w4 ⟨rfl, hB4⟩; have HB4 := Lib.hid (HB3.out.trans (hB4.mono HB3.out.size)); clear hB4)
              | (go_at_call 10; refine (HFI.out _ (HV.out.below HB4.out)).mono ?_; rintro e w5 ⟨rfl, hB5⟩; have HB5 := Lib.hid (HB4.out.trans (hB5.mono HB4.out.size)); clear hB5)
              | (refine store_kv (by rfl) _ _ (by rfl) w5.heap.size Kv.zero p (by rfl) (by rfl) (Lies.new _ _ _) ?_; intro w6 hl6 hg6
                 have hB6 : Below w5.heap.size w5 w6 := ((Below.refl _ w5).alloc (Nat.le_refl _) _).grown hg6 (by simp) (by rintro j hj; cases hj; exact Nat.le_refl _)
                 have HB6 := Lib.hid (HB5.out.trans (hB6.mono HB5.out.size))
                 have HL6 := Lib.hid hl6
                 clear hl6 hg6 hB6)
              | (go_at_call 11; refine (HPL.out _ (HV.out.below HB6.out)).mono ?_; rintro e w7 ⟨rfl, hB7⟩
                 obtain ⟨q0, q1, q2⟩ := Kvs.three (HL6.out.below hB7 HL6.out.lt)
                 have HB7 := Lib.hid (HB6.out.trans (hB7.mono HB6.out.size)); clear hB7))
            obtain ⟨c0, c1, c2⟩ := HC.out _ HB7.out
            go_region_with (first
              | (go_at_call 6; refine (awakeKv_any _).mono ?_; rintro e w8 ⟨rfl, hB8⟩))
            all_goals
              go_wp2
              go_ret
              exact truly_of (HB7.out.trans ((Below.drew (Below.refl _ _)).trans (hB8.mono (Nat.le_refl _)) |>.mono HB7.out.size)))

end Go.Proofs.Ytdjhkgnnfkbmhaa
