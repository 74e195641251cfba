/- The law SessWith. -/
import Derived.Test.YtibpmhogapccoaaSeLaw
namespace Go.Proofs.Ytibpmhogapccoaa
open Go.RowKit

theorem u8_bounds {n : Int} (h : (Lit.int .u8 n).wf = true) : 0 ≤ n ∧ n ≤ 255 := by
  simpa [Lit.wf, IntKind.min, IntKind.max, IntKind.signed, IntKind.bits] using h

set_option maxRecDepth 4000 in
set_option maxHeartbeats 3200000 in
theorem sessWith_any (v : Value) (l : List Se.Ses) (a : An.Ans) (d : Int) (w : World) (hv : ReadsN w v l) (hs : ∀ s ∈ l, s.last.val.length ≤ 9223372036854775807) (hf : a.Fits) (hva : a.val.length ≤ 9223372036854775807) (hd0 : 0 ≤ d) (hd1 : d ≤ 255) :
    Calls Try.prog 5 #[v, .agg (An.cells a), .int .u8 d] w (Truly w) := by
  obtain ⟨w1, e1, hl1, hB1, hz1⟩ := box_ans w a
  have HX1 := Lib.hid hl1; have HB1 := Lib.hid hB1
  have hlarge := largeSe_any v l w1 (hv.below hB1) hs
  have HV := Lib.hid hv
  obtain ⟨ao, cap, rfl, _, _⟩ := ReadsN.shape hv
  obtain ⟨t, ht⟩ : ∃ t, t = Se.large l := ⟨_, rfl⟩
  rw [← ht] at hlarge
  have HT := Lib.hid ht
  obtain ⟨n, hn⟩ : ∃ n, n = l.length := ⟨_, rfl⟩
  rw [← hn] at hlarge HV ⊢
  have HQ := Lib.hid (And.intro hf.q0 hf.q1)
  have HD := Lib.hid (And.intro hd0 hd1)
  clear hv hs ht hn hl1 hB1 hz1 hf hd0 hd1
  go_enter Try.func5, Try.ntmps5
  go_wp2_with fail
  refine hlarge.mono ?_
  rintro e w2 ⟨rfl, hB2⟩
  have HX2 := Lib.hid (HX1.out.below hB2 HX1.out.lt)
  have HB2 := Lib.hid (HB1.out.trans (hB2.mono HB1.out.size))
  clear hB2 hlarge
  cases t with
  | true =>
    go_wp2_with fail
    refine (awakeSe_any _).mono ?_
    rintro e w3 ⟨rfl, hBw3⟩
    go_wp2
    go_ret
    exact truly_of (HB2.out.trans (hBw3.mono HB2.out.size))
  | false =>
    have k1 := str_size a.val
    obtain ⟨x1, hx1⟩ : ∃ x, x = a.val.length := ⟨_, rfl⟩
    rw [← hx1] at k1 hva
    obtain ⟨_, _, _, _, q4, _⟩ := Anss.every HX2.out
    clear hx1
    by_cases h1 : 200 < x1
    · have d1 : decide ((200 : Int) < (x1 : Int)) = true := by simp; omega
      go_wp2_with fail
      refine (awakeSe_any _).mono ?_
      rintro e w3 ⟨rfl, hBw3⟩
      go_wp2
      go_ret
      exact truly_of (HB2.out.trans (hBw3.mono HB2.out.size))
    · have d1 : decide ((200 : Int) < (x1 : Int)) = false := by simp; omega
      have hrise := riseSe_any _ l w2 (HV.out.below HB2.out)
      obtain ⟨t3, ht3⟩ : ∃ t, t = Se.rises l := ⟨_, rfl⟩
      rw [← ht3] at hrise
      have HT3 := Lib.hid ht3
      clear ht3
      go_wp2_with fail
      refine hrise.mono ?_
      rintro e w3 ⟨rfl, hB3⟩
      have HX3 := Lib.hid (HX2.out.below hB3 HX2.out.lt)
      have HB3 := Lib.hid (HB2.out.trans (hB3.mono HB2.out.size))
      clear hB3 hrise q4 d1 k1 hva h1
      cases t3 with
      | false =>
        go_wp2_with fail
        refine (awakeSe_any _).mono ?_
        rintro e w4 ⟨rfl, hBw4⟩
        go_wp2
        go_ret
        exact truly_of (HB3.out.trans (hBw4.mono HB3.out.size))
      | true =>
        have HA : Hid (Se.Asc l) := by show Se.Asc l; have h := HT3.out.symm; unfold Se.rises at h; exact of_decide_eq_true h
        have HLEN : Hid (l.length ≤ 40) := (Se.small HT.out.symm).1
        have HPL : Hid ((Se.put l a).length ≤ 41) := by show _ ≤ _; have h1 := Se.put_len l a; have h2 := HLEN.out; omega
        have hwith := withSe_any _ l a w3 (HV.out.below HB3.out) (by have := HLEN.out; omega)
        have HRW := Lib.hid (fun W h => refWithSe_any (.slice ao n cap) l a W h (by have := HLEN.out; omega))
        rw [Se.refPut_eq l a HA.out] at HRW
        have HWP := Lib.hid (Se.which_put l a)
        have HWL := Lib.hid (fun q h => Se.which_less l a q h)
        obtain ⟨m, hm⟩ : ∃ m, m = Se.put l a := ⟨_, rfl⟩
        rw [← hm] at HRW HWP HWL HPL hwith
        have hne := fun W => run_neq_ans W a
        have hgd := guard_ans
        dsimp only [An.cells] at hne
        obtain ⟨q0, q1, q2, q3, q4, q5⟩ := Anss.every HX3.out
        clear hm
        go_wp2_with fail
        refine hwith.mono ?_
        rintro e w4 ⟨v4, rfl, ho4, hB4⟩
        have hr4 : ReadsN w4 v4 m := ho4.reads (Se.sized _)
        have HR4 := Lib.hid hr4
        have HX4 := Lib.hid (HX3.out.below hB4 HX3.out.lt)
        have HB4 := Lib.hid (HB3.out.trans (hB4.mono HB3.out.size))
        have hwh := whichSe_any v4 m a.client a.seq w4 hr4
        rw [HWP.out] at hwh
        dsimp only at hwh
        have HW2 := Lib.hid (fun q W h => whichSe_any v4 m a.client q W h)
        obtain ⟨ao4, cap4, rfl, _, _⟩ := ReadsN.shape hr4
        obtain ⟨n4, hn4⟩ : ∃ n, n = m.length := ⟨_, rfl⟩
        rw [← hn4] at hwh HW2 HR4 ⊢
        clear q0 q1 q2 q3 q4 q5 hwith ho4 hr4 hB4 hn4
        obtain ⟨q0, q1, _⟩ := Anss.every HX4.out
        go_wp2_with fail
        refine hwh.mono ?_
        rintro e w5 ⟨rfl, hB5⟩
        have HX5 := Lib.hid (HX4.out.below hB5 HX4.out.lt)
        have HR5 := Lib.hid (HR4.out.below hB5)
        have HB5 := Lib.hid (HB4.out.trans (hB5.mono HB4.out.size))
        clear hB5 hwh q0 q1
        go_wp2_with (first
          | (refine store_ans (by rfl) _ _ (by rfl) w5.heap.size An.zero a (by rfl) (by rfl) (Lies.new _ _ _) ?_; intro w6 hl6 hg6
             have hB6 : Below w5.heap.size w5 w6 := ((Below.refl _ w5).alloc (Nat.le_refl _) _).grown hg6 (by simp) (by rintro j hj; cases hj; exact Nat.le_refl _)
             have HX6 := Lib.hid (HX5.out.below hB6 HX5.out.lt)
             have HR6 := Lib.hid (HR5.out.below hB6)
             have HB6 := Lib.hid (HB5.out.trans (hB6.mono HB5.out.size))
             have HY6 := Lib.hid hl6
             obtain ⟨q0, q1, q2, q3, q4, q5⟩ := Anss.every HX6.out
             clear hl6 hg6 hB6))
        refine (HRW.out _ (HV.out.below HB6.out)).mono ?_
        rintro e w7 ⟨v7, rfl, ho7, hB7⟩
        have hr7 : ReadsN w7 v7 m := ho7.reads (Se.sized _)
        have HX7 := Lib.hid (HX6.out.below hB7 HX6.out.lt)
        have HY7 := Lib.hid (HY6.out.below hB7 HY6.out.lt)
        have HR7 := Lib.hid (HR6.out.below hB7)
        have HB7 := Lib.hid (HB6.out.trans (hB7.mono HB6.out.size))
        have hsame := sameSe_any _ v7 m m w7 HR7.out hr7
        rw [decide_eq_true (rfl : m = m)] at hsame
        obtain ⟨ao7, cap7, rfl, _, _⟩ := ReadsN.shape hr7
        obtain ⟨n7, hn7⟩ : ∃ n, n = m.length := ⟨_, rfl⟩
        rw [← hn7] at hsame ⊢
        clear q0 q1 q2 q3 q4 q5 ho7 hr7 hB7 hn7
        go_wp2_with fail
        refine hsame.mono ?_
        rintro e w8 ⟨rfl, hB8⟩
        have HX8 := Lib.hid (HX7.out.below hB8 HX7.out.lt)
        have HY8 := Lib.hid (HY7.out.below hB8 HY7.out.lt)
        have HR8 := Lib.hid (HR7.out.below hB8)
        have HB8 := Lib.hid (HB7.out.trans (hB8.mono HB7.out.size))
        obtain ⟨q0, q1, q2, q3, q4, q5⟩ := Anss.every HX8.out
        obtain ⟨y0, y1, y2, y3, y4, y5⟩ := Anss.every HY8.out
        clear hB8 hsame
        by_cases h1 : -4611686018427387904 ≤ a.seq
        · have d1 : decide (-4611686018427387904 ≤ a.seq) = true := decide_eq_true h1
          have s1 := HQ.out.2
          have s2 := HD.out.1
          have s3 := HD.out.2
          have HWH := Lib.hid (HW2.out (a.seq - 1 - d) w8 HR8.out)
          rw [HWL.out (a.seq - 1 - d) (by omega)] at HWH
          dsimp only at HWH
          go_wp2_with fail
          refine HWH.out.mono ?_
          rintro e w9 ⟨rfl, hB9⟩
          have HB9 := Lib.hid (HB8.out.trans (hB9.mono HB8.out.size))
          clear hB9
          go_wp2_with (first
            | (refine store_ans (by rfl) _ _ (by rfl) w9.heap.size An.zero An.zero (by rfl) (by rfl) (Lies.new _ _ _) ?_; intro w10 hl10 hg10
               have hB10 : Below w9.heap.size w9 w10 := ((Below.refl _ w9).alloc (Nat.le_refl _) _).grown hg10 (by simp) (by rintro j hj; cases hj; exact Nat.le_refl _)
               have HB10 := Lib.hid (HB9.out.trans (hB10.mono HB9.out.size))
               clear hl10 hg10 hB10)
            | (go_at_call 7; refine (awakeSe_any _).mono ?_; rintro e w11 ⟨rfl, hB11⟩))
          go_ret
          exact truly_of (HB10.out.trans (hB11.mono HB10.out.size))
        · have d1 : decide (-4611686018427387904 ≤ a.seq) = false := decide_eq_false h1
          go_wp2_with fail
          refine (awakeSe_any _).mono ?_
          rintro e w9 ⟨rfl, hBw9⟩
          go_wp2
          go_ret
          exact truly_of (HB8.out.trans (hBw9.mono HB8.out.size))

end Go.Proofs.Ytibpmhogapccoaa
