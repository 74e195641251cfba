/- The laws of sessions: SessChecks, SessWhich, SessWith. -/
import Derived.Test.YtibpmhogapccoaaSeRefW
import Derived.Test.YtibpmhogapccoaaSePut
import Derived.Test.YtibpmhogapccoaaSeChk
namespace Go.Proofs.Ytibpmhogapccoaa
open Go.RowKit

set_option maxRecDepth 4000 in
set_option maxHeartbeats 1600000 in
theorem awakeSe_any (w : World) : Calls Try.prog 7 #[] w (Truly w) := by
  have hcall := withSe_any (.slice none 0 0) [] ⟨2, 5, 0, false, [], 0⟩ w (ReadsR.empty w 8) (by simp)
  rw [show Se.put [] ⟨2, 5, 0, false, [], 0⟩ = [Se.of ⟨2, 5, 0, false, [], 0⟩] by rfl] at hcall
  go_enter Try.func7, Try.ntmps7
  go_wp2_with fail
  refine hcall.mono ?_
  rintro e w2 ⟨v2, rfl, ho2, hB2⟩
  have hr2 : ReadsN w2 v2 [Se.of ⟨2, 5, 0, false, [], 0⟩] := ho2.reads (Se.sized _)
  have HR2 := Lib.hid hr2; have HB2 := Lib.hid hB2
  have hwh := whichSe_any v2 _ 2 5 w2 hr2
  have hla := fun W h => lastSe_any v2 [Se.of ⟨2, 5, 0, false, [], 0⟩] 2 W h
  rw [show Se.which [Se.of ⟨2, 5, 0, false, [], 0⟩] 2 5 = (1, ⟨2, 5, 0, false, [], 0⟩) by decide +kernel] at hwh
  rw [show (Se.get [Se.of ⟨2, 5, 0, false, [], 0⟩] 2).seq = 5 by decide +kernel] at hla
  have HLA := Lib.hid hla
  obtain ⟨ao, cap, rfl, _, _⟩ := ReadsN.shape hr2
  rw [show [Se.of ⟨2, 5, 0, false, [], 0⟩].length = 1 by rfl] at *
  clear hcall ho2 hr2 hB2 hla
  go_wp2_with fail
  refine hwh.mono ?_
  rintro e w3 ⟨rfl, hB3⟩
  have HB3 := Lib.hid (HB2.out.trans (hB3.mono HB2.out.size))
  have HR3 := Lib.hid (HR2.out.below hB3)
  clear hB3 hwh
  go_wp2_with (first
    | (refine store_ans (by rfl) _ _ (by rfl) w3.heap.size An.zero ⟨2, 5, 0, false, [], 0⟩ (by rfl) (by rfl) (Lies.new _ _ _) ?_; intro w4 hl4 hg4
       have hB4 : Below w3.heap.size w3 w4 := ((Below.refl _ w3).alloc (Nat.le_refl _) _).grown hg4 (by simp) (by rintro j hj; cases hj; exact Nat.le_refl _)
       have HB4 := Lib.hid (HB3.out.trans (hB4.mono HB3.out.size))
       have HR4 := Lib.hid (HR3.out.below hB4)
       have q1 : w4.cell? ⟨w3.heap.size, 1, none⟩ = some (.int .i64 5) := hl4.cell 1 _ rfl
       clear hl4 hg4 hB4)
    | (go_at_call 14; refine (HLA.out _ HR4.out).mono ?_; rintro e w5 ⟨rfl, hB5⟩))
  go_ret
  exact truly_of (HB4.out.trans (hB5.mono HB4.out.size))

set_option maxRecDepth 4000 in
set_option maxHeartbeats 1600000 in
theorem sessChecks_any (v : Value) (l : List Se.Ses) (w : World) (hv : ReadsN w v l) (hs : ∀ s ∈ l, s.last.val.length ≤ 9223372036854775807) :
    Calls Try.prog 3 #[v] w (Truly w) := by
  have hlarge := largeSe_any v l w hv hs
  have HV := Lib.hid hv
  have HS := Lib.hid hs
  obtain ⟨ao, cap, rfl, _, _⟩ := ReadsN.shape hv
  obtain ⟨t, ht⟩ : ∃ t, t = Se.large l := ⟨_, rfl⟩
  rw [← ht] at hlarge
  have HT := Lib.hid ht
  obtain ⟨n, hn⟩ : ∃ n, n = l.length := ⟨_, rfl⟩
  rw [← hn] at hlarge HV ⊢
  clear hv hs ht hn
  go_enter Try.func3, Try.ntmps3
  go_wp2_with fail
  refine hlarge.mono ?_
  rintro e w1 ⟨rfl, hB1⟩
  have HB1 := Lib.hid hB1
  clear hB1 hlarge
  cases t with
  | true =>
    go_wp2_with fail
    refine (awakeSe_any _).mono ?_
    rintro e w2 ⟨rfl, hBw2⟩
    go_wp2
    go_ret
    exact truly_of (HB1.out.trans (hBw2.mono HB1.out.size))
  | false =>
    have HSM : Hid (∀ s ∈ l, s.last.val.length ≤ 140737488355328) := fun s h => Nat.le_trans ((Se.small HT.out.symm).2 s h) (by omega)
    have hrc := refCheckSe_any _ l w1 (HV.out.below HB1.out) HSM.out
    have HCK := Lib.hid (fun W h => checkSe_any (.slice ao n cap) l W h HSM.out)
    rw [Se.check_ref] at HCK
    obtain ⟨r, hr⟩ : ∃ r, r = Se.refCheck l := ⟨_, rfl⟩
    rw [← hr] at hrc HCK
    clear hr
    go_wp2_with fail
    refine hrc.mono ?_
    rintro e w2 ⟨rfl, hB2⟩
    have HB2 := Lib.hid (HB1.out.trans (hB2.mono HB1.out.size))
    clear hB2 hrc
    cases r with
    | true =>
      rw [if_pos rfl] at HCK
      go_wp2_with (first
        | (go_at_call 9; refine (HCK.out _ (HV.out.below HB2.out)).mono ?_; rintro e w3 ⟨rfl, hB3⟩; have HB3 := Lib.hid (HB2.out.trans (hB3.mono HB2.out.size)); clear hB3)
        | (go_at_call 7; refine (awakeSe_any _).mono ?_; rintro e w4 ⟨rfl, hB4⟩))
      go_ret
      exact truly_of (HB3.out.trans (hB4.mono HB3.out.size))
    | false =>
      rw [if_neg (by simp)] at HCK
      go_wp2_with (first
        | (go_at_call 9; refine (HCK.out _ (HV.out.below HB2.out)).mono ?_; rintro e w3 ⟨rfl, hB3⟩; have HB3 := Lib.hid (HB2.out.trans (hB3.mono HB2.out.size)); clear hB3)
        | (go_at_call 7; refine (awakeSe_any _).mono ?_; rintro e w4 ⟨rfl, hB4⟩))
      go_ret
      exact truly_of (HB3.out.trans (hB4.mono HB3.out.size))

set_option maxRecDepth 4000 in
set_option maxHeartbeats 3200000 in
theorem sessWhich_any (v : Value) (l : List Se.Ses) (c q : Int) (w : World) (hv : ReadsN w v l) (hs : ∀ s ∈ l, s.last.val.length ≤ 9223372036854775807) :
    Calls Try.prog 4 #[v, .int .i64 c, .int .i64 q] w (Truly w) := by
  have hlarge := largeSe_any v l w hv hs
  have HV := Lib.hid hv
  have HS := Lib.hid hs
  obtain ⟨ao, cap, rfl, _, _⟩ := ReadsN.shape hv
  obtain ⟨t, ht⟩ : ∃ t, t = Se.large l := ⟨_, rfl⟩
  rw [← ht] at hlarge
  have HT := Lib.hid ht
  obtain ⟨n, hn⟩ : ∃ n, n = l.length := ⟨_, rfl⟩
  rw [← hn] at hlarge HV ⊢
  clear hv hs ht hn
  go_enter Try.func4, Try.ntmps4
  go_wp2_with fail
  refine hlarge.mono ?_
  rintro e w1 ⟨rfl, hB1⟩
  have HB1 := Lib.hid hB1
  clear hB1 hlarge
  cases t with
  | true =>
    go_wp2_with fail
    refine (awakeSe_any _).mono ?_
    rintro e w2 ⟨rfl, hBw2⟩
    go_wp2
    go_ret
    exact truly_of (HB1.out.trans (hBw2.mono HB1.out.size))
  | false =>
    have hrise := riseSe_any _ l w1 (HV.out.below HB1.out)
    obtain ⟨t3, ht3⟩ : ∃ t, t = Se.rises l := ⟨_, rfl⟩
    rw [← ht3] at hrise
    clear ht3
    go_wp2_with fail
    refine hrise.mono ?_
    rintro e w2 ⟨rfl, hB2⟩
    have HB2 := Lib.hid (HB1.out.trans (hB2.mono HB1.out.size))
    clear hB2 hrise
    cases t3 with
    | false =>
      go_wp2_with fail
      refine (awakeSe_any _).mono ?_
      rintro e w3 ⟨rfl, hBw3⟩
      go_wp2
      go_ret
      exact truly_of (HB2.out.trans (hBw3.mono HB2.out.size))
    | true =>
      have hwh := whichSe_any _ l c q w2 (HV.out.below HB2.out)
      obtain ⟨k, x, hkx⟩ : ∃ k x, Se.which l c q = (k, x) := ⟨_, _, rfl⟩
      rw [hkx] at hwh
      dsimp only at hwh
      have HLA := Lib.hid (fun W h => lastSe_any (.slice ao n cap) l c W h)
      have HRL := Lib.hid (fun W h => refLastSe_any (.slice ao n cap) l c W h)
      have HRH := Lib.hid (fun W h => refHasSe_any (.slice ao n cap) l c W h)
      obtain ⟨s, hs⟩ : ∃ s, s = Se.get l c := ⟨_, rfl⟩
      obtain ⟨t, ht⟩ : ∃ t, t = Se.has l c := ⟨_, rfl⟩
      unfold Se.which at hkx
      rw [← hs] at HLA HRL hkx
      rw [← ht] at HRH hkx
      have HKX := Lib.hid hkx
      have HEQ := fun W => run_same_ans W x
      have hgd := guard_ans
      have hss : (s.seq == s.seq) = true := by simp
      have HSN : Hid (t = false → s = Se.zero) := fun h => by
        rw [hs]; refine Se.get_no ?_
        rw [ht] at h; exact of_decide_eq_false h
      dsimp only [An.cells] at HEQ
      clear hkx hs ht
      go_wp2_with fail
      refine hwh.mono ?_
      rintro e w3 ⟨rfl, hB3⟩
      have HB3 := Lib.hid (HB2.out.trans (hB3.mono HB2.out.size))
      clear hB3 hwh
      go_wp2_with (first
        | (refine store_ans (by rfl) _ _ (by rfl) w3.heap.size An.zero x (by rfl) (by rfl) (Lies.new _ _ _) ?_; intro w4 hl4 hg4
           have hB4 : Below w3.heap.size w3 w4 := ((Below.refl _ w3).alloc (Nat.le_refl _) _).grown hg4 (by simp) (by rintro j hj; cases hj; exact Nat.le_refl _)
           have HB4 := Lib.hid (HB3.out.trans (hB4.mono HB3.out.size))
           have HX4 := Lib.hid hl4
           clear hl4 hg4 hB4))
      refine (HRL.out _ (HV.out.below HB4.out)).mono ?_
      rintro e w5 ⟨rfl, hB5⟩
      have HX5 := Lib.hid (HX4.out.below hB5 HX4.out.lt)
      have HB5 := Lib.hid (HB4.out.trans (hB5.mono HB4.out.size))
      clear hB5
      go_wp2_with (first
        | (refine store_ans (by rfl) _ _ (by rfl) w5.heap.size An.zero s.last (by rfl) (by rfl) (Lies.new _ _ _) ?_; intro w6 hl6 hg6
           have hB6 : Below w5.heap.size w5 w6 := ((Below.refl _ w5).alloc (Nat.le_refl _) _).grown hg6 (by simp) (by rintro j hj; cases hj; exact Nat.le_refl _)
           have HB6 := Lib.hid (HB5.out.trans (hB6.mono HB5.out.size))
           have HX6 := Lib.hid (HX5.out.below hB6 HX5.out.lt)
           have HY6 := Lib.hid hl6
           clear hl6 hg6 hB6))
      refine (HRH.out _ (HV.out.below HB6.out)).mono ?_
      rintro e w7 ⟨rfl, hB7⟩
      have HX7 := Lib.hid (HX6.out.below hB7 HX6.out.lt)
      have HY7 := Lib.hid (HY6.out.below hB7 HY6.out.lt)
      have HZ7 : Hid (w5.heap.size ≤ w7.heap.size) := Nat.le_of_lt (Nat.lt_of_lt_of_le HY6.out.lt hB7.size)
      have HB7 := Lib.hid (HB6.out.trans (hB7.mono HB6.out.size))
      clear hB7
      cases t with
      | false =>
        have hk : k = 0 ∧ x = An.zero := by have h := HKX.out; rw [if_pos (.inl rfl)] at h; simp at h; exact ⟨h.1.symm, h.2.symm⟩
        obtain ⟨rfl, hx⟩ := hk
        have HX := Lib.hid hx
        clear hx
        go_wp2_with (first
          | (refine store_ans (by rfl) _ _ (by rfl) w5.heap.size s.last An.zero (by rfl) (by rfl) HY7.out ?_; intro w8 hl8 hg8
             have hB8 : Below w5.heap.size w7 w8 := (Below.refl _ w7).grown hg8 (by have := HZ7.out; omega) (by rintro j hj; cases hj; exact Nat.le_refl _)
             have HB8 := Lib.hid (HB7.out.trans (hB8.mono (by have := HB5.out.size; omega)))
             have HX8 := Lib.hid (HX7.out.below hB8 HX5.out.lt)
             have HY8 : Hid (Anss w8 w5.heap.size x) := by show Anss _ _ _; rw [HX.out]; exact hl8
             clear hl8 hg8 hB8
             obtain ⟨p0, p1, p2, p3, p4, p5⟩ := Anss.every HX8.out
             obtain ⟨y0, y1, y2, y3, y4, y5⟩ := Anss.every HY8.out)
          | (go_at_call 14; refine (HLA.out _ (HV.out.below HB8.out)).mono ?_; rintro e w9 ⟨rfl, hB9⟩; have HB9 := Lib.hid (HB8.out.trans (hB9.mono HB8.out.size)); clear hB9)
          | (go_at_call 7; refine (awakeSe_any _).mono ?_; rintro e w10 ⟨rfl, hB10⟩))
        go_ret
        exact truly_of (HB9.out.trans (hB10.mono HB9.out.size))
      | true =>
        by_cases h1 : s.seq < q
        · have hk : k = 0 ∧ x = An.zero := by have h := HKX.out; rw [if_pos (.inr h1)] at h; simp at h; exact ⟨h.1.symm, h.2.symm⟩
          obtain ⟨rfl, hx⟩ := hk
          have HX := Lib.hid hx
          have d1 : decide (q ≤ s.seq) = false := decide_eq_false (by omega)
          clear hx h1
          go_wp2_with (first
            | (refine store_ans (by rfl) _ _ (by rfl) w5.heap.size s.last An.zero (by rfl) (by rfl) HY7.out ?_; intro w8 hl8 hg8
               have hB8 : Below w5.heap.size w7 w8 := (Below.refl _ w7).grown hg8 (by have := HZ7.out; omega) (by rintro j hj; cases hj; exact Nat.le_refl _)
               have HB8 := Lib.hid (HB7.out.trans (hB8.mono (by have := HB5.out.size; omega)))
               have HX8 := Lib.hid (HX7.out.below hB8 HX5.out.lt)
               have HY8 : Hid (Anss w8 w5.heap.size x) := by show Anss _ _ _; rw [HX.out]; exact hl8
               clear hl8 hg8 hB8
               obtain ⟨p0, p1, p2, p3, p4, p5⟩ := Anss.every HX8.out
               obtain ⟨y0, y1, y2, y3, y4, y5⟩ := Anss.every HY8.out)
            | (go_at_call 14; refine (HLA.out _ (HV.out.below HB8.out)).mono ?_; rintro e w9 ⟨rfl, hB9⟩; have HB9 := Lib.hid (HB8.out.trans (hB9.mono HB8.out.size)); clear hB9)
            | (go_at_call 7; refine (awakeSe_any _).mono ?_; rintro e w10 ⟨rfl, hB10⟩))
          go_ret
          exact truly_of (HB9.out.trans (hB10.mono HB9.out.size))
        · have d1 : decide (q ≤ s.seq) = true := decide_eq_true (by omega)
          by_cases h2 : q = s.seq
          · have hk : k = 1 ∧ x = s.last := by have h := HKX.out; rw [if_neg (by simp [h1]), if_pos h2] at h; simp at h; exact ⟨h.1.symm, h.2.symm⟩
            obtain ⟨rfl, rfl⟩ := hk
            have d2 : (q == s.seq) = true := by simpa using h2
            clear h1 h2
            obtain ⟨p0, p1, p2, p3, p4, p5⟩ := Anss.every HX7.out
            obtain ⟨y0, y1, y2, y3, y4, y5⟩ := Anss.every HY7.out
            go_wp2_with (first
              | (go_at_call 14; refine (HLA.out _ (HV.out.below HB7.out)).mono ?_; rintro e w9 ⟨rfl, hB9⟩; have HB9 := Lib.hid (HB7.out.trans (hB9.mono HB7.out.size)); clear hB9)
              | (go_at_call 7; refine (awakeSe_any _).mono ?_; rintro e w10 ⟨rfl, hB10⟩))
            go_ret
            exact truly_of (HB9.out.trans (hB10.mono HB9.out.size))
          · have hk : k = 2 ∧ x = An.zero := by have h := HKX.out; rw [if_neg (by simp [h1]), if_neg h2] at h; simp at h; exact ⟨h.1.symm, h.2.symm⟩
            obtain ⟨rfl, hx⟩ := hk
            have HX := Lib.hid hx
            have d2 : (q == s.seq) = false := by simpa using h2
            clear hx h1 h2
            go_wp2_with (first
              | (refine store_ans (by rfl) _ _ (by rfl) w5.heap.size s.last An.zero (by rfl) (by rfl) HY7.out ?_; intro w8 hl8 hg8
                 have hB8 : Below w5.heap.size w7 w8 := (Below.refl _ w7).grown hg8 (by have := HZ7.out; omega) (by rintro j hj; cases hj; exact Nat.le_refl _)
                 have HB8 := Lib.hid (HB7.out.trans (hB8.mono (by have := HB5.out.size; omega)))
                 have HX8 := Lib.hid (HX7.out.below hB8 HX5.out.lt)
                 have HY8 : Hid (Anss w8 w5.heap.size x) := by show Anss _ _ _; rw [HX.out]; exact hl8
                 clear hl8 hg8 hB8
                 obtain ⟨p0, p1, p2, p3, p4, p5⟩ := Anss.every HX8.out
                 obtain ⟨y0, y1, y2, y3, y4, y5⟩ := Anss.every HY8.out)
              | (go_at_call 14; refine (HLA.out _ (HV.out.below HB8.out)).mono ?_; rintro e w9 ⟨rfl, hB9⟩; have HB9 := Lib.hid (HB8.out.trans (hB9.mono HB8.out.size)); clear hB9)
              | (go_at_call 7; refine (awakeSe_any _).mono ?_; rintro e w10 ⟨rfl, hB10⟩))
            go_ret
            exact truly_of (HB9.out.trans (hB10.mono HB9.out.size))

end Go.Proofs.Ytibpmhogapccoaa
