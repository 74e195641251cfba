/- ConfTrims: Trim against the document. -/
import Derived.Test.YtimlfiomoalieaaCfTrim
import Derived.Test.YtimlfiomoalieaaCfRefC
namespace Go.Proofs.Ytimlfiomoalieaa
open Go.RowKit

theorem u16_bounds {n : Int} (h : (Lit.int .u16 n).wf = true) : 0 ≤ n ∧ n ≤ 65535 := by
  simpa [Lit.wf, IntKind.min, IntKind.max, IntKind.signed, IntKind.bits] using h

set_option maxRecDepth 4000 in
set_option maxHeartbeats 6400000 in
theorem confTrims_any (v : Value) (l : List Cf.Conf) (i more : Int) (w : World) (hv : ReadsC w v l) (m1 : 0 ≤ more) (m2 : more ≤ 65535) : Calls Try.prog 6 #[v, .int .i64 i, .int .u16 more] w (Truly w) := by
  have HAW := Lib.hid (fun (W : World) => awakeC_any W)
  have hlg := large_cf v l w hv
  obtain ⟨ao, cap, rfl, hc1, hc2⟩ := ReadsC.shape hv
  have HV := Lib.hid hv
  obtain ⟨n, hn⟩ : ∃ n, n = l.length := ⟨_, rfl⟩
  rw [← hn] at hlg HV hc1 ⊢
  have HN := Lib.hid hn
  clear hv hn
  go_enter Try.func6, Try.ntmps6
  go_wp2_with fail
  refine hlg.mono ?_
  rintro e w1 ⟨b, rfl, rfl, hsm⟩
  have haw := HAW.out w
  clear hlg
  cases b with
  | true =>
    clear hsm
    go_wp2_with fail
    refine haw.mono ?_
    rintro e w1 ⟨rfl, hB1⟩
    go_wp2
    go_ret
    exact truly_of hB1
  | false =>
    by_cases hbig : 1099511627776 < i
    · have dbig : decide (1099511627776 < i) = true := decide_eq_true hbig
      clear hsm hbig
      go_wp2_with fail
      refine haw.mono ?_
      rintro e w1 ⟨rfl, hB1⟩
      go_wp2
      go_ret
      exact truly_of hB1
    · have dbig : decide (1099511627776 < i) = false := decide_eq_false hbig
      have hsm' := hsm rfl
      have htr := trim_any _ l i w HV.out (by omega)
      have HRC := Lib.hid (fun (W : World) (h : Below w.heap.size w W) => refCheck_cf _ l W (HV.out.below h))
      have HRA := Lib.hid (fun (W : World) (h : Below w.heap.size w W) (j : Int) => refAt_any _ l j W (HV.out.below h))
      obtain ⟨x, hx⟩ : ∃ x, x = Cf.trimOf l i := ⟨_, rfl⟩
      rw [← hx] at htr
      obtain ⟨t, ht⟩ : ∃ t, t = Cf.check l := ⟨_, rfl⟩
      rw [← ht] at HRC
      have HX : Hid (x = if t = true ∧ 1 ≤ i then Cf.trim l i else l) := by show _ = _; rw [hx, Cf.trimOf, ht]
      have HT := Lib.hid ht
      have HL40 : Hid (l.length ≤ 40) := hsm'.1
      have i2 : i ≤ 1099511627776 := by omega
      clear hsm hsm' hx ht haw hbig
      go_wp2_with fail
      refine htr.mono ?_
      rintro e w2 ⟨v2, rfl, hr2, hB2⟩
      have HR2 := Lib.hid hr2
      have HB2 := Lib.hid hB2
      obtain ⟨ao2, cap2, hs2, hq1, hq2⟩ := ReadsC.shape hr2
      obtain ⟨xn, hxn⟩ : ∃ n, n = x.length := ⟨_, rfl⟩
      rw [← hxn] at hs2 hq1
      have HXN := Lib.hid hxn
      subst hs2
      have hrc := HRC.out w2 hB2
      clear hr2 hB2 htr hxn
      go_wp2_with fail
      refine hrc.mono ?_
      rintro e w3 ⟨rfl, hB3⟩
      have HB3 := Lib.hid (HB2.out.trans (hB3.mono HB2.out.size))
      have HR3 := Lib.hid (HR2.out.below hB3)
      clear hrc hB3
      by_cases hgood : t = true ∧ 1 ≤ i
      · obtain ⟨rfl, hi⟩ := hgood
        have di : decide (i < 1) = false := decide_eq_false (by omega)
        have HVAL := Lib.hid ((Cf.check_iff l).1 HT.out.symm)
        have HXE : Hid (x = Cf.trim l i) := by show _ = _; rw [HX.out, if_pos ⟨rfl, hi⟩]
        obtain ⟨tv, tl, ts, ta⟩ := HVAL.out.trim hi
        rw [← HXE.out] at tv tl ts ta
        have HTV := Lib.hid tv; have HTS := Lib.hid ts; have HTA := Lib.hid ta
        have hrx := refCheck_cf _ x w3 HR3.out
        rw [(Cf.check_iff x).2 tv] at hrx
        have hxl : xn ≤ n := by have := HXN.out; have := HN.out; omega
        have dxl : decide (n < xn) = false := decide_eq_false (by omega)
        clear tv tl ts ta
        go_wp2_with fail
        refine hrx.mono ?_
        rintro e w4 ⟨rfl, hB4⟩
        have HB4 := Lib.hid (HB3.out.trans (hB4.mono HB3.out.size))
        have HR4 := Lib.hid (HR3.out.below hB4)
        obtain ⟨at', hat'⟩ : ∃ a, i + more = a := ⟨_, rfl⟩
        have hat1 : i ≤ at' := by omega
        have HAE : Hid (Cf.atOf x at' = Cf.at' l at') := by
          show _ = _
          rw [Cf.atOf, if_pos ⟨(Cf.check_iff x).2 HTV.out, by omega⟩]
          exact HTA.out at' hat1
        have hA := at_any _ x at' w4 HR4.out (by have := HL40.out; have := HXN.out; have := HN.out; omega)
        obtain ⟨m, hm⟩ : ∃ m, m = Cf.at' l at' := ⟨_, rfl⟩
        rw [HAE.out, ← hm] at hA
        have HM := Lib.hid hm
        clear hrx hB4 hm
        by_cases h1 : 1 < xn
        · have d1 : decide ((1 : Int) < (xn : Int)) = true := decide_eq_true (by omega)
          obtain ⟨g, off, rfl, _, hcc⟩ := ReadsC.places HR4.out (by have := HXN.out; omega)
          obtain ⟨c, hc⟩ : ∃ c, x[1]? = some c := ⟨_, List.getElem?_eq_getElem (by have := HXN.out; omega)⟩
          obtain ⟨uo, uc, _, _, _, hcell⟩ := hcc 1 c hc
          obtain ⟨c0, c1⟩ := hcell w4 (Below.refl _ _)
          rw [Nat.one_mul] at c0 c1
          have hci := HTS.out c hc
          have d2 : decide (c.frm ≤ i) = false := decide_eq_false (by omega)
          clear hcc hc hcell hci
          go_wp2_with fail
          refine hA.mono ?_
          rintro e w5 ⟨v5, rfl, hr5, hB5⟩
          obtain ⟨ao5, cap5, hs5, _, _⟩ := ReadsI.shape hr5
          have HR5 := Lib.hid hr5
          have HB5 := Lib.hid (HB4.out.trans (hB5.mono HB4.out.size))
          have hra := HRA.out w5 HB5.out at'
          rw [← HM.out] at hra
          subst hs5
          clear hA hr5 hB5
          go_wp2_with fail
          refine hra.mono ?_
          rintro e w6 ⟨v6, rfl, hr6, rfl⟩
          have hints := ints_any _ _ m m w5 HR5.out hr6
          rw [decide_eq_true (rfl : m = m)] at hints
          obtain ⟨ao6, cap6, hs6, _, _⟩ := ReadsI.shape hr6
          subst hs6
          clear hra hr6
          go_wp2_with fail
          refine hints.mono ?_
          rintro e w7 ⟨rfl, hB7⟩
          have HB7 := Lib.hid (HB5.out.trans (hB7.mono HB5.out.size))
          have haw := HAW.out w7
          clear hints hB7
          go_wp2_with fail
          refine haw.mono ?_
          rintro e w8 ⟨rfl, hB8⟩
          go_wp2
          go_ret
          exact truly_of (HB7.out.trans (hB8.mono HB7.out.size))
        · have d1 : decide ((1 : Int) < (xn : Int)) = false := decide_eq_false (by omega)
          go_wp2_with fail
          refine hA.mono ?_
          rintro e w5 ⟨v5, rfl, hr5, hB5⟩
          obtain ⟨ao5, cap5, hs5, _, _⟩ := ReadsI.shape hr5
          have HR5 := Lib.hid hr5
          have HB5 := Lib.hid (HB4.out.trans (hB5.mono HB4.out.size))
          have hra := HRA.out w5 HB5.out at'
          rw [← HM.out] at hra
          subst hs5
          clear hA hr5 hB5
          go_wp2_with fail
          refine hra.mono ?_
          rintro e w6 ⟨v6, rfl, hr6, rfl⟩
          have hints := ints_any _ _ m m w5 HR5.out hr6
          rw [decide_eq_true (rfl : m = m)] at hints
          obtain ⟨ao6, cap6, hs6, _, _⟩ := ReadsI.shape hr6
          subst hs6
          clear hra hr6
          go_wp2_with fail
          refine hints.mono ?_
          rintro e w7 ⟨rfl, hB7⟩
          have HB7 := Lib.hid (HB5.out.trans (hB7.mono HB5.out.size))
          have haw := HAW.out w7
          clear hints hB7
          go_wp2_with fail
          refine haw.mono ?_
          rintro e w8 ⟨rfl, hB8⟩
          go_wp2
          go_ret
          exact truly_of (HB7.out.trans (hB8.mono HB7.out.size))
      · have HXE : Hid (x = l) := by show _ = _; rw [HX.out, if_neg hgood]
        have hsame := same_cf _ _ x l w3 HR3.out (HV.out.below HB3.out)
        rw [decide_eq_true HXE.out] at hsame
        obtain ⟨b1, hb1⟩ : ∃ b1, decide (i < 1) = b1 := ⟨_, rfl⟩
        have HB1 : Hid (t = false ∨ b1 = true) := by
          cases t with
          | false => exact .inl rfl
          | true => exact .inr (by rw [← hb1]; exact decide_eq_true (Int.not_le.1 fun h => hgood ⟨rfl, by omega⟩))
        clear hgood
        cases t <;> (try cases b1)
        all_goals first
          | (rcases HB1.out with h | h <;> exact absurd h (by decide))
          | (go_wp2_with fail
             refine hsame.mono ?_
             rintro e w4 ⟨rfl, hB4⟩
             have HB4 := Lib.hid (HB3.out.trans (hB4.mono HB3.out.size))
             have haw := HAW.out w4
             clear hsame hB4
             go_wp2_with fail
             refine haw.mono ?_
             rintro e w8 ⟨rfl, hB8⟩
             go_wp2
             go_ret
             exact truly_of (HB4.out.trans (hB8.mono HB4.out.size)))

end Go.Proofs.Ytimlfiomoalieaa
