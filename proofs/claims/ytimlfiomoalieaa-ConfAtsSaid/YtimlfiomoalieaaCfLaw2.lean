/- ConfAts: Check, At and Is against the document's. -/
import Derived.Test.YtimlfiomoalieaaCfTrim
namespace Go.Proofs.Ytimlfiomoalieaa
open Go.RowKit

set_option maxRecDepth 4000 in
set_option maxHeartbeats 6400000 in
theorem confAts_any (v : Value) (l : List Cf.Conf) (i x : Int) (w : World) (hv : ReadsC w v l) : Calls Try.prog 3 #[v, .int .i64 i, .int .i64 x] w (Truly w) := by
  have HAW := Lib.hid (fun (W : World) => awakeC_any W)
  have hlg := large_cf v l w hv
  obtain ⟨ao, cap, rfl, hc1, hc2⟩ := ReadsC.shape hv
  have HV := Lib.hid hv
  obtain ⟨n, hn⟩ : ∃ n, n = l.length := ⟨_, rfl⟩
  rw [← hn] at hlg HV hc1 ⊢
  have HN := Lib.hid hn
  clear hv hn
  go_enter Try.func3, Try.ntmps3
  go_wp2_with fail
  refine hlg.mono ?_
  rintro e w1 ⟨b, rfl, rfl, hsm⟩
  cases b with
  | true =>
    have haw := HAW.out w
    clear hlg hsm
    go_wp2_with fail
    refine haw.mono ?_
    rintro e w1 ⟨rfl, hB1⟩
    go_wp2
    go_ret
    exact truly_of hB1
  | false =>
    have hsm' := hsm rfl
    have hl : l.length ≤ 1000000 := by omega
    have hrc := refCheck_cf _ l w HV.out
    have HRA := Lib.hid (fun (W : World) (h : Below w.heap.size w W) => refAt_any _ l i W (HV.out.below h))
    have HCK := Lib.hid (fun (W : World) (h : Below w.heap.size w W) => check_cf _ l W (HV.out.below h))
    have HAT := Lib.hid (fun (W : World) (h : Below w.heap.size w W) => at_any _ l i W (HV.out.below h) (by omega))
    have HIS := Lib.hid (fun (W : World) (h : Below w.heap.size w W) => is_any _ l i x W (HV.out.below h) (by omega))
    obtain ⟨m, hm⟩ : ∃ m, m = Cf.atOf l i := ⟨_, rfl⟩
    rw [← hm] at HAT HIS
    obtain ⟨q, hq⟩ : ∃ q, q = m.contains x := ⟨_, rfl⟩
    rw [← hq] at HIS
    have HQ := Lib.hid hq
    obtain ⟨t, ht⟩ : ∃ t, t = Cf.check l := ⟨_, rfl⟩
    rw [← ht] at hrc HCK
    have HM : Hid (m = if t = true ∧ 1 ≤ i then Cf.at' l i else []) := by show _ = _; rw [hm, Cf.atOf, ht]
    clear hlg hsm hsm' hm hq ht
    go_wp2_with fail
    refine hrc.mono ?_
    rintro e wA ⟨rfl, hWB⟩
    have HWB := Lib.hid hWB
    clear hrc hWB
    cases t with
    | false =>
      have HWANT : Hid (ReadsI wA (.slice none 0 0) m) := by show ReadsI _ _ _; rw [HM.out, if_neg (fun h => by cases h.1)]; exact ReadsI.empty _
      clear HRA
      have hck := HCK.out wA HWB.out
      rw [show Cf.err false = 3 from rfl] at hck
      go_wp2_with fail
      refine hck.mono ?_
      rintro e wB ⟨rfl, hBB⟩
      have HBB := Lib.hid (HWB.out.trans (hBB.mono HWB.out.size))
      have HWC := Lib.hid hBB
      clear hBB hck
      have hck2 := HCK.out wB HBB.out
      rw [show Cf.err false = 3 from rfl] at hck2
      go_wp2_with fail
      refine hck2.mono ?_
      rintro e wB2 ⟨rfl, hBB2⟩
      have HBB2 := Lib.hid (HBB.out.trans (hBB2.mono HBB.out.size))
      have HWC2 := Lib.hid (HWC.out.trans (hBB2.mono HWC.out.size))
      clear hBB2 hck2
      have hat := HAT.out wB2 HBB2.out
      go_wp2_with fail
      refine hat.mono ?_
      rintro e wC ⟨vC, rfl, hrC, hBC⟩
      have hints := ints_any vC _ m m wC hrC (HWANT.out.below (HWC2.out.trans (hBC.mono HWC2.out.size)))
      obtain ⟨aoC, capC, hsC, _, _⟩ := ReadsI.shape hrC
      have HBC := Lib.hid (HBB2.out.trans (hBC.mono HBB2.out.size))
      have HWD := Lib.hid (HWC2.out.trans (hBC.mono HWC2.out.size))
      rw [decide_eq_true (rfl : m = m)] at hints
      clear hat hrC hBC
      subst hsC
      go_wp2_with fail
      refine hints.mono ?_
      rintro e wD ⟨rfl, hBD⟩
      have HBD := Lib.hid (HBC.out.trans (hBD.mono HBC.out.size))
      have HWE := Lib.hid (HWD.out.trans (hBD.mono HWD.out.size))
      have his := HIS.out wD HBD.out
      clear hints hBD
      go_wp2_with fail
      refine his.mono ?_
      rintro e wE ⟨rfl, hBE⟩
      have HBE := Lib.hid (HBD.out.trans (hBE.mono HBD.out.size))
      have hin := in_any _ m x wE (HWANT.out.below (HWE.out.trans (hBE.mono HWE.out.size)))
      rw [← HQ.out] at hin
      clear his hBE
      go_wp2_with fail
      refine hin.mono ?_
      rintro e wF ⟨rfl, rfl⟩
      have hqq : (q == q) = true := by simp
      have haw := HAW.out wE
      clear hin
      go_wp2_with fail
      refine haw.mono ?_
      rintro e wG ⟨rfl, hBG⟩
      go_wp2
      go_ret
      exact truly_of (HBE.out.trans (hBG.mono HBE.out.size))
    | true =>
      by_cases hi : 1 ≤ i
      · have di : decide (1 ≤ i) = true := decide_eq_true hi
        have hra := HRA.out wA HWB.out
        have HMM : Hid (Cf.at' l i = m) := by show _ = _; rw [HM.out, if_pos ⟨rfl, hi⟩]
        rw [HMM.out] at hra
        clear hi HRA
        go_wp2_with fail
        refine hra.mono ?_
        rintro e wA2 ⟨vW, rfl, hrW, rfl⟩
        have HWANT := Lib.hid hrW
        obtain ⟨aoW, capW, hsW, _, _⟩ := ReadsI.shape hrW
        clear hra hrW
        subst hsW
        have hck := HCK.out wA HWB.out
        rw [show Cf.err true = 0 from rfl] at hck
        go_wp2_with fail
        refine hck.mono ?_
        rintro e wB ⟨rfl, hBB⟩
        have HBB := Lib.hid (HWB.out.trans (hBB.mono HWB.out.size))
        have HWC := Lib.hid hBB
        clear hBB hck
        have hat := HAT.out wB HBB.out
        go_wp2_with fail
        refine hat.mono ?_
        rintro e wC ⟨vC, rfl, hrC, hBC⟩
        have hints := ints_any vC _ m m wC hrC (HWANT.out.below (HWC.out.trans (hBC.mono HWC.out.size)))
        obtain ⟨aoC, capC, hsC, _, _⟩ := ReadsI.shape hrC
        have HBC := Lib.hid (HBB.out.trans (hBC.mono HBB.out.size))
        have HWD := Lib.hid (HWC.out.trans (hBC.mono HWC.out.size))
        rw [decide_eq_true (rfl : m = m)] at hints
        clear hat hrC hBC
        subst hsC
        go_wp2_with fail
        refine hints.mono ?_
        rintro e wD ⟨rfl, hBD⟩
        have HBD := Lib.hid (HBC.out.trans (hBD.mono HBC.out.size))
        have HWE := Lib.hid (HWD.out.trans (hBD.mono HWD.out.size))
        have his := HIS.out wD HBD.out
        clear hints hBD
        go_wp2_with fail
        refine his.mono ?_
        rintro e wE ⟨rfl, hBE⟩
        have HBE := Lib.hid (HBD.out.trans (hBE.mono HBD.out.size))
        have hin := in_any _ m x wE (HWANT.out.below (HWE.out.trans (hBE.mono HWE.out.size)))
        rw [← HQ.out] at hin
        clear his hBE
        go_wp2_with fail
        refine hin.mono ?_
        rintro e wF ⟨rfl, rfl⟩
        have hqq : (q == q) = true := by simp
        have haw := HAW.out wE
        clear hin
        go_wp2_with fail
        refine haw.mono ?_
        rintro e wG ⟨rfl, hBG⟩
        go_wp2
        go_ret
        exact truly_of (HBE.out.trans (hBG.mono HBE.out.size))
      · have di : decide (1 ≤ i) = false := decide_eq_false hi
        have HWANT : Hid (ReadsI wA (.slice none 0 0) m) := by show ReadsI _ _ _; rw [HM.out, if_neg (fun h => hi h.2)]; exact ReadsI.empty _
        clear hi HRA
        have hck := HCK.out wA HWB.out
        rw [show Cf.err true = 0 from rfl] at hck
        go_wp2_with fail
        refine hck.mono ?_
        rintro e wB ⟨rfl, hBB⟩
        have HBB := Lib.hid (HWB.out.trans (hBB.mono HWB.out.size))
        have HWC := Lib.hid hBB
        clear hBB hck
        have hat := HAT.out wB HBB.out
        go_wp2_with fail
        refine hat.mono ?_
        rintro e wC ⟨vC, rfl, hrC, hBC⟩
        have hints := ints_any vC _ m m wC hrC (HWANT.out.below (HWC.out.trans (hBC.mono HWC.out.size)))
        obtain ⟨aoC, capC, hsC, _, _⟩ := ReadsI.shape hrC
        have HBC := Lib.hid (HBB.out.trans (hBC.mono HBB.out.size))
        have HWD := Lib.hid (HWC.out.trans (hBC.mono HWC.out.size))
        rw [decide_eq_true (rfl : m = m)] at hints
        clear hat hrC hBC
        subst hsC
        go_wp2_with fail
        refine hints.mono ?_
        rintro e wD ⟨rfl, hBD⟩
        have HBD := Lib.hid (HBC.out.trans (hBD.mono HBC.out.size))
        have HWE := Lib.hid (HWD.out.trans (hBD.mono HWD.out.size))
        have his := HIS.out wD HBD.out
        clear hints hBD
        go_wp2_with fail
        refine his.mono ?_
        rintro e wE ⟨rfl, hBE⟩
        have HBE := Lib.hid (HBD.out.trans (hBE.mono HBD.out.size))
        have hin := in_any _ m x wE (HWANT.out.below (HWE.out.trans (hBE.mono HWE.out.size)))
        rw [← HQ.out] at hin
        clear his hBE
        go_wp2_with fail
        refine hin.mono ?_
        rintro e wF ⟨rfl, rfl⟩
        have hqq : (q == q) = true := by simp
        have haw := HAW.out wE
        clear hin
        go_wp2_with fail
        refine haw.mono ?_
        rintro e wG ⟨rfl, hBG⟩
        go_wp2
        go_ret
        exact truly_of (HBE.out.trans (hBG.mono HBE.out.size))

end Go.Proofs.Ytimlfiomoalieaa
