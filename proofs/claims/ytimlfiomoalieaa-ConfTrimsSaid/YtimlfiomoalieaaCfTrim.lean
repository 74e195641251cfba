/- Trim; the program awake. -/
import Derived.Test.YtimlfiomoalieaaCfDo
namespace Go.Proofs.Ytimlfiomoalieaa
open Go.RowKit

/-- What Trim tells. -/
def Cf.trimOf (l : List Cf.Conf) (i : Int) : List Cf.Conf := if Cf.check l = true ∧ 1 ≤ i then Cf.trim l i else l
def Holds' (w : World) (l : List Cf.Conf) (e : Ending) (w' : World) : Prop := ∃ v', e = .returned v' ∧ ReadsC w' v' l ∧ Below w.heap.size w w'

set_option maxRecDepth 4000 in
set_option maxHeartbeats 3200000 in
theorem trim_any (v : Value) (l : List Cf.Conf) (i : Int) (w : World) (hv : ReadsC w v l) (hn : l.length ≤ 1000000) : Calls Try.prog 21 #[v, .int .i64 i] w (Holds' w (Cf.trimOf l i)) := by
  have HCK := Lib.hid (check_cf v l w hv)
  have HV := Lib.hid hv
  obtain ⟨ao, cap, rfl, hc1, hc2⟩ := ReadsC.shape hv
  obtain ⟨t, ht⟩ : ∃ t, t = Cf.check l := ⟨_, rfl⟩
  rw [← ht] at HCK
  obtain ⟨R, hR⟩ : ∃ R, R = Cf.trimOf l i := ⟨_, rfl⟩
  rw [← hR]
  obtain ⟨n, hnn⟩ : ∃ n, n = l.length := ⟨_, rfl⟩
  cases t with
  | false =>
    have HE : Hid (R = l) := by show _ = _; rw [hR, Cf.trimOf, if_neg (fun h => by rw [h.1] at ht; cases ht)]
    have hck := HCK.out
    rw [show Cf.err false = 3 from rfl] at hck
    rw [← hnn] at hck HV ⊢
    clear hv ht hR HCK hnn
    go_enter Try.func21, Try.ntmps21
    go_wp2_with fail
    refine hck.mono ?_
    rintro e w1 ⟨rfl, hB1⟩
    go_wp2
    go_ret
    exact ⟨_, rfl, by rw [HE.out]; exact HV.out.below hB1, hB1⟩
  | true =>
    have hck := HCK.out
    rw [show Cf.err true = 0 from rfl] at hck
    have HVAL := Lib.hid ((Cf.check_iff l).1 ht.symm)
    have h0 : 0 < n := by obtain ⟨c, r, e, _⟩ := HVAL.out.first; rw [hnn, e]; simp
    have HMEM : Hid (∀ c ∈ l, c.mem ≠ [] ∧ c.mem.length ≤ 1048576) := fun c hc => by
      have hcm := HVAL.out.mems c hc
      exact ⟨hcm.some, by have := Cf.mems_len hcm; omega⟩
    have HNN := Lib.hid hnn
    by_cases h1 : i < 1
    · have HE : Hid (R = l) := by show _ = _; rw [hR, Cf.trimOf, if_neg (fun h => by omega)]
      have d1 : decide (i < 1) = true := decide_eq_true h1
      have HCP := Lib.hid (fun (W : World) (h : Below w.heap.size w W) => copied_any _ l W (hv.below h) (by omega) (by omega) HMEM.out)
      rw [← hnn] at hck HCP ⊢
      clear hv ht hR HCK h1 hnn
      go_enter Try.func21, Try.ntmps21
      go_wp2_with fail
      refine hck.mono ?_
      rintro e w1 ⟨rfl, hB1⟩
      have hcp := HCP.out w1 hB1
      have HB1 := Lib.hid hB1
      clear hB1 hck
      go_wp2_with fail
      refine hcp.mono ?_
      rintro e w2 ⟨g, c, us, rfl, hg, hrow, hm, hB2⟩
      have HRD := Lib.hid (hrow.reads hm)
      rw [← HNN.out] at HRD ⊢
      have HB2 := Lib.hid (HB1.out.trans (hB2.mono HB1.out.size))
      clear hcp hrow hm hB2 hg
      go_wp2
      go_ret
      exact ⟨_, rfl, by rw [HE.out]; exact HRD.out, HB2.out⟩
    · have hi1 : 1 ≤ i := by omega
      have HE : Hid (R = Cf.trim l i) := by show _ = _; rw [hR, Cf.trimOf, if_pos ⟨ht.symm, hi1⟩]
      have d1 : decide (i < 1) = false := decide_eq_false h1
      have hcp := HVAL.out.cnt_pos hi1
      have hcl := Cf.cnt_le l i
      have HPL := Lib.hid (fun (W : World) (h : Below w.heap.size w W) => place_any _ l i W (hv.below h) HVAL.out hi1 (by omega))
      obtain ⟨p, hp⟩ : ∃ p, p = Cf.cnt l i - 1 := ⟨_, rfl⟩
      have HPP : Hid (Cf.trim l i = Cf.one (l.drop p)) := by show _ = _; rw [hp]; rfl
      rw [← hp] at HPL
      have hpn : p < n := by omega
      rw [← hnn] at HV
      obtain ⟨ao2, hr2, hcut⟩ := cut_any ao n cap l p n w HV.out (by omega) (by omega)
      rw [List.take_of_length_le (by omega)] at hr2
      obtain ⟨c, r, hcr⟩ : ∃ c r, l.drop p = c :: r := by
        cases hd : l.drop p with
        | nil => have := congrArg List.length hd; simp at this; omega
        | cons c r => exact ⟨c, r, rfl⟩
      have HCP := Lib.hid (fun (W : World) (h : Below w.heap.size w W) => copied_any _ (l.drop p) W (hr2.below h) (by rw [List.length_drop]; omega) (by rw [List.length_drop]; omega) (fun c hc => HMEM.out c (List.mem_of_mem_drop hc)))
      have hdl : (l.drop p).length = n - p := by rw [List.length_drop]; omega
      have HDL := Lib.hid hdl
      have HCR := Lib.hid hcr
      obtain ⟨k, hk⟩ : ∃ k, k = n - p := ⟨_, rfl⟩
      have hk0 : 0 < k := by omega
      rw [← hk] at HCP hcut HDL
      rw [← hnn] at hck HPL ⊢
      clear hv ht hR HCK h1 hnn hcp hcl hp hr2 hcr hdl hk
      go_enter Try.func21, Try.ntmps21
      go_wp2_with fail
      refine hck.mono ?_
      rintro e w1 ⟨rfl, hB1⟩
      have HB1 := Lib.hid hB1
      have hpl := HPL.out w1 hB1
      clear hB1 hck
      go_wp2_with fail
      refine hpl.mono ?_
      rintro e w2 ⟨rfl, hB2⟩
      have HB2 := Lib.hid (HB1.out.trans (hB2.mono HB1.out.size))
      clear hB2 hpl
      go_wp2_with fail
      refine (hcut _).mono ?_
      rintro e w3 ⟨rfl, rfl⟩
      have hcp := HCP.out w2 HB2.out
      clear hcut
      go_wp2_with fail
      refine hcp.mono ?_
      rintro e w4 ⟨g, c4, us, rfl, hg, hrow, hm, hB4⟩
      have HG := Lib.hid hg
      rw [HDL.out]
      have HB4 := Lib.hid (HB2.out.trans (hB4.mono HB2.out.size))
      have HRW := Lib.hid hrow; have HMR := Lib.hid hm
      rw [HCR.out] at HMR
      obtain ⟨u0, hu0⟩ : ∃ u, us[0]? = some u := ⟨_, List.getElem?_eq_getElem (by have := hm.1; have := HDL.out; omega)⟩
      obtain ⟨d0, _⟩ := hrow.cells (f := u0.1) (u := u0.2) hu0
      rw [Nat.zero_mul] at d0
      have fr := hrow.free 0
      have hglt : g < w4.heap.size := hrow.lt
      have HFI := Lib.hid (CRow.first HRW.out HMR.out 1)
      have HB5 : Hid (Below w.heap.size w4 (w4.setCell ⟨g, 0, none⟩ (.int .i64 1))) := by
        have := grown_set w4 g 0 (.int .i64 1)
        exact ⟨this.os, this.tape, this.output, this.size, fun j hj => Below.heap_setCell _ _ _ j (by show j ≠ g; have := HG.out; have := HB2.out.size; omega)⟩
      clear hcp hrow hm hB4 hg hu0
      go_wp2
      go_ret
      obtain ⟨us', hr', hm'⟩ := HFI.out
      have hrd := hr'.reads hm'
      rw [show ((⟨1, c.mem⟩ : Cf.Conf) :: r).length = k by have := HDL.out; rw [HCR.out] at this; exact this] at hrd
      exact ⟨_, rfl, by rw [HE.out, HPP.out, HCR.out]; exact hrd, HB4.out.trans HB5.out⟩

set_option maxRecDepth 4000 in
set_option maxHeartbeats 1600000 in
theorem awakeC_any (w : World) : Calls Try.prog 8 #[] w (Truly w) := by
  obtain ⟨w1, e1⟩ : ∃ w1, w.alloc (.cells #[.int .i64 1, .int .i64 2, .int .i64 3] 3) = w1 := ⟨_, rfl⟩
  have hl1 : Lies w1 w.heap.size 3 #[.int .i64 1, .int .i64 2, .int .i64 3] := by rw [← e1]; exact Lies.new w _ _
  have hB1 : Below w.heap.size w w1 := by rw [← e1]; exact (Below.refl _ w).alloc (Nat.le_refl _) _
  have hz1 : w1.heap.size = w.heap.size + 1 := by rw [← e1]; simp
  have hr1 : ReadsI w1 (.slice (some ⟨w.heap.size, 0, none⟩) 3 3) [1, 2, 3] := ReadsI.laid [1, 2, 3] 3 hl1 rfl rfl (by omega)
  obtain ⟨w2, e2, hl2, hB2, hz2⟩ := box_cnf w1 1 (.slice (some ⟨w.heap.size, 0, none⟩) 3 3)
  have hr2 := ReadsC.one ⟨1, [1, 2, 3]⟩ _ hl2 (hr1.below hB2)
  have hch := change_any _ _ 5 7 4 w2 hr2 (by simp)
  have hX : Cf.changeOf [⟨1, [1, 2, 3]⟩] 5 7 4 = ([⟨1, [1, 2, 3]⟩, ⟨9, [1, 2, 3, 4]⟩], 0) := by decide +kernel
  unfold Changes at hch
  rw [hX] at hch
  have HB2 := Lib.hid (hB1.trans (hB2.mono hB1.size))
  rw [hz1] at hch
  dsimp only [Cf.cells] at e2
  clear hl1 hB1 hr1 hl2 hB2 hr2 hX hz2
  go_enter Try.func8, Try.ntmps8
  go_wp2_with fail
  refine hch.mono ?_
  rintro e w3 ⟨v3, rfl, hr3, hB3⟩
  have HB3 := Lib.hid (HB2.out.trans (hB3.mono HB2.out.size))
  obtain ⟨ao, cap, rfl, _, _⟩ := ReadsC.shape hr3
  obtain ⟨g, off, rfl, _, hcc⟩ := ReadsC.places hr3 (by simp)
  obtain ⟨uo, uc, _, _, _, hcell⟩ := hcc 1 _ rfl
  obtain ⟨c0, c1⟩ := hcell w3 (Below.refl _ _)
  dsimp only at c0 c1
  clear hr3 hB3 hch hcc hcell
  go_wp2
  go_ret
  exact truly_of HB3.out

end Go.Proofs.Ytimlfiomoalieaa
