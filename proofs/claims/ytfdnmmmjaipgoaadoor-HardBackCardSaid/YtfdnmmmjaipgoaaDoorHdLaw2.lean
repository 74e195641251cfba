/- The law HardBack. Written by a program. -/
import Derived.Test.YtfdnmmmjaipgoaaDoorHdLaw1
import Derived.Test.YtfdnmmmjaipgoaaDoorHdMake
import Derived.Test.YtfdnmmmjaipgoaaDoorGHd
import Derived.Test.YtfdnmmmjaipgoaaDoorHdCame
namespace Go.Proofs.YtfdnmmmjaipgoaaDoor
open Go.RowKit

theorem Hd.recs_len (h : Hd.Hard) : (Hd.recs h).length ≤ 2 + h.acc.length + h.chs.length := by
  unfold Hd.recs
  simp only [List.length_append, List.length_map]
  split <;> split <;> simp <;> omega
theorem Hd.recs_short (h : Hd.Hard) (ha : ∀ e ∈ h.acc, e.cmd.Short 140737488355328) (hc : ∀ e ∈ h.chs, e.cmd.Short 140737488355328) : ∀ x ∈ Hd.recs h, x.cmd.Short 140737488355328 := by
  have hz : Cm.zero.Short 140737488355328 := ⟨by simp [Cm.zero, Cm.bareOf], by simp [Cm.zero, Cm.bareOf], by simp [Cm.zero, Cm.bareOf]⟩
  intro x hx
  unfold Hd.recs at hx
  rcases List.mem_append.1 hx with hx | hx
  · rcases List.mem_append.1 hx with hx | hx
    · rcases List.mem_append.1 hx with hx | hx
      · split at hx
        · obtain rfl : x = Hd.recI h := by simpa using hx
          exact hz
        · simp at hx
      · split at hx
        · obtain rfl : x = Hd.recP h := by simpa using hx
          exact hz
        · simp at hx
    · obtain ⟨e, he, rfl⟩ := List.mem_map.1 hx
      exact ha e he
  · obtain ⟨e, he, rfl⟩ := List.mem_map.1 hx
    exact hc e he

set_option maxRecDepth 8000 in
set_option maxHeartbeats 3200000 in
theorem hardBackLaw_any (h : Hd.Hard) (vi va vc : Value) (w : World) (hW : WordsIn w) (hr : HardR w h vi va vc) (hf : h.Fits) :
    Calls Tryd.prog 4 #[.agg (Hd.cells h vi va vc)] w (Truly w) := by
  obtain ⟨w1, e1, hx1, hB1, hs1⟩ := box_six w 30 h vi va vc hr
  have HX1 := Lib.hid hx1; have HB1 := Lib.hid hB1; have HW := Lib.hid hW; have HR1 := Lib.hid (hr.below hB1)
  have hcall := heavyH_any h vi va vc w1 HR1.out (fun e he => (hf.acc e he).2) (fun e he => (hf.chs e he).2)
  obtain ⟨t, ht⟩ : ∃ t, t = (decide (300 < h.img.length) || (En.large h.acc || En.large h.chs)) := ⟨_, rfl⟩
  rw [← ht] at hcall
  have HT := Lib.hid ht
  clear hx1 hB1 hs1 hW hr hf ht
  go_enter Tryd.func4, Tryd.ntmps4
  go_wp2_with (refine load_hard rfl _ rfl rfl HX1.out ?_)
  refine hcall.mono ?_
  rintro e w2 ⟨rfl, hb2⟩
  have HB2 := Lib.hid (HB1.out.trans (hb2.mono HB1.out.size))
  have HX2 := Lib.hid (HX1.out.below hb2 HX1.out.lies.lt)
  have HR2 := Lib.hid (HR1.out.below hb2)
  clear hcall hb2 e1
  cases t with
  | true =>
    go_wp2_with fail
    refine (awakeH_any w2 (HW.out.below HB2.out)).mono ?_
    rintro e w3 ⟨rfl, hb3⟩
    go_wp2
    go_ret
    exact truly_of (HB2.out.trans (hb3.mono HB2.out.size))
  | false =>
    have hno := HT.out.symm
    simp only [Bool.or_eq_false_iff, decide_eq_false_iff_not] at hno
    have HFEW : Hid h.Few := ⟨by have := hno.1; omega, by have := (En.small hno.2.1).1; omega, by have := (En.small hno.2.2).1; omega⟩
    have HA : Hid (∀ e ∈ h.acc, e.cmd.Short 140737488355328) := fun e he => Short.up ((En.small hno.2.1).2 e he) (by omega)
    have HC : Hid (∀ e ∈ h.chs, e.cmd.Short 140737488355328) := fun e he => Short.up ((En.small hno.2.2).2 e he) (by omega)
    have HLEN : Hid ((Hd.recs h).length ≤ 1000) := by
      have h1 := (En.small hno.2.1).1
      have h2 := (En.small hno.2.2).1
      have h3 := Hd.recs_len h
      show _ ≤ _
      omega
    have HSH : Hid (∀ x ∈ Hd.recs h, x.cmd.Short 140737488355328) := Hd.recs_short h HA.out HC.out
    obtain ⟨b, hb⟩ : ∃ b : Bool, b = true ↔ Hd.Valid h := by
      by_cases v : Hd.Valid h
      · exact ⟨true, fun _ => v, fun _ => rfl⟩
      · exact ⟨false, fun h => by simp at h, fun h => absurd h v⟩
    have HBV := Lib.hid hb
    clear hno hb
    go_wp2_with (refine load_hard rfl _ rfl rfl HX2.out ?_)
    refine (refCheckH_any b h vi va vc w2 HR2.out HBV.out HA.out HC.out).mono ?_
    rintro e w3 ⟨rfl, hb3⟩
    have HB3 := Lib.hid (HB2.out.trans (hb3.mono HB2.out.size))
    have HX3 := Lib.hid (HX2.out.below hb3 HX2.out.lies.lt)
    have HR3 := Lib.hid (HR2.out.below hb3)
    clear hb3
    cases b with
    | false =>
      go_wp2_with (refine load_hard rfl _ rfl rfl HX3.out ?_)
      refine (hardCheck_any false h vi va vc w3 (HW.out.below HB3.out) HR3.out HBV.out HA.out HC.out).mono ?_
      rw [if_neg (by simp)]
      rintro e w4 ⟨rfl, hb4⟩
      have HB4 := Lib.hid (HB3.out.trans (hb4.mono HB3.out.size))
      clear hb4
      go_wp2_with fail
      refine (awakeH_any w4 (HW.out.below HB4.out)).mono ?_
      rintro e w5 ⟨rfl, hb5⟩
      go_wp2
      go_ret
      exact truly_of (HB4.out.trans (hb5.mono HB4.out.size))
    | true =>
    have HVAL : Hid (Hd.Valid h) := HBV.out.1 rfl
    go_wp2_with (refine load_hard rfl _ rfl rfl HX3.out ?_)
    refine (records_any h vi va vc w3 HR3.out HFEW.out).mono ?_
    rintro e w5 ⟨y, rfl, hy, hb5⟩
    have HY := Lib.hid hy
    have HB5 := Lib.hid (HB3.out.trans (hb5.mono HB3.out.size))
    have HX5 := Lib.hid (HX3.out.below hb5 HX3.out.lies.lt)
    have HR5 := Lib.hid (HR3.out.below hb5)
    clear hy hb5
    go_wp2
    refine wp_region_held_drew (S := fun W => W.cell? ⟨w.heap.size, 0, none⟩ = some (.int .i64 h.prom.round) ∧ W.cell? ⟨w.heap.size, 1, none⟩ = some (.int .i64 h.prom.node) ∧ W.cell? ⟨w.heap.size, 2, none⟩ = some (.int .i64 h.base) ∧ W.cell? ⟨w.heap.size, 3, none⟩ = some vi ∧ W.cell? ⟨w.heap.size, 4, none⟩ = some va ∧ W.cell? ⟨w.heap.size, 5, none⟩ = some vc) (by kernel_rfl) (HX5.out.all) (fun hHeld => ?_)
    refine wpAnyH_take (i := 0) (v := ?v0) rfl (by kernel_rfl) (by kernel_rfl) (by kernel_rfl) (fun _ _ _ h => h) (Or.inl ⟨by kernel_rfl, ?hy0⟩) hHeld ?rest0
    case hy0 => (intro W hSw; obtain ⟨s0, s1, s2, s3, s4, s5⟩ := hSw; go_simp; (try with_reducible rfl))
    refine wpAnyH_ready (rs := [1]) (by kernel_rfl) (by simp) ?_
    refine AllReadyH.cons rfl (fun K hK => ?_) AllReadyH.nil
    rw [if_pos (by kernel_rfl)]
    go_simp
    go_at_call 13
    refine (hardCheck_any true h vi va vc w5.drew (HW.out.below (HB5.out.trans ((drawn w5 1).mono HB5.out.size))) (HR5.out.below (drawn w5 1)) ⟨fun _ => HVAL.out, fun _ => rfl⟩ HA.out HC.out).mono ?_
    rw [if_pos rfl]
    rintro e w6 ⟨rfl, hb6⟩
    have HB6 : Hid (Below w5.heap.size w5 w6) := (drawn w5 1).trans (hb6.mono (drawn w5 1).size)
    have HX6 := Lib.hid (HX5.out.below HB6.out HX5.out.lies.lt)
    have HH6 := Lib.hid (HR5.out.below HB6.out)
    clear hb6
    dsimp only
    refine hK.out _ _ HX6.out.all (fun hHeld => ?_)
    clear hK K
    refine wpAnyH_take (i := 2) (v := ?v2) rfl (by kernel_rfl) (by kernel_rfl) (by kernel_rfl) (fun _ _ _ h => h) (Or.inl ⟨by kernel_rfl, ?hy2⟩) hHeld ?rest2
    case hy2 => (intro W hSw; obtain ⟨s0, s1, s2, s3, s4, s5⟩ := hSw; go_simp; (try with_reducible rfl))
    refine wpAnyH_take (i := 3) (v := ?v3) rfl (by kernel_rfl) (by kernel_rfl) (by kernel_rfl) (fun _ _ _ h => h) (Or.inl ⟨by kernel_rfl, ?hy3⟩) hHeld ?rest3
    case hy3 => (intro W hSw; obtain ⟨s0, s1, s2, s3, s4, s5⟩ := hSw; go_simp; (try with_reducible rfl))
    refine wpAnyH_take (i := 4) (v := ?v4) rfl (by kernel_rfl) (by kernel_rfl) (by kernel_rfl) (fun _ _ _ h => h) (Or.inl ⟨by kernel_rfl, ?hy4⟩) hHeld ?rest4
    case hy4 => (intro W hSw; obtain ⟨s0, s1, s2, s3, s4, s5⟩ := hSw; go_simp; (try with_reducible rfl))
    refine wpAnyH_take (i := 6) (v := ?v6) rfl (by kernel_rfl) (by kernel_rfl) (by kernel_rfl) (fun _ _ _ h => h) (Or.inl ⟨by kernel_rfl, ?hy6⟩) hHeld ?rest6
    case hy6 => (intro W hSw; obtain ⟨s0, s1, s2, s3, s4, s5⟩ := hSw; go_simp; (try with_reducible rfl))
    refine wpAnyH_ready (rs := [5]) (by kernel_rfl) (by simp) ?_
    refine AllReadyH.cons rfl (fun K hK => ?_) AllReadyH.nil
    rw [if_pos (by kernel_rfl)]
    go_simp
    go_at_call 10
    refine (refOf_any y (Hd.recs h) w6 (ListP.below HY.out HB6.out) HSH.out HLEN.out).mono ?_
    rw [Hd.of_recs HVAL.out]
    rintro e w7 ⟨ui, ua, uc, rfl, hr7, hb7⟩
    have HB7 : Hid (Below w5.heap.size w5 w7) := HB6.out.trans (hb7.mono HB6.out.size)
    have HX7 := Lib.hid (HX5.out.below HB7.out HX5.out.lies.lt)
    have HH7 := Lib.hid (HR5.out.below HB7.out)
    have HG7 := Lib.hid hr7
    clear hr7 hb7
    dsimp only
    refine hK.out _ _ HX7.out.all (fun hHeld => ?_)
    clear hK K
    refine wpAnyH_ready (rs := [7]) (by kernel_rfl) (by simp) ?_
    refine AllReadyH.cons rfl (fun K hK => ?_) AllReadyH.nil
    rw [if_pos (by kernel_rfl)]
    go_simp
    go_at_call 9
    refine (sameH_any h h ui ua uc vi va vc w7 HG7.out HH7.out).mono ?_
    rw [show decide (h = h) = true by simp]
    rintro e w8 ⟨rfl, hb8⟩
    have HB8 : Hid (Below w5.heap.size w5 w8) := HB7.out.trans (hb8.mono HB7.out.size)
    have HX8 := Lib.hid (HX5.out.below HB8.out HX5.out.lies.lt)
    have HH8 := Lib.hid (HR5.out.below HB8.out)
    clear hb8
    dsimp only
    refine hK.out _ _ HX8.out.all (fun hHeld => ?_)
    clear hK K
    refine wpAnyH_take (i := 8) (v := ?v8) rfl (by kernel_rfl) (by kernel_rfl) (by kernel_rfl) (fun _ _ _ h => h) (Or.inl ⟨by kernel_rfl, ?hy8⟩) hHeld ?rest8
    case hy8 => (intro W hSw; obtain ⟨s0, s1, s2, s3, s4, s5⟩ := hSw; go_simp; (try with_reducible rfl))
    refine wpAnyH_take (i := 9) (v := ?v9) rfl (by kernel_rfl) (by kernel_rfl) (by kernel_rfl) (fun _ _ _ h => h) (Or.inl ⟨by kernel_rfl, ?hy9⟩) hHeld ?rest9
    case hy9 => (intro W hSw; obtain ⟨s0, s1, s2, s3, s4, s5⟩ := hSw; go_simp; (try with_reducible rfl))
    refine wpAnyH_take (i := 10) (v := ?v10) rfl (by kernel_rfl) (by kernel_rfl) (by kernel_rfl) (fun _ _ _ h => h) (Or.inl ⟨by kernel_rfl, ?hy10⟩) hHeld ?rest10
    case hy10 => (intro W hSw; obtain ⟨s0, s1, s2, s3, s4, s5⟩ := hSw; go_simp; (try with_reducible rfl))
    refine wpAnyH_take (i := 12) (v := ?v12) rfl (by kernel_rfl) (by kernel_rfl) (by kernel_rfl) (fun _ _ _ h => h) (Or.inl ⟨by kernel_rfl, ?hy12⟩) hHeld ?rest12
    case hy12 => (intro W hSw; obtain ⟨s0, s1, s2, s3, s4, s5⟩ := hSw; go_simp; (try with_reducible rfl))
    refine wpAnyH_ready (rs := [11]) (by kernel_rfl) (by simp) ?_
    refine AllReadyH.cons rfl (fun K hK => ?_) AllReadyH.nil
    rw [if_pos (by kernel_rfl)]
    go_simp
    go_at_call 8
    refine (hardOf_any y (Hd.recs h) w8 (HW.out.below (HB5.out.trans (HB8.out.mono HB5.out.size))) (ListP.below HY.out HB8.out) HSH.out HLEN.out).mono ?_
    rw [Hd.of_recs HVAL.out]
    rintro e w9 ⟨ui, ua, uc, rfl, hr9, hb9⟩
    have HB9 : Hid (Below w5.heap.size w5 w9) := HB8.out.trans (hb9.mono HB8.out.size)
    have HX9 := Lib.hid (HX5.out.below HB9.out HX5.out.lies.lt)
    have HH9 := Lib.hid (HR5.out.below HB9.out)
    have HG9 := Lib.hid hr9
    clear hr9 hb9
    dsimp only
    refine hK.out _ _ HX9.out.all (fun hHeld => ?_)
    clear hK K
    refine wpAnyH_ready (rs := [13]) (by kernel_rfl) (by simp) ?_
    refine AllReadyH.cons rfl (fun K hK => ?_) AllReadyH.nil
    rw [if_pos (by kernel_rfl)]
    go_simp
    go_at_call 9
    refine (sameH_any h h ui ua uc vi va vc w9 HG9.out HH9.out).mono ?_
    rw [show decide (h = h) = true by simp]
    rintro e w10 ⟨rfl, hb10⟩
    have HB10 : Hid (Below w5.heap.size w5 w10) := HB9.out.trans (hb10.mono HB9.out.size)
    have HX10 := Lib.hid (HX5.out.below HB10.out HX5.out.lies.lt)
    have HH10 := Lib.hid (HR5.out.below HB10.out)
    clear hb10
    dsimp only
    refine hK.out _ _ HX10.out.all (fun hHeld => ?_)
    clear hK K
    refine wpAnyH_take (i := 14) (v := ?v14) rfl (by kernel_rfl) (by kernel_rfl) (by kernel_rfl) (fun _ _ _ h => h) (Or.inl ⟨by kernel_rfl, ?hy14⟩) hHeld ?rest14
    case hy14 => (intro W hSw; obtain ⟨s0, s1, s2, s3, s4, s5⟩ := hSw; go_simp; (try with_reducible rfl))
    refine wpAnyH_take (i := 15) (v := ?v15) rfl (by kernel_rfl) (by kernel_rfl) (by kernel_rfl) (fun _ _ _ h => h) (Or.inl ⟨by kernel_rfl, ?hy15⟩) hHeld ?rest15
    case hy15 => (intro W hSw; obtain ⟨s0, s1, s2, s3, s4, s5⟩ := hSw; go_simp; (try with_reducible rfl))
    refine wpAnyH_take (i := 16) (v := ?v16) rfl (by kernel_rfl) (by kernel_rfl) (by kernel_rfl) (fun _ _ _ h => h) (Or.inl ⟨by kernel_rfl, ?hy16⟩) hHeld ?rest16
    case hy16 => (intro W hSw; obtain ⟨s0, s1, s2, s3, s4, s5⟩ := hSw; go_simp; (try with_reducible rfl))
    refine wpAnyH_take (i := 17) (v := ?v17) rfl (by kernel_rfl) (by kernel_rfl) (by kernel_rfl) (fun _ _ _ h => h) (Or.inl ⟨by kernel_rfl, ?hy17⟩) hHeld ?rest17
    case hy17 => (intro W hSw; obtain ⟨s0, s1, s2, s3, s4, s5⟩ := hSw; go_simp; (try with_reducible rfl))
    refine wpAnyH_ready (rs := [18]) (by kernel_rfl) (by simp) ?_
    refine AllReadyH.cons rfl (fun K hK => ?_) AllReadyH.nil
    rw [if_pos (by kernel_rfl)]
    go_simp
    go_at_call 16
    refine (cloneH_any h vi va vc w10 HH10.out HFEW.out).mono ?_
    rintro e w11 ⟨ui, ua, uc, rfl, hr11, hb11⟩
    have HB11 : Hid (Below w5.heap.size w5 w11) := HB10.out.trans (hb11.mono HB10.out.size)
    have HX11 := Lib.hid (HX5.out.below HB11.out HX5.out.lies.lt)
    have HH11 := Lib.hid (HR5.out.below HB11.out)
    have HG11 := Lib.hid hr11
    clear hr11 hb11
    dsimp only
    refine hK.out _ _ HX11.out.all (fun hHeld => ?_)
    clear hK K
    refine wpAnyH_ready (rs := [19]) (by kernel_rfl) (by simp) ?_
    refine AllReadyH.cons rfl (fun K hK => ?_) AllReadyH.nil
    rw [if_pos (by kernel_rfl)]
    go_simp
    go_at_call 15
    refine (hardSame_any h h vi va vc ui ua uc w11 HH11.out HG11.out).mono ?_
    rw [show decide (h = h) = true by simp]
    rintro e w12 ⟨rfl, hb12⟩
    have HB12 : Hid (Below w5.heap.size w5 w12) := HB11.out.trans (hb12.mono HB11.out.size)
    have HX12 := Lib.hid (HX5.out.below HB12.out HX5.out.lies.lt)
    have HH12 := Lib.hid (HR5.out.below HB12.out)
    clear hb12
    dsimp only
    refine hK.out _ _ HX12.out.all (fun hHeld => ?_)
    clear hK K
    refine wpAnyH_take (i := 20) (v := ?v20) rfl (by kernel_rfl) (by kernel_rfl) (by kernel_rfl) (fun _ _ _ h => h) (Or.inl ⟨by kernel_rfl, ?hy20⟩) hHeld ?rest20
    case hy20 => (intro W hSw; go_simp; (try with_reducible rfl))
    refine wpAnyH_take (i := 21) (v := ?v21) rfl (by kernel_rfl) (by kernel_rfl) (by kernel_rfl) (fun _ _ _ h => h) (Or.inl ⟨by kernel_rfl, ?hy21⟩) hHeld ?rest21
    case hy21 => (intro W hSw; go_simp; (try with_reducible rfl))
    refine wpAnyH_ready (rs := [22]) (by kernel_rfl) (by simp) ?_
    refine AllReadyH.cons rfl (fun K hK => ?_) AllReadyH.nil
    rw [if_pos (by kernel_rfl)]
    go_simp
    go_at_call 7
    refine (awakeH_any w12 (HW.out.below (HB5.out.trans (HB12.out.mono HB5.out.size)))).mono ?_
    rintro e w13 ⟨rfl, hb13⟩
    have HB13 : Hid (Below w5.heap.size w5 w13) := HB12.out.trans (hb13.mono HB12.out.size)
    have HX13 := Lib.hid (HX5.out.below HB13.out HX5.out.lies.lt)
    clear hb13
    dsimp only
    refine hK.out _ _ HX13.out.all (fun hHeld => ?_)
    clear hK K
    refine wpAnyH_take (i := 23) (v := ?v23) rfl (by kernel_rfl) (by kernel_rfl) (by kernel_rfl) (fun _ _ _ h => h) (Or.inl ⟨by kernel_rfl, ?hy23⟩) hHeld ?rest23
    case hy23 => (intro W hSw; go_simp; (try with_reducible rfl))
    refine wpAnyH_take (i := 24) (v := ?v24) rfl (by kernel_rfl) (by kernel_rfl) (by kernel_rfl) (fun _ _ _ h => h) (Or.inl ⟨by kernel_rfl, ?hy24⟩) hHeld ?rest24
    case hy24 => (intro W hSw; go_simp; (try with_reducible rfl))
    refine wpAnyH_done (by kernel_rfl) ?_ _
    clear hHeld
    go_wp2
    go_ret
    exact truly_of (HB5.out.trans (HB13.out.mono HB5.out.size))

end Go.Proofs.YtfdnmmmjaipgoaaDoor
