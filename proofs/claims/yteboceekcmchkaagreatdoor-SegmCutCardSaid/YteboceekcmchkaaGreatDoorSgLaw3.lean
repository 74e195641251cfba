/- The law SegmCut, where the format is 1. Written by wip/tools/gencut20.py. -/
import Derived.Test.YteboceekcmchkaaGreatDoorPSgLaw2
import Derived.Test.YteboceekcmchkaaGreatDoorGSc
namespace Go.Proofs.YteboceekcmchkaaGreatDoor
open Go.RowKit
set_option maxHeartbeats 2400000
set_option maxRecDepth 8000
theorem Sg.cut_told {f : Int} (hf : f = 1 ∨ f = 2) {h : Hd.Hard} {more : List Re.Rec} (hok : ∀ x ∈ Hd.recs h ++ more, Re.olderIn f x = 0 ∧ x.Fits) (hl : (Hd.recs h).length ≤ 9223372036854775807) {n : Nat} (hn : n ≤ (Sg.file f h more).length) :
 ∃ K, K ≤ (Hd.recs h).length + more.length + 1 ∧ (∀ i, i < (Hd.recs h).length + more.length + 1 → (Frm.ends (Sg.bodies f h more) i ≤ n ↔ i < K)) ∧
  (K ≤ (Hd.recs h).length → Sg.Torn ((Sg.file f h more).take n)) ∧
  ∀ j, K = j + 1 → (Hd.recs h).length ≤ j → Sg.Whole ((Sg.file f h more).take n) f ((Hd.recs h).length : Int) ((Hd.recs h ++ more).take j) (Frm.ends (Sg.bodies f h more) j) := by
 have hc := Sg.bodies_count f h more
 obtain ⟨K, hK, hiff, _⟩ := Sg.cut hf h more (fun x hx => (Sg.body_len (hok x hx).1 (hok x hx).2).1) (Sg.bodies_len hf hok hl) hn
 obtain ⟨h1, h2⟩ := Sg.cut_read hf hok hl hn
 rw [hc] at hK hiff
 refine ⟨K, hK, hiff, fun hk => h1 ?_, fun j hj hh => h2 j hh (by omega) ((hiff j (by omega)).2 (by omega)) fun hlt => ?_⟩
 ·have := hiff (Hd.recs h).length (by omega)
  omega
 ·have := hiff (j + 1) (by omega)
  omega
theorem wrap_d (d : Nat) (h : d ≤ 9223372036854775807) : IntKind.i64.wrap (d : Int) = (d : Int) := by
 rw [IntKind.wrap_i64]; omega
theorem Sg.ends_at {w : World} {base : Nat} {v : Value} {f : Int} {h : Hd.Hard} {more : List Re.Rec} {k : Nat} (hr : OwnsR w base 3 1 v (Sg.endsTo f h more k)) (hk : 0 < k) :
 ∃ g off cap, v = .slice (some ⟨g, off, none⟩) k cap ∧ k ≤ cap ∧ cap ≤ 9223372036854775807 ∧ ∀ W, Below w.heap.size w W → ∀ i, i < k → W.cell? ⟨g, off + i, none⟩ = some (.int .i64 ((Frm.ends (Sg.bodies f h more) i : Nat) : Int)) := by
 have hs : Sized 1 (Sg.endsTo f h more k) := fun r hr => by
  unfold Sg.endsTo at hr
  obtain ⟨x, _, rfl⟩ := List.mem_map.1 hr
  exact Sg.ic_ok x
 have hrd := OwnsR.reads hr hs
 obtain ⟨ao, cap, e, h1, h2⟩ := ReadsR.shape hrd
 rw [Sg.endsTo_len] at e h1
 subst e
 have hat : ∀ i, i < k → (Sg.endsTo f h more k)[i]? = some (Sg.ic (Frm.ends (Sg.bodies f h more) i)) := fun i hi => by
  unfold Sg.endsTo
  rw [List.getElem?_map, List.getElem?_map, List.getElem?_range hi]
  rfl
 obtain ⟨g, off, e, _, hc⟩ := ReadsR.places hrd (r0 := Sg.ic (Frm.ends (Sg.bodies f h more) 0)) (u0 := .int .i64 ((Frm.ends (Sg.bodies f h more) 0 : Nat) : Int)) (hat 0 hk) rfl
 subst e
 refine ⟨g, off, cap, rfl, h1, h2, fun W hb i hi => ?_⟩
 have := hc W hb i _ (hat i hi) 0 _ rfl
 rwa [Nat.mul_one, Nat.add_zero] at this
theorem segmCut_1 (h : Hd.Hard) (vi va vc v : Value) (more : List Re.Rec) (n0 n1 : Int) (w : World) (hT : CrcTab w) (hW : WordsIn w) (hr : HardR w h vi va vc) (hf : h.Fits) (hm : RecsP (fun k _ => k < w.heap.size) w v more) (hmf : ∀ x ∈ more, x.Fits ∧ x.cmd.Short 9223372036854775807) (hn0 : Int.tmod n0 2 = 0) :
 Calls Tryz.prog 5 #[.agg (Hd.cells h vi va vc), v, .agg #[.int .i64 n0, .int .i64 n1]] w (Truly w) := by
 obtain ⟨w1, e1, hx1, hB1, hs1⟩ := box_six w 27 h vi va vc hr
 obtain ⟨w2, e2, hy2, hB12⟩ : ∃ w2, w1.alloc (.cells #[.int .i64 n0, .int .i64 n1] 46) = w2 ∧ Lies w2 w1.heap.size 46 #[.int .i64 n0, .int .i64 n1] ∧ Below w1.heap.size w1 w2 := ⟨_, rfl, Lies.new _ _ _, (Below.refl _ w1).alloc (Nat.le_refl _) _⟩
 have hx2 := hx1.below hB12 hx1.lies.lt
 have hB2 : Below w.heap.size w w2 := hB1.trans (hB12.mono hB1.size)
 have HTR : Hid (∀ W, Below w2.heap.size w2 W → Below w.heap.size w W) := fun W hb => hB2.trans (hb.mono hB2.size)
 have HX : Hid (∀ W, Below w2.heap.size w2 W → SixAt W w.heap.size 27 h.prom h.base vi va vc) := fun W hb => hx2.below hb hx2.lies.lt
 have HY : Hid (∀ W, Below w2.heap.size w2 W → W.cell? ⟨w1.heap.size, 0, none⟩ = some (.int .i64 n0) ∧ W.cell? ⟨w1.heap.size, 1, none⟩ = some (.int .i64 n1)) := fun W hb => ⟨(hy2.below hb hy2.lt).cell 0 _ rfl, (hy2.below hb hy2.lt).cell 1 _ rfl⟩
 have HRR : Hid (∀ W, Below w2.heap.size w2 W → HardR W h vi va vc) := fun W hb => hr.below (HTR.out W hb)
 have HMM : Hid (∀ W, Below w2.heap.size w2 W → RecsP (fun k _ => k < w.heap.size) W v more) := fun W hb => ListP.below hm (HTR.out W hb)
 have HT : Hid (∀ W, Below w2.heap.size w2 W → CrcTab W) := fun W hb => hT.below (HTR.out W hb)
 have HW : Hid (∀ W, Below w2.heap.size w2 W → WordsIn W) := fun W hb => hW.below (HTR.out W hb)
 have HB2 : Hid (Below w2.heap.size w2 w2) := Below.refl _ _
 have HFIT := Lib.hid hf; have HMF := Lib.hid hmf
 obtain ⟨t, ht⟩ : ∃ t, t = (decide (300 < h.img.length) || (En.large h.acc || En.large h.chs)) := ⟨_, rfl⟩
 have hcall := heavyH_any h vi va vc w2 (HRR.out _ HB2.out) (fun e he => (hf.acc e he).2) (fun e he => (hf.chs e he).2)
 rw [← ht] at hcall
 have HCALL := Lib.hid hcall; have HTT := Lib.hid ht
 obtain ⟨mo, mc, hvs, hmc, hmc2⟩ := ListP.shape hm
 obtain ⟨mn, hmn⟩ : ∃ n, n = more.length := ⟨_, rfl⟩
 rw [← hmn] at hvs hmc
 have HMN := Lib.hid hmn
 have HLARGE : Hid (∀ W, Below w2.heap.size w2 W → Calls Tryz.prog 15 #[v] W (LargishR W more)) := fun W hb => largeH_any v more W (HMM.out W hb) fun x hx => (hmf x hx).2
 subst hvs
 obtain ⟨y0, y1⟩ := HY.out _ HB2.out
 clear hx1 hB1 hs1 hy2 hB12 hx2 hB2 hT hW hr hf hm hmf hcall ht hmn
 go_enter Tryz.func5, Tryz.ntmps5
 go_wp2_with (refine load_hard rfl _ rfl rfl (HX.out _ HB2.out) ?_)
 clear y0 y1 e1 e2 hn0
 refine HCALL.out.mono ?_
 rintro e w3 ⟨rfl, hb3⟩
 have HB3 : Hid (Below w2.heap.size w2 w3) := hb3
 clear hb3 HCALL
 cases t with
 | true =>
  go_wp2_with fail
  refine (awakeSg_any w3 (HT.out _ HB3.out) (HW.out _ HB3.out)).mono ?_
  rintro ea wa ⟨rfl, hba⟩
  go_wp2
  go_ret
  exact truly_of (HTR.out _ (HB3.out.trans (hba.mono HB3.out.size)))
 | false =>
  have hno := HTT.out.symm
  simp only [Bool.or_eq_false_iff, decide_eq_false_iff_not] at hno
  have HA : Hid (∀ e ∈ h.acc, e.cmd.Short 140737488355328) := fun e he => Short.up ((En.small hno.2.1).2 e he) (by omega)
  have HC : Hid (∀ e ∈ h.chs, e.cmd.Short 140737488355328) := fun e he => Short.up ((En.small hno.2.2).2 e he) (by omega)
  have HN : Hid (h.acc.length ≤ 100 ∧ h.chs.length ≤ 100) := ⟨by have := (En.small hno.2.1).1; omega, by have := (En.small hno.2.2).1; omega⟩
  have HRLE : Hid ((Hd.recs h).length ≤ 202) := by
   have h1 := HN.out
   have h3 := Hd.recs_len h
   show _ ≤ _
   omega
  have HRL : Hid ((Hd.recs h).length ≤ 1000) := Nat.le_trans HRLE.out (by omega)
  have HXS : Hid (∀ x ∈ Hd.recs h, x.Fits ∧ x.cmd.Short 1000 ∧ x.img.length ≤ 300) := Sg.recs_small HFIT.out (by have := hno.1; omega) (En.small hno.2.1).2 (En.small hno.2.2).2
  clear hno HTT
  go_wp2_with fail
  refine (HLARGE.out _ HB3.out).mono ?_
  rintro e w4 ⟨t, rfl, hb4, hsm⟩
  have HB4 : Hid (Below w2.heap.size w2 w4) := HB3.out.trans (hb4.mono HB3.out.size)
  have HSM := Lib.hid hsm
  clear hb4 hsm HLARGE
  cases t with
  | true =>
   go_wp2_with fail
   refine (awakeSg_any w4 (HT.out _ HB4.out) (HW.out _ HB4.out)).mono ?_
   rintro ea wa ⟨rfl, hba⟩
   go_wp2
   go_ret
   exact truly_of (HTR.out _ (HB4.out.trans (hba.mono HB4.out.size)))
  | false =>
   have HML : Hid (more.length ≤ 40) := (HSM.out rfl).1
   have HMS : Hid (∀ x ∈ more, x.Fits ∧ x.cmd.Short 1000 ∧ x.img.length ≤ 300) := fun x hx => ⟨(HMF.out x hx).1, Short.up (Re.small ((HSM.out rfl).2 x hx).1).1 (by omega), ((HSM.out rfl).2 x hx).2⟩
   obtain ⟨b, hb⟩ : ∃ b : Bool, b = true ↔ Hd.Valid h := by
    by_cases v : Hd.Valid h
    ·exact ⟨true, fun _ => v, fun _ => rfl⟩
    ·exact ⟨false, fun h => by simp at h, fun h => absurd h v⟩
   have HBV := Lib.hid hb
   obtain ⟨c0, c1, c2, c3, c4, c5⟩ := (HX.out _ HB4.out).all
   clear HSM hb
   go_wp2_with fail
   refine (refCheckH_any b h vi va vc w4 (HRR.out _ HB4.out) HBV.out HA.out HC.out).mono ?_
   rintro e w5 ⟨rfl, hb5⟩
   have HB5 : Hid (Below w2.heap.size w2 w5) := HB4.out.trans (hb5.mono HB4.out.size)
   clear hb5 c0 c1 c2 c3 c4 c5
   cases b with
   | false =>
    go_wp2_with fail
    refine (awakeSg_any w5 (HT.out _ HB5.out) (HW.out _ HB5.out)).mono ?_
    rintro ea wa ⟨rfl, hba⟩
    go_wp2
    go_ret
    exact truly_of (HTR.out _ (HB5.out.trans (hba.mono HB5.out.size)))
   | true =>
    have HVAL : Hid (Hd.Valid h) := HBV.out.1 rfl
    obtain ⟨c0, c1, c2, c3, c4, c5⟩ := (HX.out _ HB5.out).all
    clear HBV
    go_wp2_with fail
    refine (refRecords_any h vi va vc w5 (HRR.out _ HB5.out) HVAL.out ⟨by have := HN.out; omega, by have := HN.out; omega⟩).mono ?_
    rintro e w6 ⟨v6, rfl, hl6, hb6⟩
    have HB6 : Hid (Below w2.heap.size w2 w6) := HB5.out.trans (hb6.mono HB5.out.size)
    have hhas := refHasSg_any 1 v6 (Hd.recs h) w6 (RecsN.reads hl6) (Hd.recs_short h HA.out HC.out)
    obtain ⟨q, hq⟩ : ∃ q, q = Sg.hasAll 1 (Hd.recs h) := ⟨_, rfl⟩
    rw [Sg.has_in Rt.in_1, ← hq] at hhas
    have HQ := Lib.hid hq; have HHAS := Lib.hid hhas
    clear hl6 hb6 c0 c1 c2 c3 c4 c5 hq hhas
    go_wp2_with fail
    refine HHAS.out.mono ?_
    rintro e w7 ⟨rfl, hb7⟩
    have HB7 : Hid (Below w2.heap.size w2 w7) := HB6.out.trans (hb7.mono HB6.out.size)
    clear hb7 HHAS
    by_cases hq0 : q = 0
    ·subst hq0
     have hhas := refHasSg_any 1 (.slice mo mn mc) more w7 (HMM.out _ HB7.out) (fun x hx => Short.up (HMS.out x hx).2.1 (by omega))
     obtain ⟨q2, hq2⟩ : ∃ q, q = Sg.hasAll 1 more := ⟨_, rfl⟩
     rw [Sg.has_in Rt.in_1, ← hq2] at hhas
     have HQ2 := Lib.hid hq2; have HHAS := Lib.hid hhas
     clear hq2 hhas
     go_wp2_with fail
     refine HHAS.out.mono ?_
     rintro e w8 ⟨rfl, hb8⟩
     have HB8 : Hid (Below w2.heap.size w2 w8) := HB7.out.trans (hb8.mono HB7.out.size)
     clear hb8 HHAS
     by_cases hq20 : q2 = 0
     ·subst hq20
      have HOK : Hid (∀ x ∈ Hd.recs h ++ more, Re.olderIn 1 x = 0 ∧ x.Fits) := fun x hx => by
       rcases List.mem_append.1 hx with hx | hx
       ·exact ⟨(Sg.hasAll_iff _).1 HQ.out.symm x hx, (HXS.out x hx).1⟩
       ·exact ⟨(Sg.hasAll_iff _).1 HQ2.out.symm x hx, (HMS.out x hx).1⟩
      have HSOK : Hid (∀ x ∈ Hd.recs h ++ more, Sg.Ok 1 x) := fun x hx => (Sg.body_len (HOK.out x hx).1 (HOK.out x hx).2).1
      have HFEW : Hid ((Sg.file 1 h more).length ≤ 3900000) := Sg.file_few Rt.in_1 HOK.out (fun x hx => by
       rcases List.mem_append.1 hx with hx | hx
       ·exact (HXS.out x hx).2.2
       ·exact (HMS.out x hx).2.2) (by have := HRLE.out; have := HML.out; omega)
      clear HQ HQ2
      go_wp2
      refine wp_region_held_drew (S := fun W => SixAt W w.heap.size 27 h.prom h.base vi va vc) (by kernel_rfl) (HX.out _ (HB8.out.trans ((drawn w8 1).mono HB8.out.size))) (fun hHeld => ?_)
      refine wpAnyH_take (i := 0) (v := ?v0) rfl (by kernel_rfl) (by kernel_rfl) (by kernel_rfl) (fun _ _ _ h => h) (Or.inl ⟨by kernel_rfl, ?hy0⟩) hHeld ?rest0
      case hy0 => (intro W hSw; go_simp; (try with_reducible rfl))
      refine wpAnyH_take (i := 1) (v := ?v1) rfl (by kernel_rfl) (by kernel_rfl) (by kernel_rfl) (fun _ _ _ h => h) (Or.inl ⟨by kernel_rfl, ?hy1⟩) hHeld ?rest1
      case hy1 => (intro W hSw; obtain ⟨s0, s1, s2, s3, s4, s5⟩ := hSw.all; go_simp; (try with_reducible rfl))
      refine wpAnyH_take (i := 2) (v := ?v2) rfl (by kernel_rfl) (by kernel_rfl) (by kernel_rfl) (fun _ _ _ h => h) (Or.inl ⟨by kernel_rfl, ?hy2⟩) hHeld ?rest2
      case hy2 => (intro W hSw; go_simp; (try with_reducible rfl))
      refine wpAnyH_take (i := 4) (v := ?v4) rfl (by kernel_rfl) (by kernel_rfl) (by kernel_rfl) (fun _ _ _ h => h) (Or.inl ⟨by kernel_rfl, ?hy4⟩) hHeld ?rest4
      case hy4 => (intro W hSw; go_simp; (try with_reducible rfl))
      refine wpAnyH_take (i := 5) (v := ?v5) rfl (by kernel_rfl) (by kernel_rfl) (by kernel_rfl) (fun _ _ _ h => h) (Or.inl ⟨by kernel_rfl, ?hy5⟩) hHeld ?rest5
      case hy5 => (intro W hSw; obtain ⟨s0, s1, s2, s3, s4, s5⟩ := hSw.all; go_simp; (try with_reducible rfl))
      refine wpAnyH_take (i := 6) (v := ?v6) rfl (by kernel_rfl) (by kernel_rfl) (by kernel_rfl) (fun _ _ _ h => h) (Or.inl ⟨by kernel_rfl, ?hy6⟩) hHeld ?rest6
      case hy6 => (intro W hSw; go_simp; (try with_reducible rfl))
      refine wpAnyH_ready (rs := [3]) (by kernel_rfl) (by simp) ?_
      refine AllReadyH.cons rfl (fun K hK => ?_) AllReadyH.nil
      rw [if_pos (by kernel_rfl)]
      go_simp
      go_at_call 14
      have HBD : Hid (Below w2.heap.size w2 w8.drew) := HB8.out.trans ((drawn w8 1).mono HB8.out.size)
      refine (refFile_any 1 Rt.in_1 h vi va vc (.slice mo mn mc) more w8.drew (HRR.out _ HBD.out) HVAL.out HN.out (ListP.imp (HMM.out _ HBD.out) fun b _ _ _ _ hb => Nat.lt_of_lt_of_le hb (HTR.out _ HBD.out).size) (by have := HML.out; omega) HSOK.out HRL.out).mono ?_
      rintro e w9 ⟨v9, rfl, ho9, hb9⟩
      obtain ⟨bo, bc, hsh⟩ := ho9.reads.shape
      obtain ⟨bn, hbn⟩ : ∃ n, n = (Sg.file 1 h more).length := ⟨_, rfl⟩
      rw [← hbn] at hsh
      have HBN := Lib.hid hbn
      subst hsh
      have HB9 : Hid (Below w2.heap.size w2 w9) := HBD.out.trans (hb9.mono HBD.out.size)
      have HO9 := Lib.hid ho9.reads
      clear ho9 hb9 hbn
      dsimp only
      refine hK.out _ _ (HX.out _ HB9.out) (fun hHeld => ?_)
      clear hK K
      refine wpAnyH_ready (rs := [7]) (by kernel_rfl) (by simp) ?_
      refine AllReadyH.cons rfl (fun K hK => ?_) AllReadyH.nil
      rw [if_pos (by kernel_rfl)]
      go_simp
      go_at_call 17
      refine (refEnds_any 1 Rt.in_1 h vi va vc (.slice mo mn mc) more w9 (HRR.out _ HB9.out) HVAL.out HN.out (ListP.imp (HMM.out _ HB9.out) fun b _ _ _ _ hb => Nat.lt_of_lt_of_le hb (HTR.out _ HB9.out).size) (by have := HML.out; omega) HSOK.out HRL.out).mono ?_
      rintro e w10 ⟨v10, rfl, ho10, hb10⟩
      obtain ⟨ge, eo, ec, hsh, he1, he2, hends⟩ := Sg.ends_at ho10 (Nat.succ_pos _)
      obtain ⟨ne, hne⟩ : ∃ n, n = (Hd.recs h).length + more.length + 1 := ⟨_, rfl⟩
      rw [← hne] at hsh hends he1
      have HNE := Lib.hid hne
      subst hsh
      have HB10 : Hid (Below w2.heap.size w2 w10) := HB9.out.trans (hb10.mono HB9.out.size)
      have HO10 := Lib.hid (HO9.out.below hb10)
      have HENDS := Lib.hid hends
      clear ho10 hb10 hne hends
      dsimp only
      refine hK.out _ _ (HX.out _ HB10.out) (fun hHeld => ?_)
      clear hK K
      refine wpAnyH_take (i := 8) (v := ?v8) rfl (by kernel_rfl) (by kernel_rfl) (by kernel_rfl) (fun _ _ _ h => h) (Or.inl ⟨by kernel_rfl, ?hy8⟩) hHeld ?rest8
      case hy8 => (intro W hSw; go_simp; (try with_reducible rfl))
      refine wpAnyH_take (i := 9) (v := ?v9) rfl (by kernel_rfl) (by kernel_rfl) (by kernel_rfl) (fun _ _ _ h => h) (Or.inl ⟨by kernel_rfl, ?hy9⟩) hHeld ?rest9
      case hy9 => (intro W hSw; go_simp; (try with_reducible rfl))
      refine wpAnyH_done (by kernel_rfl) ?_ _
      obtain ⟨y0, y1⟩ := HY.out _ HB10.out
      clear y0 hHeld
      go_simp
      by_cases hneg : n1 < 0
      ·have HB10' := HB10
       go_wp2_with fail
       refine (awakeSg_any w10 (HT.out _ HB10.out) (HW.out _ HB10.out)).mono ?_
       rintro ea wa ⟨rfl, hba⟩
       go_wp2
       go_ret
       exact truly_of (HTR.out _ (HB10.out.trans (hba.mono HB10.out.size)))
      ·obtain ⟨m, rfl⟩ : ∃ m : Nat, n1 = (m : Int) := ⟨n1.toNat, by omega⟩
       clear hneg
       by_cases hmb : bn < m
       ·go_wp2_with fail
        refine (awakeSg_any w10 (HT.out _ HB10.out) (HW.out _ HB10.out)).mono ?_
        rintro ea wa ⟨rfl, hba⟩
        go_wp2
        go_ret
        exact truly_of (HTR.out _ (HB10.out.trans (hba.mono HB10.out.size)))
       ·have hcapb := HO10.out.len
        have hslice : ∀ W : World, (Instr.slice 24 (.slice bo bn bc) none (some (.int .i64 (m : Int))) none).run Tryz.prog W = .ok (.slice bo m bc) W := fun W => run_first_sg W _ _ _ m (by have := hcapb.2.1; have := HBN.out; omega)
        obtain ⟨K, hK1, hK2, hK3, hK4⟩ := Sg.cut_told Rt.in_1 HOK.out (by have := HRLE.out; omega) (n := m) (by have := HBN.out; omega)
        rw [← HNE.out] at hK1 hK2
        have hrd := HO10.out.take m (by have := HBN.out; omega)
        have hlen : ((Sg.file 1 h more).take m).length ≤ 4000000 := by rw [List.length_take]; have := HFEW.out; omega
        have HK1 := Lib.hid hK1; have HK2 := Lib.hid hK2
        obtain ⟨hn, hhn⟩ : ∃ n, n = (Hd.recs h).length := ⟨_, rfl⟩
        have HHN := Lib.hid hhn
        rw [← hhn] at hK3 hK4
        by_cases hKh : K ≤ hn
        ·have hread := readSg_torn (.slice bo m bc) _ w10 (HT.out _ HB10.out) (HW.out _ HB10.out) hrd hlen (hK3 hKh)
         have HREAD := Lib.hid hread
         have hEH : ¬ (Frm.ends (Sg.bodies 1 h more) hn ≤ m) := fun q => by
          have := (hK2 hn (by have := HNE.out; omega)).1 q
          omega
         obtain ⟨E, hE⟩ : ∃ E, E = Frm.ends (Sg.bodies 1 h more) hn := ⟨_, rfl⟩
         rw [← hE] at hEH
         have HE : Hid (∀ W, Below w10.heap.size w10 W → W.cell? ⟨ge, eo + hn, none⟩ = some (.int .i64 (E : Int))) := fun W hb => by rw [hE]; exact HENDS.out W hb hn (by have := HNE.out; omega)
         have HZ : Hid (∀ W, HardR W Hd.zero Nil Nil Nil) := fun W => HardR.zero W
         have hEm : m < E := by omega
         have hnn : hn < ne := by have := HNE.out; omega
         clear hread hrd hlen hK1 hK2 hK3 hK4 hKh hEH hE hcapb hhn
         go_wp2_with fail
         refine HREAD.out.mono ?_
         rintro e w11 ⟨rfl, hb11⟩
         have HB1011 := Lib.hid hb11
         have HB11 : Hid (Below w2.heap.size w2 w11) := HB10.out.trans (hb11.mono HB10.out.size)
         clear hb11 y1 hslice
         go_wp2_with (first
          | (refine store_cont rfl _ _ rfl rfl (Conts.mk (Lies.new w11 50 _) ⟨_, _, _, rfl⟩ ⟨_, _, _, rfl⟩ ⟨_, _, _, rfl⟩ : Conts _ _ 0 Hd.zero Nil Nil Nil 0 0) (Conts.new w11 0 (HZ.out w11) _ _) rfl ?_
             intro w12 hx12 hg12
             have HX12 := Lib.hid hx12
             have HG12 : Hid (Below w11.heap.size w11 w12) := fresh_below hg12
             have HB12 : Hid (Below w2.heap.size w2 w12) := HB11.out.trans (HG12.out.mono HB11.out.size)
             clear hx12 hg12)
          | (refine load_hard rfl _ rfl rfl (HX.out _ HB12.out) ?_)
          | fail)
         refine (refRecords_any h vi va vc w12 (HRR.out _ HB12.out) HVAL.out ⟨by have := HN.out; omega, by have := HN.out; omega⟩).mono ?_
         rintro e w13 ⟨v13, rfl, hl13, hb13⟩
         have HB13 : Hid (Below w2.heap.size w2 w13) := HB12.out.trans (hb13.mono HB12.out.size)
         have HB1013 : Hid (Below w10.heap.size w10 w13) := (HB1011.out.trans (HG12.out.mono HB1011.out.size)).trans (hb13.mono (Nat.le_trans HB1011.out.size HG12.out.size))
         have HX13 := Lib.hid (HX12.out.below hb13 HX12.out.lies.lt)
         obtain ⟨ro, rc, hsh⟩ := RecsN.shape hl13
         rw [← HHN.out] at hsh
         subst hsh
         clear hl13 hb13
         go_wp2
         have ky := fun p : Behind w13 => (HY.out p.world (HB13.out.trans (p.below.mono HB13.out.size))).2
         have ke := fun p : Behind w13 => HE.out p.world (HB1013.out.trans (p.below.mono HB1013.out.size))
         refine wp_region_behind (by kernel_rfl) (by kernel_rfl) ?_
         repeat (go_big_quiet_step (fail))
         refine wpQuiet_nil ?_
         rintro w14 ⟨⟨w14, hB14⟩, rfl⟩
         (try dsimp only)
         have HB14 : Hid (Below w2.heap.size w2 w14) := HB13.out.trans (hB14.mono HB13.out.size)
         obtain ⟨c0, c1, c2, c3, c4, c5, c6, c7, c8⟩ := (HX13.out.below hB14 HX13.out.lies.lt).all
         clear hB14 ky ke
         go_wp2_with fail
         refine (awakeSg_any w14 (HT.out _ HB14.out) (HW.out _ HB14.out)).mono ?_
         rintro ea wa ⟨rfl, hba⟩
         go_wp2
         go_ret
         exact truly_of (HTR.out _ (HB14.out.trans (hba.mono HB14.out.size)))
        ·obtain ⟨j, rfl⟩ : ∃ j, K = j + 1 := ⟨K - 1, by omega⟩
         have hjh : hn ≤ j := by omega
         have hread := readSg_whole (.slice bo m bc) _ w10 (HT.out _ HB10.out) (HW.out _ HB10.out) hrd hlen (hK4 j rfl hjh)
         obtain ⟨d, hd⟩ : ∃ d, d = j - hn := ⟨_, rfl⟩
         have hdj : hn + d = j := by omega
         have hdm : d ≤ mn := by have := HNE.out; have := HMN.out; omega
         have hl : ((Hd.recs h ++ more).take j) = Hd.recs h ++ more.take d := by
          rw [← hdj, hhn, List.take_length_add_append]
         have hll : ((Hd.recs h ++ more).take j).length = j := by rw [List.length_take, List.length_append]; have := HNE.out; omega
         unfold SgWhole at hread
         rw [hll, hl] at hread
         obtain ⟨H, hH⟩ : ∃ H, H = Hd.of (Hd.recs h ++ more.take d) := ⟨_, rfl⟩
         have HEQ : Hid (Hd.of (Hd.recs h ++ more.take d) = H) := hH.symm
         obtain ⟨E, hE⟩ : ∃ E, E = Frm.ends (Sg.bodies 1 h more) j := ⟨_, rfl⟩
         rw [← hH, ← hE] at hread
         have HREAD := Lib.hid hread
         obtain ⟨EH, hEH⟩ : ∃ E, E = Frm.ends (Sg.bodies 1 h more) hn := ⟨_, rfl⟩
         have HE : Hid (∀ W, Below w10.heap.size w10 W → W.cell? ⟨ge, eo + j, none⟩ = some (.int .i64 (E : Int))) := fun W hb => by rw [hE]; exact HENDS.out W hb j (by omega)
         have HEH : Hid (∀ W, Below w10.heap.size w10 W → W.cell? ⟨ge, eo + hn, none⟩ = some (.int .i64 (EH : Int))) := fun W hb => by rw [hEH]; exact HENDS.out W hb hn (by omega)
         have hEm : ¬ m < EH := by rw [hEH]; have := (hK2 hn (by omega)).2 (by omega); omega
         have hnn : hn < ne := by omega
         have hjn : j < ne := by omega
         have HMD : Hid (∀ W, Below w2.heap.size w2 W → RecsP (fun k _ => k < W.heap.size) W (.slice mo d mc) (more.take d)) := fun W hb =>
          ListP.imp (RecsP.first (HMM.out W hb) (by have := HMN.out; omega)) fun b _ _ _ _ hb' => Nat.lt_of_lt_of_le hb' (HTR.out W hb).size
         have HWD : Hid (IntKind.i64.wrap (d : Int) = (d : Int)) := wrap_d d (by omega)
         have HDC : Hid (d ≤ mc) := by show _ ≤ _; omega
         have HSHD : Hid (∀ x ∈ Hd.recs h ++ more.take d, x.cmd.Short 140737488355328) := fun x hx => by
          rcases List.mem_append.1 hx with hx | hx
          ·exact Short.up (HXS.out x hx).2.1 (by omega)
          ·exact Short.up (HMS.out x (List.mem_of_mem_take hx)).2.1 (by omega)
         have hsub : (j : Int) - (hn : Int) = (d : Int) := by omega
         have HJ : Hid (hn ≤ j ∧ j + 1 ≤ ne ∧ ne ≤ 300) := ⟨hjh, by omega, by have := HNE.out; have := HRLE.out; have := HML.out; omega⟩
         have HK9 : Hid (∀ i, i < ne → (Frm.ends (Sg.bodies 1 h more) i ≤ m ↔ i < j + 1)) := hK2
         have HSUB := Lib.hid hsub
         clear hread hrd hlen hK1 hK2 hK3 hK4 hKh hcapb hl hll hH hE hEH hhn hdj hd HK1 HK2 hsub hjh
         go_wp2_with fail
         refine HREAD.out.mono ?_
         rintro e w11 ⟨hb11, ti, ta, tc, rfl, hr11⟩
         have HB1011 := Lib.hid hb11; have HR11 := Lib.hid hr11
         have HB11 : Hid (Below w2.heap.size w2 w11) := HB10.out.trans (hb11.mono HB10.out.size)
         clear hb11 y1 hslice hr11
         go_wp2_with (first
          | (refine store_cont rfl _ _ rfl rfl (Conts.mk (Lies.new w11 50 _) ⟨_, _, _, rfl⟩ ⟨_, _, _, rfl⟩ ⟨_, _, _, rfl⟩ : Conts _ _ 0 Hd.zero Nil Nil Nil 0 0) (Conts.new w11 1 HR11.out _ _) rfl ?_
             intro w12 hx12 hg12
             have HX12 := Lib.hid hx12
             have HG12 : Hid (Below w11.heap.size w11 w12) := fresh_below hg12
             have HB12 : Hid (Below w2.heap.size w2 w12) := HB11.out.trans (HG12.out.mono HB11.out.size)
             clear hx12 hg12)
          | (refine load_hard rfl _ rfl rfl (HX.out _ HB12.out) ?_)
          | fail)
         refine (refRecords_any h vi va vc w12 (HRR.out _ HB12.out) HVAL.out ⟨by have := HN.out; omega, by have := HN.out; omega⟩).mono ?_
         rintro e w13 ⟨v13, rfl, hl13, hb13⟩
         have HB13 : Hid (Below w2.heap.size w2 w13) := HB12.out.trans (hb13.mono HB12.out.size)
         have HB1013 : Hid (Below w10.heap.size w10 w13) := (HB1011.out.trans (HG12.out.mono HB1011.out.size)).trans (hb13.mono (Nat.le_trans HB1011.out.size HG12.out.size))
         have HX13 : Hid (Conts w13 w11.heap.size 1 H ti ta tc (j : Int) (E : Int)) := HX12.out.below hb13 HX12.out.lies.lt
         have HRH : Hid (∀ W, Below w13.heap.size w13 W → HardR W H ti ta tc) := fun W hb => ((HR11.out.below HG12.out).below hb13).below hb
         have HS : Hid (∀ W, Below w13.heap.size w13 W → Conts W w11.heap.size 1 H ti ta tc (j : Int) (E : Int) ∧ SixAt W w.heap.size 27 h.prom h.base vi va vc ∧ W.cell? ⟨ge, eo + j, none⟩ = some (.int .i64 (E : Int))) := fun W hb =>
          ⟨HX13.out.below hb HX13.out.lies.lt, HX.out _ (HB13.out.trans (hb.mono HB13.out.size)), HE.out _ (HB1013.out.trans (hb.mono HB1013.out.size))⟩
         obtain ⟨ro, rc, hsh⟩ := RecsN.shape hl13
         rw [← HHN.out] at hsh
         subst hsh
         clear hl13 hb13
         go_wp2
         have ky := fun p : Behind w13 => (HY.out p.world (HB13.out.trans (p.below.mono HB13.out.size))).2
         have ke := fun p : Behind w13 => HEH.out p.world (HB1013.out.trans (p.below.mono HB1013.out.size))
         refine wp_region_behind (by kernel_rfl) (by kernel_rfl) ?_
         repeat (go_big_quiet_step (fail))
         refine wpQuiet_nil ?_
         rintro w14 ⟨⟨w14, hB14⟩, rfl⟩
         (try dsimp only)
         have HB14 : Hid (Below w13.heap.size w13 w14) := hB14
         clear hB14 ky ke
         go_wp2
         go_loopw [13] (fun i wr => ∃ k : Nat, i = .int .i64 (k : Int) ∧ hn ≤ k ∧ k ≤ j ∧ Hid (Below w13.heap.size w13 wr)) (fun i _ => j + 1 - (intOf i).toNat)
         case atStart => exact ⟨hn, rfl, Nat.le_refl _, HJ.out.1, HB14.out⟩
         case round =>
          obtain ⟨k, rfl, hk1, hk2, HB⟩ := hrel
          have hkn : k + 1 ≤ ne := by have := HJ.out; omega
          by_cases hkj : k < j
          ·have hd1 : k + 1 < ne := by have := HJ.out; omega
           obtain ⟨E2, hE2⟩ : ∃ E, E = Frm.ends (Sg.bodies 1 h more) (k + 1) := ⟨_, rfl⟩
           have hEle : E2 ≤ m := by rw [hE2]; exact (HK9.out (k + 1) hd1).2 (by omega)
           have ky := fun p : Behind wr => (HY.out p.world (HB13.out.trans ((HB.out.trans (p.below.mono HB.out.size)).mono HB13.out.size))).2
           have ke : ∀ p : Behind wr, p.world.cell? ⟨ge, eo + (k + 1), none⟩ = some (.int .i64 (E2 : Int)) := fun p => by rw [hE2]; exact HENDS.out p.world (HB1013.out.trans ((HB.out.trans (p.below.mono HB.out.size)).mono HB1013.out.size)) (k + 1) hd1
           clear hE2
           go_wp2
           have db1 : decide ((k : Int) + 1 < (ne : Int)) = true := decide_eq_true (by omega)
           have db2 : decide ((E2 : Int) ≤ (m : Int)) = true := decide_eq_true (by omega)
           refine wp_region_behind (by kernel_rfl) (by kernel_rfl) ?_
           repeat (go_big_quiet_step (fail))
           refine wpQuiet_nil ?_
           rintro w15 ⟨⟨w15, hB15⟩, rfl⟩
           (try dsimp only)
           have HB15 : Hid (Below w13.heap.size w13 w15) := HB.out.trans (hB15.mono HB.out.size)
           clear hB15 ky ke
           go_wp2
           go_roundw
           case rel => exact ⟨k + 1, by go_num, by omega, by omega, HB15.out⟩
           case measure => simp [intOf]; omega
          ·obtain rfl : k = j := by omega
           by_cases hlast : k + 1 < ne
           ·obtain ⟨E2, hE2⟩ : ∃ E, E = Frm.ends (Sg.bodies 1 h more) (k + 1) := ⟨_, rfl⟩
            have hEle : ¬ E2 ≤ m := by rw [hE2]; have := (HK9.out (k + 1) hlast); omega
            have ky := fun p : Behind wr => (HY.out p.world (HB13.out.trans ((HB.out.trans (p.below.mono HB.out.size)).mono HB13.out.size))).2
            have ke : ∀ p : Behind wr, p.world.cell? ⟨ge, eo + (k + 1), none⟩ = some (.int .i64 (E2 : Int)) := fun p => by rw [hE2]; exact HENDS.out p.world (HB1013.out.trans ((HB.out.trans (p.below.mono HB.out.size)).mono HB1013.out.size)) (k + 1) hlast
            clear hE2
            go_wp2
            have db1 : decide ((k : Int) + 1 < (ne : Int)) = true := decide_eq_true (by omega)
            have db2 : decide ((E2 : Int) ≤ (m : Int)) = false := decide_eq_false (by omega)
            refine wp_region_behind (by kernel_rfl) (by kernel_rfl) ?_
            repeat (go_big_quiet_step (fail))
            refine wpQuiet_nil ?_
            rintro w15 ⟨⟨w15, hB15⟩, rfl⟩
            (try dsimp only)
            have HB17 : Hid (Below w13.heap.size w13 w15) := HB.out.trans (hB15.mono HB.out.size)
            clear hB15 ky ke db1 db2
            have hsub := HSUB.out; have hwd := HWD.out; have hdc := HDC.out
            go_wp2
            generalize w15 = w17 at HB17 ⊢
            refine wp_region_held_drew (S := fun W => Conts W w11.heap.size 1 H ti ta tc (k : Int) (E : Int) ∧ SixAt W w.heap.size 27 h.prom h.base vi va vc ∧ W.cell? ⟨ge, eo + k, none⟩ = some (.int .i64 (E : Int))) (by kernel_rfl) (HS.out _ (HB17.out.trans ((drawn _ 1).mono HB17.out.size))) (fun hHeld => ?_)
            refine wpAnyH_take (i := 0) (v := ?v0a) rfl (by kernel_rfl) (by kernel_rfl) (by kernel_rfl) (fun _ _ _ h => h) (Or.inl ⟨by kernel_rfl, ?hy0a⟩) hHeld ?rest0a
            case hy0a => (intro W hSw; go_simp; (try with_reducible rfl))
            refine wpAnyH_take (i := 1) (v := ?v1a) rfl (by kernel_rfl) (by kernel_rfl) (by kernel_rfl) (fun _ _ _ h => h) (Or.inl ⟨by kernel_rfl, ?hy1a⟩) hHeld ?rest1a
            case hy1a => (intro W hSw; go_simp; (try with_reducible rfl))
            refine wpAnyH_take (i := 2) (v := ?v2a) rfl (by kernel_rfl) (by kernel_rfl) (by kernel_rfl) (fun _ _ _ h => h) (Or.inl ⟨by kernel_rfl, ?hy2a⟩) hHeld ?rest2a
            case hy2a => (intro W hSw; go_simp; (try with_reducible rfl))
            refine wpAnyH_take (i := 3) (v := ?v3a) rfl (by kernel_rfl) (by kernel_rfl) (by kernel_rfl) (fun _ _ _ h => h) (Or.inl ⟨by kernel_rfl, ?hy3a⟩) hHeld ?rest3a
            case hy3a => (intro W hSw; go_simp; (try with_reducible rfl))
            refine wpAnyH_take (i := 4) (v := ?v4a) rfl (by kernel_rfl) (by kernel_rfl) (by kernel_rfl) (fun _ _ _ h => h) (Or.inl ⟨by kernel_rfl, ?hy4a⟩) hHeld ?rest4a
            case hy4a => (intro W hSw; obtain ⟨sc, _, _⟩ := hSw; obtain ⟨s0, s1, s2, s3, s4, s5, s6, s7, s8⟩ := sc.all; go_simp; (try with_reducible rfl))
            refine wpAnyH_take (i := 5) (v := ?v5a) rfl (by kernel_rfl) (by kernel_rfl) (by kernel_rfl) (fun _ _ _ h => h) (Or.inl ⟨by kernel_rfl, ?hy5a⟩) hHeld ?rest5a
            case hy5a => (intro W hSw; go_simp; (try with_reducible rfl))
            refine wpAnyH_take (i := 6) (v := ?v6a) rfl (by kernel_rfl) (by kernel_rfl) (by kernel_rfl) (fun _ _ _ h => h) (Or.inl ⟨by kernel_rfl, ?hy6a⟩) hHeld ?rest6a
            case hy6a => (intro W hSw; go_simp; (try with_reducible rfl))
            refine wpAnyH_take (i := 7) (v := ?v7a) rfl (by kernel_rfl) (by kernel_rfl) (by kernel_rfl) (fun _ _ _ h => h) (Or.inl ⟨by kernel_rfl, ?hy7a⟩) hHeld ?rest7a
            case hy7a => (intro W hSw; go_simp; (try with_reducible rfl))
            refine wpAnyH_take (i := 8) (v := ?v8a) rfl (by kernel_rfl) (by kernel_rfl) (by kernel_rfl) (fun _ _ _ h => h) (Or.inl ⟨by kernel_rfl, ?hy8a⟩) hHeld ?rest8a
            case hy8a => (intro W hSw; go_simp; (try with_reducible rfl))
            refine wpAnyH_take (i := 9) (v := ?v9a) rfl (by kernel_rfl) (by kernel_rfl) (by kernel_rfl) (fun _ _ _ h => h) (Or.inl ⟨by kernel_rfl, ?hy9a⟩) hHeld ?rest9a
            case hy9a => (intro W hSw; go_simp; (try with_reducible rfl))
            refine wpAnyH_take (i := 10) (v := ?v10a) rfl (by kernel_rfl) (by kernel_rfl) (by kernel_rfl) (fun _ _ _ h => h) (Or.inl ⟨by kernel_rfl, ?hy10a⟩) hHeld ?rest10a
            case hy10a => (intro W hSw; obtain ⟨sc, _, _⟩ := hSw; obtain ⟨s0, s1, s2, s3, s4, s5, s6, s7, s8⟩ := sc.all; go_simp; (try with_reducible rfl))
            refine wpAnyH_take (i := 11) (v := ?v11a) rfl (by kernel_rfl) (by kernel_rfl) (by kernel_rfl) (fun _ _ _ h => h) (Or.inl ⟨by kernel_rfl, ?hy11a⟩) hHeld ?rest11a
            case hy11a => (intro W hSw; go_simp; (try with_reducible rfl))
            refine wpAnyH_take (i := 12) (v := ?v12a) rfl (by kernel_rfl) (by kernel_rfl) (by kernel_rfl) (fun _ _ _ h => h) (Or.inl ⟨by kernel_rfl, ?hy12a⟩) hHeld ?rest12a
            case hy12a => (intro W hSw; go_simp; (try with_reducible rfl))
            refine wpAnyH_take (i := 13) (v := ?v13a) rfl (by kernel_rfl) (by kernel_rfl) (by kernel_rfl) (fun _ _ _ h => h) (Or.inl ⟨by kernel_rfl, ?hy13a⟩) hHeld ?rest13a
            case hy13a => (intro W hSw; go_simp; (try with_reducible rfl))
            refine wpAnyH_take (i := 14) (v := ?v14a) rfl (by kernel_rfl) (by kernel_rfl) (by kernel_rfl) (fun _ _ _ h => h) (Or.inl ⟨by kernel_rfl, ?hy14a⟩) hHeld ?rest14a
            case hy14a => (intro W hSw; go_simp; (try with_reducible rfl))
            refine wpAnyH_take (i := 15) (v := ?v15a) rfl (by kernel_rfl) (by kernel_rfl) (by kernel_rfl) (fun _ _ _ h => h) (Or.inl ⟨by kernel_rfl, ?hy15a⟩) hHeld ?rest15a
            case hy15a => (intro W hSw; go_simp; (try with_reducible rfl))
            refine wpAnyH_take (i := 16) (v := ?v16a) rfl (by kernel_rfl) (by kernel_rfl) (by kernel_rfl) (fun _ _ _ h => h) (Or.inl ⟨by kernel_rfl, ?hy16a⟩) hHeld ?rest16a
            case hy16a => (intro W hSw; obtain ⟨sc, _, _⟩ := hSw; obtain ⟨s0, s1, s2, s3, s4, s5, s6, s7, s8⟩ := sc.all; go_simp; (try with_reducible rfl))
            refine wpAnyH_take (i := 17) (v := ?v17a) rfl (by kernel_rfl) (by kernel_rfl) (by kernel_rfl) (fun _ _ _ h => h) (Or.inl ⟨by kernel_rfl, ?hy17a⟩) hHeld ?rest17a
            case hy17a => (intro W hSw; go_simp; (try with_reducible rfl))
            refine wpAnyH_take (i := 18) (v := ?v18a) rfl (by kernel_rfl) (by kernel_rfl) (by kernel_rfl) (fun _ _ _ h => h) (Or.inl ⟨by kernel_rfl, ?hy18a⟩) hHeld ?rest18a
            case hy18a => (intro W hSw; go_simp; (try with_reducible rfl))
            refine wpAnyH_take (i := 19) (v := ?v19a) rfl (by kernel_rfl) (by kernel_rfl) (by kernel_rfl) (fun _ _ _ h => h) (Or.inl ⟨by kernel_rfl, ?hy19a⟩) hHeld ?rest19a
            case hy19a => (intro W hSw; go_simp; (try with_reducible rfl))
            refine wpAnyH_take (i := 20) (v := ?v20a) rfl (by kernel_rfl) (by kernel_rfl) (by kernel_rfl) (fun _ _ _ h => h) (Or.inl ⟨by kernel_rfl, ?hy20a⟩) hHeld ?rest20a
            case hy20a => (intro W hSw; obtain ⟨_, _, se⟩ := hSw; go_simp; (try with_reducible rfl))
            refine wpAnyH_take (i := 21) (v := ?v21a) rfl (by kernel_rfl) (by kernel_rfl) (by kernel_rfl) (fun _ _ _ h => h) (Or.inl ⟨by kernel_rfl, ?hy21a⟩) hHeld ?rest21a
            case hy21a => (intro W hSw; go_simp; (try with_reducible rfl))
            refine wpAnyH_take (i := 22) (v := ?v22a) rfl (by kernel_rfl) (by kernel_rfl) (by kernel_rfl) (fun _ _ _ h => h) (Or.inl ⟨by kernel_rfl, ?hy22a⟩) hHeld ?rest22a
            case hy22a => (intro W hSw; go_simp; (try with_reducible rfl))
            refine wpAnyH_take (i := 23) (v := ?v23a) rfl (by kernel_rfl) (by kernel_rfl) (by kernel_rfl) (fun _ _ _ h => h) (Or.inl ⟨by kernel_rfl, ?hy23a⟩) hHeld ?rest23a
            case hy23a => (intro W hSw; go_simp; (try with_reducible rfl))
            refine wpAnyH_take (i := 24) (v := ?v24a) rfl (by kernel_rfl) (by kernel_rfl) (by kernel_rfl) (fun _ _ _ h => h) (Or.inl ⟨by kernel_rfl, ?hy24a⟩) hHeld ?rest24a
            case hy24a => (intro W hSw; go_simp; (try with_reducible rfl))
            refine wpAnyH_take (i := 25) (v := ?v25a) rfl (by kernel_rfl) (by kernel_rfl) (by kernel_rfl) (fun _ _ _ h => h) (Or.inl ⟨by kernel_rfl, ?hy25a⟩) hHeld ?rest25a
            case hy25a => (intro W hSw; obtain ⟨sc, _, _⟩ := hSw; obtain ⟨s0, s1, s2, s3, s4, s5, s6, s7, s8⟩ := sc.all; go_simp; (try with_reducible rfl))
            refine wpAnyH_take (i := 26) (v := ?v26a) rfl (by kernel_rfl) (by kernel_rfl) (by kernel_rfl) (fun _ _ _ h => h) (Or.inl ⟨by kernel_rfl, ?hy26a⟩) hHeld ?rest26a
            case hy26a => (intro W hSw; obtain ⟨_, sh, _⟩ := hSw; obtain ⟨s0, s1, s2, s3, s4, s5⟩ := sh.all; go_simp; (try with_reducible rfl))
            refine wpAnyH_take (i := 27) (v := ?v27a) rfl (by kernel_rfl) (by kernel_rfl) (by kernel_rfl) (fun _ _ _ h => h) (Or.inl ⟨by kernel_rfl, ?hy27a⟩) hHeld ?rest27a
            case hy27a => (intro W hSw; go_simp; (try with_reducible rfl))
            refine wpAnyH_take (i := 28) (v := ?v28a) rfl (by kernel_rfl) (by kernel_rfl) (by kernel_rfl) (fun _ _ _ h => h) (Or.inl ⟨by kernel_rfl, ?hy28a⟩) hHeld ?rest28a
            case hy28a => (intro W hSw; go_simp; (try with_reducible rfl))
            refine wpAnyH_take (i := 29) (v := ?v29a) rfl (by kernel_rfl) (by kernel_rfl) (by kernel_rfl) (fun _ _ _ h => h) (Or.inl ⟨by kernel_rfl, ?hy29a⟩) hHeld ?rest29a
            case hy29a => (intro W hSw; go_simp; (try with_reducible rfl))
            refine wpAnyH_take (i := 30) (v := ?v30a) rfl (by kernel_rfl) (by kernel_rfl) (by kernel_rfl) (fun _ _ _ h => h) (Or.inl ⟨by kernel_rfl, ?hy30a⟩) hHeld ?rest30a
            case hy30a => (intro W hSw; go_simp; (try with_reducible rfl))
            refine wpAnyH_take (i := 31) (v := ?v31a) rfl (by kernel_rfl) (by kernel_rfl) (by kernel_rfl) (fun _ _ _ h => h) (Or.inl ⟨by kernel_rfl, ?hy31a⟩) hHeld ?rest31a
            case hy31a => (intro W hSw; go_simp; (try with_reducible rfl))
            refine wpAnyH_ready (rs := [32]) (by kernel_rfl) (by simp) ?_
            refine AllReadyH.cons rfl (fun K hK => ?_) AllReadyH.nil
            rw [if_pos (by kernel_rfl)]
            go_simp
            go_at_call 20
            have HB20 : Hid (Below w13.heap.size w13 w17.drew) := HB17.out.trans ((drawn _ 1).mono HB17.out.size)
            have HB20W : Hid (Below w2.heap.size w2 w17.drew) := HB13.out.trans (HB20.out.mono HB13.out.size)
            refine (refBehind_any h vi va vc (.slice mo d mc) (more.take d) w17.drew (HRR.out _ HB20W.out) HVAL.out HN.out (HMD.out _ HB20W.out) (by rw [List.length_take]; have := HML.out; omega) (by have := HRLE.out; omega) HSHD.out).mono ?_
            rw [HEQ.out]
            rintro e w21 ⟨zi, za, zc, rfl, hr21, hb21⟩
            have HB21 : Hid (Below w13.heap.size w13 w21) := HB20.out.trans (hb21.mono HB20.out.size)
            have HR21 := Lib.hid hr21
            clear hr21 hb21
            dsimp only
            refine hK.out _ _ (HS.out _ HB21.out) (fun hHeld => ?_)
            clear hK K
            refine wpAnyH_ready (rs := [33]) (by kernel_rfl) (by simp) ?_
            refine AllReadyH.cons rfl (fun K hK => ?_) AllReadyH.nil
            rw [if_pos (by kernel_rfl)]
            go_simp
            go_at_call 19
            refine (sameH_any H H ti ta tc zi za zc w21 (HRH.out _ HB21.out) HR21.out).mono ?_
            rw [show decide (H = H) = true by simp]
            rintro e w22 ⟨rfl, hb22⟩
            have HB22 : Hid (Below w13.heap.size w13 w22) := HB21.out.trans (hb22.mono HB21.out.size)
            clear hb22
            dsimp only
            refine hK.out _ _ (HS.out _ HB22.out) (fun hHeld => ?_)
            clear hK K
            refine wpAnyH_take (i := 34) (v := ?v34a) rfl (by kernel_rfl) (by kernel_rfl) (by kernel_rfl) (fun _ _ _ h => h) (Or.inl ⟨by kernel_rfl, ?hy34a⟩) hHeld ?rest34a
            case hy34a => (intro W hSw; go_simp; (try with_reducible rfl))
            refine wpAnyH_take (i := 35) (v := ?v35a) rfl (by kernel_rfl) (by kernel_rfl) (by kernel_rfl) (fun _ _ _ h => h) (Or.inl ⟨by kernel_rfl, ?hy35a⟩) hHeld ?rest35a
            case hy35a => (intro W hSw; go_simp; (try with_reducible rfl))
            refine wpAnyH_ready (rs := [36]) (by kernel_rfl) (by simp) ?_
            refine AllReadyH.cons rfl (fun K hK => ?_) AllReadyH.nil
            rw [if_pos (by kernel_rfl)]
            go_simp
            go_at_call 8
            have HB22W : Hid (Below w2.heap.size w2 w22) := HB13.out.trans (HB22.out.mono HB13.out.size)
            refine (awakeSg_any w22 (HT.out _ HB22W.out) (HW.out _ HB22W.out)).mono ?_
            rintro e w23 ⟨rfl, hb23⟩
            have HB23 : Hid (Below w13.heap.size w13 w23) := HB22.out.trans (hb23.mono HB22.out.size)
            clear hb23
            dsimp only
            refine hK.out _ _ (HS.out _ HB23.out) (fun hHeld => ?_)
            clear hK K
            refine wpAnyH_take (i := 37) (v := ?v37a) rfl (by kernel_rfl) (by kernel_rfl) (by kernel_rfl) (fun _ _ _ h => h) (Or.inl ⟨by kernel_rfl, ?hy37a⟩) hHeld ?rest37a
            case hy37a => (intro W hSw; go_simp; (try with_reducible rfl))
            refine wpAnyH_take (i := 38) (v := ?v38a) rfl (by kernel_rfl) (by kernel_rfl) (by kernel_rfl) (fun _ _ _ h => h) (Or.inl ⟨by kernel_rfl, ?hy38a⟩) hHeld ?rest38a
            case hy38a => (intro W hSw; go_simp; (try with_reducible rfl))
            refine wpAnyH_done (by kernel_rfl) ?_ _
            clear hHeld
            go_simp
            go_wp2
            go_ret
            exact truly_of (HTR.out _ (HB13.out.trans (HB23.out.mono HB13.out.size)))
           ·have db1 : decide ((k : Int) + 1 < (ne : Int)) = false := decide_eq_false (by omega)
            go_wp2
            refine wp_region_behind (by kernel_rfl) (by kernel_rfl) ?_
            repeat (go_big_quiet_step (fail))
            refine wpQuiet_nil ?_
            rintro w15 ⟨⟨w15, hB15⟩, rfl⟩
            (try dsimp only)
            have HB17 : Hid (Below w13.heap.size w13 w15) := HB.out.trans (hB15.mono HB.out.size)
            clear hB15 db1
            have hsub := HSUB.out; have hwd := HWD.out; have hdc := HDC.out
            go_wp2
            generalize w15 = w17 at HB17 ⊢
            refine wp_region_held_drew (S := fun W => Conts W w11.heap.size 1 H ti ta tc (k : Int) (E : Int) ∧ SixAt W w.heap.size 27 h.prom h.base vi va vc ∧ W.cell? ⟨ge, eo + k, none⟩ = some (.int .i64 (E : Int))) (by kernel_rfl) (HS.out _ (HB17.out.trans ((drawn _ 1).mono HB17.out.size))) (fun hHeld => ?_)
            refine wpAnyH_take (i := 0) (v := ?v0b) rfl (by kernel_rfl) (by kernel_rfl) (by kernel_rfl) (fun _ _ _ h => h) (Or.inl ⟨by kernel_rfl, ?hy0b⟩) hHeld ?rest0b
            case hy0b => (intro W hSw; go_simp; (try with_reducible rfl))
            refine wpAnyH_take (i := 1) (v := ?v1b) rfl (by kernel_rfl) (by kernel_rfl) (by kernel_rfl) (fun _ _ _ h => h) (Or.inl ⟨by kernel_rfl, ?hy1b⟩) hHeld ?rest1b
            case hy1b => (intro W hSw; go_simp; (try with_reducible rfl))
            refine wpAnyH_take (i := 2) (v := ?v2b) rfl (by kernel_rfl) (by kernel_rfl) (by kernel_rfl) (fun _ _ _ h => h) (Or.inl ⟨by kernel_rfl, ?hy2b⟩) hHeld ?rest2b
            case hy2b => (intro W hSw; go_simp; (try with_reducible rfl))
            refine wpAnyH_take (i := 3) (v := ?v3b) rfl (by kernel_rfl) (by kernel_rfl) (by kernel_rfl) (fun _ _ _ h => h) (Or.inl ⟨by kernel_rfl, ?hy3b⟩) hHeld ?rest3b
            case hy3b => (intro W hSw; go_simp; (try with_reducible rfl))
            refine wpAnyH_take (i := 4) (v := ?v4b) rfl (by kernel_rfl) (by kernel_rfl) (by kernel_rfl) (fun _ _ _ h => h) (Or.inl ⟨by kernel_rfl, ?hy4b⟩) hHeld ?rest4b
            case hy4b => (intro W hSw; obtain ⟨sc, _, _⟩ := hSw; obtain ⟨s0, s1, s2, s3, s4, s5, s6, s7, s8⟩ := sc.all; go_simp; (try with_reducible rfl))
            refine wpAnyH_take (i := 5) (v := ?v5b) rfl (by kernel_rfl) (by kernel_rfl) (by kernel_rfl) (fun _ _ _ h => h) (Or.inl ⟨by kernel_rfl, ?hy5b⟩) hHeld ?rest5b
            case hy5b => (intro W hSw; go_simp; (try with_reducible rfl))
            refine wpAnyH_take (i := 6) (v := ?v6b) rfl (by kernel_rfl) (by kernel_rfl) (by kernel_rfl) (fun _ _ _ h => h) (Or.inl ⟨by kernel_rfl, ?hy6b⟩) hHeld ?rest6b
            case hy6b => (intro W hSw; go_simp; (try with_reducible rfl))
            refine wpAnyH_take (i := 7) (v := ?v7b) rfl (by kernel_rfl) (by kernel_rfl) (by kernel_rfl) (fun _ _ _ h => h) (Or.inl ⟨by kernel_rfl, ?hy7b⟩) hHeld ?rest7b
            case hy7b => (intro W hSw; go_simp; (try with_reducible rfl))
            refine wpAnyH_take (i := 8) (v := ?v8b) rfl (by kernel_rfl) (by kernel_rfl) (by kernel_rfl) (fun _ _ _ h => h) (Or.inl ⟨by kernel_rfl, ?hy8b⟩) hHeld ?rest8b
            case hy8b => (intro W hSw; go_simp; (try with_reducible rfl))
            refine wpAnyH_take (i := 9) (v := ?v9b) rfl (by kernel_rfl) (by kernel_rfl) (by kernel_rfl) (fun _ _ _ h => h) (Or.inl ⟨by kernel_rfl, ?hy9b⟩) hHeld ?rest9b
            case hy9b => (intro W hSw; go_simp; (try with_reducible rfl))
            refine wpAnyH_take (i := 10) (v := ?v10b) rfl (by kernel_rfl) (by kernel_rfl) (by kernel_rfl) (fun _ _ _ h => h) (Or.inl ⟨by kernel_rfl, ?hy10b⟩) hHeld ?rest10b
            case hy10b => (intro W hSw; obtain ⟨sc, _, _⟩ := hSw; obtain ⟨s0, s1, s2, s3, s4, s5, s6, s7, s8⟩ := sc.all; go_simp; (try with_reducible rfl))
            refine wpAnyH_take (i := 11) (v := ?v11b) rfl (by kernel_rfl) (by kernel_rfl) (by kernel_rfl) (fun _ _ _ h => h) (Or.inl ⟨by kernel_rfl, ?hy11b⟩) hHeld ?rest11b
            case hy11b => (intro W hSw; go_simp; (try with_reducible rfl))
            refine wpAnyH_take (i := 12) (v := ?v12b) rfl (by kernel_rfl) (by kernel_rfl) (by kernel_rfl) (fun _ _ _ h => h) (Or.inl ⟨by kernel_rfl, ?hy12b⟩) hHeld ?rest12b
            case hy12b => (intro W hSw; go_simp; (try with_reducible rfl))
            refine wpAnyH_take (i := 13) (v := ?v13b) rfl (by kernel_rfl) (by kernel_rfl) (by kernel_rfl) (fun _ _ _ h => h) (Or.inl ⟨by kernel_rfl, ?hy13b⟩) hHeld ?rest13b
            case hy13b => (intro W hSw; go_simp; (try with_reducible rfl))
            refine wpAnyH_take (i := 14) (v := ?v14b) rfl (by kernel_rfl) (by kernel_rfl) (by kernel_rfl) (fun _ _ _ h => h) (Or.inl ⟨by kernel_rfl, ?hy14b⟩) hHeld ?rest14b
            case hy14b => (intro W hSw; go_simp; (try with_reducible rfl))
            refine wpAnyH_take (i := 15) (v := ?v15b) rfl (by kernel_rfl) (by kernel_rfl) (by kernel_rfl) (fun _ _ _ h => h) (Or.inl ⟨by kernel_rfl, ?hy15b⟩) hHeld ?rest15b
            case hy15b => (intro W hSw; go_simp; (try with_reducible rfl))
            refine wpAnyH_take (i := 16) (v := ?v16b) rfl (by kernel_rfl) (by kernel_rfl) (by kernel_rfl) (fun _ _ _ h => h) (Or.inl ⟨by kernel_rfl, ?hy16b⟩) hHeld ?rest16b
            case hy16b => (intro W hSw; obtain ⟨sc, _, _⟩ := hSw; obtain ⟨s0, s1, s2, s3, s4, s5, s6, s7, s8⟩ := sc.all; go_simp; (try with_reducible rfl))
            refine wpAnyH_take (i := 17) (v := ?v17b) rfl (by kernel_rfl) (by kernel_rfl) (by kernel_rfl) (fun _ _ _ h => h) (Or.inl ⟨by kernel_rfl, ?hy17b⟩) hHeld ?rest17b
            case hy17b => (intro W hSw; go_simp; (try with_reducible rfl))
            refine wpAnyH_take (i := 18) (v := ?v18b) rfl (by kernel_rfl) (by kernel_rfl) (by kernel_rfl) (fun _ _ _ h => h) (Or.inl ⟨by kernel_rfl, ?hy18b⟩) hHeld ?rest18b
            case hy18b => (intro W hSw; go_simp; (try with_reducible rfl))
            refine wpAnyH_take (i := 19) (v := ?v19b) rfl (by kernel_rfl) (by kernel_rfl) (by kernel_rfl) (fun _ _ _ h => h) (Or.inl ⟨by kernel_rfl, ?hy19b⟩) hHeld ?rest19b
            case hy19b => (intro W hSw; go_simp; (try with_reducible rfl))
            refine wpAnyH_take (i := 20) (v := ?v20b) rfl (by kernel_rfl) (by kernel_rfl) (by kernel_rfl) (fun _ _ _ h => h) (Or.inl ⟨by kernel_rfl, ?hy20b⟩) hHeld ?rest20b
            case hy20b => (intro W hSw; obtain ⟨_, _, se⟩ := hSw; go_simp; (try with_reducible rfl))
            refine wpAnyH_take (i := 21) (v := ?v21b) rfl (by kernel_rfl) (by kernel_rfl) (by kernel_rfl) (fun _ _ _ h => h) (Or.inl ⟨by kernel_rfl, ?hy21b⟩) hHeld ?rest21b
            case hy21b => (intro W hSw; go_simp; (try with_reducible rfl))
            refine wpAnyH_take (i := 22) (v := ?v22b) rfl (by kernel_rfl) (by kernel_rfl) (by kernel_rfl) (fun _ _ _ h => h) (Or.inl ⟨by kernel_rfl, ?hy22b⟩) hHeld ?rest22b
            case hy22b => (intro W hSw; go_simp; (try with_reducible rfl))
            refine wpAnyH_take (i := 23) (v := ?v23b) rfl (by kernel_rfl) (by kernel_rfl) (by kernel_rfl) (fun _ _ _ h => h) (Or.inl ⟨by kernel_rfl, ?hy23b⟩) hHeld ?rest23b
            case hy23b => (intro W hSw; go_simp; (try with_reducible rfl))
            refine wpAnyH_take (i := 24) (v := ?v24b) rfl (by kernel_rfl) (by kernel_rfl) (by kernel_rfl) (fun _ _ _ h => h) (Or.inl ⟨by kernel_rfl, ?hy24b⟩) hHeld ?rest24b
            case hy24b => (intro W hSw; go_simp; (try with_reducible rfl))
            refine wpAnyH_take (i := 25) (v := ?v25b) rfl (by kernel_rfl) (by kernel_rfl) (by kernel_rfl) (fun _ _ _ h => h) (Or.inl ⟨by kernel_rfl, ?hy25b⟩) hHeld ?rest25b
            case hy25b => (intro W hSw; obtain ⟨sc, _, _⟩ := hSw; obtain ⟨s0, s1, s2, s3, s4, s5, s6, s7, s8⟩ := sc.all; go_simp; (try with_reducible rfl))
            refine wpAnyH_take (i := 26) (v := ?v26b) rfl (by kernel_rfl) (by kernel_rfl) (by kernel_rfl) (fun _ _ _ h => h) (Or.inl ⟨by kernel_rfl, ?hy26b⟩) hHeld ?rest26b
            case hy26b => (intro W hSw; obtain ⟨_, sh, _⟩ := hSw; obtain ⟨s0, s1, s2, s3, s4, s5⟩ := sh.all; go_simp; (try with_reducible rfl))
            refine wpAnyH_take (i := 27) (v := ?v27b) rfl (by kernel_rfl) (by kernel_rfl) (by kernel_rfl) (fun _ _ _ h => h) (Or.inl ⟨by kernel_rfl, ?hy27b⟩) hHeld ?rest27b
            case hy27b => (intro W hSw; go_simp; (try with_reducible rfl))
            refine wpAnyH_take (i := 28) (v := ?v28b) rfl (by kernel_rfl) (by kernel_rfl) (by kernel_rfl) (fun _ _ _ h => h) (Or.inl ⟨by kernel_rfl, ?hy28b⟩) hHeld ?rest28b
            case hy28b => (intro W hSw; go_simp; (try with_reducible rfl))
            refine wpAnyH_take (i := 29) (v := ?v29b) rfl (by kernel_rfl) (by kernel_rfl) (by kernel_rfl) (fun _ _ _ h => h) (Or.inl ⟨by kernel_rfl, ?hy29b⟩) hHeld ?rest29b
            case hy29b => (intro W hSw; go_simp; (try with_reducible rfl))
            refine wpAnyH_take (i := 30) (v := ?v30b) rfl (by kernel_rfl) (by kernel_rfl) (by kernel_rfl) (fun _ _ _ h => h) (Or.inl ⟨by kernel_rfl, ?hy30b⟩) hHeld ?rest30b
            case hy30b => (intro W hSw; go_simp; (try with_reducible rfl))
            refine wpAnyH_take (i := 31) (v := ?v31b) rfl (by kernel_rfl) (by kernel_rfl) (by kernel_rfl) (fun _ _ _ h => h) (Or.inl ⟨by kernel_rfl, ?hy31b⟩) hHeld ?rest31b
            case hy31b => (intro W hSw; go_simp; (try with_reducible rfl))
            refine wpAnyH_ready (rs := [32]) (by kernel_rfl) (by simp) ?_
            refine AllReadyH.cons rfl (fun K hK => ?_) AllReadyH.nil
            rw [if_pos (by kernel_rfl)]
            go_simp
            go_at_call 20
            have HB20 : Hid (Below w13.heap.size w13 w17.drew) := HB17.out.trans ((drawn _ 1).mono HB17.out.size)
            have HB20W : Hid (Below w2.heap.size w2 w17.drew) := HB13.out.trans (HB20.out.mono HB13.out.size)
            refine (refBehind_any h vi va vc (.slice mo d mc) (more.take d) w17.drew (HRR.out _ HB20W.out) HVAL.out HN.out (HMD.out _ HB20W.out) (by rw [List.length_take]; have := HML.out; omega) (by have := HRLE.out; omega) HSHD.out).mono ?_
            rw [HEQ.out]
            rintro e w21 ⟨zi, za, zc, rfl, hr21, hb21⟩
            have HB21 : Hid (Below w13.heap.size w13 w21) := HB20.out.trans (hb21.mono HB20.out.size)
            have HR21 := Lib.hid hr21
            clear hr21 hb21
            dsimp only
            refine hK.out _ _ (HS.out _ HB21.out) (fun hHeld => ?_)
            clear hK K
            refine wpAnyH_ready (rs := [33]) (by kernel_rfl) (by simp) ?_
            refine AllReadyH.cons rfl (fun K hK => ?_) AllReadyH.nil
            rw [if_pos (by kernel_rfl)]
            go_simp
            go_at_call 19
            refine (sameH_any H H ti ta tc zi za zc w21 (HRH.out _ HB21.out) HR21.out).mono ?_
            rw [show decide (H = H) = true by simp]
            rintro e w22 ⟨rfl, hb22⟩
            have HB22 : Hid (Below w13.heap.size w13 w22) := HB21.out.trans (hb22.mono HB21.out.size)
            clear hb22
            dsimp only
            refine hK.out _ _ (HS.out _ HB22.out) (fun hHeld => ?_)
            clear hK K
            refine wpAnyH_take (i := 34) (v := ?v34b) rfl (by kernel_rfl) (by kernel_rfl) (by kernel_rfl) (fun _ _ _ h => h) (Or.inl ⟨by kernel_rfl, ?hy34b⟩) hHeld ?rest34b
            case hy34b => (intro W hSw; go_simp; (try with_reducible rfl))
            refine wpAnyH_take (i := 35) (v := ?v35b) rfl (by kernel_rfl) (by kernel_rfl) (by kernel_rfl) (fun _ _ _ h => h) (Or.inl ⟨by kernel_rfl, ?hy35b⟩) hHeld ?rest35b
            case hy35b => (intro W hSw; go_simp; (try with_reducible rfl))
            refine wpAnyH_ready (rs := [36]) (by kernel_rfl) (by simp) ?_
            refine AllReadyH.cons rfl (fun K hK => ?_) AllReadyH.nil
            rw [if_pos (by kernel_rfl)]
            go_simp
            go_at_call 8
            have HB22W : Hid (Below w2.heap.size w2 w22) := HB13.out.trans (HB22.out.mono HB13.out.size)
            refine (awakeSg_any w22 (HT.out _ HB22W.out) (HW.out _ HB22W.out)).mono ?_
            rintro e w23 ⟨rfl, hb23⟩
            have HB23 : Hid (Below w13.heap.size w13 w23) := HB22.out.trans (hb23.mono HB22.out.size)
            clear hb23
            dsimp only
            refine hK.out _ _ (HS.out _ HB23.out) (fun hHeld => ?_)
            clear hK K
            refine wpAnyH_take (i := 37) (v := ?v37b) rfl (by kernel_rfl) (by kernel_rfl) (by kernel_rfl) (fun _ _ _ h => h) (Or.inl ⟨by kernel_rfl, ?hy37b⟩) hHeld ?rest37b
            case hy37b => (intro W hSw; go_simp; (try with_reducible rfl))
            refine wpAnyH_take (i := 38) (v := ?v38b) rfl (by kernel_rfl) (by kernel_rfl) (by kernel_rfl) (fun _ _ _ h => h) (Or.inl ⟨by kernel_rfl, ?hy38b⟩) hHeld ?rest38b
            case hy38b => (intro W hSw; go_simp; (try with_reducible rfl))
            refine wpAnyH_done (by kernel_rfl) ?_ _
            clear hHeld
            go_simp
            go_wp2
            go_ret
            exact truly_of (HTR.out _ (HB13.out.trans (HB23.out.mono HB13.out.size)))
     ·have hqb : (q2 != 0) = true := by simpa using hq20
      go_wp2_with fail
      refine (awakeSg_any w8 (HT.out _ HB8.out) (HW.out _ HB8.out)).mono ?_
      rintro ea wa ⟨rfl, hba⟩
      go_wp2
      go_ret
      exact truly_of (HTR.out _ (HB8.out.trans (hba.mono HB8.out.size)))
    ·have hqb : (q != 0) = true := by simpa using hq0
     go_wp2_with fail
     refine (awakeSg_any w7 (HT.out _ HB7.out) (HW.out _ HB7.out)).mono ?_
     rintro ea wa ⟨rfl, hba⟩
     go_wp2
     go_ret
     exact truly_of (HTR.out _ (HB7.out.trans (hba.mono HB7.out.size)))
end Go.Proofs.YteboceekcmchkaaGreatDoor
