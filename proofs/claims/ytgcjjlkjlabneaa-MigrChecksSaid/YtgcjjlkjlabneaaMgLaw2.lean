/- The law MigrChecks. Written by a program. -/
import Derived.Test.YtgcjjlkjlabneaaMgAwake
import Derived.Test.YtgcjjlkjlabneaaMgSame
import Derived.Test.YtgcjjlkjlabneaaMgRef
import Derived.Test.YtgcjjlkjlabneaaTake
import Derived.Deep.RegionHeld
namespace Go.Proofs.Ytgcjjlkjlabneaa
open Go.RowKit

set_option maxRecDepth 4000 in
set_option maxHeartbeats 6400000 in
theorem migrChecks_any (s o : Mg.St) (vp vs up us : Value) (w : World) (hr : StR w s vp vs) (kr : StR w o up us) (hc : s.Came) (kc : o.Came) :
    Calls Try.prog 3 #[.agg (Mg.cells s.schema vp vs), .agg (Mg.cells o.schema up us)] w (Truly w) := by
  obtain ⟨w0, e0, hx0, hB0, hz0⟩ := box_st w s s.schema vp vs hr
  obtain ⟨w1, e1, hy1, hB1, hz1⟩ := box_st w0 o o.schema up us (kr.below hB0)
  rw [hz0] at hy1
  have hx1 := hx0.below hB1 (by omega)
  have hb1 : Below w.heap.size w w1 := hB0.trans (hB1.mono hB0.size)
  have HX1 := Lib.hid hx1
  have HY1 := Lib.hid hy1
  have HR1 := Lib.hid (hr.below hb1)
  have HQ1 := Lib.hid (kr.below hb1)
  have HB1 := Lib.hid hb1
  have hlarge := largeSt_any s vp vs w1 HR1.out hc.kv hc.ses
  have HLO := Lib.hid (fun W h => largeSt_any o up us W h kc.kv kc.ses)
  obtain ⟨t, ht⟩ : ∃ t, t = Mg.large s := ⟨_, rfl⟩
  rw [← ht] at hlarge
  have HT := Lib.hid ht
  obtain ⟨t', ht'⟩ : ∃ t, t = Mg.large o := ⟨_, rfl⟩
  rw [← ht'] at HLO
  have HT' := Lib.hid ht'
  obtain ⟨c0, c1, c2⟩ := HX1.out.all
  clear ht ht' hx0 hx1 hy1 hB0 hB1 hb1 hz1 hr kr hc kc
  go_enter Try.func3, Try.ntmps3
  go_wp2_with fail
  refine hlarge.mono ?_
  rintro e w2 ⟨rfl, hb2⟩
  have HX2 := Lib.hid (HX1.out.below hb2 HX1.out.lies.lt)
  have HY2 := Lib.hid (HY1.out.below hb2 HY1.out.lies.lt)
  have HR2 := Lib.hid (HR1.out.below hb2)
  have HQ2 := Lib.hid (HQ1.out.below hb2)
  have HB2 := Lib.hid (HB1.out.trans (hb2.mono HB1.out.size))
  clear hb2 hlarge c0 c1 c2
  cases t with
  | true =>
    go_wp2_with fail
    refine (awakeMg_any _).mono ?_
    rintro e w3 ⟨rfl, hBw3⟩
    go_wp2
    go_ret
    exact truly_of (HB2.out.trans (hBw3.mono HB2.out.size))
  | false =>
    obtain ⟨d0, d1, d2⟩ := HY2.out.all
    go_wp2_with fail
    refine (HLO.out w2 HQ2.out).mono ?_
    rintro e w3 ⟨rfl, hb3⟩
    have HX3 := Lib.hid (HX2.out.below hb3 HX2.out.lies.lt)
    have HY3 := Lib.hid (HY2.out.below hb3 HY2.out.lies.lt)
    have HR3 := Lib.hid (HR2.out.below hb3)
    have HQ3 := Lib.hid (HQ2.out.below hb3)
    have HB3 := Lib.hid (HB2.out.trans (hb3.mono HB2.out.size))
    clear hb3 d0 d1 d2 HLO
    cases t' with
    | true =>
      go_wp2_with fail
      refine (awakeMg_any _).mono ?_
      rintro e w4 ⟨rfl, hBw4⟩
      go_wp2
      go_ret
      exact truly_of (HB3.out.trans (hBw4.mono HB3.out.size))
    | false =>
      have HF := Lib.hid (Mg.few HT.out.symm)
      have HRC := Lib.hid (fun W h => refCheckSt_any s vp vs W h HF.out)
      have HCK := Lib.hid (fun W h => checkSt_any s vp vs W h HF.out)
      have HSM := Lib.hid (fun W h1 h2 => sameM_any s o vp vs up us W h1 h2)
      have HSD := Lib.hid (fun W h1 h2 => sameSt_any s o vp vs up us W h1 h2)
      obtain ⟨b, hb⟩ : ∃ b, b = Mg.check s := ⟨_, rfl⟩
      rw [← hb] at HRC HCK
      obtain ⟨D, hD⟩ : ∃ D, D = decide (s = o) := ⟨_, rfl⟩
      rw [← hD] at HSM HSD
      clear hb hD HX1 HY1 HR1 HQ1 HB1 HX2 HY2 HR2 HQ2 HB2 HT HT'
      obtain ⟨c0, c1, c2⟩ := HX3.out.all
      go_wp2_with fail
      refine (HRC.out w3 HR3.out).mono ?_
      rintro e w4 ⟨rfl, hb4⟩
      have HX4 := Lib.hid (HX3.out.below hb4 HX3.out.lies.lt)
      have HY4 := Lib.hid (HY3.out.below hb4 HY3.out.lies.lt)
      have HR4 := Lib.hid (HR3.out.below hb4)
      have HQ4 := Lib.hid (HQ3.out.below hb4)
      have HB4 := Lib.hid (HB3.out.trans (hb4.mono HB3.out.size))
      clear hb4 c0 c1 c2 HRC HX3 HY3 HR3 HQ3 HB3
      have HNE : Hid (w.heap.size + 1 < w4.heap.size) := HY4.out.lies.lt
      cases b <;> cases D <;> (
        simp only [if_true, Bool.false_eq_true, if_false] at HCK
        go_wp2_with fail
        refine wp_region_held_drew (S := fun W => (W.cell? ⟨w.heap.size, 0, none⟩ = some (.int .i64 s.schema) ∧ W.cell? ⟨w.heap.size, 1, none⟩ = some vp ∧ W.cell? ⟨w.heap.size, 2, none⟩ = some vs) ∧ (W.cell? ⟨w.heap.size + 1, 0, none⟩ = some (.int .i64 o.schema) ∧ W.cell? ⟨w.heap.size + 1, 1, none⟩ = some up ∧ W.cell? ⟨w.heap.size + 1, 2, none⟩ = some us)) (by kernel_rfl) (⟨HX4.out.all, HY4.out.all⟩) (fun hHeld => ?_)
        have hb5 := drawn w4 1
        have HB5 := Lib.hid (HB4.out.trans (hb5.mono HB4.out.size))
        have AX5 := Lib.hid (HX4.out.below hb5 HX4.out.lies.lt)
        have AY5 := Lib.hid (HY4.out.below hb5 HY4.out.lies.lt)
        have RR5 := Lib.hid (HR4.out.below hb5)
        have RQ5 := Lib.hid (HQ4.out.below hb5)
        clear hb5
        refine wpT 0 rfl hHeld ?_ (by intro W hSw; obtain ⟨⟨s0, s1, s2⟩, ⟨s3, s4, s5⟩⟩ := hSw; go_simp; (try with_reducible rfl))
        refine wpT 2 rfl hHeld ?_ (by intro W hSw; obtain ⟨⟨s0, s1, s2⟩, ⟨s3, s4, s5⟩⟩ := hSw; go_simp; (try with_reducible rfl))
        refine wpAnyH_ready (rs := [1]) (by kernel_rfl) (by simp) ?_
        refine AllReadyH.cons rfl (fun K hK => ?_) AllReadyH.nil
        rw [if_pos (by kernel_rfl)]
        go_simp
        go_at_call 8
        refine (HCK.out _ RR5.out).mono ?_
        rintro e w21 ⟨rfl, hb21⟩
        have HB21 := Lib.hid (HB5.out.trans (hb21.mono HB5.out.size))
        have AX21 := Lib.hid (AX5.out.below hb21 AX5.out.lies.lt)
        have AY21 := Lib.hid (AY5.out.below hb21 AY5.out.lies.lt)
        have RR21 := Lib.hid (RR5.out.below hb21)
        have RQ21 := Lib.hid (RQ5.out.below hb21)
        clear hb21
        dsimp only
        refine hK.out _ _ ⟨AX21.out.all, AY21.out.all⟩ (fun hHeld => ?_)
        clear hK K
        refine wpT 3 rfl hHeld ?_ (by intro W hSw; obtain ⟨⟨s0, s1, s2⟩, ⟨s3, s4, s5⟩⟩ := hSw; go_simp; (try with_reducible rfl))
        refine wpT 4 rfl hHeld ?_ (by intro W hSw; obtain ⟨⟨s0, s1, s2⟩, ⟨s3, s4, s5⟩⟩ := hSw; go_simp; (try with_reducible rfl))
        refine wpT 5 rfl hHeld ?_ (by intro W hSw; obtain ⟨⟨s0, s1, s2⟩, ⟨s3, s4, s5⟩⟩ := hSw; go_simp; (try with_reducible rfl))
        refine wpT 6 rfl hHeld ?_ (by intro W hSw; obtain ⟨⟨s0, s1, s2⟩, ⟨s3, s4, s5⟩⟩ := hSw; go_simp; (try with_reducible rfl))
        refine wpT 8 rfl hHeld ?_ (by intro W hSw; obtain ⟨⟨s0, s1, s2⟩, ⟨s3, s4, s5⟩⟩ := hSw; go_simp; (try with_reducible rfl))
        refine wpT 9 rfl hHeld ?_ (by intro W hSw; obtain ⟨⟨s0, s1, s2⟩, ⟨s3, s4, s5⟩⟩ := hSw; go_simp; (try with_reducible rfl))
        refine wpAnyH_ready (rs := [7]) (by kernel_rfl) (by simp) ?_
        refine AllReadyH.cons rfl (fun K hK => ?_) AllReadyH.nil
        rw [if_pos (by kernel_rfl)]
        go_simp
        go_at_call 9
        refine (HSM.out _ RR21.out RQ21.out).mono ?_
        rintro e w22 ⟨rfl, hb22⟩
        have HB22 := Lib.hid (HB21.out.trans (hb22.mono HB21.out.size))
        have AX22 := Lib.hid (AX21.out.below hb22 AX21.out.lies.lt)
        have AY22 := Lib.hid (AY21.out.below hb22 AY21.out.lies.lt)
        have RR22 := Lib.hid (RR21.out.below hb22)
        have RQ22 := Lib.hid (RQ21.out.below hb22)
        clear hb22
        dsimp only
        refine hK.out _ _ ⟨AX22.out.all, AY22.out.all⟩ (fun hHeld => ?_)
        clear hK K
        refine wpAnyH_ready (rs := [10]) (by kernel_rfl) (by simp) ?_
        refine AllReadyH.cons rfl (fun K hK => ?_) AllReadyH.nil
        rw [if_pos (by kernel_rfl)]
        go_simp
        go_at_call 10
        refine (HSD.out _ RR22.out RQ22.out).mono ?_
        rintro e w23 ⟨rfl, hb23⟩
        have HB23 := Lib.hid (HB22.out.trans (hb23.mono HB22.out.size))
        have AX23 := Lib.hid (AX22.out.below hb23 AX22.out.lies.lt)
        have AY23 := Lib.hid (AY22.out.below hb23 AY22.out.lies.lt)
        have RR23 := Lib.hid (RR22.out.below hb23)
        have RQ23 := Lib.hid (RQ22.out.below hb23)
        clear hb23
        dsimp only
        refine hK.out _ _ ⟨AX23.out.all, AY23.out.all⟩ (fun hHeld => ?_)
        clear hK K
        refine wpT 11 rfl hHeld ?_ (by intro W hSw; obtain ⟨⟨s0, s1, s2⟩, ⟨s3, s4, s5⟩⟩ := hSw; go_simp; (try with_reducible rfl))
        refine wpT 12 rfl hHeld ?_ (by intro W hSw; obtain ⟨⟨s0, s1, s2⟩, ⟨s3, s4, s5⟩⟩ := hSw; go_simp; (try with_reducible rfl))
        refine wpT 13 rfl hHeld ?_ (by intro W hSw; obtain ⟨⟨s0, s1, s2⟩, ⟨s3, s4, s5⟩⟩ := hSw; go_simp; (try with_reducible rfl))
        refine wpT 14 rfl hHeld ?_ (by intro W hSw; obtain ⟨⟨s0, s1, s2⟩, ⟨s3, s4, s5⟩⟩ := hSw; go_simp; (try with_reducible rfl))
        refine wpT 15 rfl hHeld ?_ (by intro W hSw; obtain ⟨⟨s0, s1, s2⟩, ⟨s3, s4, s5⟩⟩ := hSw; go_simp; (try with_reducible rfl))
        refine wpAnyH_ready (rs := [16]) (by kernel_rfl) (by simp) ?_
        refine AllReadyH.cons rfl (fun K hK => ?_) AllReadyH.nil
        rw [if_pos (by kernel_rfl)]
        go_simp
        go_at_call 11
        refine (cloneC_any s vp vs _ RR23.out HF.out).mono ?_
        rintro e w24 h24
        obtain ⟨up24, us24, rfl, hr24, hb24⟩ := MadeC.gives _ _ h24
        have HB24 := Lib.hid (HB23.out.trans (hb24.mono HB23.out.size))
        have AX24 := Lib.hid (AX23.out.below hb24 AX23.out.lies.lt)
        have AY24 := Lib.hid (AY23.out.below hb24 AY23.out.lies.lt)
        have RR24 := Lib.hid (RR23.out.below hb24)
        have RQ24 := Lib.hid (RQ23.out.below hb24)
        have RC24 := Lib.hid hr24
        clear hr24 hb24 h24
        dsimp only
        refine hK.out _ _ ⟨AX24.out.all, AY24.out.all⟩ (fun hHeld => ?_)
        clear hK K
        refine wpAnyH_ready (rs := [17]) (by kernel_rfl) (by simp) ?_
        refine AllReadyH.cons rfl (fun K hK => ?_) AllReadyH.nil
        rw [if_pos (by kernel_rfl)]
        go_simp
        go_at_call 9
        refine (sameM_any s s _ _ _ _ _ RR24.out RC24.out).mono ?_
        rw [decide_eq_true rfl]
        rintro e w25 ⟨rfl, hb25⟩
        have HB25 := Lib.hid (HB24.out.trans (hb25.mono HB24.out.size))
        have AX25 := Lib.hid (AX24.out.below hb25 AX24.out.lies.lt)
        have AY25 := Lib.hid (AY24.out.below hb25 AY24.out.lies.lt)
        have RR25 := Lib.hid (RR24.out.below hb25)
        have RQ25 := Lib.hid (RQ24.out.below hb25)
        have RC25 := Lib.hid (RC24.out.below hb25)
        clear hb25
        dsimp only
        refine hK.out _ _ ⟨AX25.out.all, AY25.out.all⟩ (fun hHeld => ?_)
        clear hK K
        refine wpT 18 rfl hHeld ?_ (by intro W hSw; obtain ⟨⟨s0, s1, s2⟩, ⟨s3, s4, s5⟩⟩ := hSw; go_simp; (try with_reducible rfl))
        refine wpT 19 rfl hHeld ?_ (by intro W hSw; obtain ⟨⟨s0, s1, s2⟩, ⟨s3, s4, s5⟩⟩ := hSw; go_simp; (try with_reducible rfl))
        refine wpT 20 rfl hHeld ?_ (by intro W hSw; obtain ⟨⟨s0, s1, s2⟩, ⟨s3, s4, s5⟩⟩ := hSw; go_simp; (try with_reducible rfl))
        refine wpT 22 rfl hHeld ?_ (by intro W hSw; obtain ⟨⟨s0, s1, s2⟩, ⟨s3, s4, s5⟩⟩ := hSw; go_simp; (try with_reducible rfl))
        refine wpAnyH_ready (rs := [21]) (by kernel_rfl) (by simp) ?_
        refine AllReadyH.cons rfl (fun K hK => ?_) AllReadyH.nil
        rw [if_pos (by kernel_rfl)]
        go_simp
        go_at_call 11
        refine (cloneC_any s vp vs _ RR25.out HF.out).mono ?_
        rintro e w26 h26
        obtain ⟨up26, us26, rfl, hr26, hb26⟩ := MadeC.gives _ _ h26
        have HB26 := Lib.hid (HB25.out.trans (hb26.mono HB25.out.size))
        have AX26 := Lib.hid (AX25.out.below hb26 AX25.out.lies.lt)
        have AY26 := Lib.hid (AY25.out.below hb26 AY25.out.lies.lt)
        have RR26 := Lib.hid (RR25.out.below hb26)
        have RQ26 := Lib.hid (RQ25.out.below hb26)
        have RC26 := Lib.hid (RC25.out.below hb26)
        have RD26 := Lib.hid hr26
        clear hr26 hb26 h26
        dsimp only
        refine hK.out _ _ ⟨AX26.out.all, AY26.out.all⟩ (fun hHeld => ?_)
        clear hK K
        refine wpAnyH_ready (rs := [23]) (by kernel_rfl) (by simp) ?_
        refine AllReadyH.cons rfl (fun K hK => ?_) AllReadyH.nil
        rw [if_pos (by kernel_rfl)]
        go_simp
        go_at_call 10
        refine (sameSt_any s s _ _ _ _ _ RD26.out RR26.out).mono ?_
        rw [decide_eq_true rfl]
        rintro e w27 ⟨rfl, hb27⟩
        have HB27 := Lib.hid (HB26.out.trans (hb27.mono HB26.out.size))
        have AX27 := Lib.hid (AX26.out.below hb27 AX26.out.lies.lt)
        have AY27 := Lib.hid (AY26.out.below hb27 AY26.out.lies.lt)
        have RR27 := Lib.hid (RR26.out.below hb27)
        have RQ27 := Lib.hid (RQ26.out.below hb27)
        have RC27 := Lib.hid (RC26.out.below hb27)
        have RD27 := Lib.hid (RD26.out.below hb27)
        clear hb27
        dsimp only
        refine hK.out _ _ ⟨AX27.out.all, AY27.out.all⟩ (fun hHeld => ?_)
        clear hK K
        refine wpT 24 rfl hHeld ?_ (by intro W hSw; obtain ⟨⟨s0, s1, s2⟩, ⟨s3, s4, s5⟩⟩ := hSw; go_simp; (try with_reducible rfl))
        refine wpT 25 rfl hHeld ?_ (by intro W hSw; obtain ⟨⟨s0, s1, s2⟩, ⟨s3, s4, s5⟩⟩ := hSw; go_simp; (try with_reducible rfl))
        refine wpAnyH_ready (rs := [26]) (by kernel_rfl) (by simp) ?_
        refine AllReadyH.cons rfl (fun K hK => ?_) AllReadyH.nil
        rw [if_pos (by kernel_rfl)]
        go_simp
        go_at_call 6
        refine (awakeMg_any _).mono ?_
        rintro e w28 ⟨rfl, hb28⟩
        have HB28 := Lib.hid (HB27.out.trans (hb28.mono HB27.out.size))
        have AX28 := Lib.hid (AX27.out.below hb28 AX27.out.lies.lt)
        have AY28 := Lib.hid (AY27.out.below hb28 AY27.out.lies.lt)
        have RR28 := Lib.hid (RR27.out.below hb28)
        have RQ28 := Lib.hid (RQ27.out.below hb28)
        have RC28 := Lib.hid (RC27.out.below hb28)
        have RD28 := Lib.hid (RD27.out.below hb28)
        clear hb28
        dsimp only
        refine hK.out _ _ ⟨AX28.out.all, AY28.out.all⟩ (fun hHeld => ?_)
        clear hK K
        refine wpT 27 rfl hHeld ?_ (by intro W hSw; obtain ⟨⟨s0, s1, s2⟩, ⟨s3, s4, s5⟩⟩ := hSw; go_simp; (try with_reducible rfl))
        refine wpT 28 rfl hHeld ?_ (by intro W hSw; obtain ⟨⟨s0, s1, s2⟩, ⟨s3, s4, s5⟩⟩ := hSw; go_simp; (try with_reducible rfl))
        refine wpAnyH_done (by kernel_rfl) ?_ _
        clear hHeld
        go_wp2
        go_ret
        exact truly_of HB28.out)

end Go.Proofs.Ytgcjjlkjlabneaa
