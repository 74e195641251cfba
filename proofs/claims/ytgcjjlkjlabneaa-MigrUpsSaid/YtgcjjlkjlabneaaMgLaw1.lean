/- The law MigrUps. Written by a program. -/
import Derived.Test.YtgcjjlkjlabneaaMgAwake
import Derived.Test.YtgcjjlkjlabneaaMgSame
import Derived.Test.YtgcjjlkjlabneaaMgRef
import Derived.Test.YtgcjjlkjlabneaaMgRevs
import Derived.Test.YtgcjjlkjlabneaaTake
import Derived.Deep.RegionHeld
namespace Go.Proofs.Ytgcjjlkjlabneaa
open Go.RowKit

set_option maxRecDepth 4000 in
set_option maxHeartbeats 6400000 in
theorem migrUps_any (s : Mg.St) (vp vs : Value) (w : World) (hr : StR w s vp vs) (hc : s.Came) :
    Calls Try.prog 4 #[.agg (Mg.cells s.schema vp vs)] w (Truly w) := by
  obtain ⟨w1, e1, hx1, hB1, hz1⟩ := box_st w s s.schema vp vs hr
  have HX1 := Lib.hid hx1
  have HR1 := Lib.hid (hr.below hB1)
  have HB1 := Lib.hid hB1
  have hlarge := largeSt_any s vp vs w1 HR1.out hc.kv hc.ses
  obtain ⟨t, ht⟩ : ∃ t, t = Mg.large s := ⟨_, rfl⟩
  rw [← ht] at hlarge
  have HT := Lib.hid ht
  clear ht hx1 hB1 hz1 hr hc
  go_enter Try.func4, Try.ntmps4
  go_wp2_with (first | (refine load_st rfl _ rfl rfl HX1.out ?_; refine Hid.out ?_))
  refine Lib.hid ?_
  go_wp2_with fail
  refine hlarge.mono ?_
  rintro e w2 ⟨rfl, hb2⟩
  have HX2 := Lib.hid (HX1.out.below hb2 HX1.out.lies.lt)
  have HR2 := Lib.hid (HR1.out.below hb2)
  have HB2 := Lib.hid (HB1.out.trans (hb2.mono HB1.out.size))
  clear hb2 hlarge
  cases t with
  | true =>
    go_wp2_with fail
    refine (awakeMg_any _).mono ?_
    rintro e w3 ⟨rfl, hBw3⟩
    go_wp2
    go_ret
    exact truly_of (HB2.out.trans (hBw3.mono HB2.out.size))
  | false =>
    have HF := Lib.hid (Mg.few HT.out.symm)
    have hup := up_any s vp vs w2 HR2.out HF.out
    have hrc := fun W h => refCheckSt_any s vp vs W h HF.out
    have HNO := Lib.hid (fun h => Mg.up_no (s := s) h)
    have HLT := Lib.hid (fun h1 h2 => Mg.up_late (s := s) h1 h2)
    have HYS := Lib.hid (fun h1 h2 => Mg.up_yes (s := s) h1 h2)
    have HAG := Lib.hid (fun h1 h2 => Mg.up_again (s := s) h1 h2)
    have HCU := Lib.hid (fun h1 h2 => Mg.check_up (s := s) h1 h2)
    obtain ⟨b, hb⟩ : ∃ b, b = Mg.check s := ⟨_, rfl⟩
    rw [← hb] at hrc HNO HLT HYS HAG HCU
    obtain ⟨q, hq⟩ : ∃ q, q = Mg.up s := ⟨_, rfl⟩
    rw [← hq] at hup HNO HLT HYS
    have HUP := Lib.hid hup
    have HRC := Lib.hid hrc
    clear hup hrc hb hq
    go_wp2_with (first | (refine load_st rfl _ rfl rfl HX2.out ?_; refine Hid.out ?_))
    refine Lib.hid ?_
    go_wp2_with fail
    refine HUP.out.mono ?_
    rintro e w3 ⟨xp, xs, rfl, hp3, hs3, hb3⟩
    have HP3 := Lib.hid hp3
    have HS3 := Lib.hid hs3
    have HX3 := Lib.hid (HX2.out.below hb3 HX2.out.lies.lt)
    have HR3 := Lib.hid (HR2.out.below hb3)
    have HB3 := Lib.hid (HB2.out.trans (hb3.mono HB2.out.size))
    have HQ3 : Hid (StR w3 q.1 xp xs) := ⟨hp3.reads (Kv.sized _), hs3.reads (Se.sized _)⟩
    clear hp3 hs3 hb3
    go_wp2_with (first
      | (refine store_st (m := q.1.schema) (up := xp) (us := xs) rfl _ _ rfl (g := w3.heap.size) (n := 0) (vp := .slice none 0 0) (vs := .slice none 0 0) rfl ⟨Lies.new _ _ _, ⟨_, _, _, rfl⟩, ⟨_, _, _, rfl⟩⟩ HQ3.out.sl rfl ?_; intro w4 hx4 hg4
         have hB4 : Below w3.heap.size w3 w4 := ((Below.refl _ w3).alloc (Nat.le_refl _) _).grown hg4 (by simp) (by rintro j hj; cases hj; exact Nat.le_refl _)
         have HX4 := Lib.hid (HX3.out.below hB4 HX3.out.lies.lt)
         have HR4 := Lib.hid (HR3.out.below hB4)
         have HQ4 := Lib.hid (HQ3.out.below hB4)
         have HB4 := Lib.hid (HB3.out.trans (hB4.mono HB3.out.size))
         have HN4 : Hid (w3.heap.size < w4.heap.size) := hx4.lies.lt
         have HY4 := Lib.hid hx4
         clear hx4 hg4 hB4
         refine Hid.out ?_))
    refine Lib.hid ?_
    obtain ⟨gx, hgx⟩ : ∃ gx, gx = w3.heap.size := ⟨_, rfl⟩
    rw [← hgx] at HY4 ⊢
    clear hgx HP3 HS3 HX3 HR3 HB3 HQ3 HUP
    go_wp2_with (first | (refine load_st rfl _ rfl rfl HX4.out ?_; refine Hid.out ?_))
    refine Lib.hid ?_
    go_wp2_with fail
    refine (HRC.out w4 HR4.out).mono ?_
    rintro e w5 ⟨rfl, hb5⟩
    have HX5 := Lib.hid (HX4.out.below hb5 HX4.out.lies.lt)
    have HY5 := Lib.hid (HY4.out.below hb5 HY4.out.lies.lt)
    have HR5 := Lib.hid (HR4.out.below hb5)
    have HQ5 := Lib.hid (HQ4.out.below hb5)
    have HB5 := Lib.hid (HB4.out.trans (hb5.mono HB4.out.size))
    clear hb5 HX4 HY4 HR4 HQ4 HB4 HRC
    cases b with
    | false =>
      have hq := HNO.out rfl
      clear HNO HLT HYS HAG HCU
      subst hq
      dsimp only at *
      obtain ⟨y0, y1, y2⟩ := HY5.out.all
      have HSA := Lib.hid (sameSt_any Mg.zero Mg.zero xp xs (.slice none 0 0) (.slice none 0 0) w5 HQ5.out (StR.zero w5))
      rw [decide_eq_true rfl] at HSA
      go_wp2_with fail
      refine HSA.out.mono ?_
      rintro e w6 ⟨rfl, hb6⟩
      have HB6 := Lib.hid (HB5.out.trans (hb6.mono HB5.out.size))
      clear hb6 y0 y1 y2
      go_wp2_with fail
      refine (awakeMg_any _).mono ?_
      rintro e w7 ⟨rfl, hBw7⟩
      go_wp2
      go_ret
      exact truly_of (HB6.out.trans (hBw7.mono HB6.out.size))
    | true =>
      obtain ⟨s0, _, _⟩ := HX5.out.all
      by_cases h2 : s.schema = 2
      · have hq := HLT.out rfl h2
        have d2 : (s.schema == 2) = true := by simpa using h2
        clear HNO HLT HYS HAG HCU h2
        subst hq
        dsimp only at *
        obtain ⟨y0, y1, y2⟩ := HY5.out.all
        have HSA := Lib.hid (sameSt_any Mg.zero Mg.zero xp xs (.slice none 0 0) (.slice none 0 0) w5 HQ5.out (StR.zero w5))
        rw [decide_eq_true rfl] at HSA
        go_wp2_with fail
        refine HSA.out.mono ?_
        rintro e w6 ⟨rfl, hb6⟩
        have HB6 := Lib.hid (HB5.out.trans (hb6.mono HB5.out.size))
        clear hb6 y0 y1 y2
        go_wp2_with fail
        refine (awakeMg_any _).mono ?_
        rintro e w7 ⟨rfl, hBw7⟩
        go_wp2
        go_ret
        exact truly_of (HB6.out.trans (hBw7.mono HB6.out.size))
      · have hq := HYS.out rfl h2
        have hag := HAG.out rfl h2
        have HCK := Lib.hid (HCU.out rfl h2)
        have d2 : (s.schema == 2) = false := by simpa using h2
        clear HNO HLT HYS HAG HCU h2
        subst hq
        dsimp only at *
        have hup2 := up_any (Mg.revd s 2 1) xp xs w5 HQ5.out (Mg.few_revd 2 1 HF.out)
        rw [hag] at hup2
        have HUP2 := Lib.hid hup2
        clear hup2 hag
        go_wp2_with (first | (refine load_st rfl _ rfl rfl HY5.out ?_; refine Hid.out ?_))
        refine Lib.hid ?_
        clear s0
        go_wp2_with fail
        refine HUP2.out.mono ?_
        rintro e w6 ⟨zp, zs, rfl, hp6, hs6, hb6⟩
        have HX6 := Lib.hid (HX5.out.below hb6 HX5.out.lies.lt)
        have HY6 := Lib.hid (HY5.out.below hb6 HY5.out.lies.lt)
        have HR6 := Lib.hid (HR5.out.below hb6)
        have HQ6 := Lib.hid (HQ5.out.below hb6)
        have HB6 := Lib.hid (HB5.out.trans (hb6.mono HB5.out.size))
        have HZ6 : Hid ((∃ o k c, zp = .slice o k c) ∧ ∃ o k c, zs = .slice o k c) := ⟨hp6.sl, hs6.sl⟩
        clear hp6 hs6 hb6
        dsimp only
        go_wp2_with (first
          | (refine store_st (m := 0) (up := zp) (us := zs) rfl _ _ rfl (g := w6.heap.size) (n := 0) (vp := .slice none 0 0) (vs := .slice none 0 0) rfl ⟨Lies.new _ _ _, ⟨_, _, _, rfl⟩, ⟨_, _, _, rfl⟩⟩ HZ6.out rfl ?_; intro w7 hx7 hg7
             have hB7 : Below w6.heap.size w6 w7 := ((Below.refl _ w6).alloc (Nat.le_refl _) _).grown hg7 (by simp) (by rintro j hj; cases hj; exact Nat.le_refl _)
             have HX7 := Lib.hid (HX6.out.below hB7 HX6.out.lies.lt)
             have HY7 := Lib.hid (HY6.out.below hB7 HY6.out.lies.lt)
             have HR7 := Lib.hid (HR6.out.below hB7)
             have HQ7 := Lib.hid (HQ6.out.below hB7)
             have HB7 := Lib.hid (HB6.out.trans (hB7.mono HB6.out.size))
             clear hx7 hg7 hB7))
        clear HX6 HY6 HR6 HQ6 HB6 HX5 HY5 HR5 HQ5 HB5 HZ6 HUP2
        (try go_simp)
        refine wp_region_held_drew (S := fun W => (W.cell? ⟨w.heap.size, 0, none⟩ = some (.int .i64 s.schema) ∧ W.cell? ⟨w.heap.size, 1, none⟩ = some vp ∧ W.cell? ⟨w.heap.size, 2, none⟩ = some vs) ∧ (W.cell? ⟨gx, 0, none⟩ = some (.int .i64 2) ∧ W.cell? ⟨gx, 1, none⟩ = some xp ∧ W.cell? ⟨gx, 2, none⟩ = some xs)) (by kernel_rfl) (⟨HX7.out.all, HY7.out.all⟩) (fun hHeld => ?_)
        have hb8 := drawn w7 1
        have HB8 := Lib.hid (HB7.out.trans (hb8.mono HB7.out.size))
        have AX8 := Lib.hid (HX7.out.below hb8 HX7.out.lies.lt)
        have AY8 := Lib.hid (HY7.out.below hb8 HY7.out.lies.lt)
        have RR8 := Lib.hid (HR7.out.below hb8)
        have RQ8 := Lib.hid (HQ7.out.below hb8)
        clear hb8
        refine wpT 0 rfl hHeld ?_ (by intro W hSw; obtain ⟨⟨s0, s1, s2⟩, ⟨s3, s4, s5⟩⟩ := hSw; go_simp; (try with_reducible rfl))
        refine wpT 1 rfl hHeld ?_ (by intro W hSw; obtain ⟨⟨s0, s1, s2⟩, ⟨s3, s4, s5⟩⟩ := hSw; go_simp; (try with_reducible rfl))
        refine wpT 2 rfl hHeld ?_ (by intro W hSw; obtain ⟨⟨s0, s1, s2⟩, ⟨s3, s4, s5⟩⟩ := hSw; go_simp; (try with_reducible rfl))
        refine wpT 3 rfl hHeld ?_ (by intro W hSw; obtain ⟨⟨s0, s1, s2⟩, ⟨s3, s4, s5⟩⟩ := hSw; go_simp; (try with_reducible rfl))
        refine wpT 4 rfl hHeld ?_ (by intro W hSw; obtain ⟨⟨s0, s1, s2⟩, ⟨s3, s4, s5⟩⟩ := hSw; go_simp; (try with_reducible rfl))
        refine wpT 5 rfl hHeld ?_ (by intro W hSw; obtain ⟨⟨s0, s1, s2⟩, ⟨s3, s4, s5⟩⟩ := hSw; go_simp; (try with_reducible rfl))
        refine wpT 6 rfl hHeld ?_ (by intro W hSw; obtain ⟨⟨s0, s1, s2⟩, ⟨s3, s4, s5⟩⟩ := hSw; go_simp; (try with_reducible rfl))
        refine wpT 7 rfl hHeld ?_ (by intro W hSw; obtain ⟨⟨s0, s1, s2⟩, ⟨s3, s4, s5⟩⟩ := hSw; go_simp; (try with_reducible rfl))
        refine wpT 8 rfl hHeld ?_ (by intro W hSw; obtain ⟨⟨s0, s1, s2⟩, ⟨s3, s4, s5⟩⟩ := hSw; go_simp; (try with_reducible rfl))
        refine wpAnyH_ready (rs := [9]) (by kernel_rfl) (by simp) ?_
        refine AllReadyH.cons rfl (fun K hK => ?_) AllReadyH.nil
        rw [if_pos (by kernel_rfl)]
        go_simp
        go_at_call 13
        refine (revs_any s 2 1 vp vs _ RR8.out HF.out).mono ?_
        rintro e w11 h11
        obtain ⟨up11, us11, rfl, hr11, hb11⟩ := id h11
        have HB11 := Lib.hid (HB8.out.trans (hb11.mono HB8.out.size))
        have AX11 := Lib.hid (AX8.out.below hb11 AX8.out.lies.lt)
        have AY11 := Lib.hid (AY8.out.below hb11 AY8.out.lies.lt)
        have RR11 := Lib.hid (RR8.out.below hb11)
        have RQ11 := Lib.hid (RQ8.out.below hb11)
        have RV11 := Lib.hid hr11
        clear hr11 hb11 h11
        dsimp only
        refine hK.out _ _ ⟨AX11.out.all, AY11.out.all⟩ (fun hHeld => ?_)
        clear hK K
        refine wpAnyH_ready (rs := [10]) (by kernel_rfl) (by simp) ?_
        refine AllReadyH.cons rfl (fun K hK => ?_) AllReadyH.nil
        rw [if_pos (by kernel_rfl)]
        go_simp
        go_at_call 10
        refine (sameSt_any (Mg.revd s 2 1) (Mg.revd s 2 1) _ _ _ _ _ RQ11.out RV11.out).mono ?_
        rw [decide_eq_true rfl]
        rintro e w12 ⟨rfl, hb12⟩
        have HB12 := Lib.hid (HB11.out.trans (hb12.mono HB11.out.size))
        have AX12 := Lib.hid (AX11.out.below hb12 AX11.out.lies.lt)
        have AY12 := Lib.hid (AY11.out.below hb12 AY11.out.lies.lt)
        have RR12 := Lib.hid (RR11.out.below hb12)
        have RQ12 := Lib.hid (RQ11.out.below hb12)
        have RV12 := Lib.hid (RV11.out.below hb12)
        clear hb12
        dsimp only
        refine hK.out _ _ ⟨AX12.out.all, AY12.out.all⟩ (fun hHeld => ?_)
        clear hK K
        refine wpT 11 rfl hHeld ?_ (by intro W hSw; obtain ⟨⟨s0, s1, s2⟩, ⟨s3, s4, s5⟩⟩ := hSw; go_simp; (try with_reducible rfl))
        refine wpT 12 rfl hHeld ?_ (by intro W hSw; obtain ⟨⟨s0, s1, s2⟩, ⟨s3, s4, s5⟩⟩ := hSw; go_simp; (try with_reducible rfl))
        refine wpT 13 rfl hHeld ?_ (by intro W hSw; obtain ⟨⟨s0, s1, s2⟩, ⟨s3, s4, s5⟩⟩ := hSw; go_simp; (try with_reducible rfl))
        refine wpAnyH_ready (rs := [14]) (by kernel_rfl) (by simp) ?_
        refine AllReadyH.cons rfl (fun K hK => ?_) AllReadyH.nil
        rw [if_pos (by kernel_rfl)]
        go_simp
        go_at_call 7
        refine (refCheckSt_any (Mg.revd s 2 1) _ _ _ RQ12.out (Mg.few_revd 2 1 HF.out)).mono ?_
        rw [HCK.out]
        rintro e w13 ⟨rfl, hb13⟩
        have HB13 := Lib.hid (HB12.out.trans (hb13.mono HB12.out.size))
        have AX13 := Lib.hid (AX12.out.below hb13 AX12.out.lies.lt)
        have AY13 := Lib.hid (AY12.out.below hb13 AY12.out.lies.lt)
        have RR13 := Lib.hid (RR12.out.below hb13)
        have RQ13 := Lib.hid (RQ12.out.below hb13)
        have RV13 := Lib.hid (RV12.out.below hb13)
        clear hb13
        dsimp only
        refine hK.out _ _ ⟨AX13.out.all, AY13.out.all⟩ (fun hHeld => ?_)
        clear hK K
        refine wpT 15 rfl hHeld ?_ (by intro W hSw; obtain ⟨⟨s0, s1, s2⟩, ⟨s3, s4, s5⟩⟩ := hSw; go_simp; (try with_reducible rfl))
        refine wpT 16 rfl hHeld ?_ (by intro W hSw; obtain ⟨⟨s0, s1, s2⟩, ⟨s3, s4, s5⟩⟩ := hSw; go_simp; (try with_reducible rfl))
        refine wpT 17 rfl hHeld ?_ (by intro W hSw; obtain ⟨⟨s0, s1, s2⟩, ⟨s3, s4, s5⟩⟩ := hSw; go_simp; (try with_reducible rfl))
        refine wpT 19 rfl hHeld ?_ (by intro W hSw; obtain ⟨⟨s0, s1, s2⟩, ⟨s3, s4, s5⟩⟩ := hSw; go_simp; (try with_reducible rfl))
        refine wpAnyH_ready (rs := [18]) (by kernel_rfl) (by simp) ?_
        refine AllReadyH.cons rfl (fun K hK => ?_) AllReadyH.nil
        rw [if_pos (by kernel_rfl)]
        go_simp
        go_at_call 14
        refine (says_any (Mg.revd s 2 1) _ _ _ RQ13.out (Mg.few_revd 2 1 HF.out)).mono ?_
        rintro e w14 h14
        obtain ⟨up14, us14, rfl, hr14, hb14⟩ := MadeSt.gives _ _ h14
        have HB14 := Lib.hid (HB13.out.trans (hb14.mono HB13.out.size))
        have AX14 := Lib.hid (AX13.out.below hb14 AX13.out.lies.lt)
        have AY14 := Lib.hid (AY13.out.below hb14 AY13.out.lies.lt)
        have RR14 := Lib.hid (RR13.out.below hb14)
        have RQ14 := Lib.hid (RQ13.out.below hb14)
        have RV14 := Lib.hid (RV13.out.below hb14)
        have RE14 := Lib.hid hr14
        clear hr14 hb14 h14
        dsimp only
        refine hK.out _ _ ⟨AX14.out.all, AY14.out.all⟩ (fun hHeld => ?_)
        clear hK K
        refine wpAnyH_ready (rs := [20]) (by kernel_rfl) (by simp) ?_
        refine AllReadyH.cons rfl (fun K hK => ?_) AllReadyH.nil
        rw [if_pos (by kernel_rfl)]
        go_simp
        go_at_call 14
        refine (says_any s _ _ _ RR14.out HF.out).mono ?_
        rintro e w15 h15
        obtain ⟨up15, us15, rfl, hr15, hb15⟩ := MadeSt.gives _ _ h15
        have HB15 := Lib.hid (HB14.out.trans (hb15.mono HB14.out.size))
        have AX15 := Lib.hid (AX14.out.below hb15 AX14.out.lies.lt)
        have AY15 := Lib.hid (AY14.out.below hb15 AY14.out.lies.lt)
        have RR15 := Lib.hid (RR14.out.below hb15)
        have RQ15 := Lib.hid (RQ14.out.below hb15)
        have RV15 := Lib.hid (RV14.out.below hb15)
        have RE15 := Lib.hid (RE14.out.below hb15)
        have RD15 := Lib.hid hr15
        clear hr15 hb15 h15
        dsimp only
        refine hK.out _ _ ⟨AX15.out.all, AY15.out.all⟩ (fun hHeld => ?_)
        clear hK K
        refine wpAnyH_ready (rs := [21]) (by kernel_rfl) (by simp) ?_
        refine AllReadyH.cons rfl (fun K hK => ?_) AllReadyH.nil
        rw [if_pos (by kernel_rfl)]
        go_simp
        go_at_call 10
        refine (sameSt_any (Mg.revd (Mg.revd s 2 1) 0 0) (Mg.revd s 0 0) _ _ _ _ _ RE15.out RD15.out).mono ?_
        rw [Mg.revd_revd, decide_eq_true rfl]
        rintro e w16 ⟨rfl, hb16⟩
        have HB16 := Lib.hid (HB15.out.trans (hb16.mono HB15.out.size))
        have AX16 := Lib.hid (AX15.out.below hb16 AX15.out.lies.lt)
        have AY16 := Lib.hid (AY15.out.below hb16 AY15.out.lies.lt)
        have RR16 := Lib.hid (RR15.out.below hb16)
        have RQ16 := Lib.hid (RQ15.out.below hb16)
        have RV16 := Lib.hid (RV15.out.below hb16)
        have RE16 := Lib.hid (RE15.out.below hb16)
        have RD16 := Lib.hid (RD15.out.below hb16)
        clear hb16
        dsimp only
        refine hK.out _ _ ⟨AX16.out.all, AY16.out.all⟩ (fun hHeld => ?_)
        clear hK K
        refine wpT 22 rfl hHeld ?_ (by intro W hSw; obtain ⟨⟨s0, s1, s2⟩, ⟨s3, s4, s5⟩⟩ := hSw; go_simp; (try with_reducible rfl))
        refine wpT 23 rfl hHeld ?_ (by intro W hSw; obtain ⟨⟨s0, s1, s2⟩, ⟨s3, s4, s5⟩⟩ := hSw; go_simp; (try with_reducible rfl))
        refine wpT 24 rfl hHeld ?_ (by intro W hSw; obtain ⟨⟨s0, s1, s2⟩, ⟨s3, s4, s5⟩⟩ := hSw; go_simp; (try with_reducible rfl))
        refine wpT 26 rfl hHeld ?_ (by intro W hSw; obtain ⟨⟨s0, s1, s2⟩, ⟨s3, s4, s5⟩⟩ := hSw; go_simp; (try with_reducible rfl))
        refine wpAnyH_ready (rs := [25]) (by kernel_rfl) (by simp) ?_
        refine AllReadyH.cons rfl (fun K hK => ?_) AllReadyH.nil
        rw [if_pos (by kernel_rfl)]
        go_simp
        go_at_call 14
        refine (says_any s _ _ _ RR16.out HF.out).mono ?_
        rintro e w17 h17
        obtain ⟨up17, us17, rfl, hr17, hb17⟩ := MadeSt.gives _ _ h17
        have HB17 := Lib.hid (HB16.out.trans (hb17.mono HB16.out.size))
        have AX17 := Lib.hid (AX16.out.below hb17 AX16.out.lies.lt)
        have AY17 := Lib.hid (AY16.out.below hb17 AY16.out.lies.lt)
        have RR17 := Lib.hid (RR16.out.below hb17)
        have RQ17 := Lib.hid (RQ16.out.below hb17)
        have RV17 := Lib.hid (RV16.out.below hb17)
        have RE17 := Lib.hid (RE16.out.below hb17)
        have RD17 := Lib.hid (RD16.out.below hb17)
        have RG17 := Lib.hid hr17
        clear hr17 hb17 h17
        dsimp only
        refine hK.out _ _ ⟨AX17.out.all, AY17.out.all⟩ (fun hHeld => ?_)
        clear hK K
        refine wpAnyH_ready (rs := [27]) (by kernel_rfl) (by simp) ?_
        refine AllReadyH.cons rfl (fun K hK => ?_) AllReadyH.nil
        rw [if_pos (by kernel_rfl)]
        go_simp
        go_at_call 13
        refine (revs_any s 0 0 vp vs _ RR17.out HF.out).mono ?_
        rintro e w18 h18
        obtain ⟨up18, us18, rfl, hr18, hb18⟩ := id h18
        have HB18 := Lib.hid (HB17.out.trans (hb18.mono HB17.out.size))
        have AX18 := Lib.hid (AX17.out.below hb18 AX17.out.lies.lt)
        have AY18 := Lib.hid (AY17.out.below hb18 AY17.out.lies.lt)
        have RR18 := Lib.hid (RR17.out.below hb18)
        have RQ18 := Lib.hid (RQ17.out.below hb18)
        have RV18 := Lib.hid (RV17.out.below hb18)
        have RE18 := Lib.hid (RE17.out.below hb18)
        have RD18 := Lib.hid (RD17.out.below hb18)
        have RG18 := Lib.hid (RG17.out.below hb18)
        have RH18 := Lib.hid hr18
        clear hr18 hb18 h18
        dsimp only
        refine hK.out _ _ ⟨AX18.out.all, AY18.out.all⟩ (fun hHeld => ?_)
        clear hK K
        refine wpAnyH_ready (rs := [28]) (by kernel_rfl) (by simp) ?_
        refine AllReadyH.cons rfl (fun K hK => ?_) AllReadyH.nil
        rw [if_pos (by kernel_rfl)]
        go_simp
        go_at_call 10
        refine (sameSt_any (Mg.revd s 0 0) (Mg.revd s 0 0) _ _ _ _ _ RG18.out RH18.out).mono ?_
        rw [decide_eq_true rfl]
        rintro e w19 ⟨rfl, hb19⟩
        have HB19 := Lib.hid (HB18.out.trans (hb19.mono HB18.out.size))
        have AX19 := Lib.hid (AX18.out.below hb19 AX18.out.lies.lt)
        have AY19 := Lib.hid (AY18.out.below hb19 AY18.out.lies.lt)
        have RR19 := Lib.hid (RR18.out.below hb19)
        have RQ19 := Lib.hid (RQ18.out.below hb19)
        have RV19 := Lib.hid (RV18.out.below hb19)
        have RE19 := Lib.hid (RE18.out.below hb19)
        have RD19 := Lib.hid (RD18.out.below hb19)
        have RG19 := Lib.hid (RG18.out.below hb19)
        have RH19 := Lib.hid (RH18.out.below hb19)
        clear hb19
        dsimp only
        refine hK.out _ _ ⟨AX19.out.all, AY19.out.all⟩ (fun hHeld => ?_)
        clear hK K
        refine wpT 29 rfl hHeld ?_ (by intro W hSw; obtain ⟨⟨s0, s1, s2⟩, ⟨s3, s4, s5⟩⟩ := hSw; go_simp; (try with_reducible rfl))
        refine wpT 30 rfl hHeld ?_ (by intro W hSw; obtain ⟨⟨s0, s1, s2⟩, ⟨s3, s4, s5⟩⟩ := hSw; go_simp; (try with_reducible rfl))
        refine wpAnyH_ready (rs := [31]) (by kernel_rfl) (by simp) ?_
        refine AllReadyH.cons rfl (fun K hK => ?_) AllReadyH.nil
        rw [if_pos (by kernel_rfl)]
        go_simp
        go_at_call 6
        refine (awakeMg_any _).mono ?_
        rintro e w20 ⟨rfl, hb20⟩
        have HB20 := Lib.hid (HB19.out.trans (hb20.mono HB19.out.size))
        have AX20 := Lib.hid (AX19.out.below hb20 AX19.out.lies.lt)
        have AY20 := Lib.hid (AY19.out.below hb20 AY19.out.lies.lt)
        have RR20 := Lib.hid (RR19.out.below hb20)
        have RQ20 := Lib.hid (RQ19.out.below hb20)
        have RV20 := Lib.hid (RV19.out.below hb20)
        have RE20 := Lib.hid (RE19.out.below hb20)
        have RD20 := Lib.hid (RD19.out.below hb20)
        have RG20 := Lib.hid (RG19.out.below hb20)
        have RH20 := Lib.hid (RH19.out.below hb20)
        clear hb20
        dsimp only
        refine hK.out _ _ ⟨AX20.out.all, AY20.out.all⟩ (fun hHeld => ?_)
        clear hK K
        refine wpT 32 rfl hHeld ?_ (by intro W hSw; obtain ⟨⟨s0, s1, s2⟩, ⟨s3, s4, s5⟩⟩ := hSw; go_simp; (try with_reducible rfl))
        refine wpT 33 rfl hHeld ?_ (by intro W hSw; obtain ⟨⟨s0, s1, s2⟩, ⟨s3, s4, s5⟩⟩ := hSw; go_simp; (try with_reducible rfl))
        refine wpAnyH_done (by kernel_rfl) ?_ _
        clear hHeld
        go_wp2
        go_ret
        exact truly_of HB20.out

end Go.Proofs.Ytgcjjlkjlabneaa
