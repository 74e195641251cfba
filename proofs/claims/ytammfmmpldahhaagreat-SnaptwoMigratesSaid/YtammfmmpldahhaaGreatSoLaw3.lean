/- SnaptwoMigrates out of what the program's functions leave. Written by a program. -/
import Derived.Test.YtammfmmpldahhaaGreatGTf
import Derived.Test.YtammfmmpldahhaaGreatGSy
import Derived.Test.YtammfmmpldahhaaGreatTake
import Derived.Deep.RegionHeld
namespace Go.Proofs.YtammfmmpldahhaaGreat
open Go.RowKit

set_option maxRecDepth 4000 in
set_option maxHeartbeats 6400000 in
theorem snaptwoMigrates_any (hE : ∀ (s : Mg.St) (vp vs : Value) (w : World), StR w s vp vs → s.Few → Calls Tryz.prog 9 #[.agg (Mg.cells s.schema vp vs)] w (BytesSo w (Sn.enc2 s)))
    (hM : ∀ (v : Value) (b : List UInt8) (w : World), Reads w v b → b.length ≤ 1000000 → Calls Tryz.prog 16 #[v] w (BytesSo w (Sn.mig b)))
    (hG : ∀ (v : Value) (b : List UInt8) (w : World), Reads w v b → b.length ≤ 1000000 → Calls Tryz.prog 11 #[v] w (GetSo w b))
    (hS : ∀ (v : Value) (b : List UInt8) (w : World), Reads w v b → b.length ≤ 1000000 → Calls Tryz.prog 17 #[v] w (IsSn w b))
    (s : Mg.St) (vp vs v : Value) (b : List UInt8) (w : World) (hr : StR w s vp vs) (hc : s.Came) (hv : Reads w v b) :
    Calls Tryz.prog 5 #[.agg (Mg.cells s.schema vp vs), v] w (Truly w) := by
  obtain ⟨w1, e1, hx1, hB1, hz1⟩ := box_st w s s.schema vp vs hr
  have HX1 := Lib.hid hx1
  have HR1 := Lib.hid (hr.below hB1)
  have HV1 := Lib.hid (hv.below hB1)
  have HB1 := Lib.hid hB1
  have hlarge := largeSt_any s vp vs w1 HR1.out hc.kv hc.ses
  have HAW := Lib.hid (fun W => awakeSo_any hE hM W)
  have HG := Lib.hid hG
  have HM := Lib.hid hM
  have HS := Lib.hid hS
  obtain ⟨t, ht⟩ : ∃ t, t = Mg.large s := ⟨_, rfl⟩
  rw [← ht] at hlarge
  have HT := Lib.hid ht
  obtain ⟨ao, cap, rfl⟩ := hv.shape
  obtain ⟨n, hn⟩ : ∃ n, n = b.length := ⟨_, rfl⟩
  rw [← hn] at HV1 ⊢
  have HN := Lib.hid hn
  clear ht hn hx1 hB1 hz1 hr hv hc hE hM hG hS
  go_enter Tryz.func5, Tryz.ntmps5
  go_wp2_with (first | (refine load_st rfl _ rfl rfl HX1.out ?_; refine Hid.out ?_))
  refine Lib.hid ?_
  go_wp2_with fail
  refine hlarge.mono ?_
  rintro e w2 ⟨rfl, hb2⟩
  have HX2 := Lib.hid (HX1.out.below hb2 HX1.out.lies.lt)
  have HR2 := Lib.hid (HR1.out.below hb2)
  have HV2 := Lib.hid (HV1.out.below hb2)
  have HB2 := Lib.hid (HB1.out.trans (hb2.mono HB1.out.size))
  clear hb2 hlarge
  cases t with
  | true =>
    go_wp2_with fail
    refine (HAW.out _).mono ?_
    rintro e w3 ⟨rfl, hBz⟩
    go_wp2
    go_ret
    exact truly_of (HB2.out.trans (hBz.mono HB2.out.size))
  | false =>
    by_cases hl : 3000 < n
    · have d1 : decide (3000 < (n : Int)) = true := decide_eq_true (by omega)
      go_wp2_with fail
      refine (HAW.out _).mono ?_
      rintro e w3 ⟨rfl, hBz⟩
      go_wp2
      go_ret
      exact truly_of (HB2.out.trans (hBz.mono HB2.out.size))
    · have d1 : decide (3000 < (n : Int)) = false := decide_eq_false (by omega)
      have HF := Lib.hid (Mg.few HT.out.symm)
      have hlen : b.length ≤ 1000000 := by have := HN.out; omega
      have HMC := Lib.hid (HM.out _ b w2 HV2.out hlen)
      have HSC := Lib.hid (fun W h => HS.out (.slice ao n cap) b W h hlen)
      clear hl hlen HS
      unfold BytesSo at HMC
      unfold IsSn at HSC
      obtain ⟨q, hq⟩ : ∃ q, q = Sn.mig b := ⟨_, rfl⟩
      have hqn := fun h => hq.trans (Sn.mig_no (b := b) h)
      have hqy := fun h => hq.trans (Sn.mig_yes (b := b) h)
      rw [← hq] at HMC
      obtain ⟨d, hd⟩ : ∃ d, d = Sn.dec b := ⟨_, rfl⟩
      rw [← hd] at HSC hqn hqy
      obtain ⟨ql, qe⟩ := q
      have HQN := Lib.hid hqn
      have HQY := Lib.hid hqy
      clear hq hd hqn hqy
      dsimp only at HMC
      go_wp2_with fail
      refine HMC.out.mono ?_
      rintro e w3 ⟨v3, rfl, hr3, hb3⟩
      obtain ⟨bo, bcap, rfl⟩ := hr3.shape
      have HX3 := Lib.hid (HX2.out.below hb3 HX2.out.lies.lt)
      have HR3 := Lib.hid (HR2.out.below hb3)
      have HV3 := Lib.hid (HV2.out.below hb3)
      have HB3 := Lib.hid (HB2.out.trans (hb3.mono HB2.out.size))
      obtain ⟨k, hk⟩ : ∃ k, k = ql.length := ⟨_, rfl⟩
      rw [← hk]
      have HK := Lib.hid hk
      clear hr3 hb3 hk HMC
      have HSC3 := Lib.hid (HSC.out w3 HV3.out)
      clear HSC
      go_wp2_with fail
      refine HSC3.out.mono ?_
      rintro e w4 ⟨yp, ys, rfl, hx4, hb4⟩
      have HP4 := Lib.hid hx4
      have HX4 := Lib.hid (HX3.out.below hb4 HX3.out.lies.lt)
      have HR4 := Lib.hid (HR3.out.below hb4)
      have HB4 := Lib.hid (HB3.out.trans (hb4.mono HB3.out.size))
      clear hx4 hb4 HSC3
      go_wp2_with (first
      | (refine store_st (m := d.1.schema) (up := yp) (us := ys) rfl _ _ rfl (g := w4.heap.size) (n := 0) (vp := .slice none 0 0) (vs := .slice none 0 0) rfl ⟨Lies.new _ _ _, ⟨_, _, _, rfl⟩, ⟨_, _, _, rfl⟩⟩ HP4.out.sl rfl ?_; intro w5 hx5 hg5
         have hB5 : Below w4.heap.size w4 w5 := ((Below.refl _ w4).alloc (Nat.le_refl _) _).grown hg5 (by simp) (by rintro j hj; cases hj; exact Nat.le_refl _)
         have HX5 := Lib.hid (HX4.out.below hB5 HX4.out.lies.lt)
         have HR5 := Lib.hid (HR4.out.below hB5)
         have HB5 := Lib.hid (HB4.out.trans (hB5.mono HB4.out.size))
         have HZ5 := Lib.hid hx5
         clear hx5 hg5 hB5
         refine Hid.out ?_))
      refine Lib.hid ?_
      have hways : ((d.2 != 0) = true ∧ (d.2 == 0) = false ∧ qe = d.2 ∧ k = 0) ∨ ((d.2 != 0) = false ∧ (d.2 == 0) = true ∧ qe = 0) := by
        by_cases h0 : d.2 = 0
        · have := HQY.out h0
          simp only [Prod.mk.injEq] at this
          exact .inr ⟨by simpa using h0, by simpa using h0, this.2⟩
        · have := HQN.out h0
          simp only [Prod.mk.injEq] at this
          exact .inl ⟨by simpa using h0, by simpa using h0, this.2, by rw [HK.out, this.1]; rfl⟩
      have HRC := Lib.hid (refCheckSt_any s vp vs w5 HR5.out HF.out)
      have HMO := Lib.hid (fun h1 h2 => Sn.mig_of (s := s) h1 h2)
      have HCU := Lib.hid (fun h1 h2 => Mg.check_up (s := s) h1 h2)
      have HMID := Lib.hid (fun h => Sn.mid_of (s := s) h)
      have HLEN := Lib.hid (fun h => Sn.bytes_few (s := s) h)
      obtain ⟨c, hc⟩ : ∃ c, c = Mg.check s := ⟨_, rfl⟩
      rw [← hc] at HRC HMO HCU HMID HLEN
      obtain ⟨f, hf⟩ : ∃ f, f = d.2 := ⟨_, rfl⟩
      rw [← hf] at hways ⊢
      clear hc hf HQN HQY HK
      rcases hways with ⟨f1, f2, rfl, rfl⟩ | ⟨f1, f2, rfl⟩ <;> (
        go_wp2_with (first | (refine load_st rfl _ rfl rfl HX5.out ?_; refine Hid.out ?_))
        refine Lib.hid ?_
        go_wp2_with fail
        refine HRC.out.mono ?_
        rintro e w6 ⟨rfl, hb6⟩
        have HX6 := Lib.hid (HX5.out.below hb6 HX5.out.lies.lt)
        have HR6 := Lib.hid (HR5.out.below hb6)
        have HB6 := Lib.hid (HB5.out.trans (hb6.mono HB5.out.size))
        clear hb6 HRC
        obtain ⟨c0, c1, c2⟩ := HX6.out.all
        cases c with
        | false =>
          go_wp2_with fail
          refine (HAW.out _).mono ?_
          rintro e w7 ⟨rfl, hBz⟩
          go_wp2
          go_ret
          exact truly_of (HB6.out.trans (hBz.mono HB6.out.size))
        | true =>
          by_cases h1 : s.schema = 1
          · have g1 : (s.schema != 1) = false := by simpa using h1
            have HMO1 := Lib.hid (HMO.out rfl h1)
            have HCU1 := Lib.hid (HCU.out rfl (by omega))
            have hmid := (HMID.out rfl).1
            have HL1 := Lib.hid (HLEN.out rfl)
            have HL2 := Lib.hid (Sn.bytes_few HCU1.out)
            have HBY := Lib.hid (refSnBytes_any s vp vs w6 HR6.out hmid)
            clear h1 hmid HMO HCU HMID HLEN
            go_wp2_with fail
            refine HBY.out.mono ?_
            rintro e w7 ⟨v7, rfl, ho7, hb7⟩
            have HO7 := Lib.hid ho7.reads
            have HX7 := Lib.hid (HX6.out.below hb7 HX6.out.lies.lt)
            have HR7 := Lib.hid (HR6.out.below hb7)
            have HB7 := Lib.hid (HB6.out.trans (hb7.mono HB6.out.size))
            clear ho7 hb7 c0 c1 c2 HBY g1
            have hmc := HM.out _ _ w7 HO7.out HL1.out
            rw [HMO1.out] at hmc
            unfold BytesSo at hmc
            have HMC := Lib.hid hmc
            clear hmc HM
            go_wp2_with fail
            refine HMC.out.mono ?_
            rintro e w8 ⟨v8, rfl, hr8, hb8⟩
            have HV8 := Lib.hid hr8
            have HX8 := Lib.hid (HX7.out.below hb8 HX7.out.lies.lt)
            have HR8 := Lib.hid (HR7.out.below hb8)
            have HB8 := Lib.hid (HB7.out.trans (hb8.mono HB7.out.size))
            clear hr8 hb8 HMC
            dsimp only at HV8 ⊢
            have HGC := Lib.hid (HG.out _ _ w8 HV8.out HL2.out)
            clear HG
            go_wp2_with fail
            refine HGC.out.mono ?_
            rintro e w9 ⟨x, er, xp, xs, rfl, hx9, hb9, hget⟩
            obtain ⟨rfl, hxx⟩ := hget.back (Mg.revd s 2 1) HCU1.out rfl
            subst hxx
            have HQ9 := Lib.hid hx9
            have HX9 := Lib.hid (HX8.out.below hb9 HX8.out.lies.lt)
            have HR9 := Lib.hid (HR8.out.below hb9)
            have HB9 := Lib.hid (HB8.out.trans (hb9.mono HB8.out.size))
            clear hx9 hb9 hget HGC
            go_wp2_with (first
            | (refine store_st (m := 2) (up := xp) (us := xs) rfl _ _ rfl (g := w9.heap.size) (n := 0) (vp := .slice none 0 0) (vs := .slice none 0 0) rfl ⟨Lies.new _ _ _, ⟨_, _, _, rfl⟩, ⟨_, _, _, rfl⟩⟩ HQ9.out.sl rfl ?_; intro w10 hx10 hg10
               have hB10 : Below w9.heap.size w9 w10 := ((Below.refl _ w9).alloc (Nat.le_refl _) _).grown hg10 (by simp) (by rintro j hj; cases hj; exact Nat.le_refl _)
               have HX10 := Lib.hid (HX9.out.below hB10 HX9.out.lies.lt)
               have HR10 := Lib.hid (HR9.out.below hB10)
               have HQ10 := Lib.hid (HQ9.out.below hB10)
               have HB10 := Lib.hid (HB9.out.trans (hB10.mono HB9.out.size))
               have HZ10 := Lib.hid hx10
               clear hx10 hg10 hB10))
            obtain ⟨gx, hgx⟩ : ∃ gx, gx = w9.heap.size := ⟨_, rfl⟩
            rw [← hgx] at HZ10 ⊢
            clear hgx HX9 HR9 HB9 HQ9 HX8 HR8 HB8 HV8 HX7 HR7 HB7 HX6 HR6 HB6 HX5 HR5 HB5 HX4 HR4 HB4 HX3 HR3 HB3 HX2 HR2 HB2 HX1 HR1 HB1
            (try go_simp)
            refine wp_region_held_drew (S := fun W => (W.cell? ⟨w.heap.size, 0, none⟩ = some (.int .i64 s.schema) ∧ W.cell? ⟨w.heap.size, 1, none⟩ = some vp ∧ W.cell? ⟨w.heap.size, 2, none⟩ = some vs) ∧ (W.cell? ⟨gx, 0, none⟩ = some (.int .i64 2) ∧ W.cell? ⟨gx, 1, none⟩ = some xp ∧ W.cell? ⟨gx, 2, none⟩ = some xs)) (by kernel_rfl) (⟨HX10.out.all, HZ10.out.all⟩) (fun hHeld => ?_)
            have hb11 := drawn w10 1
            have HB11 := Lib.hid (HB10.out.trans (hb11.mono HB10.out.size))
            have AX11 := Lib.hid (HX10.out.below hb11 HX10.out.lies.lt)
            have AY11 := Lib.hid (HZ10.out.below hb11 HZ10.out.lies.lt)
            have RR11 := Lib.hid (HR10.out.below hb11)
            have RQ11 := Lib.hid (HQ10.out.below hb11)
            clear hb11
            refine wpT 0 rfl hHeld ?_ (by intro W hSw; obtain ⟨⟨s0, s1, s2⟩, ⟨s3, s4, s5⟩⟩ := hSw; go_simp; (try with_reducible rfl))
            refine wpT 1 rfl hHeld ?_ (by intro W hSw; obtain ⟨⟨s0, s1, s2⟩, ⟨s3, s4, s5⟩⟩ := hSw; go_simp; (try with_reducible rfl))
            refine wpT 2 rfl hHeld ?_ (by intro W hSw; obtain ⟨⟨s0, s1, s2⟩, ⟨s3, s4, s5⟩⟩ := hSw; go_simp; (try with_reducible rfl))
            refine wpT 3 rfl hHeld ?_ (by intro W hSw; obtain ⟨⟨s0, s1, s2⟩, ⟨s3, s4, s5⟩⟩ := hSw; go_simp; (try with_reducible rfl))
            refine wpT 4 rfl hHeld ?_ (by intro W hSw; obtain ⟨⟨s0, s1, s2⟩, ⟨s3, s4, s5⟩⟩ := hSw; go_simp; (try with_reducible rfl))
            refine wpT 5 rfl hHeld ?_ (by intro W hSw; obtain ⟨⟨s0, s1, s2⟩, ⟨s3, s4, s5⟩⟩ := hSw; go_simp; (try with_reducible rfl))
            refine wpT 6 rfl hHeld ?_ (by intro W hSw; obtain ⟨⟨s0, s1, s2⟩, ⟨s3, s4, s5⟩⟩ := hSw; go_simp; (try with_reducible rfl))
            refine wpT 7 rfl hHeld ?_ (by intro W hSw; obtain ⟨⟨s0, s1, s2⟩, ⟨s3, s4, s5⟩⟩ := hSw; go_simp; (try with_reducible rfl))
            refine wpT 8 rfl hHeld ?_ (by intro W hSw; obtain ⟨⟨s0, s1, s2⟩, ⟨s3, s4, s5⟩⟩ := hSw; go_simp; (try with_reducible rfl))
            refine wpAnyH_ready (rs := [9]) (by kernel_rfl) (by simp) ?_
            refine AllReadyH.cons rfl (fun K hK => ?_) AllReadyH.nil
            rw [if_pos (by kernel_rfl)]
            go_simp
            go_at_call 18
            refine (revs_any s 2 1 vp vs _ RR11.out HF.out).mono ?_
            rintro e w11 h11
            obtain ⟨up11, us11, rfl, hr11, hb11⟩ := id h11
            have HB11 := Lib.hid (HB11.out.trans (hb11.mono HB11.out.size))
            have AX11 := Lib.hid (AX11.out.below hb11 AX11.out.lies.lt)
            have AY11 := Lib.hid (AY11.out.below hb11 AY11.out.lies.lt)
            have RR11 := Lib.hid (RR11.out.below hb11)
            have RQ11 := Lib.hid (RQ11.out.below hb11)
            have RV11 := Lib.hid hr11
            clear hr11 hb11 h11
            dsimp only
            refine hK.out _ _ ⟨AX11.out.all, AY11.out.all⟩ (fun hHeld => ?_)
            clear hK K
            refine wpAnyH_ready (rs := [10]) (by kernel_rfl) (by simp) ?_
            refine AllReadyH.cons rfl (fun K hK => ?_) AllReadyH.nil
            rw [if_pos (by kernel_rfl)]
            go_simp
            go_at_call 14
            refine (sameSt_any (Mg.revd s 2 1) (Mg.revd s 2 1) _ _ _ _ _ RQ11.out RV11.out).mono ?_
            rw [decide_eq_true rfl]
            rintro e w12 ⟨rfl, hb12⟩
            have HB12 := Lib.hid (HB11.out.trans (hb12.mono HB11.out.size))
            have AX12 := Lib.hid (AX11.out.below hb12 AX11.out.lies.lt)
            have AY12 := Lib.hid (AY11.out.below hb12 AY11.out.lies.lt)
            have RR12 := Lib.hid (RR11.out.below hb12)
            have RQ12 := Lib.hid (RQ11.out.below hb12)
            have RV12 := Lib.hid (RV11.out.below hb12)
            clear hb12
            dsimp only
            refine hK.out _ _ ⟨AX12.out.all, AY12.out.all⟩ (fun hHeld => ?_)
            clear hK K
            refine wpT 11 rfl hHeld ?_ (by intro W hSw; obtain ⟨⟨s0, s1, s2⟩, ⟨s3, s4, s5⟩⟩ := hSw; go_simp; (try with_reducible rfl))
            refine wpT 12 rfl hHeld ?_ (by intro W hSw; obtain ⟨⟨s0, s1, s2⟩, ⟨s3, s4, s5⟩⟩ := hSw; go_simp; (try with_reducible rfl))
            refine wpAnyH_ready (rs := [13]) (by kernel_rfl) (by simp) ?_
            refine AllReadyH.cons rfl (fun K hK => ?_) AllReadyH.nil
            rw [if_pos (by kernel_rfl)]
            go_simp
            go_at_call 7
            refine (HAW.out _).mono ?_
            rintro e w13 ⟨rfl, hb13⟩
            have HB13 := Lib.hid (HB12.out.trans (hb13.mono HB12.out.size))
            have AX13 := Lib.hid (AX12.out.below hb13 AX12.out.lies.lt)
            have AY13 := Lib.hid (AY12.out.below hb13 AY12.out.lies.lt)
            have RR13 := Lib.hid (RR12.out.below hb13)
            have RQ13 := Lib.hid (RQ12.out.below hb13)
            have RV13 := Lib.hid (RV12.out.below hb13)
            clear hb13
            dsimp only
            refine hK.out _ _ ⟨AX13.out.all, AY13.out.all⟩ (fun hHeld => ?_)
            clear hK K
            refine wpT 14 rfl hHeld ?_ (by intro W hSw; obtain ⟨⟨s0, s1, s2⟩, ⟨s3, s4, s5⟩⟩ := hSw; go_simp; (try with_reducible rfl))
            refine wpT 15 rfl hHeld ?_ (by intro W hSw; obtain ⟨⟨s0, s1, s2⟩, ⟨s3, s4, s5⟩⟩ := hSw; go_simp; (try with_reducible rfl))
            refine wpAnyH_done (by kernel_rfl) ?_ _
            clear hHeld
            go_wp2
            go_ret
            exact truly_of HB13.out
          · have g1 : (s.schema != 1) = true := by simpa using h1
            clear h1
            go_wp2_with fail
            refine (HAW.out _).mono ?_
            rintro e w7 ⟨rfl, hBz⟩
            go_wp2
            go_ret
            exact truly_of (HB6.out.trans (hBz.mono HB6.out.size)))

end Go.Proofs.YtammfmmpldahhaaGreat
