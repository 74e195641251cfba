/- Several texts of mine in one: SoDec SoDec2 SnDec2 SoGet. -/
import Derived.Test.YtammfmmpldahhaaGreatGTc
import Derived.Test.YtammfmmpldahhaaGreatGTd
import Derived.Test.YtammfmmpldahhaaGreatGTa
namespace Go.Proofs.YtammfmmpldahhaaGreat
open Go.RowKit

/-- What the reading of a state of schema 2 gives. -/
def StGot2 (w : World) (B o : Nat) (u : Value) (b : List UInt8) (t : (List Kv.Item × List Se.Ses) × Nat × Int) (e : Ending) (w' : World) : Prop :=
  ∃ vp vs, e = .returned (.agg (Mg.cells 2 vp vs)) ∧ LstK o w' vp t.1.1 ∧ LstS o w' vs t.1.2 ∧ Rdr w' B o u b t.2.1 t.2.2 ∧ Below B w w'

theorem Lc.count_num (b : List UInt8) (p : Nat) (er most : Int) (hp : p ≤ b.length) (hm : 0 ≤ most ∧ most ≤ 1000) : ∃ (n : Nat) (q : Nat) (e : Int), Lc.count b p er most = ((n : Int), (q : Int), e) ∧ (e ≠ 0 → (n : Int) = 0) ∧ n ≤ 1000 := by
  rcases Lc.count_cases b p er most hp with ⟨e, q, he, _, h⟩ | ⟨n, q, _, _, hn, h, _⟩
  · exact ⟨0, q, e, h, fun _ => rfl, by omega⟩
  · exact ⟨n, q, 0, h, fun h => absurd rfl h, by omega⟩
theorem Lc.get_num {α : Type} (g : Lc.Get α) {b : List UInt8} {p : Nat} {er most : Int} {n q : Nat} {e : Int} (h : Lc.count b p er most = ((n : Int), (q : Int), e)) : Lc.get g most b p er = Lc.gets g b q e n := by
  unfold Lc.get
  rw [h]
  simp only [Int.toNat_natCast]

set_option maxRecDepth 4000 in
set_option maxHeartbeats 3200000 in
theorem readState2_any (w : World) (B o : Nat) (u : Value) (b : List UInt8) (p : Nat) (er : Int) (hr : Rdr w B o u b p er) (hB : B ≤ w.heap.size) :
    Calls Tryz.prog 37 #[.pointer (some ⟨o, 0, none⟩)] w (StGot2 w B o u b (Sn.read 2 Sn.big2 b p er)) := by
  have ho := hr.lies.lt
  obtain ⟨t, ht⟩ : ∃ t, t = Sn.read 2 Sn.big2 b p er := ⟨_, rfl⟩
  rw [← ht]
  unfold Sn.read at ht
  dsimp only at ht
  have HT := Lib.hid ht
  obtain ⟨n, q, e, hq, hx, hn⟩ := Lc.count_num b p er 64 hr.inn (by omega)
  have HQ := Lib.hid hq
  have HGN := Lib.hid (Lc.get_num (Sn.getP 2 Sn.big2) hq)
  clear ht hq
  have hmf : ∀ (fn : Fn) (first cap : Array Value) (w : World), (Instr.makeFunc fn first cap).run Tryz.prog w = .ok (.func fn first cap) w := fun _ _ _ _ => rfl
  obtain ⟨w1, e1, hc1, hB1, hz1⟩ : ∃ w1, w.alloc (.cells #[.pointer (some ⟨o, 0, none⟩)] 56) = w1 ∧ CapR w1 w.heap.size o ∧ Below w.heap.size w w1 ∧ w1.heap.size = w.heap.size + 1 :=
    ⟨_, rfl, Lies.new _ _ _, (Below.refl _ w).alloc (Nat.le_refl _) _, by simp⟩
  obtain ⟨w2, e2, hx2, hB2, hz2⟩ := box_st0 w1
  have HX2 := Lib.hid hx2; have HC2 := Lib.hid (hc1.below hB2 (by omega))
  have HB2 := Lib.hid ((hB1.mono hB).trans (hB2.mono (by omega)))
  have HR2 := Lib.hid ((hr.kept hB1).kept hB2)
  have HZS : Hid (w2.heap.size = w.heap.size + 2 ∧ w1.heap.size = w.heap.size + 1) := ⟨by omega, hz1⟩
  clear hx2 hc1 hB1 hB2 hz1 hz2 hr
  dsimp only [Mg.cells] at e2
  go_enter Tryz.func37, Tryz.ntmps37
  go_wp2_with (first
    | (refine store_st (m := 2) (up := .slice none 0 0) (us := .slice none 0 0) rfl _ _ rfl (g := w2.heap.size) (n := 0) (vp := .slice none 0 0) (vs := .slice none 0 0) rfl ⟨Lies.new _ _ _, ⟨_, _, _, rfl⟩, ⟨_, _, _, rfl⟩⟩ ⟨⟨_, _, _, rfl⟩, ⟨_, _, _, rfl⟩⟩ rfl ?_; intro w3 hx3 hg3
       have hB3 : Below w2.heap.size w2 w3 := ((Below.refl _ w2).alloc (Nat.le_refl _) _).grown hg3 (by simp) (by rintro j hj; cases hj; exact Nat.le_refl _)
       have HX3 := Lib.hid (HX2.out.below hB3 HX2.out.lies.lt)
       have HC3 := Lib.hid (HC2.out.below hB3 HC2.out.lt)
       have HR3 := Lib.hid (HR2.out.kept hB3)
       have HB3 := Lib.hid (HB2.out.trans (hB3.mono (by have := HZS.out; omega)))
       have HY3 := Lib.hid hx3
       have C3 := HC3.out.cell 0 _ rfl
       clear hx3 hg3 hB3)
    | fail)
  refine (rcountL_any 64 _ B o u b p er n q e HR3.out hx HQ).mono ?_
  rintro e4 w4 ⟨rfl, hr4, hg4⟩
  have HR4 := Lib.hid hr4
  have HX4 := Lib.hid (HX3.out.kept hg4 (by have := HZS.out; omega)); have HY4 := Lib.hid (HY3.out.kept hg4 (by have := HZS.out; omega))
  have HC4 := Lib.hid (Lies.kept HC3.out hg4 (by have := HZS.out; simp; omega))
  have HB4 := Lib.hid (HB3.out.grown hg4 (Nat.le_trans hB HB3.out.size) (by rintro x hx; cases hx; exact hr4.base))
  have hz4 : w.heap.size + 2 < w4.heap.size := by have := HY4.out.lies.lt; have := HZS.out; omega
  clear hr4 hg4 C3 hx HQ HX3 HY3 HC3 HB3 HR3 HX2 HC2 HB2 HR2
  go_wp2_with fail
  refine (fillK_any w4 B o u b q e n HR4.out (by have := HZS.out; omega) w.heap.size HC4.out hn).mono ?_
  rw [← HGN.out]
  rintro e5 w5 ⟨v5, rfl, hk5, hr5, hb5, hs5⟩
  obtain ⟨P, hP⟩ : ∃ P, P = Lc.get (Sn.getP 2 Sn.big2) 64 b p er := ⟨_, rfl⟩
  rw [← hP] at hk5 hr5 HT
  obtain ⟨po, pc, hv5⟩ := hk5.shape
  have HK5 := Lib.hid hk5
  have HR5 := Lib.hid hr5
  have HB5 := Lib.hid (HB4.out.trans hb5)
  have HX5 : Hid (StAt w5 w1.heap.size 0 (.slice none 0 0) (.slice none 0 0)) := ⟨hs5 _ _ _ (by have := HZS.out; omega) HX4.out.lies, HX4.out.vp, HX4.out.vs⟩
  have HY5 : Hid (StAt w5 w2.heap.size 2 (.slice none 0 0) (.slice none 0 0)) := ⟨hs5 _ _ _ (by have := HZS.out; omega) HY4.out.lies, HY4.out.vp, HY4.out.vs⟩
  have HC5 := Lib.hid (hs5 _ _ _ (by have := HZS.out; omega) HC4.out)
  have hz5 : w.heap.size + 2 < w5.heap.size := by have := HY5.out.lies.lt; have := HZS.out; omega
  obtain ⟨n2, q2, f2, hq2, hx2, hn2⟩ := Lc.count_num b P.2.1 P.2.2 8 hr5.inn (by have := HZS.out; omega)
  have HQ2 := Lib.hid hq2
  have HGN2 := Lib.hid (Lc.get_num (Sn.getS 2) hq2)
  obtain ⟨pn, hpn⟩ : ∃ k, k = P.1.length := ⟨_, rfl⟩
  rw [← hpn] at hv5
  clear hk5 hr5 hb5 hs5 hP hpn hq2 HGN HX4 HY4 HC4 HB4 HR4
  subst hv5
  go_wp2_with (first
    | (refine store_pairs rfl _ _ rfl po pn pc rfl rfl HY5.out ?_; intro w6 hy6 hg6
       have HY6 := Lib.hid hy6
       have HX6 := Lib.hid (HX5.out.kept hg6 (by have := HZS.out; omega))
       have HC6 := Lib.hid (Lies.kept HC5.out hg6 (by have := HZS.out; simp; omega))
       have HK6 := Lib.hid (HK5.out.kept HY5.out.lies (by decide) hg6)
       have HR6 := Lib.hid (HR5.out.beside' hg6 (by have := HZS.out; omega) (fun h => HY5.out.lies.not_row (by decide) HR5.out.owns h.symm))
       have HB6 := Lib.hid (HB5.out.grown hg6 (by have := HZS.out; omega) (by rintro x hx; cases hx; have := HZS.out; omega))
       have C6 := HC6.out.cell 0 _ rfl
       clear hy6 hg6)
    | fail)
  refine (rcountL_any 8 _ B o u b P.2.1 P.2.2 n2 q2 f2 HR6.out hx2 HQ2).mono ?_
  rintro e7 w7 ⟨rfl, hr7, hg7⟩
  have HR7 := Lib.hid hr7
  have HX7 := Lib.hid (HX6.out.kept hg7 (by have := HZS.out; omega)); have HY7 := Lib.hid (HY6.out.kept hg7 (by have := HZS.out; omega))
  have HC7 := Lib.hid (Lies.kept HC6.out hg7 (by have := HZS.out; simp; omega))
  have HK7 := Lib.hid (HK6.out.saves (SavesS.of_grown hg7))
  have hz6 : w.heap.size + 2 < w6.heap.size := by have := HY6.out.lies.lt; have := HZS.out; omega
  have HB7 := Lib.hid (HB6.out.grown hg7 (by have := HZS.out; omega) (by rintro x hx; cases hx; exact hr7.base))
  have hz7 : w.heap.size + 2 < w7.heap.size := by have := HY7.out.lies.lt; have := HZS.out; omega
  clear hr7 hg7 C6 hx2 HQ2 HX5 HY5 HC5 HB5 HR5 HK5 HX6 HY6 HC6 HB6 HR6 HK6
  go_wp2_with fail
  refine (fillS_any w7 B o u b q2 f2 n2 HR7.out (by have := HZS.out; omega) w.heap.size HC7.out hn2).mono ?_
  rw [← HGN2.out]
  rintro e8 w8 ⟨v8, rfl, hk8, hr8, hb8, hs8⟩
  obtain ⟨Z, hZ⟩ : ∃ Z, Z = Lc.get (Sn.getS 2) 8 b P.2.1 P.2.2 := ⟨_, rfl⟩
  rw [← hZ] at hk8 hr8 HT
  obtain ⟨so, sc, hv8⟩ := hk8.shape
  have HM8 := Lib.hid hk8
  have HK8 := Lib.hid (HK7.out.saves hs8)
  have HR8 := Lib.hid hr8
  have HB8 := Lib.hid (HB7.out.trans hb8)
  have HX8 : Hid (StAt w8 w1.heap.size 0 (.slice none 0 0) (.slice none 0 0)) := ⟨hs8 _ _ _ (by have := HZS.out; omega) HX7.out.lies, HX7.out.vp, HX7.out.vs⟩
  have HY8 : Hid (StAt w8 w2.heap.size 2 (.slice po pn pc) (.slice none 0 0)) := ⟨hs8 _ _ _ (by have := HZS.out; omega) HY7.out.lies, HY7.out.vp, HY7.out.vs⟩
  have hz8 : w.heap.size + 2 < w8.heap.size := by have := HY8.out.lies.lt; have := HZS.out; omega
  obtain ⟨sn, hsn⟩ : ∃ k, k = Z.1.length := ⟨_, rfl⟩
  rw [← hsn] at hv8
  clear hk8 hr8 hb8 hs8 hZ hsn HGN2 HX7 HY7 HC7 HB7 HR7 HK7
  subst hv8
  go_wp2_with (first
    | (refine store_sess rfl _ _ rfl so sn sc rfl rfl HY8.out ?_; intro w9 hy9 hg9
       have HY9 := Lib.hid hy9
       have HX9 := Lib.hid (HX8.out.kept hg9 (by have := HZS.out; omega))
       have HK9 := Lib.hid (HK8.out.kept HY8.out.lies (by decide) hg9)
       have HM9 := Lib.hid (HM8.out.kept HY8.out.lies (by decide) hg9)
       have HR9 := Lib.hid (HR8.out.beside' hg9 (by have := HZS.out; omega) (fun h => HY8.out.lies.not_row (by decide) HR8.out.owns h.symm))
       have HB9 := Lib.hid (HB8.out.grown hg9 (by have := HZS.out; omega) (by rintro x hx; cases hx; have := HZS.out; omega))
       have hz9 : w.heap.size + 2 < w9.heap.size := by have := HY9.out.lies.lt; have := HZS.out; omega
       clear hy9 hg9
       refine Hid.out ?_)
    | fail)
  refine Lib.hid ?_
  clear HY8 HX8 HK8 HM8 HR8 HB8
  go_wp2_with (first
    | (refine load_st rfl _ rfl rfl HY9.out ?_)
    | (refine store_st (m := 2) (up := .slice po pn pc) (us := .slice so sn sc) rfl _ _ rfl rfl HX9.out ⟨⟨_, _, _, rfl⟩, ⟨_, _, _, rfl⟩⟩ rfl ?_; intro w10 hx10 hg10; have HX10 := Lib.hid hx10; have HG10 := Lib.hid hg10; clear hx10 hg10)
    | fail)
  refine ret_st1 rfl rfl HX10.out rfl ?_
  rw [HT.out]
  exact ⟨_, _, rfl, HK9.out.kept HX9.out.lies (by decide) HG10.out, HM9.out.kept HX9.out.lies (by decide) HG10.out,
    HR9.out.beside' HG10.out (by have := HZS.out; omega) (fun h => HX9.out.lies.not_row (by decide) HR9.out.owns h.symm), HB9.out.grown HG10.out (by have := HZS.out; omega) (by rintro x hx; cases hx; have := HZS.out; omega)⟩

set_option maxRecDepth 4000 in
set_option maxHeartbeats 1600000 in
theorem readSchema2_any (w : World) (B o : Nat) (u : Value) (b : List UInt8) (n : Int) (q : Nat) (f : Int) (hr : Rdr w B o u b 0 0) (y : f ≠ 0 → n = 0) (h : Hid (Sn.rnm 2 b 0 0 = (n, (q : Int), f))) :
    Calls Tryz.prog 36 #[.pointer (some ⟨o, 0, none⟩)] w (Gave w B o u b q f (.int .i64 (if f ≠ 0 then f else if n ≠ 2 then 3 else 0))) := by
  obtain ⟨E, hE, hk⟩ : ∃ E, (if f ≠ 0 then f else if n ≠ 2 then 3 else 0) = E ∧ ((f != 0) = true ∧ E = f ∨ (f != 0) = false ∧ (n != 2) = false ∧ E = 0 ∨ (f != 0) = false ∧ (n != 2) = true ∧ E = 3) := by
    refine ⟨_, rfl, ?_⟩
    by_cases h0 : f = 0
    · rw [if_neg (by simpa using h0)]
      by_cases h1 : n = 2
      · exact .inr (.inl ⟨by simpa using h0, by simpa using h1, if_neg (by simpa using h1)⟩)
      · exact .inr (.inr ⟨by simpa using h0, by simpa using h1, if_pos h1⟩)
    · exact .inl ⟨by simpa using h0, if_pos h0⟩
  rw [hE]
  have HR := Lib.hid hr
  have HH := Lib.hid h.out
  clear hr hE h
  go_enter Tryz.func36, Tryz.ntmps36
  go_wp2_with fail
  refine (rnumL_any 2 _ B o u b 0 0 n q f HR.out y HH).mono ?_
  rintro e v3 ⟨rfl, hr3, hg3⟩
  have HR3 := Lib.hid hr3
  have HG3 := Lib.hid hg3
  clear hr3 hg3 HR y HH
  go_wp2_with fail
  refine (rerr_any _ B o u b q f HR3.out).mono ?_
  rintro e w5 ⟨rfl, rfl⟩
  rcases hk with ⟨d0, rfl⟩ | ⟨d0, d1, rfl⟩ | ⟨d0, d1, rfl⟩ <;> (
    go_wp2
    go_ret
    exact ⟨rfl, HR3.out, HG3.out⟩)

end Go.Proofs.YtammfmmpldahhaaGreat


namespace Go.Proofs.YtammfmmpldahhaaGreat
open Go.RowKit

set_option maxRecDepth 4000 in
set_option maxHeartbeats 3200000 in
theorem decSo_is (v : Value) (b : List UInt8) (w : World) (hv : Reads w v b) (hb : b.length ≤ 1000000) : Calls Tryz.prog 15 #[v] w (IsSo w b) := by
  unfold IsSo
  obtain ⟨w1, e1, hx1, hB1, hz1⟩ := box_st0 w
  have HX1 := Lib.hid hx1
  have HB1 := Lib.hid hB1
  have HV1 := Lib.hid (hv.below hB1)
  have hz1' : w.heap.size + 1 = w1.heap.size := hz1.symm
  have hfew := fun h : (Sn.rd2 b).2 = 0 => Sn.few_of (Sn.rd2_ok h).2 hb
  obtain ⟨D, hD⟩ : ∃ D, D = Sn.dec2 b := ⟨_, rfl⟩
  rw [← hD]
  have HNO := Lib.hid (fun h => hD.trans (Sn.dec2_no (b := b) h))
  have HFO := Lib.hid (fun h hc => hD.trans (Sn.dec2_form (b := b) h hc))
  have HYS := Lib.hid (fun h hc => hD.trans (Sn.dec2_yes (b := b) h hc))
  clear hD
  obtain ⟨n, q, f, hn, hy, _, _, hq, _⟩ := Sn.rnm_res 2 b 0 0 (by omega)
  obtain ⟨r, hr⟩ : ∃ r, r = Sn.rd2 b := ⟨_, rfl⟩
  have HR := Lib.hid hr
  have HN := Lib.hid hn
  rw [← hr] at hfew HNO HFO HYS
  unfold Sn.rd2 at hr
  rw [hn] at hr
  dsimp only at hr
  simp only [Int.toNat_natCast] at hr
  have HRD := Lib.hid hr
  have HFEW := Lib.hid hfew
  clear hx1 hB1 hz1 hv hr hfew hn HR
  dsimp only [Mg.cells] at e1
  go_enter Tryz.func15, Tryz.ntmps15
  go_wp2_with fail
  refine (newreader_any v b _ w1.heap.size (Nat.le_refl _) HV1.out (by omega)).mono ?_
  rintro e2 w2 ⟨o, rv, rfl, ho, hr2, hB2⟩
  have HX2 := Lib.hid (HX1.out.below hB2 HX1.out.lies.lt)
  have HB2 := Lib.hid (HB1.out.trans (hB2.mono HB1.out.size))
  have HR2 := Lib.hid hr2
  have hz2 : w1.heap.size ≤ w2.heap.size := hB2.size
  clear hr2 hB2
  go_wp2_with fail
  refine (readSchema2_any _ w1.heap.size o rv b n q f HR2.out hy HN).mono ?_
  rintro e3 w3 ⟨rfl, hr3, hg3⟩
  have hz3 : w1.heap.size ≤ w3.heap.size := Nat.le_trans hz2 hg3.size
  have HX3 := Lib.hid (HX2.out.kept hg3 (by omega))
  have HB3 := Lib.hid (HB2.out.grown hg3 (by omega) (by rintro x hx; cases hx; omega))
  have HR3 := Lib.hid hr3
  clear hr3 hg3
  by_cases hA : f ≠ 0 ∨ n ≠ 2
  · have hr9 : r = (Mg.zero, if f ≠ 0 then f else if n ≠ 2 then 3 else 0) := by
      rw [HRD.out]
      by_cases h0 : f ≠ 0
      · rw [if_pos h0, if_pos h0]
      · have h1 : n ≠ 2 := hA.resolve_left h0
        rw [if_neg h0, if_neg h0, if_pos h1, if_pos h1]
    have hne : (if f ≠ 0 then f else if n ≠ 2 then 3 else (0 : Int)) ≠ 0 := by
      by_cases h0 : f ≠ 0
      · rw [if_pos h0]; exact h0
      · have h1 : n ≠ 2 := hA.resolve_left h0
        rw [if_neg h0, if_pos h1]; decide
    obtain ⟨E, hE⟩ : ∃ E, E = (if f ≠ 0 then f else if n ≠ 2 then 3 else (0 : Int)) := ⟨_, rfl⟩
    rw [← hE] at hr9 hne ⊢
    have d1 : (E != 0) = true := by simpa using hne
    have HDC := Lib.hid (HNO.out (by rw [hr9]; exact hne))
    rw [hr9] at HDC
    clear hr9 hne hE hA HNO HFO HYS HRD HFEW HN
    go_wp2_with (first
      | (refine store_st (m := 0) (up := .slice none 0 0) (us := .slice none 0 0) rfl _ _ rfl rfl HX3.out ⟨⟨_, _, _, rfl⟩, ⟨_, _, _, rfl⟩⟩ rfl ?_; intro w6 hx6 hg6; have HX6 := Lib.hid hx6; have HG6 := Lib.hid hg6; clear hx6 hg6))
    refine ret_st2 rfl rfl HX6.out rfl ?_
    rw [HDC.out]
    exact ⟨_, _, rfl, StR.zero _, HB3.out.grown HG6.out HB3.out.size (by rintro j hj; cases hj; exact Nat.le_refl _)⟩
  · have h0 : f = 0 := Decidable.byContradiction fun h => hA (.inl h)
    have h1 : n = 2 := Decidable.byContradiction fun h => hA (.inr h)
    subst h0
    subst h1
    rw [if_neg (by decide), if_neg (by decide)]
    have hr9 := HRD.out
    rw [if_neg (by decide), if_neg (by decide)] at hr9
    clear hA HRD HN hy
    go_wp2_with fail
    refine (readState2_any _ w1.heap.size o rv b q 0 HR3.out hz3).mono ?_
    rintro e4 w4 ⟨xp, xs, rfl, hk4, hm4, hr4, hb4⟩
    obtain ⟨t, ht⟩ : ∃ t, t = Sn.read 2 Sn.big2 b q 0 := ⟨_, rfl⟩
    rw [← ht] at hk4 hm4 hr4 hr9
    have hs9 : r.1.schema = 2 := by rw [hr9]
    have hq4 : StR w4 r.1 xp xs := by rw [hr9]; exact ⟨hk4.reads, hm4.reads⟩
    have hk4' : LstK o w4 xp r.1.pairs := by rw [hr9]; exact hk4
    have hm4' : LstS o w4 xs r.1.sess := by rw [hr9]; exact hm4
    have he9 : r.2 = Pk.done b t.2.1 t.2.2 := by rw [hr9]
    have HQ4 := Lib.hid hq4; have HK4 := Lib.hid hk4'; have HM4 := Lib.hid hm4'; have HE9 := Lib.hid he9
    have HR4 := Lib.hid hr4
    have HX4 := Lib.hid (HX3.out.below hb4 (by omega))
    have HB4 := Lib.hid (HB3.out.trans (hb4.mono (by omega)))
    have hz4 : w1.heap.size ≤ w4.heap.size := Nat.le_trans hz3 hb4.size
    have ho4 : o < w4.heap.size := hr4.lies.lt
    clear hk4 hm4 hr4 hb4 hq4 hk4' hm4' he9 hr9 ht
    go_wp2_with (first
      | (refine store_st (m := 2) (up := xp) (us := xs) rfl _ _ rfl (g := w4.heap.size) (n := 0) (vp := .slice none 0 0) (vs := .slice none 0 0) rfl ⟨Lies.new _ _ _, ⟨_, _, _, rfl⟩, ⟨_, _, _, rfl⟩⟩ HQ4.out.sl rfl ?_; intro w5 hx5 hg5
         have hB5 : Below w4.heap.size w4 w5 := ((Below.refl _ w4).alloc (Nat.le_refl _) _).grown hg5 (by simp) (by rintro j hj; cases hj; exact Nat.le_refl _)
         have HX5 := Lib.hid (HX4.out.below hB5 HX4.out.lies.lt)
         have HQ5 := Lib.hid (HQ4.out.below hB5)
         have HR5 := Lib.hid (HR4.out.kept hB5)
         have HK5 := Lib.hid (HK4.out.saves (SavesS.of_below (o := o) hB5)); have HM5 := Lib.hid (HM4.out.saves (SavesS.of_below (o := o) hB5))
         have HB5 := Lib.hid (HB4.out.trans (hB5.mono HB4.out.size))
         have HY5 := Lib.hid hx5
         clear hx5 hg5 hB5)
      | fail)
    refine (rdone_any _ _ o rv b _ _ HR5.out).mono ?_
    rintro e6 w6 ⟨rfl, q6, rfl⟩
    rw [← HE9.out]
    have hb6 : Below w5.heap.size w5 (w5.drewN q6) := drawn w5 q6
    obtain ⟨w6, hw6⟩ : ∃ w6, w6 = w5.drewN q6 := ⟨_, rfl⟩
    rw [← hw6] at hb6 ⊢
    have HX6 := Lib.hid (HX5.out.below hb6 HX5.out.lies.lt)
    have HY6 := Lib.hid (HY5.out.below hb6 HY5.out.lies.lt)
    have HQ6 := Lib.hid (HQ5.out.below hb6)
    have HK6 := Lib.hid (HK5.out.saves (SavesS.of_below (o := o) hb6)); have HM6 := Lib.hid (HM5.out.saves (SavesS.of_below (o := o) hb6))
    have HB6 := Lib.hid (HB5.out.trans (hb6.mono HB5.out.size))
    have hlt4 : w.heap.size < w4.heap.size := HX4.out.lies.lt
    obtain ⟨gx, hgx⟩ : ∃ gx, gx = w4.heap.size := ⟨_, rfl⟩
    rw [← hgx] at HY6 hlt4 ⊢
    clear hgx hb6 hw6 HQ4 HX4 HB4 HK4 HM4 HR4 HR5 HX5 HY5 HQ5 HK5 HM5 HB5 HE9
    by_cases h0 : r.2 = 0
    · have d1 : (r.2 == 0) = true := by simpa using h0
      have hck := fun W h => checkSt_any r.1 xp xs W h (HFEW.out h0)
      have HYS0 := Lib.hid (fun hc => HYS.out h0 hc)
      have HFO0 := Lib.hid (fun hc => HFO.out h0 hc)
      clear HFEW HNO HYS HFO h0
      obtain ⟨c, hc⟩ : ∃ c, c = Mg.check r.1 := ⟨_, rfl⟩
      rw [← hc] at hck HYS0 HFO0
      rw [hs9] at hck
      have HCK := Lib.hid hck
      clear hck hc
      go_wp2_with (first | (refine load_st rfl _ rfl rfl HY6.out ?_; refine Hid.out ?_))
      refine Lib.hid ?_
      go_wp2_with fail
      refine (HCK.out w6 HQ6.out).mono ?_
      rintro e w7 ⟨rfl, hb7⟩
      have HX7 := Lib.hid (HX6.out.below hb7 HX6.out.lies.lt)
      have HY7 := Lib.hid (HY6.out.below hb7 HY6.out.lies.lt)
      have HQ7 := Lib.hid (HQ6.out.below hb7)
      have HK7 := Lib.hid (HK6.out.saves (SavesS.of_below (o := o) hb7)); have HM7 := Lib.hid (HM6.out.saves (SavesS.of_below (o := o) hb7))
      have HB7 := Lib.hid (HB6.out.trans (hb7.mono HB6.out.size))
      clear hb7
      cases c with
      | true =>
        have HDC := Lib.hid (HYS0.out rfl)
        clear HYS0 HFO0
        go_wp2_with (first
          | (refine load_st rfl _ rfl rfl HY7.out ?_)
          | (refine store_st rfl _ _ rfl rfl HX7.out HQ7.out.sl rfl ?_; intro w8 hx8 hg8; have HX8 := Lib.hid hx8; have HG8 := Lib.hid hg8; clear hx8 hg8))
        refine ret_st2 rfl rfl HX8.out rfl ?_
        rw [HDC.out]
        exact ⟨xp, xs, by rw [hs9]; rfl, ⟨(HK7.out.kept HX7.out.lies (by decide) HG8.out).reads, (HM7.out.kept HX7.out.lies (by decide) HG8.out).reads⟩, HB7.out.grown HG8.out HB7.out.size (by rintro j hj; cases hj; exact Nat.le_refl _)⟩
      | false =>
        have HDC := Lib.hid (HFO0.out rfl)
        clear HYS0 HFO0
        go_wp2_with (first
          | (refine store_st (m := 0) (up := .slice none 0 0) (us := .slice none 0 0) rfl _ _ rfl rfl HX7.out ⟨⟨_, _, _, rfl⟩, ⟨_, _, _, rfl⟩⟩ rfl ?_; intro w8 hx8 hg8; have HX8 := Lib.hid hx8; have HG8 := Lib.hid hg8; clear hx8 hg8))
        refine ret_st2 rfl rfl HX8.out rfl ?_
        rw [HDC.out]
        exact ⟨_, _, rfl, StR.zero _, HB7.out.grown HG8.out HB7.out.size (by rintro j hj; cases hj; exact Nat.le_refl _)⟩
    · have d1 : (r.2 == 0) = false := by simpa using h0
      have d2 : (r.2 != 0) = true := by simpa using h0
      have HDC := Lib.hid (HNO.out h0)
      clear HFEW HNO HYS HFO h0
      go_wp2_with (first
        | (refine store_st (m := 0) (up := .slice none 0 0) (us := .slice none 0 0) rfl _ _ rfl rfl HX6.out ⟨⟨_, _, _, rfl⟩, ⟨_, _, _, rfl⟩⟩ rfl ?_; intro w8 hx8 hg8; have HX8 := Lib.hid hx8; have HG8 := Lib.hid hg8; clear hx8 hg8))
      refine ret_st2 rfl rfl HX8.out rfl ?_
      rw [HDC.out]
      exact ⟨_, _, rfl, StR.zero _, HB6.out.grown HG8.out HB6.out.size (by rintro j hj; cases hj; exact Nat.le_refl _)⟩
theorem decSo_any (v : Value) (b : List UInt8) (w : World) (hv : Reads w v b) (hb : b.length ≤ 1000000) : Calls Tryz.prog 15 #[v] w (DecSo w b) := (decSo_is v b w hv hb).mono fun e w' h => IsSo.dec e w' h

end Go.Proofs.YtammfmmpldahhaaGreat


namespace Go.Proofs.YtammfmmpldahhaaGreat
open Go.RowKit

set_option maxRecDepth 4000 in
set_option maxHeartbeats 3200000 in
theorem decSn_is (v : Value) (b : List UInt8) (w : World) (hv : Reads w v b) (hb : b.length ≤ 1000000) : Calls Tryz.prog 17 #[v] w (IsSn w b) := by
  unfold IsSn
  obtain ⟨w1, e1, hx1, hB1, hz1⟩ := box_st0 w
  have HX1 := Lib.hid hx1
  have HB1 := Lib.hid hB1
  have HV1 := Lib.hid (hv.below hB1)
  have hz1' : w.heap.size + 1 = w1.heap.size := hz1.symm
  have hfew := fun h : (Sn.rd b).2 = 0 => Sn.few_of (Sn.rd_ok h).2 hb
  obtain ⟨D, hD⟩ : ∃ D, D = Sn.dec b := ⟨_, rfl⟩
  rw [← hD]
  have HNO := Lib.hid (fun h => hD.trans (Sn.dec_no (b := b) h))
  have HFO := Lib.hid (fun h hc => hD.trans (Sn.dec_form (b := b) h hc))
  have HYS := Lib.hid (fun h hc => hD.trans (Sn.dec_yes (b := b) h hc))
  clear hD
  obtain ⟨n, q, f, hn, hy, _, _, hq, _⟩ := Sn.rnm_res 2 b 0 0 (by omega)
  obtain ⟨r, hr⟩ : ∃ r, r = Sn.rd b := ⟨_, rfl⟩
  have HR := Lib.hid hr
  have HN := Lib.hid hn
  rw [← hr] at hfew HNO HFO HYS
  unfold Sn.rd at hr
  rw [hn] at hr
  dsimp only at hr
  simp only [Int.toNat_natCast] at hr
  have HRD := Lib.hid hr
  have HFEW := Lib.hid hfew
  clear hx1 hB1 hz1 hv hr hfew hn HR
  dsimp only [Mg.cells] at e1
  go_enter Tryz.func17, Tryz.ntmps17
  go_wp2_with fail
  refine (newreader_any v b _ w1.heap.size (Nat.le_refl _) HV1.out (by omega)).mono ?_
  rintro e2 w2 ⟨o, rv, rfl, ho, hr2, hB2⟩
  have HX2 := Lib.hid (HX1.out.below hB2 HX1.out.lies.lt)
  have HB2 := Lib.hid (HB1.out.trans (hB2.mono HB1.out.size))
  have HR2 := Lib.hid hr2
  have hz2 : w1.heap.size ≤ w2.heap.size := hB2.size
  clear hr2 hB2
  go_wp2_with fail
  refine (readSchema_any _ w1.heap.size o rv b n q f HR2.out hy HN).mono ?_
  rintro e3 w3 ⟨rfl, hr3, hg3⟩
  have hz3 : w1.heap.size ≤ w3.heap.size := Nat.le_trans hz2 hg3.size
  have HX3 := Lib.hid (HX2.out.kept hg3 (by omega))
  have HB3 := Lib.hid (HB2.out.grown hg3 (by omega) (by rintro x hx; cases hx; omega))
  have HR3 := Lib.hid hr3
  clear hr3 hg3
  by_cases hA : f ≠ 0 ∨ n ≠ 1
  · have hr9 : r = (Mg.zero, if f ≠ 0 then f else if n ≠ 1 then 3 else 0) := by
      rw [HRD.out]
      by_cases h0 : f ≠ 0
      · rw [if_pos h0, if_pos h0]
      · have h1 : n ≠ 1 := hA.resolve_left h0
        rw [if_neg h0, if_neg h0, if_pos h1, if_pos h1]
    have hne : (if f ≠ 0 then f else if n ≠ 1 then 3 else (0 : Int)) ≠ 0 := by
      by_cases h0 : f ≠ 0
      · rw [if_pos h0]; exact h0
      · have h1 : n ≠ 1 := hA.resolve_left h0
        rw [if_neg h0, if_pos h1]; decide
    obtain ⟨E, hE⟩ : ∃ E, E = (if f ≠ 0 then f else if n ≠ 1 then 3 else (0 : Int)) := ⟨_, rfl⟩
    rw [← hE] at hr9 hne ⊢
    have d1 : (E != 0) = true := by simpa using hne
    have HDC := Lib.hid (HNO.out (by rw [hr9]; exact hne))
    rw [hr9] at HDC
    clear hr9 hne hE hA HNO HFO HYS HRD HFEW HN
    go_wp2_with (first
      | (refine store_st (m := 0) (up := .slice none 0 0) (us := .slice none 0 0) rfl _ _ rfl rfl HX3.out ⟨⟨_, _, _, rfl⟩, ⟨_, _, _, rfl⟩⟩ rfl ?_; intro w6 hx6 hg6; have HX6 := Lib.hid hx6; have HG6 := Lib.hid hg6; clear hx6 hg6))
    refine ret_st2 rfl rfl HX6.out rfl ?_
    rw [HDC.out]
    exact ⟨_, _, rfl, StR.zero _, HB3.out.grown HG6.out HB3.out.size (by rintro j hj; cases hj; exact Nat.le_refl _)⟩
  · have h0 : f = 0 := Decidable.byContradiction fun h => hA (.inl h)
    have h1 : n = 1 := Decidable.byContradiction fun h => hA (.inr h)
    subst h0
    subst h1
    rw [if_neg (by decide), if_neg (by decide)]
    have hr9 := HRD.out
    rw [if_neg (by decide), if_neg (by decide)] at hr9
    clear hA HRD HN hy
    go_wp2_with fail
    refine (readState_any _ w1.heap.size o rv b q 0 HR3.out hz3).mono ?_
    rintro e4 w4 ⟨xp, xs, rfl, hk4, hm4, hr4, hb4⟩
    obtain ⟨t, ht⟩ : ∃ t, t = Sn.read 1 Sn.big b q 0 := ⟨_, rfl⟩
    rw [← ht] at hk4 hm4 hr4 hr9
    have hs9 : r.1.schema = 1 := by rw [hr9]
    have hq4 : StR w4 r.1 xp xs := by rw [hr9]; exact ⟨hk4.reads, hm4.reads⟩
    have hk4' : LstK o w4 xp r.1.pairs := by rw [hr9]; exact hk4
    have hm4' : LstS o w4 xs r.1.sess := by rw [hr9]; exact hm4
    have he9 : r.2 = Pk.done b t.2.1 t.2.2 := by rw [hr9]
    have HQ4 := Lib.hid hq4; have HK4 := Lib.hid hk4'; have HM4 := Lib.hid hm4'; have HE9 := Lib.hid he9
    have HR4 := Lib.hid hr4
    have HX4 := Lib.hid (HX3.out.below hb4 (by omega))
    have HB4 := Lib.hid (HB3.out.trans (hb4.mono (by omega)))
    have hz4 : w1.heap.size ≤ w4.heap.size := Nat.le_trans hz3 hb4.size
    have ho4 : o < w4.heap.size := hr4.lies.lt
    clear hk4 hm4 hr4 hb4 hq4 hk4' hm4' he9 hr9 ht
    go_wp2_with (first
      | (refine store_st (m := 1) (up := xp) (us := xs) rfl _ _ rfl (g := w4.heap.size) (n := 0) (vp := .slice none 0 0) (vs := .slice none 0 0) rfl ⟨Lies.new _ _ _, ⟨_, _, _, rfl⟩, ⟨_, _, _, rfl⟩⟩ HQ4.out.sl rfl ?_; intro w5 hx5 hg5
         have hB5 : Below w4.heap.size w4 w5 := ((Below.refl _ w4).alloc (Nat.le_refl _) _).grown hg5 (by simp) (by rintro j hj; cases hj; exact Nat.le_refl _)
         have HX5 := Lib.hid (HX4.out.below hB5 HX4.out.lies.lt)
         have HQ5 := Lib.hid (HQ4.out.below hB5)
         have HR5 := Lib.hid (HR4.out.kept hB5)
         have HK5 := Lib.hid (HK4.out.saves (SavesS.of_below (o := o) hB5)); have HM5 := Lib.hid (HM4.out.saves (SavesS.of_below (o := o) hB5))
         have HB5 := Lib.hid (HB4.out.trans (hB5.mono HB4.out.size))
         have HY5 := Lib.hid hx5
         clear hx5 hg5 hB5)
      | fail)
    refine (rdone_any _ _ o rv b _ _ HR5.out).mono ?_
    rintro e6 w6 ⟨rfl, q6, rfl⟩
    rw [← HE9.out]
    have hb6 : Below w5.heap.size w5 (w5.drewN q6) := drawn w5 q6
    obtain ⟨w6, hw6⟩ : ∃ w6, w6 = w5.drewN q6 := ⟨_, rfl⟩
    rw [← hw6] at hb6 ⊢
    have HX6 := Lib.hid (HX5.out.below hb6 HX5.out.lies.lt)
    have HY6 := Lib.hid (HY5.out.below hb6 HY5.out.lies.lt)
    have HQ6 := Lib.hid (HQ5.out.below hb6)
    have HK6 := Lib.hid (HK5.out.saves (SavesS.of_below (o := o) hb6)); have HM6 := Lib.hid (HM5.out.saves (SavesS.of_below (o := o) hb6))
    have HB6 := Lib.hid (HB5.out.trans (hb6.mono HB5.out.size))
    have hlt4 : w.heap.size < w4.heap.size := HX4.out.lies.lt
    obtain ⟨gx, hgx⟩ : ∃ gx, gx = w4.heap.size := ⟨_, rfl⟩
    rw [← hgx] at HY6 hlt4 ⊢
    clear hgx hb6 hw6 HQ4 HX4 HB4 HK4 HM4 HR4 HR5 HX5 HY5 HQ5 HK5 HM5 HB5 HE9
    by_cases h0 : r.2 = 0
    · have d1 : (r.2 == 0) = true := by simpa using h0
      have hck := fun W h => checkSt_any r.1 xp xs W h (HFEW.out h0)
      have HYS0 := Lib.hid (fun hc => HYS.out h0 hc)
      have HFO0 := Lib.hid (fun hc => HFO.out h0 hc)
      clear HFEW HNO HYS HFO h0
      obtain ⟨c, hc⟩ : ∃ c, c = Mg.check r.1 := ⟨_, rfl⟩
      rw [← hc] at hck HYS0 HFO0
      rw [hs9] at hck
      have HCK := Lib.hid hck
      clear hck hc
      go_wp2_with (first | (refine load_st rfl _ rfl rfl HY6.out ?_; refine Hid.out ?_))
      refine Lib.hid ?_
      go_wp2_with fail
      refine (HCK.out w6 HQ6.out).mono ?_
      rintro e w7 ⟨rfl, hb7⟩
      have HX7 := Lib.hid (HX6.out.below hb7 HX6.out.lies.lt)
      have HY7 := Lib.hid (HY6.out.below hb7 HY6.out.lies.lt)
      have HQ7 := Lib.hid (HQ6.out.below hb7)
      have HK7 := Lib.hid (HK6.out.saves (SavesS.of_below (o := o) hb7)); have HM7 := Lib.hid (HM6.out.saves (SavesS.of_below (o := o) hb7))
      have HB7 := Lib.hid (HB6.out.trans (hb7.mono HB6.out.size))
      clear hb7
      cases c with
      | true =>
        have HDC := Lib.hid (HYS0.out rfl)
        clear HYS0 HFO0
        go_wp2_with (first
          | (refine load_st rfl _ rfl rfl HY7.out ?_)
          | (refine store_st rfl _ _ rfl rfl HX7.out HQ7.out.sl rfl ?_; intro w8 hx8 hg8; have HX8 := Lib.hid hx8; have HG8 := Lib.hid hg8; clear hx8 hg8))
        refine ret_st2 rfl rfl HX8.out rfl ?_
        rw [HDC.out]
        exact ⟨xp, xs, by rw [hs9]; rfl, ⟨(HK7.out.kept HX7.out.lies (by decide) HG8.out).reads, (HM7.out.kept HX7.out.lies (by decide) HG8.out).reads⟩, HB7.out.grown HG8.out HB7.out.size (by rintro j hj; cases hj; exact Nat.le_refl _)⟩
      | false =>
        have HDC := Lib.hid (HFO0.out rfl)
        clear HYS0 HFO0
        go_wp2_with (first
          | (refine store_st (m := 0) (up := .slice none 0 0) (us := .slice none 0 0) rfl _ _ rfl rfl HX7.out ⟨⟨_, _, _, rfl⟩, ⟨_, _, _, rfl⟩⟩ rfl ?_; intro w8 hx8 hg8; have HX8 := Lib.hid hx8; have HG8 := Lib.hid hg8; clear hx8 hg8))
        refine ret_st2 rfl rfl HX8.out rfl ?_
        rw [HDC.out]
        exact ⟨_, _, rfl, StR.zero _, HB7.out.grown HG8.out HB7.out.size (by rintro j hj; cases hj; exact Nat.le_refl _)⟩
    · have d1 : (r.2 == 0) = false := by simpa using h0
      have d2 : (r.2 != 0) = true := by simpa using h0
      have HDC := Lib.hid (HNO.out h0)
      clear HFEW HNO HYS HFO h0
      go_wp2_with (first
        | (refine store_st (m := 0) (up := .slice none 0 0) (us := .slice none 0 0) rfl _ _ rfl rfl HX6.out ⟨⟨_, _, _, rfl⟩, ⟨_, _, _, rfl⟩⟩ rfl ?_; intro w8 hx8 hg8; have HX8 := Lib.hid hx8; have HG8 := Lib.hid hg8; clear hx8 hg8))
      refine ret_st2 rfl rfl HX8.out rfl ?_
      rw [HDC.out]
      exact ⟨_, _, rfl, StR.zero _, HB6.out.grown HG8.out HB6.out.size (by rintro j hj; cases hj; exact Nat.le_refl _)⟩
theorem decSn_any (v : Value) (b : List UInt8) (w : World) (hv : Reads w v b) (hb : b.length ≤ 1000000) : Calls Tryz.prog 17 #[v] w (DecSn w b) := (decSn_is v b w hv hb).mono fun e w' h => IsSn.dec e w' h

end Go.Proofs.YtammfmmpldahhaaGreat


namespace Go.Proofs.YtammfmmpldahhaaGreat
open Go.RowKit

namespace Sn
/-- The first number of a state's bytes. -/
theorem first_is {y : Mg.St} (h : Mg.check y = true) : rnm 2 (bytes y) 0 0 = (y.schema, (((enc y.schema.toNat).length : Nat) : Int), 0) := by
  have hs := Mg.schema_of h
  have hn := Pk.num_enc [] (body y.schema y.pairs y.sess) (N := y.schema.toNat) (most := 2) (by omega) (by omega)
  simp only [List.nil_append, List.length_nil, Nat.zero_add] at hn
  unfold rnm bytes
  rw [if_pos rfl, hn, Int.toNat_of_nonneg (by omega)]
theorem enc1_put {s : Mg.St} (h1 : s.schema = 1) : enc1 s = putb s := by
  by_cases h : Mg.check s = true
  · rw [enc1_yes h h1, putb_yes h]
  · rw [enc1_no (by simpa using h), putb_no (by simpa using h)]
theorem enc2_put {s : Mg.St} (h1 : s.schema ≠ 1) : enc2 s = putb s := by
  by_cases h : Mg.check s = true
  · rw [enc2_yes h ((Mg.schema_of h).resolve_left h1), putb_yes h]
  · rw [enc2_no (by simpa using h), putb_no (by simpa using h)]
/-- What was decoded in schema 1 can be migrated. -/
theorem dec_up {b : List UInt8} (h : (dec b).2 = 0) : Mg.up (dec b).1 = (Mg.revd (dec b).1 2 1, 0) ∧ enc2 (Mg.revd (dec b).1 2 1) = mig b ∧ (dec b).1.Few := by
  obtain ⟨h1, h2, h3⟩ := (dec_is b).ok h
  have hn : (dec b).1.schema ≠ 2 := by omega
  exact ⟨Mg.up_yes h1 hn, by rw [enc2_yes (Mg.check_up h1 hn) rfl, mig_yes h], (mid_of h1).2.1⟩
end Sn

theorem ReadsR.kept_str {w w' : World} {b k : Nat} {T : TypeId} {vs : Array Value} {v : Value} {rs : List (Array Value)} (h : ReadsR w v k rs) (hstr : ∀ r ∈ rs, ∃ (j : Nat) (s : ByteArray), r[j]? = some (.string s))
    (hl : Lies w b T vs) (hno : ∀ (j : Nat) (x : ByteArray), vs[j]? ≠ some (.string x)) (hg : w.grownBy w' (some b)) : ReadsR w' v k rs := by
  cases rs with
  | nil =>
    obtain ⟨ao, cap, rfl, h1, h2, h3, h4⟩ := h
    exact ⟨ao, cap, rfl, h1, h2, h3, fun x hx i r hr => by simp at hr⟩
  | cons r0 t =>
    obtain ⟨ao, cap, rfl, h1, h2, h3, h4⟩ := h
    obtain ⟨j0, s0, hs0⟩ := hstr r0 (by simp)
    refine ⟨ao, cap, rfl, h1, h2, h3, fun x hx i r hr j u hu => ?_⟩
    have hc := h4 x hx i r hr j u hu
    have hs := h4 x hx 0 r0 rfl j0 _ hs0
    rw [← hc]
    refine World.cell?_of_block ?_
    have hlt := World.block_lt_of_cell? w _ hc
    rw [add_block] at hlt ⊢
    refine hg.block _ hlt ?_
    intro hb
    have hxb : x.block = b := by simpa using hb
    have hblk : (x.add (0 * k + j0)).block = x.block := add_block ..
    have hl' : w.heap[b]? = some (.cells vs T (0, 0)) := hl
    generalize x.add (0 * k + j0) = y at hs hblk
    unfold World.cell? at hs
    rw [hblk, hxb, hl'] at hs
    dsimp only at hs
    split at hs
    · cases hs
    · exact hno _ _ hs
/-- A state's rows lie as they lay where a state's block is stored into. -/
theorem StR.apart {w w' : World} {s : Mg.St} {vp vs up us : Value} {g : Nat} {n : Int} (r : StR w s vp vs) (h : StAt w g n up us) (hg : w.grownBy w' (some g)) : StR w' s vp vs := by
  have hno : ∀ (j : Nat) (x : ByteArray), (Mg.cells n up us)[j]? ≠ some (.string x) := by
    obtain ⟨_, _, _, rfl⟩ := h.vp
    obtain ⟨_, _, _, rfl⟩ := h.vs
    intro j x
    match j with
    | 0 => simp [Mg.cells]
    | 1 => simp [Mg.cells]
    | 2 => simp [Mg.cells]
    | j + 3 => simp [Mg.cells]
  exact ⟨ReadsR.kept_str r.kv (fun q hq => by obtain ⟨e, _, rfl⟩ := List.mem_map.1 hq; exact ⟨0, _, rfl⟩) h.lies hno hg, ReadsR.kept_str r.ses (fun q hq => by obtain ⟨e, _, rfl⟩ := List.mem_map.1 hq; exact ⟨6, _, rfl⟩) h.lies hno hg⟩

set_option maxRecDepth 4000 in
set_option maxHeartbeats 1600000 in
theorem putSo_any (s : Mg.St) (vp vs : Value) (w : World) (hr : StR w s vp vs) (hf : s.Few) :
    Calls Tryz.prog 8 #[.agg (Mg.cells s.schema vp vs)] w (BytesSo w (Sn.putb s)) := by
  obtain ⟨w1, e1, hx1, hB1, hz1⟩ := box_st w s s.schema vp vs hr
  have HX1 := Lib.hid hx1
  have HB1 := Lib.hid hB1
  have h2 := encSo_any s vp vs w1 (hr.below hB1) hf
  have h1 := encSn_any s vp vs w1 (hr.below hB1) hf
  unfold BytesSo at h2 ⊢
  unfold EncSn at h1
  have E1 := Lib.hid (fun h => Sn.enc1_put (s := s) h)
  have E2 := Lib.hid (fun h => Sn.enc2_put (s := s) h)
  obtain ⟨r, hq⟩ : ∃ r, r = Sn.putb s := ⟨_, rfl⟩
  rw [← hq] at E1 E2 ⊢
  have H1 := Lib.hid h1
  have H2 := Lib.hid h2
  obtain ⟨c0, c1, c2⟩ := hx1.all
  clear hx1 hB1 hz1 hr hf h1 h2 hq
  go_enter Tryz.func8, Tryz.ntmps8
  by_cases hs : s.schema = 1
  · have d1 : (s.schema == 1) = true := by simpa using hs
    have hcall := H1.out
    rw [E1.out hs] at hcall
    have HC := Lib.hid hcall
    clear H1 H2 E1 E2 hcall hs
    go_wp2_with (first | (refine load_st rfl _ rfl rfl HX1.out ?_; refine Hid.out ?_))
    refine Lib.hid ?_
    go_wp2_with fail
    refine HC.out.mono ?_
    rintro e w2 ⟨v2, rfl, hr2, hb2⟩
    have HR2 := Lib.hid hr2
    have HB2 := Lib.hid (HB1.out.trans (hb2.mono HB1.out.size))
    clear hr2 hb2 HC
    go_wp2
    go_ret2
    exact ⟨_, rfl, HR2.out, HB2.out⟩
  · have d1 : (s.schema == 1) = false := by simpa using hs
    have hcall := H2.out
    rw [E2.out hs] at hcall
    have HC := Lib.hid hcall
    clear H1 H2 E1 E2 hcall hs
    go_wp2_with (first | (refine load_st rfl _ rfl rfl HX1.out ?_; refine Hid.out ?_))
    refine Lib.hid ?_
    go_wp2_with fail
    refine HC.out.mono ?_
    rintro e w2 ⟨v2, rfl, hr2, hb2⟩
    have HR2 := Lib.hid hr2
    have HB2 := Lib.hid (HB1.out.trans (hb2.mono HB1.out.size))
    clear hr2 hb2 HC
    go_wp2
    go_ret2
    exact ⟨_, rfl, HR2.out, HB2.out⟩

set_option maxRecDepth 4000 in
set_option maxHeartbeats 1600000 in
theorem getSo_any (v : Value) (b : List UInt8) (w : World) (hv : Reads w v b) (hb : b.length ≤ 1000000) : Calls Tryz.prog 11 #[v] w (GetSo w b) := by
  obtain ⟨w1, e1, hx1, hB1, hz1⟩ := box_st0 w
  have HX1 := Lib.hid hx1
  have HB1 := Lib.hid hB1
  have HV1 := Lib.hid (hv.below hB1)
  have hz1' : w.heap.size + 1 ≤ w1.heap.size := by omega
  obtain ⟨n, q, f, hn, hy, _, _, hq, _⟩ := Sn.rnm_res 2 b 0 0 (by omega)
  have HF : Hid (∀ y, Mg.check y = true → Sn.bytes y = b → y.schema = n) := fun y h1 h2 => by
    have h3 := Sn.first_is h1
    rw [h2, hn] at h3
    simp only [Prod.mk.injEq] at h3
    exact h3.1.symm
  have HN := Lib.hid hn
  have HD1 := Lib.hid (fun W h => decSn_is v b W h hb)
  have HD2 := Lib.hid (fun W h => decSo_any v b W h hb)
  have H2 : Hid (n ≠ 1 → ∀ y, Mg.check y = true → Sn.bytes y = b → y.schema = 2) := fun h1 y h2 h3 => by
    have h4 := HF.out y h2 h3
    exact (Mg.schema_of h2).resolve_left (by omega)
  have H1 : Hid (n = 1 → ∀ y, Mg.check y = true → Sn.bytes y = b → y.schema = 1) := fun h1 y h2 h3 => (HF.out y h2 h3).trans h1
  clear hx1 hB1 hz1 hv hn HF
  dsimp only [Mg.cells] at e1
  go_enter Tryz.func11, Tryz.ntmps11
  go_wp2_with fail
  refine (newreader_any v b _ w1.heap.size (Nat.le_refl _) HV1.out (by omega)).mono ?_
  rintro e2 w2 ⟨o, rv, rfl, ho, hr2, hB2⟩
  have HX2 := Lib.hid (HX1.out.below hB2 HX1.out.lies.lt)
  have HV2 := Lib.hid (HV1.out.below hB2)
  have HB2 := Lib.hid (HB1.out.trans (hB2.mono HB1.out.size))
  have HR2 := Lib.hid hr2
  have hz2 : w1.heap.size ≤ w2.heap.size := hB2.size
  have HVB : Hid (Below w1.heap.size w1 w2) := hB2
  clear hr2 hB2
  go_wp2_with fail
  refine (rnumL_any 2 _ w1.heap.size o rv b 0 0 n q f HR2.out hy HN).mono ?_
  rintro e3 w3 ⟨rfl, hr3, hg3⟩
  have hz3 : w1.heap.size ≤ w3.heap.size := Nat.le_trans hz2 hg3.size
  have HX3 := Lib.hid (HX2.out.kept hg3 (by omega))
  have HB3 := Lib.hid (HB2.out.grown hg3 (by omega) (by rintro x hx; cases hx; omega))
  have HV3 := Lib.hid (HV1.out.below (HVB.out.grown hg3 hz2 (by rintro x hx; cases hx; omega)))
  clear hr3 hg3 HR2 HN hy HVB HV2 HX2 HB2
  by_cases h1 : n = 1
  · have hc := HD1.out w3 HV3.out
    have HC := Lib.hid (hc.mono fun e w' h => IsSn.getSo (H1.out h1) e w' h)
    subst h1
    clear hc HD1 HD2 H1 H2
    go_wp2_with fail
    refine HC.out.mono ?_
    rintro e4 w4 ⟨x, er, xp, xs, rfl, hx4, hb4, hget⟩
    have HQ4 := Lib.hid hx4
    have HX4 := Lib.hid (HX3.out.below hb4 HX3.out.lies.lt)
    have HB4 := Lib.hid (HB3.out.trans (hb4.mono HB3.out.size))
    have HG := Lib.hid hget
    clear hx4 hb4 hget HC
    go_wp2_with (first
      | (refine store_st (m := x.schema) (up := xp) (us := xs) rfl _ _ rfl rfl HX4.out HQ4.out.sl rfl ?_; intro w5 hx5 hg5; have HX5 := Lib.hid hx5; have HG5 := Lib.hid hg5; clear hx5 hg5))
    refine ret_st2 rfl rfl HX5.out rfl ?_
    exact ⟨x, er, xp, xs, rfl, HQ4.out.apart HX4.out HG5.out, HB4.out.grown HG5.out HB4.out.size (by rintro j hj; cases hj; exact Nat.le_refl _), HG.out⟩
  · have hc := HD2.out w3 HV3.out
    have HC := Lib.hid (hc.mono fun e w' h => DecSo.getSo (H2.out h1) e w' h)
    have d1 : (n == 1) = false := by simpa using h1
    clear hc HD1 HD2 H1 H2 h1
    go_wp2_with fail
    refine HC.out.mono ?_
    rintro e4 w4 ⟨x, er, xp, xs, rfl, hx4, hb4, hget⟩
    have HQ4 := Lib.hid hx4
    have HX4 := Lib.hid (HX3.out.below hb4 HX3.out.lies.lt)
    have HB4 := Lib.hid (HB3.out.trans (hb4.mono HB3.out.size))
    have HG := Lib.hid hget
    clear hx4 hb4 hget HC
    go_wp2_with (first
      | (refine store_st (m := x.schema) (up := xp) (us := xs) rfl _ _ rfl rfl HX4.out HQ4.out.sl rfl ?_; intro w5 hx5 hg5; have HX5 := Lib.hid hx5; have HG5 := Lib.hid hg5; clear hx5 hg5))
    refine ret_st2 rfl rfl HX5.out rfl ?_
    exact ⟨x, er, xp, xs, rfl, HQ4.out.apart HX4.out HG5.out, HB4.out.grown HG5.out HB4.out.size (by rintro j hj; cases hj; exact Nat.le_refl _), HG.out⟩

set_option maxRecDepth 4000 in
set_option maxHeartbeats 1600000 in
theorem migSo_any (v : Value) (b : List UInt8) (w : World) (hv : Reads w v b) (hb : b.length ≤ 1000000) : Calls Tryz.prog 16 #[v] w (BytesSo w (Sn.mig b)) := by
  have hc := decSn_is v b w hv hb
  unfold IsSn at hc
  unfold BytesSo
  have HNO := Lib.hid (fun h => Sn.mig_no (b := b) h)
  have HYS := Lib.hid (fun h => Sn.dec_up (b := b) h)
  obtain ⟨M, hM⟩ : ∃ M, M = Sn.mig b := ⟨_, rfl⟩
  obtain ⟨D, hD⟩ : ∃ D, D = Sn.dec b := ⟨_, rfl⟩
  rw [← hM] at HNO HYS ⊢
  rw [← hD] at HNO HYS hc
  have HC := Lib.hid hc
  clear hM hD hc hv hb
  go_enter Tryz.func16, Tryz.ntmps16
  go_wp2_with fail
  refine HC.out.mono ?_
  rintro e2 w2 ⟨vp, vs, rfl, hq2, hb2⟩
  have HQ2 := Lib.hid hq2
  have HB2 := Lib.hid hb2
  clear hq2 hb2 HC
  by_cases h0 : D.2 = 0
  · obtain ⟨hup, henc, hfew⟩ := HYS.out h0
    have hu := fun W h => up_any D.1 vp vs W h hfew
    rw [hup] at hu
    have HU := Lib.hid hu
    have HE := Lib.hid (fun vp vs W h => encSo_any (Mg.revd D.1 2 1) vp vs W h (Mg.few_revd 2 1 hfew))
    rw [henc] at HE
    have d1 : (D.2 != 0) = false := by simpa using h0
    clear HNO HYS hup henc hfew hu h0
    go_wp2_with (first
      | (refine store_st (m := D.1.schema) (up := vp) (us := vs) rfl _ _ rfl (g := w2.heap.size) (n := 0) (vp := .slice none 0 0) (vs := .slice none 0 0) rfl ⟨Lies.new _ _ _, ⟨_, _, _, rfl⟩, ⟨_, _, _, rfl⟩⟩ HQ2.out.sl rfl ?_; intro w3 hx3 hg3
         have hB3 : Below w2.heap.size w2 w3 := ((Below.refl _ w2).alloc (Nat.le_refl _) _).grown hg3 (by simp) (by rintro j hj; cases hj; exact Nat.le_refl _)
         have HX3 := Lib.hid hx3
         have HQ3 := Lib.hid (HQ2.out.below hB3)
         have HB3 := Lib.hid (HB2.out.trans (hB3.mono HB2.out.size))
         clear hx3 hg3 hB3)
      | (refine load_st rfl _ rfl rfl HX3.out ?_; refine Hid.out ?_))
    refine Lib.hid ?_
    go_wp2_with fail
    refine (HU.out w3 HQ3.out).mono ?_
    rintro e4 w4 ⟨up, us, rfl, ho4, ha4, hb4⟩
    have HQ4 : Hid (StR w4 (Mg.revd D.1 2 1) up us) := ⟨ho4.reads (Kv.sized _), ha4.reads (Se.sized _)⟩
    have HX4 := Lib.hid (HX3.out.below hb4 HX3.out.lies.lt)
    have HB4 := Lib.hid (HB3.out.trans (hb4.mono HB3.out.size))
    have hlt : w.heap.size ≤ w2.heap.size := HB2.out.size
    have HLE := Lib.hid hlt
    clear ho4 ha4 hb4 HU hlt
    go_wp2_with (first
      | (refine store_st (m := 2) (up := up) (us := us) rfl _ _ rfl rfl HX4.out HQ4.out.sl rfl ?_; intro w5 hx5 hg5
         have HX5 := Lib.hid hx5
         have HQ5 := Lib.hid (HQ4.out.apart HX4.out hg5)
         have HB5 := Lib.hid (HB4.out.grown hg5 HB4.out.size (by rintro j hj; cases hj; exact HLE.out))
         clear hx5 hg5)
      | (refine load_st rfl _ rfl rfl HX5.out ?_; refine Hid.out ?_))
    refine Lib.hid ?_
    go_wp2_with fail
    refine (HE.out _ _ w5 HQ5.out).mono ?_
    rintro e6 w6 ⟨v6, rfl, hr6, hb6⟩
    have HR6 := Lib.hid hr6
    have HB6 := Lib.hid (HB5.out.trans (hb6.mono HB5.out.size))
    clear hr6 hb6 HE
    go_wp2
    go_ret2
    exact ⟨_, rfl, HR6.out, HB6.out⟩
  · have hq := HNO.out h0
    have d1 : (D.2 != 0) = true := by simpa using h0
    clear HNO HYS h0
    go_wp2_with (first
      | (refine store_st (m := D.1.schema) (up := vp) (us := vs) rfl _ _ rfl (g := w2.heap.size) (n := 0) (vp := .slice none 0 0) (vs := .slice none 0 0) rfl ⟨Lies.new _ _ _, ⟨_, _, _, rfl⟩, ⟨_, _, _, rfl⟩⟩ HQ2.out.sl rfl ?_; intro w3 hx3 hg3
         have hB3 : Below w2.heap.size w2 w3 := ((Below.refl _ w2).alloc (Nat.le_refl _) _).grown hg3 (by simp) (by rintro j hj; cases hj; exact Nat.le_refl _)
         have HB3 := Lib.hid (HB2.out.trans (hB3.mono HB2.out.size))
         clear hx3 hg3 hB3))
    go_ret2
    rw [hq]
    exact ⟨_, rfl, Reads.empty _, HB3.out⟩

end Go.Proofs.YtammfmmpldahhaaGreat
