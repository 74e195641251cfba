/- Ballots: Text, Next; the document's Text, Next. -/
import Derived.Test.YtjdohnadgdeaiaaDoorBal
namespace Go.Proofs.YtjdohnadgdeaiaaDoor
open Go.RowKit

set_option maxRecDepth 4000 in
set_option maxHeartbeats 1600000 in
theorem btext_any (b : Bl.Bal) (w : World) (hp : PowIn w) : Calls Tryd.prog 11 #[.agg (Bl.cells b)] w (Looks w (.string ⟨(Bl.text b).toArray⟩)) := by
  obtain ⟨w1, e1, hl1, hB1, hz1⟩ := box_bal w b
  obtain ⟨p0, p1⟩ := Bals.both hl1
  have HL1 := Lib.hid hl1; have HB1 := Lib.hid hB1; have HP := Lib.hid hp
  clear hl1 hB1 hz1 hp
  go_enter Tryd.func11, Tryd.ntmps11
  go_wp2_with fail
  refine (bmay_any b _).mono ?_
  rintro e w2 ⟨rfl, hB2⟩
  obtain ⟨t, ht⟩ : ∃ t, t = Bl.may b := ⟨_, rfl⟩
  rw [← ht]
  have HT := Lib.hid ht
  have hl2 := HL1.out.below hB2 HL1.out.lt
  have HL2 := Lib.hid hl2
  have HB2 := Lib.hid (HB1.out.trans (hB2.mono HB1.out.size))
  clear hl2 hB2 p0 p1 ht
  cases t with
  | false =>
    go_wp2
    go_ret
    exact ⟨by rw [Bl.text, if_neg (by rw [← HT.out]; simp)]; rfl, HB2.out⟩
  | true =>
    have hn := Bl.may_fits b HT.out.symm
    have i1 := Cm.itoa_len b.round hn.r0 hn.r1
    have i2 := Cm.itoa_len b.node hn.n0 hn.n1
    have HN := Lib.hid hn
    have f1 : ¬ 9223372036854775807 < (Lib.itoa b.round).length + 1 := by omega
    have f2 : ¬ 9223372036854775807 < (Lib.itoa b.round).length + 1 + (Lib.itoa b.node).length := by omega
    clear i1 i2 hn
    go_wp2
    have HLc := Lib.hid (HL2.out.below (Below.refl _ _).drew HL2.out.lt)
    have HBc := Lib.hid HB2.out.drew
    have K3 := Bals.both HLc.out
    go_region_held3 (fun w' => w'.cell? ⟨w.heap.size, 0, none⟩ = some (.int .i64 b.round) ∧ w'.cell? ⟨w.heap.size, 1, none⟩ = some (.int .i64 b.node)) (first | go_keep | exact K3) (first
        | (go_at_call 18; refine (itoa_any _ _ (HP.out.below HBc.out) (by first | exact HN.out.r0 | exact HN.out.n0) (by first | exact HN.out.r1 | exact HN.out.n1)).mono ?_; rintro e3 w3 ⟨rfl, hB3⟩
           have HLd := HLc; have HBd := HBc
           have HLc := Lib.hid (HLd.out.below hB3 HLd.out.lt)
           have HBc := Lib.hid (HBd.out.trans (hB3.mono HBd.out.size))
           have K3 := Bals.both HLc.out))
    all_goals
      go_wp2
      go_ret
      refine ⟨?_, HBc.out⟩
      rw [Bl.text, if_pos HT.out.symm]
      apply str_lit
      simp

set_option maxRecDepth 4000 in
set_option maxHeartbeats 1600000 in
theorem brefText_any (b : Bl.Bal) (w : World) (hm : Bl.may b = true) : Calls Tryd.prog 8 #[.agg (Bl.cells b)] w (Looks w (.string ⟨(Bl.text b).toArray⟩)) := by
  obtain ⟨w1, e1, hl1, hB1, hz1⟩ := box_bal w b
  obtain ⟨p0, p1⟩ := Bals.both hl1
  have HL1 := Lib.hid hl1; have HB1 := Lib.hid hB1; have HM := Lib.hid hm
  have hn := Bl.may_fits b hm
  have hz := Bl.may_num b hm
  have i1 := Cm.itoa_len b.round hn.r0 hn.r1
  have i2 := Cm.itoa_len b.node hn.n0 hn.n1
  have HZ : Hid ((0 ≤ b.round ∧ b.round < 1000000000000000) ∧ (0 ≤ b.node ∧ b.node < 1000000000000000)) := by show _ ∧ _; omega
  have f1 : ¬ 9223372036854775807 < (Lib.itoa b.round).length + 1 := by omega
  have f2 : ¬ 9223372036854775807 < (Lib.itoa b.round).length + 1 + (Lib.itoa b.node).length := by omega
  clear hl1 hB1 hz1 hm hn hz i1 i2
  go_enter Tryd.func8, Tryd.ntmps8
  go_wp2
  have HLc := Lib.hid (HL1.out.below (Below.refl _ _).drew HL1.out.lt)
  have HBc := Lib.hid HB1.out.drew
  have K3 := Bals.both HLc.out
  go_region_held3 (fun w' => w'.cell? ⟨w.heap.size, 0, none⟩ = some (.int .i64 b.round) ∧ w'.cell? ⟨w.heap.size, 1, none⟩ = some (.int .i64 b.node)) (first | go_keep | exact K3) (first
      | (go_at_call 16; refine (refDigits_any _ _ (by first | exact HZ.out.1 | exact HZ.out.2)).mono ?_; rintro e3 w3 ⟨rfl, rfl⟩
         have K3 := Bals.both HLc.out))
  all_goals
    go_wp2
    go_ret
    refine ⟨?_, HBc.out⟩
    rw [Bl.text, if_pos HM.out]
    apply str_lit
    simp

set_option maxRecDepth 4000 in
set_option maxHeartbeats 1600000 in
theorem bnext_any (b : Bl.Bal) (node : Int) (w : World) : Calls Tryd.prog 14 #[.agg (Bl.cells b), .int .i64 node] w
    (Looks w (.tuple #[.agg (Bl.cells (Bl.next b node).1), .int .i64 (Bl.next b node).2])) := by
  obtain ⟨w1, e1, hl1, hk1, hB1, hz1⟩ := box_bal0 w b
  obtain ⟨p0, p1⟩ := Bals.both hl1
  have HL1 := Lib.hid hl1; have HK1 := Lib.hid hk1; have HB1 := Lib.hid hB1
  clear hl1 hk1 hB1 hz1
  go_enter Tryd.func14, Tryd.ntmps14
  go_wp2_with fail
  refine (bmay_any b _).mono ?_
  rintro e w2 ⟨rfl, hB2⟩
  obtain ⟨t, ht⟩ : ∃ t, t = Bl.may b := ⟨_, rfl⟩
  rw [← ht]
  have HT := Lib.hid ht
  have hl2 := HL1.out.below hB2 HL1.out.lt
  obtain ⟨q0, q1⟩ := Bals.both hl2
  have HL2 := Lib.hid hl2
  have HK2 := Lib.hid (HK1.out.below hB2 HK1.out.lt)
  have HB2 := Lib.hid (HB1.out.trans (hB2.mono HB1.out.size))
  clear hl2 hB2 p0 p1 ht
  cases t with
  | false =>
    have HX : Hid (Bl.next b node = (Bl.zero, 6)) := by show _ = _; rw [Bl.next, if_neg (by rw [← HT.out]; simp)]
    go_wp2_with (refine store_bal (by rfl) _ _ (by rfl) (w.heap.size + 1) Bl.zero Bl.zero (by rfl) (by rfl) HK2.out ?_; intro w4 hl4 hg4)
    refine ret_bal2 rfl rfl hl4 rfl ?_
    exact ⟨by rw [HX.out]; rfl, HB2.out.grown hg4 HB2.out.size (by rintro j hj; cases hj; omega)⟩
  | true =>
    go_wp2_with fail
    refine (bwithin_any node 9 _).mono ?_
    rintro e w3 ⟨rfl, rfl⟩
    obtain ⟨t, ht⟩ : ∃ t, t = Bl.within node 9 := ⟨_, rfl⟩
    rw [← ht]
    have HW := Lib.hid ht
    clear ht
    cases t with
    | false =>
      have HX : Hid (Bl.next b node = (Bl.zero, 6)) := by show _ = _; rw [Bl.next, if_neg (by rw [← HW.out]; simp)]
      go_wp2_with (refine store_bal (by rfl) _ _ (by rfl) (w.heap.size + 1) Bl.zero Bl.zero (by rfl) (by rfl) HK2.out ?_; intro w4 hl4 hg4)
      refine ret_bal2 rfl rfl hl4 rfl ?_
      exact ⟨by rw [HX.out]; rfl, HB2.out.grown hg4 HB2.out.size (by rintro j hj; cases hj; omega)⟩
    | true =>
      obtain ⟨F, hF⟩ : ∃ F, max b.round 1 = F := ⟨_, rfl⟩
      have HF := Lib.hid hF
      have hf := Bl.from1_num b HT.out.symm
      rw [show Bl.from1 b = F from hF] at hf
      obtain ⟨hf1, hf2, _⟩ := hf
      obtain ⟨w3, e3, hl3, hB3, hz3⟩ := box_bal w2 ⟨F, node⟩
      have HL3 := Lib.hid (HL2.out.below hB3 HL2.out.lt)
      have HK3 := Lib.hid (HK2.out.below hB3 HK2.out.lt)
      have HN3 := Lib.hid hl3
      have HB3 := Lib.hid (HB2.out.trans (hB3.mono HB2.out.size))
      obtain ⟨r0, r1⟩ := Bals.both HL3.out
      obtain ⟨n0, n1⟩ := Bals.both hl3
      have HX : Hid (Bl.next b node = if 4294967296 < (Bl.step b node).round then (Bl.zero, 6) else (Bl.step b node, 0)) := by
        show _ = _
        rw [Bl.next, if_pos ⟨HT.out.symm, HW.out.symm⟩]
      dsimp only [Bl.cells] at e3 n0 n1
      have hsz3 := HB2.out.size
      clear hl3 hB3 hz3
      go_wp2_with fail
      refine (bless_any b ⟨F, node⟩ _).mono ?_
      rintro e w4 ⟨rfl, hB4⟩
      obtain ⟨t, ht⟩ : ∃ t, t = Bl.less b ⟨F, node⟩ := ⟨_, rfl⟩
      rw [← ht]
      have HT4 := Lib.hid ht
      have HK4 := Lib.hid (HK3.out.below hB4 HK3.out.lt)
      have HN4 := Lib.hid (HN3.out.below hB4 HN3.out.lt)
      have HB4 := Lib.hid (HB3.out.trans (hB4.mono HB3.out.size))
      obtain ⟨m0, m1⟩ := Bals.both HN4.out
      have hfr := HN4.out.free 0
      clear ht hB4 r0 r1 n0 n1 q0 q1
      cases t with
      | true =>
        have HS : Hid (Bl.step b node = ⟨F, node⟩) := by
          show _ = _
          rw [Bl.step, if_pos (by rw [Bl.first, show Bl.from1 b = F from HF.out]; exact HT4.out.symm), Bl.first, show Bl.from1 b = F from HF.out]
        have hle : ¬ 4294967296 < F := by omega
        have HY : Hid (Bl.next b node = (⟨F, node⟩, 0)) := by
          show _ = _
          rw [HX.out, HS.out, if_neg hle]
        clear hf1 hf2
        go_wp2_with (refine store_bal (by rfl) _ _ (by rfl) (w.heap.size + 1) Bl.zero ⟨F, node⟩ (by rfl) (by rfl) HK4.out ?_; intro w5 hl5 hg5)
        refine ret_bal2 rfl rfl hl5 rfl ?_
        exact ⟨by rw [HY.out]; rfl, HB4.out.grown hg5 HB4.out.size (by rintro j hj; cases hj; omega)⟩
      | false =>
        obtain ⟨G, hG⟩ : ∃ G, F + 1 = G := ⟨_, rfl⟩
        have hwr : IntKind.i64.wrap (F + 1) = G := by rw [IntKind.wrap_i64]; omega
        have HS : Hid (Bl.step b node = ⟨G, node⟩) := by
          show _ = _
          rw [Bl.step, if_neg (by rw [Bl.first, show Bl.from1 b = F from HF.out, ← HT4.out]; simp), show Bl.from1 b = F from HF.out, hG]
        clear hG
        obtain ⟨w5, e5⟩ : ∃ w5, w4.setCell ⟨w2.heap.size, 0, none⟩ (.int .i64 G) = w5 := ⟨_, rfl⟩
        have hl5 : Bals w5 w2.heap.size ⟨G, node⟩ := by rw [← e5]; exact HN4.out.set 0 _
        have hg5 : w4.grownBy w5 (some w2.heap.size) := by rw [← e5]; exact grown_set w4 _ 0 _
        have HK5 := Lib.hid (HK4.out.kept hg5 (by have := HK2.out.lt; simp; omega))
        have HB5 := Lib.hid (HB4.out.grown hg5 HB4.out.size (by rintro j hj; cases hj; omega))
        obtain ⟨g0, g1⟩ := Bals.both hl5
        have HN5 := Lib.hid hl5
        dsimp only at g0 g1 m0 m1
        clear hl5 hg5
        by_cases hgt : 4294967296 < G
        · have HY : Hid (Bl.next b node = (Bl.zero, 6)) := by
            show _ = _
            rw [HX.out, HS.out, if_pos hgt]
          clear hf1 hf2
          go_wp2_with (refine store_bal (by rfl) _ _ (by rfl) (w.heap.size + 1) Bl.zero Bl.zero (by rfl) (by rfl) HK5.out ?_; intro w6 hl6 hg6)
          refine ret_bal2 rfl rfl hl6 rfl ?_
          exact ⟨by rw [HY.out]; rfl, HB5.out.grown hg6 HB5.out.size (by rintro j hj; cases hj; omega)⟩
        · have HY : Hid (Bl.next b node = (⟨G, node⟩, 0)) := by
            show _ = _
            rw [HX.out, HS.out, if_neg hgt]
          clear hf1 hf2
          go_wp2_with (refine store_bal (by rfl) _ _ (by rfl) (w.heap.size + 1) Bl.zero ⟨G, node⟩ (by rfl) (by rfl) HK5.out ?_; intro w6 hl6 hg6)
          refine ret_bal2 rfl rfl hl6 rfl ?_
          exact ⟨by rw [HY.out]; rfl, HB5.out.grown hg6 HB5.out.size (by rintro j hj; cases hj; omega)⟩

theorem Bl.within9 (n : Int) : Bl.within n 9 = (!(decide (n < 1)) && !(decide (9 < n))) := by
  unfold Bl.within
  by_cases h1 : n < 1 <;> by_cases h2 : 9 < n <;> simp [h1, h2] <;> omega

set_option maxRecDepth 4000 in
set_option maxHeartbeats 1600000 in
theorem brefNext_any (b : Bl.Bal) (node : Int) (w : World) : Calls Tryd.prog 15 #[.agg (Bl.cells b), .int .i64 node] w
    (Looks w (.tuple #[.agg (Bl.cells (Bl.refNext b node).1), .bool (Bl.refNext b node).2])) := by
  obtain ⟨w1, e1, hl1, hk1, hB1, hz1⟩ := box_bal0 w b
  obtain ⟨p0, p1⟩ := Bals.both hl1
  have HL1 := Lib.hid hl1; have HK1 := Lib.hid hk1; have HB1 := Lib.hid hB1
  clear hl1 hk1 hB1 hz1
  go_enter Tryd.func15, Tryd.ntmps15
  go_wp2_with fail
  refine (brefMay_any b _).mono ?_
  rintro e w2 ⟨rfl, hB2⟩
  obtain ⟨t, ht⟩ : ∃ t, t = Bl.may b := ⟨_, rfl⟩
  rw [← ht]
  have HT := Lib.hid ht
  have hl2 := HL1.out.below hB2 HL1.out.lt
  obtain ⟨q0, q1⟩ := Bals.both hl2
  have HL2 := Lib.hid hl2
  have HK2 := Lib.hid (HK1.out.below hB2 HK1.out.lt)
  have HB2 := Lib.hid (HB1.out.trans (hB2.mono HB1.out.size))
  clear hl2 hB2 p0 p1 ht
  cases t with
  | false =>
    have HX : Hid (Bl.refNext b node = (Bl.zero, false)) := by show _ = _; rw [Bl.refNext, if_neg (by rw [← HT.out]; simp)]
    go_wp2_with (refine store_bal (by rfl) _ _ (by rfl) (w.heap.size + 1) Bl.zero Bl.zero (by rfl) (by rfl) HK2.out ?_; intro w4 hl4 hg4)
    refine ret_bal2 rfl rfl hl4 rfl ?_
    exact ⟨by rw [HX.out]; rfl, HB2.out.grown hg4 HB2.out.size (by rintro j hj; cases hj; omega)⟩
  | true =>
    have HW9 := Lib.hid (Bl.within9 node)
    obtain ⟨t1, h1⟩ : ∃ t, decide (node < 1) = t := ⟨_, rfl⟩
    obtain ⟨t2, h2⟩ : ∃ t, decide (9 < node) = t := ⟨_, rfl⟩
    rw [h1, h2] at HW9
    by_cases hw : Bl.within node 9 = true
    · have HW := Lib.hid hw
      rw [hw] at HW9
      obtain rfl : t1 = false := by cases t1 with
        | false => rfl
        | true => exact absurd HW9.out (by simp)
      obtain rfl : t2 = false := by cases t2 with
        | false => rfl
        | true => exact absurd HW9.out (by simp)
      have HX : Hid (Bl.refNext b node = if 4294967296 < (Bl.refStep b node).round then (Bl.zero, false) else (Bl.refStep b node, true)) := by
        show _ = _
        rw [Bl.refNext, if_pos ⟨HT.out.symm, hw⟩]
      obtain ⟨hr0, hr1, _, _⟩ := Bl.may_num b HT.out.symm
      obtain ⟨w3, e3, hl3, hB3, hz3⟩ := box_bal w2 ⟨b.round, node⟩
      have HL3 := Lib.hid (HL2.out.below hB3 HL2.out.lt)
      have HK3 := Lib.hid (HK2.out.below hB3 HK2.out.lt)
      have HN3 := Lib.hid hl3
      have HB3 := Lib.hid (HB2.out.trans (hB3.mono HB2.out.size))
      obtain ⟨r0, r1⟩ := Bals.both HL3.out
      obtain ⟨n0, n1⟩ := Bals.both hl3
      dsimp only [Bl.cells] at e3 n0 n1
      have hsz3 := HB2.out.size
      have hfr := hl3.free 0
      clear hl3 hB3 hz3 hw
      have HU : Hid (Bl.refUp b node = ((b.round == 0) || decide (node ≤ b.node))) := by
        show _ = _
        unfold Bl.refUp
        congr 1
      obtain ⟨u1, k1⟩ : ∃ t, (b.round == 0) = t := ⟨_, rfl⟩
      obtain ⟨u2, k2⟩ : ∃ t, decide (node ≤ b.node) = t := ⟨_, rfl⟩
      rw [k1, k2] at HU
      obtain ⟨G, hG⟩ : ∃ G, b.round + 1 = G := ⟨_, rfl⟩
      have hwr : IntKind.i64.wrap (b.round + 1) = G := by rw [IntKind.wrap_i64]; omega
      have HG := Lib.hid hG
      clear hG
      by_cases hup : (u1 || u2) = true
      · have HS : Hid (Bl.refStep b node = ⟨G, node⟩) := by
          show _ = _
          rw [Bl.refStep, if_pos (by rw [HU.out]; exact hup), HG.out]
        obtain ⟨w5, e5⟩ : ∃ w5, w3.setCell ⟨w2.heap.size, 0, none⟩ (.int .i64 G) = w5 := ⟨_, rfl⟩
        have hl5 : Bals w5 w2.heap.size ⟨G, node⟩ := by rw [← e5]; exact HN3.out.set 0 _
        have hg5 : w3.grownBy w5 (some w2.heap.size) := by rw [← e5]; exact grown_set w3 _ 0 _
        have HK5 := Lib.hid (HK3.out.kept hg5 (by have := HK2.out.lt; simp; omega))
        have HB5 := Lib.hid (HB3.out.grown hg5 HB3.out.size (by rintro j hj; cases hj; omega))
        obtain ⟨g0, g1⟩ := Bals.both hl5
        dsimp only at g0 g1
        clear hl5 hg5 hr0 hr1
        by_cases hgt : 4294967296 < G
        · have HY : Hid (Bl.refNext b node = (Bl.zero, false)) := by show _ = _; rw [HX.out, HS.out, if_pos hgt]
          cases u1 <;> cases u2 <;> (try (cases hup; done))
          all_goals
            go_wp2_with (refine store_bal (by rfl) _ _ (by rfl) (w.heap.size + 1) Bl.zero Bl.zero (by rfl) (by rfl) HK5.out ?_; intro w6 hl6 hg6)
            refine ret_bal2 rfl rfl hl6 rfl ?_
            exact ⟨by rw [HY.out]; rfl, HB5.out.grown hg6 HB5.out.size (by rintro j hj; cases hj; omega)⟩
        · have HY : Hid (Bl.refNext b node = (⟨G, node⟩, true)) := by show _ = _; rw [HX.out, HS.out, if_neg hgt]
          cases u1 <;> cases u2 <;> (try (cases hup; done))
          all_goals
            go_wp2_with (refine store_bal (by rfl) _ _ (by rfl) (w.heap.size + 1) Bl.zero ⟨G, node⟩ (by rfl) (by rfl) HK5.out ?_; intro w6 hl6 hg6)
            refine ret_bal2 rfl rfl hl6 rfl ?_
            exact ⟨by rw [HY.out]; rfl, HB5.out.grown hg6 HB5.out.size (by rintro j hj; cases hj; omega)⟩
      · have HS : Hid (Bl.refStep b node = ⟨b.round, node⟩) := by
          show _ = _
          rw [Bl.refStep, if_neg (by rw [HU.out]; exact hup)]
        have hle : ¬ 4294967296 < b.round := by omega
        have HY : Hid (Bl.refNext b node = (⟨b.round, node⟩, true)) := by show _ = _; rw [HX.out, HS.out, if_neg hle]
        obtain rfl : u1 = false := by cases u1 with
          | false => rfl
          | true => exact absurd (by simp) hup
        obtain rfl : u2 = false := by cases u2 with
          | false => rfl
          | true => exact absurd (by simp) hup
        clear hr0 hr1 hup
        go_wp2_with (refine store_bal (by rfl) _ _ (by rfl) (w.heap.size + 1) Bl.zero ⟨b.round, node⟩ (by rfl) (by rfl) HK3.out ?_; intro w6 hl6 hg6)
        refine ret_bal2 rfl rfl hl6 rfl ?_
        exact ⟨by rw [HY.out]; rfl, HB3.out.grown hg6 HB3.out.size (by rintro j hj; cases hj; omega)⟩
    · have hw' : Bl.within node 9 = false := by simpa using hw
      rw [hw'] at HW9
      have HX : Hid (Bl.refNext b node = (Bl.zero, false)) := by show _ = _; rw [Bl.refNext, if_neg (by rw [hw']; simp)]
      clear hw hw'
      cases t1 <;> cases t2 <;> (try (have h9 := HW9.out; cases h9; done))
      all_goals
        go_wp2_with (refine store_bal (by rfl) _ _ (by rfl) (w.heap.size + 1) Bl.zero Bl.zero (by rfl) (by rfl) HK2.out ?_; intro w4 hl4 hg4)
        refine ret_bal2 rfl rfl hl4 rfl ?_
        exact ⟨by rw [HX.out]; rfl, HB2.out.grown hg4 HB2.out.size (by rintro j hj; cases hj; omega)⟩

/-- The law's own ballot. -/
theorem Bl.next_own : Bl.next ⟨3, 2⟩ 1 = (⟨4, 1⟩, 0) := by decide +kernel
theorem Bl.text_own : Bl.text ⟨4, 1⟩ = [52, 46, 49] := by decide +kernel

set_option maxRecDepth 4000 in
set_option maxHeartbeats 1600000 in
theorem awakeB_any (w : World) (hp : PowIn w) : Calls Tryd.prog 12 #[] w (Truly w) := by
  have HP := Lib.hid hp
  clear hp
  have heq := fun W => run_eql_bal W ⟨4, 1⟩ ⟨4, 1⟩
  have hgd := guard_bal
  have hdt : decide ((⟨4, 1⟩ : Bl.Bal) = ⟨4, 1⟩) = true := by decide
  rw [hdt] at heq
  dsimp only [Bl.cells] at heq
  go_enter Tryd.func12, Tryd.ntmps12
  go_wp2_with fail
  refine (bnext_any ⟨3, 2⟩ 1 _).mono ?_
  rintro e w2 ⟨rfl, hB2⟩
  rw [Bl.next_own]
  obtain ⟨w3, e3, hl3, hB3, hz3⟩ := box_bal w2 ⟨4, 1⟩
  have HB3 := Lib.hid (hB2.trans (hB3.mono hB2.size))
  obtain ⟨r0, r1⟩ := Bals.both hl3
  dsimp only [Bl.cells] at e3 r0 r1 ⊢
  clear hB2 hB3 hl3 hz3
  go_wp2_with fail
  refine (btext_any ⟨4, 1⟩ _ (HP.out.below HB3.out)).mono ?_
  rintro e w4 ⟨rfl, hB4⟩
  rw [Bl.text_own]
  have HB4 := Lib.hid (HB3.out.trans (hB4.mono HB3.out.size))
  go_wp2
  go_ret
  exact truly_of HB4.out

end Go.Proofs.YtjdohnadgdeaiaaDoor
