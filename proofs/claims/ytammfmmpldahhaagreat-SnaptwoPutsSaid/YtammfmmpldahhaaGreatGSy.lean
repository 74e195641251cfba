/- Several texts of mine in one: MgUp MgRevs MgAwake MgCame. -/
import Derived.Test.YtammfmmpldahhaaGreatGSw
import Derived.Test.YtammfmmpldahhaaGreatGSx
import Derived.Test.YtammfmmpldahhaaGreatGSu
import Derived.Test.YtammfmmpldahhaaGreatElRows
namespace Go.Proofs.YtammfmmpldahhaaGreat
open Go.RowKit

/-- What is owned stays where another block turns (its base known). -/
theorem OwnsR.apart {w w' : World} {base g : Nat} {E : TypeId} {k : Nat} {v : Value} {rs : List (Array Value)} (h : OwnsR w base E k v rs) (hg : w.grownBy w' (some g)) (hlt : g < base) : OwnsR w' base E k v rs := by
  refine ⟨h.1, ?_⟩
  rcases h.2 with hn | ⟨j, cap, cur, rfl, hb', hgg, rest⟩
  · exact .inl hn
  · exact .inr ⟨j, cap, cur, rfl, hb', (hg.block j (Array.getElem?_eq_some_iff.1 hgg).1 (by simp; omega)).trans hgg, rest⟩
/-- What a call leaves that makes a state: the sessions lie behind the pairs. -/
def MadeC (w : World) (s : Mg.St) (e : Ending) (w' : World) : Prop := ∃ vp vs B, e = .returned (.agg (Mg.cells s.schema vp vs)) ∧ OwnsR w' w.heap.size 62 3 vp (s.pairs.map Kv.cells) ∧ (∀ j, vp.ownBlock = some j → j < B) ∧ w.heap.size ≤ B ∧ OwnsR w' B 55 8 vs (s.sess.map Se.cells) ∧ B ≤ w'.heap.size ∧ Below w.heap.size w w'
theorem MadeC.gives {w : World} {s : Mg.St} (e : Ending) (w' : World) (h : MadeC w s e w') : GivesSt w s e w' := by
  obtain ⟨vp, vs, B, he, h1, _, _, h2, _, h3⟩ := h
  exact ⟨vp, vs, he, ⟨h1.reads (Kv.sized _), h2.reads (Se.sized _)⟩, h3⟩
/-- What a call leaves that makes a state. -/
def MadeSt (w : World) (s : Mg.St) (e : Ending) (w' : World) : Prop := ∃ vp vs, e = .returned (.agg (Mg.cells s.schema vp vs)) ∧ OwnsR w' w.heap.size 62 3 vp (s.pairs.map Kv.cells) ∧ OwnsR w' w.heap.size 55 8 vs (s.sess.map Se.cells) ∧ Below w.heap.size w w'
theorem MadeSt.gives {w : World} {s : Mg.St} (e : Ending) (w' : World) (h : MadeSt w s e w') : GivesSt w s e w' := by
  obtain ⟨vp, vs, he, h1, h2, h3⟩ := h
  exact ⟨vp, vs, he, ⟨h1.reads (Kv.sized _), h2.reads (Se.sized _)⟩, h3⟩
theorem OwnsR.sl {w : World} {base : Nat} {E : TypeId} {k : Nat} {v : Value} {rs : List (Array Value)} (h : OwnsR w base E k v rs) : ∃ o n c, v = .slice o n c := by
  obtain ⟨o, c, e⟩ := h.shape
  exact ⟨_, _, _, e⟩

set_option maxRecDepth 4000 in
set_option maxHeartbeats 3200000 in
theorem cloneC_any (s : Mg.St) (vp vs : Value) (w : World) (hr : StR w s vp vs) (hf : s.Few) :
    Calls Tryz.prog 87 #[.agg (Mg.cells s.schema vp vs)] w (MadeC w s) := by
  obtain ⟨w1, e1, hx1, hB1, hz1⟩ := box_st w s s.schema vp vs hr
  obtain ⟨w2, e2, hx2, hB2, hz2⟩ := box_st0 w1
  rw [hz1] at hx2 hz2
  have HX2 := Lib.hid (hx1.below hB2 (by omega))
  have HZ2 := Lib.hid hx2
  have HB2 : Hid (Below w.heap.size w w2) := hB1.trans (hB2.mono hB1.size)
  have HR := Lib.hid hr
  have HF := Lib.hid hf
  have HN2 : Hid (w2.heap.size = w.heap.size + 1 + 1) := hz2
  obtain ⟨_, c1, _⟩ := HX2.out.all
  clear hx1 hx2 hB1 hB2 hz2 hr hf
  dsimp only [Mg.cells] at e2
  go_enter Tryz.func87, Tryz.ntmps87
  go_wp2_with fail
  refine (cloneKv_any vp s.pairs w2 (HR.out.below HB2.out).kv (by have := HF.out.len; omega)).mono ?_
  rintro e w3 ⟨v3, rfl, ho3, hb3⟩
  obtain ⟨io, ic, hs3⟩ := ho3.shape
  rw [List.length_map] at hs3
  have HO3 := Lib.hid ho3
  have HX3 := Lib.hid (HX2.out.below hb3 HX2.out.lies.lt)
  have HZ3 := Lib.hid (HZ2.out.below hb3 HZ2.out.lies.lt)
  have HB3 : Hid (Below w.heap.size w w3) := HB2.out.trans (hb3.mono HB2.out.size)
  clear ho3 hb3 c1
  subst hs3
  go_wp2_with (first | (refine store_pairs rfl _ _ rfl io s.pairs.length ic rfl rfl HX3.out ?_; intro w4 hx4 hg4; have HX4 := Lib.hid hx4; have HG4 := Lib.hid hg4; have c2 : w4.cell? ⟨w.heap.size, 2, none⟩ = some vs := HX4.out.all.2.2; clear hx4 hg4))
  have HO4 := Lib.hid (HO3.out.apart HG4.out (by have := HN2.out; omega))
  have HB4 : Hid (Below w.heap.size w w4) := HB3.out.grown HG4.out HB3.out.size (by rintro j hj; cases hj; exact Nat.le_refl _)
  have HZ4 := Lib.hid (HZ3.out.kept HG4.out (by omega))
  have HN4 : Hid (w.heap.size + 1 < w4.heap.size) := by show _ < _; have := HN2.out; have := HX4.out.lies.lt; have := HB4.out.size; have := HZ4.out.lies.lt; omega
  refine (cloneSe_any vs s.sess w4 (HR.out.below HB4.out).ses (by have := HF.out.num; omega)).mono ?_
  rintro e w5 ⟨v5, rfl, ho5, hb5⟩
  obtain ⟨ao, ac, hs5⟩ := ho5.shape
  rw [List.length_map] at hs5
  have HA5 := Lib.hid ho5
  have HO5 := Lib.hid (HO4.out.keep hb5 (Nat.le_refl _))
  have HX5 := Lib.hid (HX4.out.below hb5 HX4.out.lies.lt)
  have HZ5 := Lib.hid (HZ4.out.below hb5 HZ4.out.lies.lt)
  have HB5 : Hid (Below w.heap.size w w5) := HB4.out.trans (hb5.mono HB4.out.size)
  have HL5 : Hid (w4.heap.size ≤ w5.heap.size) := hb5.size
  clear ho5 hb5 c2
  subst hs5
  go_wp2_with (first
    | (refine store_sess rfl _ _ rfl ao s.sess.length ac rfl rfl HX5.out ?_; intro w6 hx6 hg6; have HX6 := Lib.hid hx6; have HG6 := Lib.hid hg6; have HZ6 := Lib.hid (HZ5.out.kept HG6.out (by omega)); clear hx6 hg6)
    | (refine load_st rfl _ rfl rfl HX6.out ?_)
    | (refine store_st rfl _ _ rfl rfl HZ6.out ⟨⟨_, _, _, rfl⟩, ⟨_, _, _, rfl⟩⟩ rfl ?_; intro w7 hx7 hg7; have HX7 := Lib.hid hx7; have HG7 := Lib.hid hg7; clear hx7 hg7))
  refine ret_st1 rfl rfl HX7.out rfl ?_
  have hB6 : Below w.heap.size w w6 := HB5.out.grown HG6.out HB5.out.size (by rintro j hj; cases hj; exact Nat.le_refl _)
  have hs6 : w5.heap.size ≤ w6.heap.size := HG6.out.size
  have hs7 : w6.heap.size ≤ w7.heap.size := HG7.out.size
  refine ⟨_, _, w4.heap.size, rfl, ?_, fun j hj => (HO4.out.lt j hj).2, HB4.out.size, ?_, ?_, hB6.grown HG7.out hB6.size (by rintro j hj; cases hj; omega)⟩
  · exact ((HO5.out.apart HG6.out (by have := HN2.out; omega)).apart HG7.out (by have := HN2.out; omega)).mono (by have := HN2.out; omega)
  · exact (HA5.out.apart HG6.out (by have := HN4.out; omega)).apart HG7.out HN4.out
  · have := HL5.out; omega

set_option maxRecDepth 4000 in
set_option maxHeartbeats 3200000 in
theorem revised_any (s : Mg.St) (n r : Int) (vp vs : Value) (w : World) (hr : StR w s vp vs) (hf : s.Few) :
    Calls Tryz.prog 66 #[.agg (Mg.cells s.schema vp vs), .int .i64 n, .int .i64 r] w (MadeSt w (Mg.revd s n r)) := by
  obtain ⟨w1, e1, hx1, hB1, hz1⟩ := box_st w s s.schema vp vs hr
  obtain ⟨w2, e2, hx2, hB2, hz2⟩ := box_st0 w1
  rw [hz1] at hx2 hz2
  have HX2 := Lib.hid (hx1.below hB2 (by omega))
  have HZ2 := Lib.hid hx2
  have HB2 : Hid (Below w.heap.size w w2) := hB1.trans (hB2.mono hB1.size)
  have HC := Lib.hid (cloneC_any s vp vs w2 (hr.below HB2.out) hf)
  have HFL := Lib.hid hf.len
  have HN2 : Hid (w2.heap.size = w.heap.size + 1 + 1) := hz2
  clear hx1 hx2 hB1 hB2 hz2 hr hf
  dsimp only [Mg.cells] at e2
  go_enter Tryz.func66, Tryz.ntmps66
  go_wp2_with (first | (refine load_st rfl _ rfl rfl HX2.out ?_; refine Hid.out ?_))
  refine Lib.hid ?_
  go_wp2_with fail
  refine HC.out.mono ?_
  rintro e w3 ⟨up, us, B, rfl, ho3, hown, hlo, ha3, hB3, hb3⟩
  obtain ⟨so, sc, hss⟩ := ha3.shape
  rw [List.length_map] at hss
  have HA3 := Lib.hid ha3
  have HX3 := Lib.hid (HX2.out.below hb3 HX2.out.lies.lt)
  have HZ3 := Lib.hid (HZ2.out.below hb3 HZ2.out.lies.lt)
  have HB3 : Hid (Below w.heap.size w w3) := HB2.out.trans (hb3.mono HB2.out.size)
  have HLO : Hid (w.heap.size + 1 < B) := by show _ < _; have := HN2.out; omega
  have HOWN := Lib.hid hown
  clear ha3 hb3 hB3 hlo hown
  subst hss
  rcases RowK.of_owns ho3 with ⟨rfl, h0⟩ | ⟨g, cap, hv3, hg, hrow⟩
  · have HZ : Hid (s.pairs = []) := h0
    clear h0 ho3
    go_wp2_with (first
      | (refine store_st rfl _ _ rfl rfl HX3.out ⟨⟨_, _, _, rfl⟩, ⟨_, _, _, rfl⟩⟩ rfl ?_; intro w4 hx4 hg4; have HX4 := Lib.hid hx4; have HG4 := Lib.hid hg4; clear hx4 hg4)
      | (refine store_schema rfl _ _ rfl n rfl rfl HX4.out ?_; intro w5 hx5 hg5; have HX5 := Lib.hid hx5; have HG5 := Lib.hid hg5; have c1 : w5.cell? ⟨w.heap.size, 1, none⟩ = some (.slice none 0 0) := HX5.out.all.2.1; clear hx5 hg5))
    refine wp_loop_rounds 1 ?_
    rw [rounds_succ]
    have HZ5 := Lib.hid ((HZ3.out.kept HG4.out (by omega)).kept HG5.out (by omega))
    clear c1
    go_wp2_with (first
      | (refine load_st rfl _ rfl rfl HX5.out ?_)
      | (refine store_st rfl _ _ rfl rfl HZ5.out ⟨⟨_, _, _, rfl⟩, ⟨_, _, _, rfl⟩⟩ rfl ?_; intro w6 hx6 hg6; have HX6 := Lib.hid hx6; have HG6 := Lib.hid hg6; clear hx6 hg6))
    refine ret_st1 rfl rfl HX6.out rfl ?_
    have hB4 : Below w.heap.size w w4 := HB3.out.grown HG4.out HB3.out.size (by rintro j hj; cases hj; exact Nat.le_refl _)
    have hB5 : Below w.heap.size w w5 := hB4.grown HG5.out hB4.size (by rintro j hj; cases hj; exact Nat.le_refl _)
    have hA6 := ((HA3.out.apart HG4.out (by have := HLO.out; omega)).apart HG5.out (by have := HLO.out; omega)).apart HG6.out HLO.out
    refine ⟨_, _, rfl, ?_, hA6.mono (by have := HLO.out; omega), hB5.grown HG6.out hB5.size (by rintro j hj; cases hj; omega)⟩
    show OwnsR _ _ _ _ _ ((s.pairs.map _).map _)
    rw [HZ.out]
    exact OwnsR.empty _ _ _ _
  · subst hv3
    have HG : Hid (w.heap.size + 1 < g) := by show _ < _; have := HN2.out; omega
    have HGB : Hid (g < B) := HOWN.out g rfl
    have HR3 := Lib.hid hrow
    obtain ⟨m, hm⟩ : ∃ m, m = s.pairs.length := ⟨_, rfl⟩
    rw [← hm]
    have HM := Lib.hid hm
    have hmb : m ≤ 1000000 := by have := HFL.out; omega
    clear hrow ho3 hg hm
    go_wp2_with (first
      | (refine store_st rfl _ _ rfl rfl HX3.out ⟨⟨_, _, _, rfl⟩, ⟨_, _, _, rfl⟩⟩ rfl ?_; intro w4 hx4 hg4; have HX4 := Lib.hid hx4; have HG4 := Lib.hid hg4; clear hx4 hg4)
      | (refine store_schema rfl _ _ rfl n rfl rfl HX4.out ?_; intro w5 hx5 hg5; have HX5 := Lib.hid hx5; have HG5 := Lib.hid hg5; have c1 : w5.cell? ⟨w.heap.size, 1, none⟩ = some (.slice (some ⟨g, 0, none⟩) m cap) := HX5.out.all.2.1; clear hx5 hg5))
    have HZ5 := Lib.hid ((HZ3.out.kept HG4.out (by omega)).kept HG5.out (by omega))
    have hB4 : Below w.heap.size w w4 := HB3.out.grown HG4.out HB3.out.size (by rintro j hj; cases hj; exact Nat.le_refl _)
    have HB5 : Hid (Below w.heap.size w w5) := hB4.grown HG5.out hB4.size (by rintro j hj; cases hj; exact Nat.le_refl _)
    have HA5 := Lib.hid ((HA3.out.apart HG4.out (by have := HLO.out; omega)).apart HG5.out (by have := HLO.out; omega))
    have HR5 := Lib.hid ((HR3.out.kept HG4.out (by simp; have := HG.out; omega)).kept HG5.out (by simp; have := HG.out; omega))
    clear hB4 c1
    go_loopw [15] (fun i wr => ∃ k : Nat, i = .int .i64 (k : Int) ∧ k ≤ m ∧ Hid (RowK wr g cap (Kv.part (Mg.rev r) s.pairs k)) ∧ Hid (OwnsR wr B 55 8 (.slice so s.sess.length sc) (s.sess.map Se.cells)) ∧ Hid (StAt wr w.heap.size n (.slice (some ⟨g, 0, none⟩) m cap) (.slice so s.sess.length sc)) ∧ Hid (StAt wr (w.heap.size + 1) 0 (.slice none 0 0) (.slice none 0 0)) ∧ Below w.heap.size w wr) (fun i _ => m - (intOf i).toNat)
    case atStart => exact ⟨0, rfl, by omega, by show RowK _ _ _ _; rw [Kv.part_none]; exact HR5.out, HA5, HX5, HZ5, HB5.out⟩
    case round =>
      obtain ⟨k, rfl, hk, HI, HA, HX, HZ, hB⟩ := hrel
      have HB := Lib.hid hB
      clear hB
      by_cases hlt : k < m
      · obtain ⟨p, hp⟩ : ∃ e, s.pairs[k]? = some e := ⟨_, List.getElem?_eq_getElem (by have := HM.out; omega)⟩
        have HC1 := Lib.hid (Kv.part_at (Mg.rev r) hp)
        have HS := Lib.hid (Kv.part_set (Mg.rev r) hp)
        have c1 : wr.cell? ⟨w.heap.size, 1, none⟩ = some (.slice (some ⟨g, 0, none⟩) m cap) := HX.out.all.2.1
        clear hp
        go_wp2_with (first
          | (refine store_rev rfl _ _ rfl cap k _ r rfl rfl HI.out HC1.out ?_; intro w6 hr6 hg6))
        go_roundw
        case rel => exact ⟨k + 1, by go_num, by omega, by show RowK _ _ _ _; rw [← HS.out]; exact hr6, HA.out.apart hg6 HGB.out, HX.out.kept hg6 (by have := HG.out; omega), HZ.out.kept hg6 (by have := HG.out; omega), HB.out.grown hg6 HB.out.size (by rintro j hj; cases hj; have := HG.out; omega)⟩
        case measure => simp [intOf]; omega
      · obtain rfl : k = m := by omega
        go_wp2_with (first
          | (refine load_st rfl _ rfl rfl HX.out ?_)
          | (refine store_st rfl _ _ rfl rfl HZ.out ⟨⟨_, _, _, rfl⟩, ⟨_, _, _, rfl⟩⟩ rfl ?_; intro w6 hx6 hg6; have HX6 := Lib.hid hx6; have HG6 := Lib.hid hg6; clear hx6 hg6))
        refine ret_st1 rfl rfl HX6.out rfl ?_
        have hA6 := HA.out.apart HG6.out HLO.out
        have hI6 := HI.out.kept HG6.out (by simp; have := HG.out; omega)
        rw [HM.out, Kv.part_all] at hI6
        have hI7 := hI6.owns (show w.heap.size ≤ g by have := HG.out; omega)
        rw [List.length_map, ← HM.out] at hI7
        exact ⟨_, _, rfl, hI7, hA6.mono (by have := HLO.out; omega), HB.out.grown HG6.out HB.out.size (by rintro j hj; cases hj; omega)⟩

/-- What a call leaves that migrates a state, or tells why not. -/
def MadeUp (w : World) (q : Mg.St × Int) (e : Ending) (w' : World) : Prop := ∃ vp vs, e = .returned (.tuple #[.agg (Mg.cells q.1.schema vp vs), .int .i64 q.2]) ∧ OwnsR w' w.heap.size 62 3 vp (q.1.pairs.map Kv.cells) ∧ OwnsR w' w.heap.size 55 8 vs (q.1.sess.map Se.cells) ∧ Below w.heap.size w w'

set_option maxRecDepth 4000 in
set_option maxHeartbeats 1600000 in
theorem up_any (s : Mg.St) (vp vs : Value) (w : World) (hr : StR w s vp vs) (hf : s.Few) :
    Calls Tryz.prog 39 #[.agg (Mg.cells s.schema vp vs)] w (MadeUp w (Mg.up s)) := by
  obtain ⟨w1, e1, hx1, hB1, hz1⟩ := box_st w s s.schema vp vs hr
  obtain ⟨w2, e2, hx2, hB2, hz2⟩ := box_st0 w1
  rw [hz1] at hx2 hz2
  have HX2 := Lib.hid (hx1.below hB2 (by omega))
  have HZ2 := Lib.hid hx2
  have HB2 : Hid (Below w.heap.size w w2) := hB1.trans (hB2.mono hB1.size)
  have HR := Lib.hid hr
  have HCK := Lib.hid (checkSt_any s vp vs w2 (hr.below HB2.out) hf)
  have HRV := Lib.hid (fun W h => revised_any s 2 1 vp vs W h hf)
  have HN2 : Hid (w2.heap.size = w.heap.size + 1 + 1) := hz2
  obtain ⟨D, hD⟩ : ∃ D, D = Mg.up s := ⟨_, rfl⟩
  rw [← hD]
  have HNO := Lib.hid (fun h => hD.trans (Mg.up_no (s := s) h))
  have HLT := Lib.hid (fun h1 h2 => hD.trans (Mg.up_late (s := s) h1 h2))
  have HYS := Lib.hid (fun h1 h2 => hD.trans (Mg.up_yes (s := s) h1 h2))
  obtain ⟨b, hb⟩ : ∃ b, b = Mg.check s := ⟨_, rfl⟩
  rw [← hb] at HCK HNO HLT HYS
  clear hx1 hx2 hB1 hB2 hz2 hr hf hb hD
  dsimp only [Mg.cells] at e2
  go_enter Tryz.func39, Tryz.ntmps39
  go_wp2_with (first | (refine load_st rfl _ rfl rfl HX2.out ?_; refine Hid.out ?_))
  refine Lib.hid ?_
  go_wp2_with fail
  refine HCK.out.mono ?_
  rintro e w3 ⟨rfl, hb3⟩
  have HX3 := Lib.hid (HX2.out.below hb3 HX2.out.lies.lt)
  have HZ3 := Lib.hid (HZ2.out.below hb3 HZ2.out.lies.lt)
  have HB3 : Hid (Below w.heap.size w w3) := HB2.out.trans (hb3.mono HB2.out.size)
  clear hb3
  cases b with
  | false =>
    have HD := Lib.hid (HNO.out rfl)
    clear HNO HLT HYS
    go_wp2_with (first
      | (refine store_st (m := 0) (up := .slice none 0 0) (us := .slice none 0 0) rfl _ _ rfl rfl HZ3.out ⟨⟨_, _, _, rfl⟩, ⟨_, _, _, rfl⟩⟩ rfl ?_; intro w4 hx4 hg4; have HX4 := Lib.hid hx4; have HG4 := Lib.hid hg4; clear hx4 hg4))
    refine ret_st2 rfl rfl HX4.out rfl ?_
    rw [HD.out]
    exact ⟨_, _, rfl, OwnsR.empty _ _ _ _, OwnsR.empty _ _ _ _, HB3.out.grown HG4.out HB3.out.size (by rintro j hj; cases hj; omega)⟩
  | true =>
    obtain ⟨c0, _, _⟩ := HX3.out.all
    by_cases h2 : s.schema = 2
    · have HD := Lib.hid (HLT.out rfl h2)
      have d2 : (s.schema == 2) = true := by simpa using h2
      clear HNO HLT HYS h2
      go_wp2_with (first
        | (refine store_st (m := 0) (up := .slice none 0 0) (us := .slice none 0 0) rfl _ _ rfl rfl HZ3.out ⟨⟨_, _, _, rfl⟩, ⟨_, _, _, rfl⟩⟩ rfl ?_; intro w4 hx4 hg4; have HX4 := Lib.hid hx4; have HG4 := Lib.hid hg4; clear hx4 hg4))
      refine ret_st2 rfl rfl HX4.out rfl ?_
      rw [HD.out]
      exact ⟨_, _, rfl, OwnsR.empty _ _ _ _, OwnsR.empty _ _ _ _, HB3.out.grown HG4.out HB3.out.size (by rintro j hj; cases hj; omega)⟩
    · have HD := Lib.hid (HYS.out rfl h2)
      have d2 : (s.schema == 2) = false := by simpa using h2
      clear HNO HLT HYS h2
      go_wp2_with (first | (refine load_st rfl _ rfl rfl HX3.out ?_; refine Hid.out ?_))
      refine Lib.hid ?_
      clear c0
      go_wp2_with fail
      refine (HRV.out w3 (HR.out.below HB3.out)).mono ?_
      rintro e w4 ⟨up, us, rfl, ho4, ha4, hb4⟩
      have HO4 := Lib.hid ho4
      have HA4 := Lib.hid ha4
      have HZ4 := Lib.hid (HZ3.out.below hb4 HZ3.out.lies.lt)
      have HB4 : Hid (Below w.heap.size w w4) := HB3.out.trans (hb4.mono HB3.out.size)
      have HN3 : Hid (w.heap.size + 1 < w3.heap.size) := HZ3.out.lies.lt
      clear ho4 ha4 hb4
      go_wp2_with (first
        | (refine store_st rfl _ _ rfl rfl HZ4.out ⟨HO4.out.sl, HA4.out.sl⟩ rfl ?_; intro w5 hx5 hg5; have HX5 := Lib.hid hx5; have HG5 := Lib.hid hg5; clear hx5 hg5))
      refine ret_st2 rfl rfl HX5.out rfl ?_
      rw [HD.out]
      have hn := HN3.out
      exact ⟨_, _, rfl, (HO4.out.apart HG5.out hn).mono (by omega), (HA4.out.apart HG5.out hn).mono (by omega), HB4.out.grown HG5.out HB4.out.size (by rintro j hj; cases hj; omega)⟩

end Go.Proofs.YtammfmmpldahhaaGreat


namespace Go.Proofs.YtammfmmpldahhaaGreat
open Go.RowKit

/-- append(out, p) onto a row of the call's own: the element has been laid in a block ahead. -/
theorem append_kv {ops : Array Oper} {rest : List Oper} {o : Oper} {a : Act} {Q : Exit → Act → World → Prop} (hgd : o.guard = none) (s x : Operand)
    (ho : o.op = .call { callee := .builtin .append, args := #[s, x], argTypes := #[22, 22] })
    (w : World) (base : Nat) (l : List Kv.Item) (v : Value) (e : Kv.Item) (hs : a.eval s = v) (hx : a.eval x = .slice (some ⟨w.heap.size, 0, none⟩) 1 1) (hown : OwnsR w base 62 3 v (l.map Kv.cells)) (hlen : l.length ≤ 1048576)
    (w0 : World) (hb : Below base w0 w) (hbase : base ≤ w0.heap.size)
    (h : ∀ v' w', OwnsR w' base 62 3 v' ((l ++ [e]).map Kv.cells) → Below base w0 w' → wpList Tryz.prog ops Q rest (a.put o.dst v') w') : wpList Tryz.prog ops Q (o :: rest) a (w.alloc (.cells (Kv.cells e) 62)) := by
  refine append_rows hgd s x 22 62 3 40 (.agg (Kv.cells Kv.zero)) ho Tryz.underlying22 info_kv rfl (by decide) base (l.map Kv.cells) [Kv.cells e] v _ hs hx (hown.alloc _) (ReadsR.single (Lies.new w _ _)) (Kv.sized [e]) (by simp; omega) (by simp; omega) w0 (hb.alloc (by have := hb.size; omega) _) hbase fun v' w' h1 h2 _ => h v' w' ?_ h2
  rw [List.map_append]
  exact h1
/-- A load of a pair, its cells spelt out. -/
theorem load_lit3 {ops : Array Oper} {rest : List Oper} {op : Oper} {a : Act} {w : World} {Q : Exit → Act → World → Prop} (hgd : op.guard = none) (x : Operand) (ho : op.op = .load 62 x)
    (g o : Nat) (s : Kv.Item) (hx : a.eval x = .pointer (some ⟨g, o, none⟩)) (hl : KvAt w g o s)
    (h : wpList Tryz.prog ops Q rest (a.put op.dst (.agg #[.string ⟨s.key.toArray⟩, .string ⟨s.val.toArray⟩, .int .i64 s.rev])) w) : wpList Tryz.prog ops Q (op :: rest) a w :=
  load_kv hgd x ho g o s hx hl h
/-- The revision of a pair in a block stored anew. -/
theorem store_kvrev {ops : Array Oper} {rest : List Oper} {op : Oper} {a : Act} {w : World} {Q : Exit → Act → World → Prop} {g : Nat} (hgd : op.guard = none) (x y : Operand) (ho : op.op = .store 3 x y) (p : Kv.Item) (r : Int) (hx : a.eval x = .pointer (some ⟨g, 2, none⟩)) (hy : a.eval y = .int .i64 r) (hl : Kvs w g p)
    (h : ∀ w', Kvs w' g (Mg.rev r p) → w.grownBy w' (some g) → wpList Tryz.prog ops Q rest (a.put op.dst undef) w') : wpList Tryz.prog ops Q (op :: rest) a w :=
  store_part hgd _ x y ho g 2 62 _ (Kv.cells (Mg.rev r p)) (.int .i64 r) [.int .i64 r] hx hy rfl (by kernel_rfl) rfl hl (Nat.le_of_ble_eq_true rfl) rfl fun w' h1 h2 => h w' h1 h2
theorem Mg.rev_take (r : Int) {l : List Kv.Item} {k : Nat} {p : Kv.Item} (h : l[k]? = some p) : (l.take (k + 1)).map (Mg.rev r) = (l.take k).map (Mg.rev r) ++ [Mg.rev r p] := by
  rw [List.take_add_one, h, List.map_append]
  rfl

set_option maxRecDepth 4000 in
set_option maxHeartbeats 3200000 in
theorem revs_any (s : Mg.St) (n r : Int) (vp vs : Value) (w : World) (hr : StR w s vp vs) (hf : s.Few) :
    Calls Tryz.prog 18 #[.agg (Mg.cells s.schema vp vs), .int .i64 n, .int .i64 r] w (GivesSt w (Mg.revd s n r)) := by
  obtain ⟨ao, cap, rfl, hc1, hc2⟩ := ReadsK.shape hr.kv
  obtain ⟨so, sc, rfl, _, _⟩ := ReadsN.shape hr.ses
  have HP := Lib.hid (fun h => ReadsK.places hr.kv h)
  obtain ⟨w1, e1, hx1, hB1, hz1⟩ := box_st w s s.schema _ _ hr
  obtain ⟨w2, e2, hx2, hB2, hz2⟩ := box_st0 w1
  obtain ⟨w3, e3, hx3, hB3, hz3⟩ := box_st0 w2
  rw [hz1] at hx2 hz2
  rw [hz2] at hx3 hz3
  have hB23 : Below w1.heap.size w1 w3 := hB2.trans (hB3.mono hB2.size)
  have hx12 := hx1.below hB2 (by omega)
  have HX3 := Lib.hid (hx12.below hB3 (by omega))
  have HZ3 := Lib.hid (hx2.below hB3 (by omega))
  have HO3 := Lib.hid hx3
  have HB3 : Hid (Below w.heap.size w w3) := hB1.trans (hB23.mono hB1.size)
  have HN3 : Hid (w3.heap.size = w.heap.size + 1 + 1 + 1) := hz3
  have HR := Lib.hid hr
  obtain ⟨m, hm⟩ : ∃ m, m = s.pairs.length := ⟨_, rfl⟩
  have HM := Lib.hid hm
  have hmb : m ≤ 1000000 := by have := hf.len; omega
  rw [← hm] at hc1 HX3 HR e1 HP ⊢
  have c2 : w2.cell? ⟨w.heap.size, 2, none⟩ = some (.slice so s.sess.length sc) := hx12.all.2.2
  clear hx12 hx1 hx2 hx3 hB1 hB2 hB3 hB23 hz3 hr hf hm
  dsimp only [Mg.cells] at e2 e3
  go_enter Tryz.func18, Tryz.ntmps18
  go_wp2_with (first
    | (refine store_st (m := n) (up := .slice none 0 0) (us := .slice so s.sess.length sc) rfl _ _ rfl rfl HO3.out ⟨⟨_, _, _, rfl⟩, ⟨_, _, _, rfl⟩⟩ rfl ?_; intro w4 hx4 hg4; have HX4 := Lib.hid hx4; have HG4 := Lib.hid hg4; clear hx4 hg4))
  have HG2 : Hid (w.heap.size + 1 + 1 < w3.heap.size) := by show _ < _; have := HN3.out; omega
  have HX4' : Hid (StAt w4 w.heap.size s.schema (.slice ao m cap) (.slice so s.sess.length sc)) := HX3.out.kept HG4.out (by omega)
  have HZ4 : Hid (StAt w4 (w.heap.size + 1) 0 (.slice none 0 0) (.slice none 0 0)) := HZ3.out.kept HG4.out (by omega)
  have HB4 : Hid (Below w.heap.size w w4) := HB3.out.grown HG4.out HB3.out.size (by rintro j hj; cases hj; omega)
  have HL4 : Hid (w3.heap.size ≤ w4.heap.size) := HG4.out.size
  clear c2
  go_wp2
  go_loopw [8] (fun i wr => ∃ (k : Nat) (uo : Option Addr) (uc : Nat), i = .int .i64 (k : Int) ∧ k ≤ m ∧ Hid (OwnsR wr w3.heap.size 62 3 (.slice uo k uc) (((s.pairs.take k).map (Mg.rev r)).map Kv.cells)) ∧ Hid (StAt wr (w.heap.size + 1 + 1) n (.slice uo k uc) (.slice so s.sess.length sc)) ∧ Hid (StAt wr (w.heap.size + 1) 0 (.slice none 0 0) (.slice none 0 0)) ∧ Hid (StAt wr w.heap.size s.schema (.slice ao m cap) (.slice so s.sess.length sc)) ∧ Hid (w3.heap.size ≤ wr.heap.size) ∧ Below w.heap.size w wr) (fun i _ => m - (intOf i).toNat)
  case atStart => exact ⟨0, none, 0, rfl, by omega, OwnsR.empty _ _ _ _, HX4, HZ4, HX4', HL4, HB4.out⟩
  case round =>
    clear HX4 HZ4 HX4' HL4 HB4 HG4
    obtain ⟨k, uo, uc, rfl, hk, HO, HX, HZ, HY, HL, hB⟩ := hrel
    have HB := Lib.hid hB
    clear hB
    obtain ⟨_, c1, _⟩ := HY.out.all
    by_cases hlt : k < m
    · obtain ⟨p, hp⟩ : ∃ e, s.pairs[k]? = some e := ⟨_, List.getElem?_eq_getElem (by have := HM.out; omega)⟩
      obtain ⟨g, off, rfl, hgl, hcell⟩ := HP.out (by omega)
      have HC := Lib.hid (hcell wr HB.out k p hp)
      have HT := Lib.hid (Mg.rev_take r hp)
      clear hcell hp
      go_wp2_with (first
        | (refine load_kv rfl _ rfl g (off + k * 3) p rfl HC.out ?_)
        | (refine store_kv (by rfl) _ _ (by rfl) wr.heap.size Kv.zero p (by rfl) (by rfl) (Lies.new _ _ _) ?_; intro w5 hl5 hg5
           have hB5 : Below wr.heap.size wr w5 := ((Below.refl _ wr).alloc (Nat.le_refl _) _).grown hg5 (by simp) (by rintro j hj; cases hj; exact Nat.le_refl _)
           have HP5 := Lib.hid hl5
           have HB5 := Lib.hid hB5
           clear hl5 hg5 hB5)
        | (refine store_kvrev rfl _ _ rfl p r rfl rfl HP5.out ?_; intro w6 hl6 hg6
           have HP6 := Lib.hid hl6
           have HB6 : Hid (Below wr.heap.size wr w6) := HB5.out.grown hg6 HB5.out.size (by rintro j hj; cases hj; exact Nat.le_refl _)
           have d1 : w6.cell? ⟨w.heap.size + 1 + 1, 1, none⟩ = some (.slice uo k uc) := (HX.out.below HB6.out HX.out.lies.lt).all.2.1
           clear hl6 hg6)
        | (refine load_lit3 rfl _ rfl wr.heap.size 0 (Mg.rev r p) rfl (Kvs.at HP6.out) ?_)
        | (at_builtin; refine append_kv rfl _ _ rfl w6 w3.heap.size ((s.pairs.take k).map (Mg.rev r)) (.slice uo k uc) (Mg.rev r p) rfl rfl (HO.out.keep (HB6.out) (Nat.le_refl _)) (by simp; omega) wr (HB6.out.mono HL.out) HL.out ?_; intro v7 w7 ho7 hb7
           rw [← HT.out] at ho7
           have HO7 := Lib.hid ho7
           have HB7 := Lib.hid hb7
           clear ho7 hb7
           refine Hid.out ?_))
      refine Lib.hid ?_
      obtain ⟨ao7, ac7, hs7⟩ := HO7.out.shape
      rw [List.length_map, List.length_map, List.length_take, Nat.min_eq_left (by have := HM.out; omega)] at hs7
      subst hs7
      have HX7 := Lib.hid (HX.out.below HB7.out HG2.out)
      have HZ7 := Lib.hid (HZ.out.below HB7.out (by have := HG2.out; omega))
      have HY7 := Lib.hid (HY.out.below HB7.out (by have := HG2.out; omega))
      clear c1
      go_wp2_with (first
        | (refine store_pairs rfl _ _ rfl ao7 (k + 1) ac7 rfl rfl HX7.out ?_; intro w8 hx8 hg8; have HX8 := Lib.hid hx8; have HG8 := Lib.hid hg8; clear hx8 hg8))
      have hb7 : Below w.heap.size w w7 := HB.out.trans (HB7.out.mono (by have := HG2.out; omega))
      go_roundw
      case rel => exact ⟨k + 1, ao7, ac7, by go_num, by omega, HO7.out.apart HG8.out HG2.out, HX8.out, HZ7.out.kept HG8.out (by omega), HY7.out.kept HG8.out (by omega), Nat.le_trans HL.out (Nat.le_trans HB7.out.size HG8.out.size), hb7.grown HG8.out hb7.size (by rintro j hj; cases hj; omega)⟩
      case measure => simp [intOf]; omega
    · obtain rfl : k = m := by omega
      go_wp2_with (first
        | (refine load_st rfl _ rfl rfl HX.out ?_)
        | (refine store_st rfl _ _ rfl rfl HZ.out ⟨⟨_, _, _, rfl⟩, ⟨_, _, _, rfl⟩⟩ rfl ?_; intro w6 hx6 hg6; have HX6 := Lib.hid hx6; have HG6 := Lib.hid hg6; clear hx6 hg6))
      refine ret_st1 rfl rfl HX6.out rfl ?_
      have hO6 := HO.out.apart HG6.out (by have := HG2.out; omega)
      rw [List.take_of_length_le (by have := HM.out; omega)] at hO6
      have hb6 : Below w.heap.size w w6 := HB.out.grown HG6.out HB.out.size (by rintro j hj; cases hj; omega)
      exact ⟨_, _, rfl, ⟨hO6.reads (Kv.sized _), HR.out.ses.below hb6⟩, hb6⟩

end Go.Proofs.YtammfmmpldahhaaGreat


namespace Go.Proofs.YtammfmmpldahhaaGreat
open Go.RowKit

def Mg.asked : Mg.St := ⟨1, [⟨[97], [49], 0⟩], []⟩
def Mg.told : Mg.St := ⟨2, [⟨[97], [49], 1⟩], []⟩
theorem Mg.asked_up : Mg.up Mg.asked = (Mg.told, 0) := by decide +kernel
theorem Mg.asked_few : Mg.asked.Few := ⟨by decide, by intro e he; simp [Mg.asked] at he; subst he; decide, by intro e he; simp [Mg.asked] at he, by decide⟩

structure Mg.St.Came (s : Mg.St) : Prop where
  kv : ∀ e ∈ s.pairs, e.key.length ≤ 9223372036854775807 ∧ e.val.length ≤ 9223372036854775807
  ses : ∀ e ∈ s.sess, e.last.val.length ≤ 9223372036854775807

end Go.Proofs.YtammfmmpldahhaaGreat


namespace Go.Proofs.YtammfmmpldahhaaGreat
open Go.RowKit

section
variable {H : Type} {enc : TypeId × Value → H} {w : World} {b0 base : Nat} {held : Bool}
set_option maxRecDepth 20000 in
theorem el_st (m : Nat) (cs : List Value) (y : DataW H × List MemPlace) (h : DataW.trod enc Tryz.prog w base (fun _ => true) held m 25 cs = some y) :
    ∃ (a : Mg.St) (vp vs : Value), cs = (Mg.cells a.schema vp vs).toList ∧ StR w a vp vs ∧ a.Came := by
  obtain ⟨ys, n, _, _, hl, hlen, hat⟩ := DataW.trod_struct Tryz.underlying25 h
  have hce : Tryz.prog.cellsOf 25 = 3 := by kernel_rfl
  have hci : Tryz.prog.cellsOf 3 = 1 := by kernel_rfl
  have hcp : Tryz.prog.cellsOf 22 = 1 := by kernel_rfl
  have hcs : Tryz.prog.cellsOf 23 = 1 := by kernel_rfl
  have g0 := hat 0 _ rfl
  have g1 := hat 1 _ rfl
  have g2 := hat 2 _ rfl
  rw [List.getElem?_eq_getElem (by rw [hlen]; simp)] at g0 g1 g2
  have g0' : DataW.trod enc Tryz.prog w base (fun _ => true) held n 3 ((cs.drop 0).take (Tryz.prog.cellsOf 3)) = some _ := g0
  obtain ⟨bs, e0, a0, b0⟩ := one_int Tryz.underlying3 g0' hci
  have g1' : DataW.trod enc Tryz.prog w base (fun _ => true) held n 22 ((cs.drop 1).take (Tryz.prog.cellsOf 22)) = some _ := g1
  rw [hcp] at g1'
  obtain ⟨vp, l, e1, hrp, hfp⟩ := el_rows Kv.cells (fun s => s.key.length ≤ 9223372036854775807 ∧ s.val.length ≤ 9223372036854775807) Tryz.underlying22 (by kernel_rfl) (fun m cs y hm => el_kv m cs y hm) g1'
  have g2' : DataW.trod enc Tryz.prog w base (fun _ => true) held n 23 ((cs.drop 2).take (Tryz.prog.cellsOf 23)) = some _ := g2
  rw [hcs] at g2'
  obtain ⟨vs, k, e2, hrs, hfs⟩ := el_rows Se.cells (fun s => s.Fits ∧ s.last.val.length ≤ 9223372036854775807) Tryz.underlying23 (by kernel_rfl) (fun m cs y hm => el_ses m cs y hm) g2'
  rw [hce] at hl
  obtain ⟨c0, c1, c2, rfl⟩ : ∃ c0 c1 c2, cs = [c0, c1, c2] := by
    match cs, hl with
    | [c0, c1, c2], _ => exact ⟨_, _, _, rfl⟩
  refine ⟨⟨bs, l, k⟩, vp, vs, ?_, ⟨hrp, hrs⟩, ⟨hfp, fun s h => (hfs s h).2⟩⟩
  simp at e0 e1 e2
  simp [Mg.cells, e0, e1, e2]
set_option maxRecDepth 20000 in
theorem came_st {v : Value} {d : DataW H} {p : List MemPlace} (hv : Value.okWide Tryz.prog w .any b0 25 v) (h : DataW.Trod enc Tryz.prog w base (fun _ => true) held 25 v d p) :
    ∃ (a : Mg.St) (vp vs : Value), v = .agg (Mg.cells a.schema vp vs) ∧ StR w a vp vs ∧ a.Came := by
  obtain ⟨cs, rfl, hsz⟩ := WideShapes.okWide_struct Tryz.underlying25 hv
  obtain ⟨fuel, hf⟩ := h
  obtain ⟨a, vp, vs, he, hrest⟩ := el_st fuel _ _ hf
  refine ⟨a, vp, vs, ?_, hrest⟩
  have : cs.toList = (Mg.cells a.schema vp vs).toList := he
  rw [Array.toList_inj.1 this]
end

end Go.Proofs.YtammfmmpldahhaaGreat
