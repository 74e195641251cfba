/- One session more. -/
import Derived.Test.YtibpmhogapccoaaSeCopy
import Derived.Test.YtibpmhogapccoaaSeWhich
namespace Go.Proofs.Ytibpmhogapccoaa
open Go.RowKit

theorem lies_one8 (w : World) (cells : Array Value) (T : TypeId) (B : Obj) : Lies ((w.alloc (.cells cells T)).alloc B).drew w.heap.size T cells := (Lies.new w T cells).alloc B
theorem lies_two8 (w : World) (A : Obj) (cells : Array Value) (T : TypeId) : Lies ((w.alloc A).alloc (.cells cells T)).drew (w.heap.size + 1) T cells := by
  have h := Lies.new (w.alloc A) T cells
  rw [show (w.alloc A).heap.size = w.heap.size + 1 by simp] at h
  exact h
theorem below_two8 (w : World) (A B : Obj) : Below w.heap.size w ((w.alloc A).alloc B).drew := (((Below.refl _ w).alloc (Nat.le_refl _) A).alloc (by simp) B).drew

set_option maxRecDepth 4000 in
set_option maxHeartbeats 3200000 in
theorem withSe_any (v : Value) (l : List Se.Ses) (a : An.Ans) (w : World) (hv : ReadsN w v l) (hn : l.length ≤ 1000000) :
    Calls Try.prog 15 #[v, .agg (An.cells a)] w (MadeN w (Se.put l a)) := by
  obtain ⟨w1, e1, hl1, hB1, hz1⟩ := box_ans w a
  obtain ⟨p0, _⟩ := Anss.every hl1
  have hv1 := hv.below hB1
  have hcall := placeSe_any v l a.client w1 hv1 (by omega)
  obtain ⟨ao, cap, rfl, hc1, hc2⟩ := ReadsN.shape hv
  have hule := Se.upto_le l a.client
  have hbu := Se.fro_le l a.client
  have hble : Se.fro l a.client ≤ l.length := Nat.le_trans hbu hule
  have HPUT : Hid (Se.put l a = [l.take (Se.fro l a.client), [Se.of a], l.drop (Se.upto l a.client)].flatten) := by show _ = _; unfold Se.put; simp
  obtain ⟨U, hU⟩ : ∃ U, U = Se.upto l a.client := ⟨_, rfl⟩
  obtain ⟨B, hB⟩ : ∃ B, B = Se.fro l a.client := ⟨_, rfl⟩
  rw [← hB, ← hU] at hcall HPUT hbu
  rw [← hB] at hble
  rw [← hU] at hule
  obtain ⟨ao2, hs2, hr2⟩ := ReadsR.part hv1 0 B cap (Nat.zero_le _) hble (by omega) (Nat.le_refl _)
  rw [Nat.sub_zero, Nat.sub_zero] at hs2 hr2
  rw [List.drop_zero, ← List.map_take] at hr2
  obtain ⟨ao3, hs3, hr3⟩ := ReadsR.part hv1 U l.length cap hule (Nat.le_refl _) hc1 (Nat.le_refl _)
  have hrs : ((l.map Se.cells).take l.length).drop U = (l.drop U).map Se.cells := by rw [List.take_of_length_le (by simp), List.map_drop]
  rw [hrs] at hr3
  have HR2 := Lib.hid hr2; have HR3 := Lib.hid hr3
  have hsl2 := fun W => run_first_ses W ao l.length cap B (by omega)
  have hsl3 := fun W => run_rest_ses W ao l.length cap U hule
  rw [hs2] at hsl2
  rw [hs3] at hsl3
  have HLEN : Hid (0 < [l.take B, [Se.of a], l.drop U].flatten.length ∧ [l.take B, [Se.of a], l.drop U].flatten.length ≤ 1048576) := ⟨by simp; omega, by simp; omega⟩
  obtain ⟨m, hm⟩ : ∃ m, m = l.length - U := ⟨_, rfl⟩
  obtain ⟨c, hc⟩ : ∃ c, c = cap - U := ⟨_, rfl⟩
  rw [← hm, ← hc] at hsl3 HR3
  obtain ⟨n, hnn⟩ : ∃ n, n = l.length := ⟨_, rfl⟩
  rw [← hnn] at hcall hsl2 hsl3 ⊢
  have HL1 := Lib.hid hl1; have HB1 := Lib.hid hB1
  clear hv hv1 hB hU hm hc hs2 hs3 hr2 hr3 hrs hnn hl1 hB1 hz1 hn hbu hble hule hc1
  go_enter Try.func15, Try.ntmps15
  go_wp2_with fail
  refine hcall.mono ?_
  rintro e' w2 ⟨rfl, hB2⟩
  have HB2 := Lib.hid (HB1.out.trans (hB2.mono HB1.out.size))
  have HR2' := Lib.hid (HR2.out.below hB2)
  have HR3' := Lib.hid (HR3.out.below hB2)
  obtain ⟨q0, q1, q2, q3, q4, q5⟩ := Anss.every (HL1.out.below hB2 HL1.out.lt)
  clear hcall p0 hB2
  go_wp2_with (first
    | (refine store_ses (by rfl) _ _ (by rfl) w2.heap.size Se.zero (Se.of a) (by rfl) (by rfl) (Lies.new _ _ _) ?_; intro w4 hl4 hg4
       have hB4 : Below w2.heap.size w2 w4 := ((Below.refl _ w2).alloc (Nat.le_refl _) _).grown hg4 (by simp) (by rintro j hj; cases hj; exact Nat.le_refl _)
       have HB4 := Lib.hid (HB2.out.trans (hB4.mono HB2.out.size))
       have HR2b := Lib.hid (HR2'.out.below hB4)
       have HR3b := Lib.hid (HR3'.out.below hB4)
       obtain ⟨x0, x1, x2, x3, x4, x5, x6, x7⟩ := Sess.eight hl4
       clear hl4 hg4 hB4))
  have HX : Hid (∀ (W : World) (H : Nat), Below w4.heap.size w4 W → Lies W H 22 #[.slice ao2 B cap, .slice (some ⟨w4.heap.size, 0, none⟩) 1 1, .slice ao3 m c] → Lies W w4.heap.size 39 (Se.cells (Se.of a)) → Calls Try.prog 23 #[.slice (some ⟨H, 0, none⟩) 3 3] W (MadeN w (Se.put l a))) := by
    intro W H hb h1 h2
    have hwW : Below w.heap.size w W := HB4.out.trans (hb.mono HB4.out.size)
    rw [HPUT.out]
    refine (concat_sess H _ W (fun k x hk => ?_) rfl HLEN.out.1 HLEN.out.2).mono fun e' w3 ⟨v3, h3, ho, h4⟩ => ⟨v3, h3, ho.mono hwW.size, hwW.trans (h4.mono hwW.size)⟩
    match k with
    | 0 => simp at hk; subst hk; exact ⟨_, h1.cell 0 _ rfl, HR2b.out.below hb⟩
    | 1 => simp at hk; subst hk; exact ⟨_, h1.cell 1 _ rfl, ReadsR.single h2⟩
    | 2 => simp at hk; subst hk; exact ⟨_, h1.cell 2 _ rfl, HR3b.out.below hb⟩
    | k + 3 => simp at hk
  dsimp only [Se.of] at x0 x1 x2 x3 x4 x5 x6 x7
  clear q0 q1 q2 q3 q4 q5
  go_region_law (first
      | (rw [if_pos (by rfl)]; go_simp; go_at_call 23
         refine (HX.out _ _ (below_two8 _ _ _) (lies_two8 _ _ _ _) (lies_one8 _ _ _ _)).mono ?_; rintro e' w3 ⟨v3, rfl, ho3, hB3⟩
         dsimp only))
  all_goals
    simp only [Act.put, List.getElem_toArray, List.getElem_cons_succ, List.getElem_cons_zero, List.setIfInBounds_toArray, List.set_cons_succ, List.set_cons_zero]
    go_wp2
    go_ret
    exact ⟨_, rfl, ho3, hB3⟩

end Go.Proofs.Ytibpmhogapccoaa
