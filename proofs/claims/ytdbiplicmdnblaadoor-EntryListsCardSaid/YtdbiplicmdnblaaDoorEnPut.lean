/- One entry more. -/
import Derived.Test.YtdbiplicmdnblaaDoorEnWith
namespace Go.Proofs.YtdbiplicmdnblaaDoor
open Go.RowKit

theorem lies_one (w : World) (cells : Array Value) (T : TypeId) (B : Obj) : Lies ((w.alloc (.cells cells T)).alloc B).drew w.heap.size T cells := (Lies.new w T cells).alloc B
theorem lies_two (w : World) (A : Obj) (cells : Array Value) (T : TypeId) : Lies ((w.alloc A).alloc (.cells cells T)).drew (w.heap.size + 1) T cells := by
  have h := Lies.new (w.alloc A) T cells
  rw [show (w.alloc A).heap.size = w.heap.size + 1 by simp] at h
  exact h
theorem below_two (w : World) (A B : Obj) : Below w.heap.size w ((w.alloc A).alloc B).drew := (((Below.refl _ w).alloc (Nat.le_refl _) A).alloc (by simp) B).drew

set_option maxRecDepth 4000 in
set_option maxHeartbeats 3200000 in
theorem with_ent (v : Value) (l : List En.Ent) (e : En.Ent) (w : World) (hv : ReadsE w v l) (hp : En.Asc l) (hn : l.length ≤ 1000000) :
    Calls Tryd.prog 14 #[v, .agg (En.cells e)] w (MadeE w (En.put l e)) := by
  obtain ⟨w1, e1, hl1, hB1, hz1⟩ := box_ent w e
  obtain ⟨p0, _⟩ := Ents.ten hl1
  have hv1 := hv.below hB1
  have hcall := place_ent v l e.index w1 hv1 hp (by omega)
  obtain ⟨ao, cap, rfl, hc1, hc2⟩ := ReadsE.shape hv
  have hble := En.below_le l e.index
  have hule := En.upto_le l e.index
  have hbu := En.below_upto l e.index
  have HPUT : Hid (En.put l e = [l.take (En.below l e.index), [e], l.drop (En.upto l e.index)].flatten) := by show _ = _; unfold En.put; simp
  obtain ⟨U, hU⟩ : ∃ U, U = En.upto l e.index := ⟨_, rfl⟩
  obtain ⟨B, hB⟩ : ∃ B, B = En.below l e.index := ⟨_, rfl⟩
  rw [← hB, ← hU] at hcall HPUT hbu
  rw [← hB] at hble
  rw [← hU] at hule
  obtain ⟨ao2, hs2, hr2⟩ := ReadsR.part hv1 0 B cap (Nat.zero_le _) hble (by omega) (Nat.le_refl _)
  rw [Nat.sub_zero, Nat.sub_zero] at hs2 hr2
  rw [List.drop_zero, ← List.map_take] at hr2
  obtain ⟨ao3, hs3, hr3⟩ := ReadsR.part hv1 U l.length cap hule (Nat.le_refl _) hc1 (Nat.le_refl _)
  have hrs : ((l.map En.cells).take l.length).drop U = (l.drop U).map En.cells := by rw [List.take_of_length_le (by simp), List.map_drop]
  rw [hrs] at hr3
  have HR2 := Lib.hid hr2; have HR3 := Lib.hid hr3
  have hsl2 := fun W => run_first_ent W ao l.length cap B (by omega)
  have hsl3 := fun W => run_rest_ent W ao l.length cap U hule
  rw [hs2] at hsl2
  rw [hs3] at hsl3
  have HLEN : Hid (0 < [l.take B, [e], l.drop U].flatten.length ∧ [l.take B, [e], l.drop U].flatten.length ≤ 1048576) := ⟨by simp; omega, by simp; omega⟩
  obtain ⟨m, hm⟩ : ∃ m, m = l.length - U := ⟨_, rfl⟩
  obtain ⟨c, hc⟩ : ∃ c, c = cap - U := ⟨_, rfl⟩
  rw [← hm, ← hc] at hsl3 HR3
  obtain ⟨n, hnn⟩ : ∃ n, n = l.length := ⟨_, rfl⟩
  rw [← hnn] at hcall hsl2 hsl3 ⊢
  have HL1 := Lib.hid hl1; have HB1 := Lib.hid hB1
  clear hv hv1 hp hB hU hm hc hs2 hs3 hr2 hr3 hrs hnn hl1 hB1 hz1 hn hbu hble hule hc1
  go_enter Tryd.func14, Tryd.ntmps14
  go_wp2_with fail
  refine hcall.mono ?_
  rintro e' w2 ⟨rfl, hB2⟩
  have HB2 := Lib.hid hB2
  have HL2 := Lib.hid (HL1.out.below hB2 HL1.out.lt)
  obtain ⟨q0, q1, q2, q3, q4, q5, q6, q7, q8, q9⟩ := Ents.ten HL2.out
  have HX : Hid (∀ (W : World) (H : Nat), Below w2.heap.size w2 W → Lies W H 22 #[.slice ao2 B cap, .slice (some ⟨w2.heap.size, 0, none⟩) 1 1, .slice ao3 m c] → Lies W w2.heap.size 33 (En.cells e) → Calls Tryd.prog 26 #[.slice (some ⟨H, 0, none⟩) 3 3] W (MadeE w (En.put l e))) := by
    intro W H hb h1 h2
    have hwW : Below w.heap.size w W := (HB1.out.trans (HB2.out.mono HB1.out.size)).trans (hb.mono (Nat.le_trans HB1.out.size HB2.out.size))
    rw [HPUT.out]
    refine (concat_ents H _ W (fun k x hk => ?_) rfl HLEN.out.1 HLEN.out.2).mono fun e' w3 ⟨v3, h3, ho, h4⟩ => ⟨v3, h3, ho.mono hwW.size, hwW.trans (h4.mono hwW.size)⟩
    match k with
    | 0 => simp at hk; subst hk; exact ⟨_, h1.cell 0 _ rfl, (HR2.out.below HB2.out).below hb⟩
    | 1 => simp at hk; subst hk; exact ⟨_, h1.cell 1 _ rfl, ReadsR.single h2⟩
    | 2 => simp at hk; subst hk; exact ⟨_, h1.cell 2 _ rfl, (HR3.out.below HB2.out).below hb⟩
    | k + 3 => simp at hk
  clear hcall p0 hB2
  go_wp2
  go_region_law (first
      | (rw [if_pos (by rfl)]; go_simp; go_at_call 26
         refine (HX.out _ _ (below_two _ _ _) (lies_two _ _ _ _) (lies_one _ _ _ _)).mono ?_; rintro e' w3 ⟨v3, rfl, ho3, hB3⟩
         dsimp only))
  all_goals
    simp only [Act.put, List.getElem_toArray, List.getElem_cons_succ, List.getElem_cons_zero, List.setIfInBounds_toArray, List.set_cons_succ, List.set_cons_zero]
    go_wp2
    go_ret
    exact ⟨_, rfl, ho3, hB3⟩

end Go.Proofs.YtdbiplicmdnblaaDoor
