/- A command done: refused, others in the place of a pair, Do. -/
import Derived.Test.YtiakpedioemmiaaKvFind
import Derived.Deep.RegionWith
import Derived.BigRegion
namespace Go.Proofs.Ytiakpedioemmiaa
open Go.RowKit

/-- An answer's cells, stored one behind the other. -/
theorem set_ansK {w : World} {g : Nat} {c0 : An.Ans} (c : An.Ans) (h : Anss w g c0) : ∃ w', (((((w.setCell ⟨g, 0, none⟩ (.int .i64 c.client)).setCell ⟨g, 1, none⟩ (.int .i64 c.seq)).setCell ⟨g, 2, none⟩ (.int .i64 c.err)).setCell ⟨g, 3, none⟩ (.bool c.found)).setCell ⟨g, 4, none⟩ (.string ⟨c.val.toArray⟩)).setCell ⟨g, 5, none⟩ (.int .i64 c.rev) = w' ∧ Anss w' g c ∧ w.grownBy w' (some g) :=
  ⟨_, rfl, (((((h.set 0 _).set 1 _).set 2 _).set 3 _).set 4 _).set 5 _, grown_on (grown_on (grown_on (grown_on (grown_on (grown_set w g 0 _) (grown_set _ g 1 _)) (grown_set _ g 2 _)) (grown_set _ g 3 _)) (grown_set _ g 4 _)) (grown_set _ g 5 _)⟩
/-- What is owned stays where another block turns. -/
theorem OwnsR.besides {w w' : World} {base g : Nat} {E : TypeId} {k : Nat} {v : Value} {rs : List (Array Value)} (h : OwnsR w base E k v rs) (hg : w.grownBy w' (some g)) (hlt : g < base) : OwnsR w' base E k v rs := by
  refine ⟨h.1, ?_⟩
  rcases h.2 with hn | ⟨j, cap, cur, rfl, hb', hgg, rest⟩
  · exact .inl hn
  · exact .inr ⟨j, cap, cur, rfl, hb', (hg.block j (Array.getElem?_eq_some_iff.1 hgg).1 (by simp; omega)).trans hgg, rest⟩
/-- What a call leaves that makes pairs, and an answer. -/
def DoneK (w : World) (l : List Kv.Item) (a : An.Ans) (e : Ending) (w' : World) : Prop := ∃ v, e = .returned (.tuple #[v, .agg (An.cells a)]) ∧ OwnsR w' w.heap.size 29 3 v (l.map Kv.cells) ∧ Below w.heap.size w w'

set_option maxRecDepth 4000 in
set_option maxHeartbeats 1600000 in
theorem refuse_kv (v : Value) (l : List Kv.Item) (c : Cm.Cmd) (x : Int) (w : World) (hv : ReadsK w v l) (hn : l.length ≤ 1048576) :
    Calls Try.prog 25 #[v, .agg (Cm.cells c), .int .i64 x] w (DoneK w l (Kv.refused c x)) := by
  obtain ⟨w1, e1, hl1, hB1, hz1⟩ := box_cmd w c
  obtain ⟨w2, e2, hl2, hB2, hz2⟩ := box_ans w1 An.zero
  dsimp only [An.cells, An.zero] at e2
  have HC2 := Lib.hid (hl1.below hB2 hl1.lt)
  rw [hz1] at hl2
  have HA2 := Lib.hid hl2
  have HB2 := Lib.hid (hB1.trans (hB2.mono hB1.size))
  have hcl := cloneKv_any v l w2.drew (hv.below HB2.out.drew) hn
  obtain ⟨p0, p1, p2, _⟩ := Cmds.all HC2.out
  obtain ⟨ao, cap, rfl, _, _⟩ := ReadsK.shape hv
  obtain ⟨n, hnn⟩ : ∃ n, n = l.length := ⟨_, rfl⟩
  rw [← hnn] at hcl ⊢
  have HCL := Lib.hid hcl
  clear hv hn hl1 hB1 hl2 hB2 hnn hcl
  go_enter Try.func25, Try.ntmps25
  go_wp2_with fail
  go_region_with (first
    | (go_at_call 27
       refine HCL.out.mono ?_
       rintro e w3 ⟨v3, rfl, ho3, hB3⟩
       have hd := Below.drew (Below.refl w2.heap.size w2)
       have hB3' := hd.trans (hB3.mono hd.size)
       have HC3 := Lib.hid (HC2.out.below hB3' HC2.out.lt)
       have HA3 := Lib.hid (HA2.out.below hB3' HA2.out.lt)
       have HB3 := Lib.hid (HB2.out.trans (hB3'.mono HB2.out.size))
       have HO3 := Lib.hid ho3
       clear hd hB3' hB3 ho3
       obtain ⟨q0, q1, q2, _⟩ := Cmds.all HC3.out
       obtain ⟨z0, z1, z2, z3, z4, z5⟩ := Anss.every HA3.out
       dsimp only [An.zero] at z0 z1 z2 z3 z4 z5
       have f0 := HA3.out.free 0; have f1 := HA3.out.free 1; have f2 := HA3.out.free 2; have f3 := HA3.out.free 3; have f4 := HA3.out.free 4; have f5 := HA3.out.free 5
       obtain ⟨w5, e5, hl5, hg5⟩ := set_ansK (Kv.refused c x) HA3.out
       dsimp only [Kv.refused] at e5))
  all_goals
    go_wp2
    refine ret_val_ans rfl rfl hl5 rfl ?_
    exact ⟨_, rfl, (HO3.out.besides hg5 (by show _ < w2.heap.size; have := hz2; omega)).mono HB2.out.size, HB3.out.grown hg5 HB3.out.size (by rintro j hj; cases hj; omega)⟩

theorem lies_oneK (w : World) (cells : Array Value) (T : TypeId) : Lies (w.alloc (.cells cells T)).drew w.heap.size T cells := Lies.new w T cells
theorem below_oneK (w : World) (A : Obj) : Below w.heap.size w (w.alloc A).drew := ((Below.refl _ w).alloc (Nat.le_refl _) A).drew

set_option maxRecDepth 4000 in
set_option maxHeartbeats 3200000 in
theorem replace_kv (v u : Value) (l b : List Kv.Item) (x : List UInt8) (w : World) (hv : ReadsK w v l) (hu : ReadsK w u b) (hp : Kv.Asc l) (hn : l.length ≤ 1000000) (hb1 : b.length ≤ 1) :
    Calls Try.prog 26 #[v, .string ⟨x.toArray⟩, u] w (MadeK w (Kv.swap b l x)) := by
  have hcall := place_kv v l x w hv hp (by omega)
  obtain ⟨ao, cap, rfl, hc1, hc2⟩ := ReadsK.shape hv
  obtain ⟨uo, ucap, rfl, _, _⟩ := ReadsK.shape hu
  have hbu := Kv.below_upto l x
  have hule := Kv.upto_le l x
  have hble := Kv.below_le l x
  have HPUT : Hid (Kv.swap b l x = [l.take (Kv.below l x), b, l.drop (Kv.upto l x)].flatten) := by show _ = _; unfold Kv.swap; simp
  obtain ⟨U, hU⟩ : ∃ U, U = Kv.upto l x := ⟨_, rfl⟩
  obtain ⟨B, hB⟩ : ∃ B, B = Kv.below l x := ⟨_, rfl⟩
  rw [← hB, ← hU] at hcall HPUT
  rw [← hB] at hble hbu
  rw [← hU] at hule hbu
  obtain ⟨ao2, hs2, hr2⟩ := ReadsR.part hv 0 B cap (Nat.zero_le _) hble (by omega) (Nat.le_refl _)
  rw [Nat.sub_zero, Nat.sub_zero] at hs2 hr2
  rw [List.drop_zero, ← List.map_take] at hr2
  obtain ⟨ao3, hs3, hr3⟩ := ReadsR.part hv U l.length cap hule (Nat.le_refl _) hc1 (Nat.le_refl _)
  have hrs : ((l.map Kv.cells).take l.length).drop U = (l.drop U).map Kv.cells := by rw [List.take_of_length_le (by simp), List.map_drop]
  rw [hrs] at hr3
  have HR2 := Lib.hid hr2; have HR3 := Lib.hid hr3; have HU := Lib.hid hu
  have hsl2 := fun W => run_first_kv W ao l.length cap B (by omega)
  have hsl3 := fun W => run_rest_kv W ao l.length cap U hule
  rw [hs2] at hsl2
  rw [hs3] at hsl3
  have HLEN : Hid ([l.take B, b, l.drop U].flatten.length ≤ 1048576) := by show _ ≤ _; simp; omega
  obtain ⟨m, hm⟩ : ∃ m, m = l.length - U := ⟨_, rfl⟩
  obtain ⟨c, hc⟩ : ∃ c, c = cap - U := ⟨_, rfl⟩
  rw [← hm, ← hc] at hsl3 HR3
  obtain ⟨n, hnn⟩ : ∃ n, n = l.length := ⟨_, rfl⟩
  rw [← hnn] at hcall hsl2 hsl3 ⊢
  obtain ⟨un, hun⟩ : ∃ n, n = b.length := ⟨_, rfl⟩
  rw [← hun] at HU ⊢
  clear hv hu hp hB hU hm hc hs2 hs3 hr2 hr3 hrs hnn hn hun hbu hble hule hc1 hb1
  go_enter Try.func26, Try.ntmps26
  go_wp2_with fail
  refine hcall.mono ?_
  rintro e' w2 ⟨rfl, hB2⟩
  have HB2 := Lib.hid hB2
  have HX : Hid (∀ (W : World) (H : Nat), Below w2.heap.size w2 W → Lies W H 22 #[.slice ao2 B cap, .slice uo un ucap, .slice ao3 m c] → Calls Try.prog 35 #[.slice (some ⟨H, 0, none⟩) 3 3] W (MadeK w (Kv.swap b l x))) := by
    intro W H hb h1
    have hwW : Below w.heap.size w W := HB2.out.trans (hb.mono HB2.out.size)
    rw [HPUT.out]
    refine (concat_kvs H _ W (fun k y hk => ?_) rfl HLEN.out).mono fun e' w3 ⟨v3, h3, ho, h4⟩ => ⟨v3, h3, ho.mono hwW.size, hwW.trans (h4.mono hwW.size)⟩
    match k with
    | 0 => simp at hk; subst hk; exact ⟨_, h1.cell 0 _ rfl, HR2.out.below hwW⟩
    | 1 => simp at hk; subst hk; exact ⟨_, h1.cell 1 _ rfl, HU.out.below hwW⟩
    | 2 => simp at hk; subst hk; exact ⟨_, h1.cell 2 _ rfl, HR3.out.below hwW⟩
    | k + 3 => simp at hk
  clear hcall hB2
  go_wp2
  go_region_law (first
      | (rw [if_pos (by rfl)]; go_simp; go_at_call 35
         refine (HX.out _ _ (below_oneK _ _) (lies_oneK _ _ _)).mono ?_; rintro e' w3 ⟨v3, rfl, ho3, hB3⟩
         dsimp only))
  all_goals
    simp only [Act.put, List.getElem_toArray, List.getElem_cons_succ, List.getElem_cons_zero, List.setIfInBounds_toArray, List.set_cons_succ, List.set_cons_zero]
    go_wp2
    go_ret
    exact ⟨_, rfl, ho3, hB3⟩

end Go.Proofs.Ytiakpedioemmiaa
