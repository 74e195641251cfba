/- The program awake: entries put and checked. -/
import Derived.Test.YtdbiplicmdnblaaDoorEnPut
import Derived.Test.YtdbiplicmdnblaaDoorEnChk
namespace Go.Proofs.YtdbiplicmdnblaaDoor
open Go.RowKit

/-- Elements laid one behind the other in a block. -/
theorem ReadsR.laid {w : World} {g k n : Nat} {E : TypeId} {cells : Array Value} {rs : List (Array Value)} (h : Lies w g E cells) (hs : Sized k rs) (hc : cells.toList = flatR rs) (hn : n = rs.length) (hm : n ≤ 1048576) :
    ReadsR w (.slice (some ⟨g, 0, none⟩) n n) k rs := by
  refine ⟨_, n, by rw [hn], by omega, by unfold maxLen; omega, (fun h => by cases h), fun a ha i r hr j u hu => ?_⟩
  cases ha
  have h1 := flatR_at hs hr hu
  rw [← hc, Array.getElem?_toList] at h1
  rw [Addr.add_lit, Nat.zero_add]
  exact h.cell _ u h1

/-- A nop at an index. -/
def En.nop (i : Int) : En.Ent := ⟨i, Bl.zero, Cm.bareOf 1⟩

set_option maxRecDepth 4000 in
set_option maxHeartbeats 1600000 in
theorem awakeE_any (w : World) (hv : WordsIn w) : Calls Tryd.prog 6 #[] w (Truly w) := by
  obtain ⟨w1, e1⟩ : ∃ w1, w.alloc (.cells #[.int .i64 1, .int .i64 0, .int .i64 0, .string ⟨#[]⟩, .string ⟨#[]⟩, .string ⟨#[]⟩, .int .i64 0] 31) = w1 := ⟨_, rfl⟩
  have hB1 : Below w.heap.size w w1 := by rw [← e1]; exact (Below.refl _ w).alloc (Nat.le_refl _) _
  have hz1 : w1.heap.size = w.heap.size + 1 := by rw [← e1]; simp
  have hl1 : Lies w1 w.heap.size 31 #[.int .i64 1, .int .i64 0, .int .i64 0, .string ⟨#[]⟩, .string ⟨#[]⟩, .string ⟨#[]⟩, .int .i64 0] := by rw [← e1]; exact Lies.new w _ _
  obtain ⟨w2, e2⟩ : ∃ w2, w1.alloc (.cells #[.int .i64 1, .int .i64 0, .int .i64 0, .int .i64 1, .int .i64 0, .int .i64 0, .string ⟨#[]⟩, .string ⟨#[]⟩, .string ⟨#[]⟩, .int .i64 0, .int .i64 4, .int .i64 0, .int .i64 0, .int .i64 1, .int .i64 0, .int .i64 0, .string ⟨#[]⟩, .string ⟨#[]⟩, .string ⟨#[]⟩, .int .i64 0] 33) = w2 := ⟨_, rfl⟩
  have hB2 : Below w1.heap.size w1 w2 := by rw [← e2]; exact (Below.refl _ w1).alloc (Nat.le_refl _) _
  have hl2 : Lies w2 w1.heap.size 33 #[.int .i64 1, .int .i64 0, .int .i64 0, .int .i64 1, .int .i64 0, .int .i64 0, .string ⟨#[]⟩, .string ⟨#[]⟩, .string ⟨#[]⟩, .int .i64 0, .int .i64 4, .int .i64 0, .int .i64 0, .int .i64 1, .int .i64 0, .int .i64 0, .string ⟨#[]⟩, .string ⟨#[]⟩, .string ⟨#[]⟩, .int .i64 0] := by rw [← e2]; exact Lies.new w1 _ _
  have hr2 : ReadsE w2 (.slice (some ⟨w1.heap.size, 0, none⟩) 2 2) [En.nop 1, En.nop 4] := ReadsR.laid hl2 (En.sized [En.nop 1, En.nop 4]) rfl rfl (by omega)
  have hcall := with_ent _ _ (En.nop 3) w2 hr2 (by decide +kernel) (by simp)
  rw [show En.put [En.nop 1, En.nop 4] (En.nop 3) = [En.nop 1, En.nop 3, En.nop 4] by decide +kernel] at hcall
  have HB2 := Lib.hid (hB1.trans (hB2.mono hB1.size))
  have HV2 := Lib.hid (hv.below HB2.out)
  have HSH : Hid (∀ e ∈ [En.nop 1, En.nop 3, En.nop 4], e.cmd.Short 140737488355328) := by
    intro e he
    have h : e.cmd.key = [] ∧ e.cmd.old = [] ∧ e.cmd.val = [] := by simp at he; rcases he with rfl | rfl | rfl <;> exact ⟨rfl, rfl, rfl⟩
    exact ⟨by rw [h.1]; simp, by rw [h.2.1]; simp, by rw [h.2.2]; simp⟩
  have HCK : Hid (En.check 0 [En.nop 1, En.nop 3, En.nop 4] = 0) := by show _ = _; decide +kernel
  rw [hz1] at hcall
  have E1 := Lib.hid e1; have E2 := Lib.hid e2
  clear hB1 hl1 hB2 hl2 hr2 hv hz1 e1 e2
  go_enter Tryd.func6, Tryd.ntmps6
  go_wp2_with fail
  rw [E1.out, E2.out]
  refine hcall.mono ?_
  rintro e w3 ⟨v3, rfl, ho3, hB3⟩
  have hr3 : ReadsE w3 v3 [En.nop 1, En.nop 3, En.nop 4] := ho3.reads (En.sized _)
  have hchk := checkE_any v3 _ w3 hr3 (HV2.out.below hB3) HSH.out
  rw [HCK.out] at hchk
  obtain ⟨ao, cap, rfl, _, _⟩ := ReadsE.shape hr3
  obtain ⟨g, off, rfl, _, hcell⟩ := ReadsE.places hr3 (by simp)
  have d0 := (hcell w3 (Below.refl _ _) 1 _ rfl).c0
  have HB3 := Lib.hid (HB2.out.trans (hB3.mono HB2.out.size))
  dsimp only [En.nop] at d0
  rw [Nat.one_mul] at d0
  clear hcell hr3 ho3 hB3 hcall
  go_wp2_with (go_at_call 7; refine hchk.mono ?_; rintro e' w4 ⟨rfl, hB4⟩)
  go_ret
  exact truly_of (HB3.out.trans (hB4.mono HB3.out.size))

end Go.Proofs.YtdbiplicmdnblaaDoor
