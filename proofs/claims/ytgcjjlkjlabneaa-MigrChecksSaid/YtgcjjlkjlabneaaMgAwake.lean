/- Does the program migrate at all; a state that came in. -/
import Derived.Test.YtgcjjlkjlabneaaMgUp
import Derived.Test.YtgcjjlkjlabneaaMgMem
namespace Go.Proofs.Ytgcjjlkjlabneaa
open Go.RowKit

def Mg.asked : Mg.St := ⟨1, [⟨[97], [49], 0⟩], []⟩
def Mg.told : Mg.St := ⟨2, [⟨[97], [49], 1⟩], []⟩
theorem Mg.asked_up : Mg.up Mg.asked = (Mg.told, 0) := by decide +kernel
theorem Mg.asked_few : Mg.asked.Few := ⟨by decide, by intro e he; simp [Mg.asked] at he; subst he; decide, by intro e he; simp [Mg.asked] at he, by decide⟩

set_option maxRecDepth 4000 in
set_option maxHeartbeats 1600000 in
theorem awakeMg_any (w : World) : Calls Try.prog 6 #[] w (Truly w) := by
  obtain ⟨w1, e1, hl1, hB1, hz1⟩ := box_kv w ⟨[97], [49], 0⟩
  have hr1 : StR w1 Mg.asked (.slice (some ⟨w.heap.size, 0, none⟩) 1 1) (.slice none 0 0) := ⟨ReadsR.single hl1, ReadsR.empty _ 8⟩
  have hcall := up_any Mg.asked _ _ w1 hr1 Mg.asked_few
  rw [Mg.asked_up] at hcall
  have HCALL := Lib.hid hcall
  have HB1 := Lib.hid hB1
  clear hcall hr1 hl1 hB1 hz1
  rw [show Kv.cells ⟨[97], [49], 0⟩ = #[.string ⟨#[97]⟩, .string ⟨#[49]⟩, .int .i64 0] from rfl] at e1
  go_enter Try.func6, Try.ntmps6
  go_wp2_with fail
  (try rw [e1])
  refine HCALL.out.mono ?_
  rintro e w2 ⟨up, us, rfl, ho2, ha2, hb2⟩
  have HR2 : Hid (ReadsK w2 up [⟨[97], [49], 1⟩]) := ho2.reads (Kv.sized _)
  have HA2 := Lib.hid ha2
  have HB2 := Lib.hid (HB1.out.trans (hb2.mono HB1.out.size))
  clear ho2 ha2 hb2
  obtain ⟨g, off, hup, hgl, hcell⟩ : ∃ g off, (∃ c, up = .slice (some ⟨g, off, none⟩) 1 c) ∧ g < w2.heap.size ∧ ∀ w', Below w2.heap.size w2 w' → w'.cell? ⟨g, off + 2, none⟩ = some (.int .i64 1) := by
    obtain ⟨ao, cap, rfl, _, _⟩ := ReadsK.shape HR2.out
    obtain ⟨g, off, rfl, hgl, hcell⟩ := ReadsK.places HR2.out (by simp)
    refine ⟨g, off, ⟨cap, rfl⟩, hgl, fun w' hb => ?_⟩
    have := (hcell w' hb 0 _ rfl).c2
    simpa using this
  obtain ⟨uc, rfl⟩ := hup
  have HC := Lib.hid hcell
  clear hcell
  go_wp2_with (first
    | (refine store_st (m := 2) (up := .slice (some ⟨g, off, none⟩) 1 uc) (us := us) rfl _ _ rfl (g := w2.heap.size) (n := 0) (vp := .slice none 0 0) (vs := .slice none 0 0) rfl ⟨Lies.new _ _ _, ⟨_, _, _, rfl⟩, ⟨_, _, _, rfl⟩⟩ ⟨⟨_, _, _, rfl⟩, HA2.out.sl⟩ rfl ?_; intro w3 hx3 hg3
       have hB3 : Below w2.heap.size w2 w3 := ((Below.refl _ w2).alloc (Nat.le_refl _) _).grown hg3 (by simp) (by rintro j hj; cases hj; exact Nat.le_refl _)
       have HB3 := Lib.hid (HB2.out.trans (hB3.mono HB2.out.size))
       obtain ⟨q0, q1, _⟩ := hx3.all
       have c2 := HC.out _ hB3
       clear hx3 hg3 hB3))
  go_ret
  exact truly_of HB3.out

structure Mg.St.Came (s : Mg.St) : Prop where
  kv : ∀ e ∈ s.pairs, e.key.length ≤ 9223372036854775807 ∧ e.val.length ≤ 9223372036854775807
  ses : ∀ e ∈ s.sess, e.last.val.length ≤ 9223372036854775807

end Go.Proofs.Ytgcjjlkjlabneaa
