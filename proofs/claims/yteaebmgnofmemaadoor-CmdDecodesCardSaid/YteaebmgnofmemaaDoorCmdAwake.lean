/- Commands: awake, large. -/
import Derived.Test.YteaebmgnofmemaaDoorCmdText
import Derived.Test.YteaebmgnofmemaaDoorCmdCode
namespace Go.Proofs.YteaebmgnofmemaaDoor
open Go.RowKit

/-- The law's own command. -/
def Cm.first : Cm.Cmd := ⟨2, 1, 2, 0, [107], [], [118]⟩
theorem Cm.first_fits : Cm.first.Fits := by constructor <;> simp [Cm.first]
theorem Cm.first_short (m : Nat) (h : 1 ≤ m) : Cm.first.Short m := ⟨by simpa [Cm.first] using h, by simp [Cm.first], by simpa [Cm.first] using h⟩
theorem Cm.first_check : Cm.check Cm.first = 0 := by
  decide +kernel
theorem Cm.first_in : Cm.checkIn 2 Cm.first = 0 := by
  unfold Cm.checkIn
  rw [Cm.first_check]
  rfl
theorem Cm.first_bytes : (Cm.bytes 2 Cm.first).length = 7 := by
  decide +kernel
theorem Cm.first_text : Cm.text Cm.first = [112, 117, 116, 32, 49, 32, 50, 32, 34, 107, 34, 32, 34, 118, 34] := by
  decide +kernel

set_option maxRecDepth 4000 in
set_option maxHeartbeats 1600000 in
theorem awake_any (w : World) (hv : WordsIn w) (hp : PowIn w) : Calls Tryd.prog 8 #[] w (Truly w) := by
  have HV := Lib.hid hv; have HP := Lib.hid hp
  clear hv hp
  go_enter Tryd.func8, Tryd.ntmps8
  go_wp2_with (refine store_cmd (by rfl) _ _ (by rfl) w.heap.size Cm.zero Cm.first (by rfl) (by rfl) (Lies.new _ _ _) ?_; intro w1 hl1 hg1; obtain ⟨p0, p1, p2, p3, p4, p5, p6⟩ := Cmds.all hl1)
  have HL1 := Lib.hid hl1
  have HB1 := Lib.hid (((Below.refl _ w).alloc (Nat.le_refl _) _).grown hg1 (by simp) (by rintro j hj; cases hj; exact Nat.le_refl _))
  clear hl1 hg1
  refine (encode_any 2 Cm.first _ (HV.out.below HB1.out) Cm.first_fits (Cm.first_short _ (by omega))).mono ?_
  rintro e w2 ⟨hB2, u, rfl, hu⟩
  rw [Cm.first_in] at hu ⊢
  rw [if_pos rfl] at hu
  obtain ⟨ao, cap, rfl⟩ := hu.shape
  rw [Cm.first_bytes]
  have hl2 := HL1.out.below hB2 HL1.out.lt
  obtain ⟨q0, q1, q2, q3, q4, q5, q6⟩ := Cmds.all hl2
  have HB2 := Lib.hid (HB1.out.trans (hB2.mono HB1.out.size))
  clear hB2 hl2 hu p0 p1 p2 p3 p4 p5 p6
  go_wp2_with fail
  refine (text_any Cm.first _ (HV.out.below HB2.out) (HP.out.below HB2.out) Cm.first_fits (Cm.first_short _ (by omega))).mono ?_
  rintro e w3 ⟨rfl, hB3⟩
  rw [Cm.first_text]
  have HB3 := Lib.hid (HB2.out.trans (hB3.mono HB2.out.size))
  go_wp2
  go_ret
  exact ⟨rfl, HB3.out⟩

set_option maxRecDepth 4000 in
set_option maxHeartbeats 1600000 in
theorem large_any (c : Cm.Cmd) (w : World) (hs : c.Short 9223372036854775807) : Calls Tryd.prog 7 #[.agg (Cm.cells c)] w (Looks w (.bool (decide (300 < c.key.length) || (decide (300 < c.old.length) || decide (300 < c.val.length))))) := by
  obtain ⟨w1, e1, hl1, hB1, hz1⟩ := box_cmd w c
  have p3 : w1.cell? ⟨w.heap.size, 3, none⟩ = some (.string ⟨c.key.toArray⟩) := hl1.cell 3 _ rfl
  have p4 : w1.cell? ⟨w.heap.size, 4, none⟩ = some (.string ⟨c.val.toArray⟩) := hl1.cell 4 _ rfl
  have p5 : w1.cell? ⟨w.heap.size, 5, none⟩ = some (.string ⟨c.old.toArray⟩) := hl1.cell 5 _ rfl
  have k1 := str_size c.key; have k2 := str_size c.old; have k3 := str_size c.val
  have HB1 := Lib.hid hB1
  obtain ⟨a, ha⟩ : ∃ a, a = c.key.length := ⟨_, rfl⟩
  obtain ⟨b, hb⟩ : ∃ b, b = c.old.length := ⟨_, rfl⟩
  obtain ⟨d, hd⟩ : ∃ d, d = c.val.length := ⟨_, rfl⟩
  rw [← ha] at k1 ⊢
  rw [← hb] at k2 ⊢
  rw [← hd] at k3 ⊢
  have z1 : a ≤ 9223372036854775807 := ha ▸ hs.1
  have z2 : b ≤ 9223372036854775807 := hb ▸ hs.2.1
  have z3 : d ≤ 9223372036854775807 := hd ▸ hs.2.2
  clear hl1 hB1 hz1 ha hb hd
  by_cases h1 : 300 < a
  · have d1 : decide ((300 : Int) < (a : Int)) = true := by simp; omega
    go_enter Tryd.func7, Tryd.ntmps7
    go_wp2
    go_ret
    exact ⟨by simp [h1], HB1.out⟩
  · have d1 : decide ((300 : Int) < (a : Int)) = false := by simp; omega
    by_cases h2 : 300 < b
    · have d2 : decide ((300 : Int) < (b : Int)) = true := by simp; omega
      go_enter Tryd.func7, Tryd.ntmps7
      go_wp2
      go_ret
      exact ⟨by simp [h2], HB1.out⟩
    · have d2 : decide ((300 : Int) < (b : Int)) = false := by simp; omega
      by_cases h3 : 300 < d
      · have d3 : decide ((300 : Int) < (d : Int)) = true := by simp; omega
        go_enter Tryd.func7, Tryd.ntmps7
        go_wp2
        go_ret
        exact ⟨by simp [h3], HB1.out⟩
      · have d3 : decide ((300 : Int) < (d : Int)) = false := by simp; omega
        go_enter Tryd.func7, Tryd.ntmps7
        go_wp2
        go_ret
        exact ⟨by simp [h1, h2, h3], HB1.out⟩

end Go.Proofs.YteaebmgnofmemaaDoor
