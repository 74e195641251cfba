/- Does the program answer at all? -/
import Derived.Test.YtffgfjfeoinnfaaDkStep
import Derived.Test.YtffgfjfeoinnfaaDkCame
import Derived.Test.YtffgfjfeoinnfaaDkFiles
import Derived.Test.YtffgfjfeoinnfaaDkDisk
import Derived.Test.YtffgfjfeoinnfaaDkBuf
import Derived.Lib.SlBytesConst
namespace Go.Proofs.Ytffgfjfeoinnfaa
open Go.RowKit

/-- What a call that changes a disk leaves of it, all of it being new since n0. -/
theorem disk_on {n0 : Nat} {w w' : World} {d : Nat} {F : Dk.Files} {B : List Dk.Op} (hn : n0 ≤ w.heap.size) (h2 : DiskAt (fun j => n0 ≤ j ∨ w.heap.size ≤ j) w' d F B) (h3 : Kp (fun j _ => ¬ n0 ≤ j) w w') :
    DiskAt (fun j => n0 ≤ j) w' d F B ∧ Below n0 w w' :=
  ⟨h2.imp fun k _ hk => by omega, h3.below hn fun b o hb _ => by omega⟩
set_option maxRecDepth 4000 in
set_option maxHeartbeats 1600000 in
theorem awakeD_any (w : World) : Calls Try.prog 7 #[] w (Truly w) := by
  go_enter Try.func7, Try.ntmps7
  go_wp2_with fail
  refine (new_any w).mono ?_
  rintro e w1 ⟨rfl, hd, hb, _⟩
  have HD1 : Hid (DiskAt (fun k => w.heap.size ≤ k) w1 w.heap.size [] []) := hd.imp fun k _ e => Nat.le_of_eq e.symm
  have HB1 := Lib.hid hb
  have hc1 := make_any HD1.out 1 (by simp)
  rw [if_pos (by omega)] at hc1
  clear hd hb
  go_wp2_with fail
  refine hc1.mono ?_
  rintro e w2 ⟨rfl, h2, h3⟩
  obtain ⟨h2, h3⟩ := disk_on HB1.out.size h2 h3
  have HB2 := Lib.hid (HB1.out.trans h3)
  obtain ⟨w3, hw3⟩ : ∃ w3, w2.alloc (.cells #[.int .u8 97, .int .u8 98, .int .u8 99] 5 (3, 4)) = w3 := ⟨_, rfl⟩
  have hb3 : Below w2.heap.size w2 w3 := by rw [← hw3]; exact (Below.refl _ w2).alloc (Nat.le_refl _) _
  have hr3 : Reads w3 (.slice (some ⟨w2.heap.size, 0, none⟩) 3 3) [97, 98, 99] := by rw [← hw3]; exact Reads.fresh w2 _ [97, 98, 99] 3 _ rfl rfl (by omega) (3, 4)
  have hk3 := Lib.run_convert_bytes_const (P := Try.prog) w2 33 5 #[.int .u8 97, .int .u8 98, .int .u8 99] 3 3 Try.underlying33 Try.underlying5
  rw [show w2.alloc (.cells #[.int .u8 97, .int .u8 98, .int .u8 99] 5 ((#[.int .u8 97, .int .u8 98, .int .u8 99] : Array Value).size, (#[.int .u8 97, .int .u8 98, .int .u8 99] : Array Value).size + 1)) = w3 from hw3] at hk3
  have hc2 := add_any (h2.below hb3) 1 _ _ hr3 (by simp) (by simp)
  rw [if_pos (by omega)] at hc2
  have HB3 := Lib.hid (HB2.out.trans (hb3.mono HB2.out.size))
  clear hc1 h2 h3 hb3 hr3 hw3
  go_wp2_with fail
  refine hc2.mono ?_
  rintro e w4 ⟨rfl, h2, h3⟩
  obtain ⟨h2, h3⟩ := disk_on HB3.out.size h2 h3
  have HB4 := Lib.hid (HB3.out.trans h3)
  have hc3 := crash_any h2 (fun x hx => by simp at hx; rcases hx with rfl | rfl <;> simp [Dk.isKind]) (by decide) 1 2
  rw [show Dk.crash [] ([] ++ [⟨1, 1, []⟩] ++ [⟨2, 1, [97, 98, 99]⟩]) 1 2 = [(1, [97, 98])] by decide] at hc3
  clear hc2 h2 h3
  go_wp2_with fail
  refine hc3.mono ?_
  rintro e w5 ⟨rfl, h2, h3⟩
  obtain ⟨h2, h3⟩ := disk_on HB4.out.size h2 h3
  have HB5 := Lib.hid (HB4.out.trans h3)
  have hc4 := files_any h2 (by decide)
  clear hc3 h2 h3
  go_wp2_with fail
  refine hc4.mono ?_
  rintro e w6 ⟨v, rfl, h2, h3⟩
  have HB6 := Lib.hid (HB5.out.trans (h3.mono HB5.out.size))
  obtain ⟨ao, cap, rfl, _, _⟩ := h2.shape
  obtain ⟨b, off, rfl, _, hp⟩ := ListP.places h2 cellF_first (by simp)
  obtain ⟨u, hu, hcell⟩ := hp 0 _ rfl
  simp only at hu
  obtain ⟨uo, uc, rfl⟩ := hu.1.shape
  have c1 : w6.cell? ⟨b, off + 1, none⟩ = some (.slice uo 2 uc) := by have := hcell w6 (Below.refl _ _) 1 (.slice uo 2 uc) rfl; simpa only [Nat.zero_mul, Nat.zero_add] using this
  have hs := run_string_of (P := Try.prog) (dst := 9) [97, 98] Try.underlying33 Try.underlying5 Try.underlying9 hu.1
  simp only [List.length_cons, List.length_nil, Nat.zero_add, Nat.reduceAdd] at hs
  clear hc4 h2 h3 hp hcell hu
  go_wp2_with (rw [hs])
  go_ret
  exact truly_of HB6.out
end Go.Proofs.Ytffgfjfeoinnfaa
