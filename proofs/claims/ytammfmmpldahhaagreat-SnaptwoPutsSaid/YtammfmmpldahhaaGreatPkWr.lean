/- pack's writer. -/
import Derived.Test.YtammfmmpldahhaaGreatRows
import Derived.Test.YtammfmmpldahhaaGreatPkMem
import Derived.Test.YtammfmmpldahhaaGreatGNum
import Derived.Test.YtammfmmpldahhaaGreatClone
import Derived.Deep.RegionHeld3
import Derived.Deep.RegionLaw
namespace Go.Proofs.YtammfmmpldahhaaGreat
open Go.RowKit

/-- A writer of this program's. -/
abbrev Wrt (w : World) (B o : Nat) (v : Value) (l : List UInt8) : Prop := Wr 45 5 w B o v l

set_option maxRecDepth 4000 in
set_option maxHeartbeats 800000 in
theorem wnum_any (n : Int) (w : World) (B o : Nat) (v : Value) (l : List UInt8) (hw : Wrt w B o v l) (hB : B ≤ w.heap.size) (hlen : l.length ≤ 140737488351232) (h0 : -9223372036854775808 ≤ n) (h1 : n ≤ 9223372036854775807) :
    Calls Tryz.prog 23 #[.pointer (some ⟨o, 0, none⟩), .int .i64 n] w fun e w' => e = .returned (.tuple #[]) ∧ ∃ v', Wrt w' B o v' (l ++ enc n.toNat) ∧ Grew w w' o v := by
  have hc := hw.lies.cell 0 v rfl
  have hf := hw.lies.free 0
  have h9 := enc_nine (n := n.toNat) (by omega)
  obtain ⟨ec, hec⟩ : ∃ ec, ec = enc n.toNat := ⟨_, rfl⟩
  have HW := Lib.hid hw
  go_enter Tryz.func23, Tryz.ntmps23
  go_wp2_with fail
  go_region_law (first
      | (refine step_append_bytes (by rfl) _ _ 28 5 (by rfl) Tryz.underlying28 info_u8 B l (enc n.toNat) v _ (by rfl) (by rfl) hW1.owns ho1.reads (by omega) (by omega) ?_; intro v2 w2 ho2 hg2; obtain ⟨ao2, cap2, rfl⟩ := ho2.reads.shape
         have hl2 := hW1.lies.kept hg2 (hW1.lies.not_row (by decide) hW1.owns)
         have hc2 := hl2.cell 0 v rfl
         have hf2 := hl2.free 0)
      | (rw [if_pos (by rfl)]; go_simp; go_at_call 46; refine (put_any _ [] n _ (Reads.empty _) (by simp) h0 h1).mono ?_; rintro e' w1 ⟨u, rfl, ho1, hb1⟩; rw [List.nil_append] at ho1
         have hB1 : Below w.heap.size w w1 := on (drawn w 1) hb1
         have hW1 := HW.out.grown hB1
         have hc1 := hW1.lies.cell 0 v rfl
         have hz1 := hB1.size
         dsimp only))
  all_goals
    have hp := hW1.put (by decide) ho2 hg2
    have hq := Grew.on hB1 hp.2
    go_wp2
    go_end0
    simp only [List.length_append] at hp hq
    exact ⟨rfl, _, hp.1, hq⟩

set_option maxRecDepth 4000 in
set_option maxHeartbeats 800000 in
theorem wtext_any (s : List UInt8) (w : World) (B o : Nat) (v : Value) (l : List UInt8) (hw : Wrt w B o v l) (hB : B ≤ w.heap.size) (hlen : l.length ≤ 70368744177664) (hs : s.length ≤ 1048576) :
    Calls Tryz.prog 47 #[.pointer (some ⟨o, 0, none⟩), .string ⟨s.toArray⟩] w fun e w' => e = .returned (.tuple #[]) ∧ ∃ v', Wrt w' B o v' (l ++ Pk.text s) ∧ Below B w w' := by
  have hsz := str_size s
  have h9 := enc_nine (n := s.length) (by omega)
  go_enter Tryz.func47, Tryz.ntmps47
  go_wp2_with fail
  refine (wnum_any (s.length : Int) _ B o v l hw hB (by omega) (by omega) (by omega)).mono ?_
  rintro e1 w1 ⟨rfl, v1, hw1, hg1⟩
  rw [Int.toNat_natCast] at hw1
  have hB1 := hw.below hg1 hB
  have hc1 := hw1.lies.cell 0 v1 rfl
  go_wp2_with (at_builtin; refine append_text rfl _ _ 28 9 5 rfl Tryz.underlying28 Tryz.underlying9 info_u8 B (l ++ enc s.length) s v1 rfl rfl hw1.owns (by simp; omega) (by have := hB1.size; omega) ?_; intro v2 w2 ho2 hg2; obtain ⟨ao2, cap2, rfl⟩ := ho2.reads.shape; have hl2 := hw1.lies.kept hg2 (hw1.lies.not_row (by decide) hw1.owns); have hc2 := hl2.cell 0 v1 rfl; have hf2 := hl2.free 0)
  have hp := hw1.put (by decide) ho2 hg2
  have hq := hB1.trans (hw1.below hp.2 (by have := hB1.size; omega))
  go_end0
  simp only [List.length_append, Nat.add_assoc] at hp hq
  exact ⟨rfl, _, by unfold Pk.text; rw [← List.append_assoc]; exact hp.1, hq⟩

set_option maxRecDepth 4000 in
set_option maxHeartbeats 800000 in
theorem wflag_any (b : Bool) (w : World) (B o : Nat) (v : Value) (l : List UInt8) (hw : Wrt w B o v l) (hB : B ≤ w.heap.size) (hlen : l.length ≤ 70368744177664) :
    Calls Tryz.prog 92 #[.pointer (some ⟨o, 0, none⟩), .bool b] w fun e w' => e = .returned (.tuple #[]) ∧ ∃ v', Wrt w' B o v' (l ++ Pk.flag b) ∧ Below B w w' := by
  have hc := hw.lies.cell 0 v rfl
  cases b with
  | false =>
    go_enter Tryz.func92, Tryz.ntmps92
    go_wp2_with (at_builtin; refine append_bytes rfl _ _ 28 5 rfl Tryz.underlying28 info_u8 B l (Pk.flag false) v _ rfl rfl (hw.owns.alloc _) (Reads.one w _ 0 0 rfl) (by simp [Pk.flag]; omega) w ((Below.refl _ w).alloc hB _) hB ?_; intro v2 w2 ho2 hb2 hg2; obtain ⟨ao2, cap2, rfl⟩ := ho2.reads.shape; have hl2 := (hw.lies.alloc (.cells #[.int .u8 0] 5)).kept hg2 (hw.lies.not_row (by decide) hw.owns); have hc2 := hl2.cell 0 v rfl; have hf2 := hl2.free 0)
    have hp := Wr.put (by decide) ⟨hw.base, hw.lies.alloc (.cells #[.int .u8 0] 5), hw.owns.alloc (.cells #[.int .u8 0] 5)⟩ ho2 hg2
    have hq := ((Below.refl B w).alloc hB (.cells #[.int .u8 0] 5)).trans (hp.2.below hw.base hw.row (by simp; omega))
    go_end0
    simp only [List.length_append] at hp hq
    exact ⟨rfl, _, hp.1, hq⟩
  | true =>
    go_enter Tryz.func92, Tryz.ntmps92
    go_wp2_with (at_builtin; refine append_bytes rfl _ _ 28 5 rfl Tryz.underlying28 info_u8 B l (Pk.flag true) v _ rfl rfl (hw.owns.alloc _) (Reads.one w _ 1 1 rfl) (by simp [Pk.flag]; omega) w ((Below.refl _ w).alloc hB _) hB ?_; intro v2 w2 ho2 hb2 hg2; obtain ⟨ao2, cap2, rfl⟩ := ho2.reads.shape; have hl2 := (hw.lies.alloc (.cells #[.int .u8 1] 5)).kept hg2 (hw.lies.not_row (by decide) hw.owns); have hc2 := hl2.cell 0 v rfl; have hf2 := hl2.free 0)
    have hp := Wr.put (by decide) ⟨hw.base, hw.lies.alloc (.cells #[.int .u8 1] 5), hw.owns.alloc (.cells #[.int .u8 1] 5)⟩ ho2 hg2
    have hq := ((Below.refl B w).alloc hB (.cells #[.int .u8 1] 5)).trans (hp.2.below hw.base hw.row (by simp; omega))
    go_end0
    simp only [List.length_append] at hp hq
    exact ⟨rfl, _, hp.1, hq⟩

set_option maxRecDepth 4000 in
set_option maxHeartbeats 800000 in
theorem wbytes_any (w : World) (B o : Nat) (v : Value) (l : List UInt8) (hw : Wrt w B o v l) (hlen : l.length ≤ 70368744177664) :
    Calls Tryz.prog 26 #[.pointer (some ⟨o, 0, none⟩)] w (Makes w 5 l) := by
  have hc := hw.lies.cell 0 v rfl
  go_enter Tryz.func26, Tryz.ntmps26
  go_wp2_with fail
  refine (clone_any v l _ hw.owns.reads (by omega)).mono ?_
  rintro e1 w1 ⟨u, rfl, ho, hb⟩
  go_wp2
  go_ret
  exact ⟨_, rfl, ho, hb⟩

/-! Where there is no writer. -/
set_option maxHeartbeats 800000 in
theorem wnum_nil (n : Int) (w : World) : Calls Tryz.prog 23 #[.pointer none, .int .i64 n] w fun e w' => e = .returned (.tuple #[]) ∧ w = w' := by
  go_enter Tryz.func23, Tryz.ntmps23
  go_wp2
  go_end0
  exact ⟨rfl, rfl⟩
theorem wtext_nil (s : ByteArray) (w : World) : Calls Tryz.prog 47 #[.pointer none, .string s] w fun e w' => e = .returned (.tuple #[]) ∧ w = w' := by
  go_enter Tryz.func47, Tryz.ntmps47
  go_wp2
  go_end0
  exact ⟨rfl, rfl⟩
theorem wflag_nil (b : Bool) (w : World) : Calls Tryz.prog 92 #[.pointer none, .bool b] w fun e w' => e = .returned (.tuple #[]) ∧ w = w' := by
  go_enter Tryz.func92, Tryz.ntmps92
  go_wp2
  go_end0
  exact ⟨rfl, rfl⟩
theorem wbytes_nil (w : World) : Calls Tryz.prog 26 #[.pointer none] w fun e w' => e = .returned (.slice none 0 0) ∧ w = w' := by
  go_enter Tryz.func26, Tryz.ntmps26
  go_wp2
  go_ret
  exact ⟨rfl, rfl⟩
end Go.Proofs.YtammfmmpldahhaaGreat
