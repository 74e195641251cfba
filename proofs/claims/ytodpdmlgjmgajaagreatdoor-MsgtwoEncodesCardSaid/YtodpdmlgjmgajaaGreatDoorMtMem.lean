/- The elements of a message in V2, as the program lays them. -/
import Derived.Test.YtodpdmlgjmgajaaGreatDoorMtEl
import Derived.Test.YtodpdmlgjmgajaaGreatDoorGMa
import Derived.Test.YtodpdmlgjmgajaaGreatDoorGMb
import Derived.BigRegion
import Derived.Deep.QuietTactic
import Derived.BigQuiet
namespace Go.Proofs.YtodpdmlgjmgajaaGreatDoor
open Go.RowKit

theorem drawnAt {B : Nat} (w : World) (n : Nat) : Below B w (w.drewN n) := ⟨rfl, rfl, rfl, Nat.le_refl _, fun _ _ => rfl⟩

/-- An element as a value: the message lies in block g. -/
def Mt.ev (g : Nat) : Mt.El → Value
  | .num k => .iface 68 (.pointer (some ⟨g, k, none⟩))
  | .list => .iface 77 (.pointer (some ⟨g, 8, none⟩))
  | .img => .iface 80 (.pointer (some ⟨g, 9, none⟩))
  | .prop => .iface 79 (.agg #[.pointer (some ⟨g, 0, none⟩)])

/-! Type assertions on an element. -/
theorem isInt_num (v : Value) (W : World) : (Instr.typeAssert (.iface 68 v) 20 68 true).run Tryz.prog W = .ok (.tuple #[v, .bool true]) W := by kernel_rfl
theorem isInt_list (v : Value) (W : World) : (Instr.typeAssert (.iface 77 v) 20 68 true).run Tryz.prog W = .ok (.tuple #[.pointer none, .bool false]) W := by kernel_rfl
theorem isInt_img (v : Value) (W : World) : (Instr.typeAssert (.iface 80 v) 20 68 true).run Tryz.prog W = .ok (.tuple #[.pointer none, .bool false]) W := by kernel_rfl
theorem isInt_prop (v : Value) (W : World) : (Instr.typeAssert (.iface 79 v) 20 68 true).run Tryz.prog W = .ok (.tuple #[.pointer none, .bool false]) W := by kernel_rfl
theorem isList_list (v : Value) (W : World) : (Instr.typeAssert (.iface 77 v) 20 77 true).run Tryz.prog W = .ok (.tuple #[v, .bool true]) W := by kernel_rfl
theorem isList_img (v : Value) (W : World) : (Instr.typeAssert (.iface 80 v) 20 77 true).run Tryz.prog W = .ok (.tuple #[.pointer none, .bool false]) W := by kernel_rfl
theorem isList_prop (v : Value) (W : World) : (Instr.typeAssert (.iface 79 v) 20 77 true).run Tryz.prog W = .ok (.tuple #[.pointer none, .bool false]) W := by kernel_rfl
theorem isImg_img (v : Value) (W : World) : (Instr.typeAssert (.iface 80 v) 20 80 true).run Tryz.prog W = .ok (.tuple #[v, .bool true]) W := by kernel_rfl
theorem isImg_prop (v : Value) (W : World) : (Instr.typeAssert (.iface 79 v) 20 80 true).run Tryz.prog W = .ok (.tuple #[.pointer none, .bool false]) W := by kernel_rfl
theorem isProp_prop (v : Value) (W : World) : (Instr.typeAssert (.iface 79 v) 20 79 true).run Tryz.prog W = .ok (.tuple #[v, .bool true]) W := by kernel_rfl

/-- A row of elements' values, laid behind lo. -/
def Mt.rows (g : Nat) (l : List Mt.El) : List (Array Value) := l.map fun e => #[Mt.ev g e]
theorem Mt.rows_len (g : Nat) (l : List Mt.El) : (Mt.rows g l).length = l.length := List.length_map ..
theorem Mt.ev_one (g : Nat) (e : Mt.El) : (Mt.ev g e).oneCell' = true := by cases e <;> rfl
theorem Mt.rows_sized (g : Nat) (l : List Mt.El) : Sized 1 (Mt.rows g l) := Sized.map (f := fun e => #[Mt.ev g e]) (fun e => ⟨rfl, by simp [Mt.ev_one]⟩) l
theorem Mt.rows_flat (g : Nat) (l : List Mt.El) : flatR (Mt.rows g l) = l.map (Mt.ev g) := by
  induction l with
  | nil => rfl
  | cons e l ih => rw [List.map_cons, ← ih]; rfl
abbrev ERow (w : World) (lo : Nat) (v : Value) (g : Nat) (l : List Mt.El) : Prop := OwnsR w lo 20 1 v (Mt.rows g l)
/-- A row just laid. -/
theorem ERow.new {w w1 : World} {lo g n : Nat} (l : List Mt.El) (hn : l.length = n) (hlo : lo ≤ w.heap.size) (hb : Below (w.heap.size + 1) (w.alloc (.cells (l.map (Mt.ev g)).toArray 20)) w1) (hs : l.length ≤ 100) : ERow w1 lo (.slice (some ⟨w.heap.size, 0, none⟩) n n) g l := by
  subst hn
  have hl : Lies w1 w.heap.size 20 (l.map (Mt.ev g)).toArray := (Lies.new w _ _).below hb (Nat.lt_succ_self _)
  refine ⟨by rw [Mt.rows_flat, Mt.rows_len]; simp, .inr ⟨w.heap.size, l.length, _, by rw [Mt.rows_len], hlo, hl, by rw [Mt.rows_len]; exact Nat.le_refl _, by unfold maxLen; omega, by simp, ?_⟩⟩
  rw [Mt.rows_flat, Mt.rows_len, Nat.mul_one]
  exact List.take_of_length_le (by simp)
/-- A row that has elements lies in a block of its own. -/
theorem ERow.lies {w : World} {lo g : Nat} {v : Value} {l : List Mt.El} (h : ERow w lo v g l) (hl : 0 < l.length) :
    ∃ j cap cur, v = .slice (some ⟨j, 0, none⟩) l.length cap ∧ lo ≤ j ∧ Lies w j 20 cur ∧ ∀ (k : Nat) (e : Mt.El), l[k]? = some e → cur[k]? = some (Mt.ev g e) := by
  rcases h.2 with ⟨_, h0⟩ | ⟨j, cap, cur, rfl, hj, hg, _, _, _, ht⟩
  · rw [Mt.rows_len] at h0; omega
  · rw [Mt.rows_len, Mt.rows_flat, Nat.mul_one] at ht
    refine ⟨j, cap, cur, by rw [Mt.rows_len], hj, hg, fun k e hk => ?_⟩
    have h1 : (l.map (Mt.ev g))[k]? = some (Mt.ev g e) := by rw [List.getElem?_map, hk]; rfl
    rw [← ht, List.getElem?_take] at h1
    split at h1
    · rwa [Array.getElem?_toList] at h1
    · cases h1
def ERowed (w : World) (g : Nat) (l : List Mt.El) (e : Ending) (w' : World) : Prop := ∃ v, e = .returned v ∧ ERow w' w.heap.size v g l ∧ Below w.heap.size w w'

set_option maxRecDepth 4000 in
set_option maxHeartbeats 3200000 in
theorem headMt_any (g : Nat) (w : World) : Calls Tryz.prog 19 #[.pointer (some ⟨g, 0, none⟩)] w (ERowed w g Mt.head) := by
  obtain ⟨w1, e1, hb1, hB1⟩ : ∃ w1, w.alloc (.cells #[.iface 68 (.pointer (some ⟨g, 0, none⟩)), .iface 68 (.pointer (some ⟨g, 1, none⟩)), .iface 68 (.pointer (some ⟨g, 2, none⟩))] 20) = w1
      ∧ Below (w.heap.size + 1) (w.alloc (.cells (Mt.head.map (Mt.ev g)).toArray 20)) w1 ∧ Below w.heap.size w w1 := ⟨_, rfl, Below.refl _ _, (Below.refl _ w).alloc (Nat.le_refl _) _⟩
  have HL := Lib.hid hb1; have HB := Lib.hid hB1
  clear hb1 hB1
  go_enter Tryz.func19, Tryz.ntmps19
  go_wp2
  go_region
  all_goals
    go_wp2
    go_ret
    exact ⟨_, rfl, ERow.new Mt.head rfl (Nat.le_refl _) (HL.out.trans (drawnAt _ _)) (by decide), on HB.out (drawn _ _)⟩

set_option maxRecDepth 4000 in
set_option maxHeartbeats 6400000 in
theorem fieldsMt_any (g : Nat) (k : Int) (w : World) (hc : w.cell? ⟨g, 0, none⟩ = some (.int .i64 k)) :
    Calls Tryz.prog 20 #[.pointer (some ⟨g, 0, none⟩)] w (ERowed w g (Mt.elems k)) := by
  go_enter Tryz.func20, Tryz.ntmps20
  go_wp2
  go_quiet (fail)
  have hb := drawn w nq
  have hc' := (World.cell?_of_block (hb.block g (World.block_lt_of_cell? w _ hc))).trans hc
  generalize w.drewN nq = w2 at hb hc' ⊢
  have HB := Lib.hid hb
  have hsz := hb.size
  clear hb hc
  rcases Ms.kinds k with rfl | rfl | rfl | rfl | rfl | rfl | rfl | rfl | rfl | rfl | rfl | h
  · go_wp2
    go_ret
    exact ⟨_, rfl, ERow.new (Mt.elems 1) rfl hsz (Below.refl _ _) (by decide), HB.out.alloc hsz _⟩
  · go_wp2
    go_ret
    exact ⟨_, rfl, ERow.new (Mt.elems 2) rfl hsz (Below.refl _ _) (by decide), HB.out.alloc hsz _⟩
  · go_wp2
    go_ret
    exact ⟨_, rfl, ERow.new (Mt.elems 3) rfl hsz (Below.refl _ _) (by decide), HB.out.alloc hsz _⟩
  · obtain ⟨w3, e3, hb3, hB3⟩ : ∃ w3, w2.alloc (.cells #[.iface 68 (.pointer (some ⟨g, 3, none⟩)), .iface 68 (.pointer (some ⟨g, 4, none⟩)), .iface 68 (.pointer (some ⟨g, 5, none⟩)), .iface 68 (.pointer (some ⟨g, 6, none⟩)), .iface 77 (.pointer (some ⟨g, 8, none⟩))] 20) = w3
        ∧ Below (w2.heap.size + 1) (w2.alloc (.cells ((Mt.elems 4).map (Mt.ev g)).toArray 20)) w3 ∧ Below w2.heap.size w2 w3 := ⟨_, rfl, Below.refl _ _, (Below.refl _ w2).alloc (Nat.le_refl _) _⟩
    have HL := Lib.hid hb3; have HB3 := Lib.hid (HB.out.trans (hB3.mono hsz))
    clear hb3 hB3
    go_wp2
    go_region
    all_goals
      go_wp2
      go_ret
      exact ⟨_, rfl, ERow.new (Mt.elems 4) rfl hsz (HL.out.trans (drawnAt _ _)) (by decide), HB3.out.trans (drawnAt _ _)⟩
  · go_wp2
    go_ret
    exact ⟨_, rfl, ERow.new (Mt.elems 5) rfl hsz (Below.refl _ _) (by decide), HB.out.alloc hsz _⟩
  · go_wp2
    go_ret
    exact ⟨_, rfl, ERow.new (Mt.elems 6) rfl hsz (Below.refl _ _) (by decide), HB.out.alloc hsz _⟩
  · go_wp2
    go_ret
    exact ⟨_, rfl, ERow.new (Mt.elems 7) rfl hsz (Below.refl _ _) (by decide), HB.out.alloc hsz _⟩
  · go_wp2
    go_ret
    exact ⟨_, rfl, ERow.new (Mt.elems 8) rfl hsz (Below.refl _ _) (by decide), HB.out.alloc hsz _⟩
  · go_wp2
    go_ret
    exact ⟨_, rfl, ERow.new (Mt.elems 9) rfl hsz (Below.refl _ _) (by decide), HB.out.alloc hsz _⟩
  · obtain ⟨w3, e3, hb3, hB3⟩ : ∃ w3, w2.alloc (.cells #[.iface 68 (.pointer (some ⟨g, 6, none⟩)), .iface 77 (.pointer (some ⟨g, 8, none⟩))] 20) = w3
        ∧ Below (w2.heap.size + 1) (w2.alloc (.cells ((Mt.elems 10).map (Mt.ev g)).toArray 20)) w3 ∧ Below w2.heap.size w2 w3 := ⟨_, rfl, Below.refl _ _, (Below.refl _ w2).alloc (Nat.le_refl _) _⟩
    have HL := Lib.hid hb3; have HB3 := Lib.hid (HB.out.trans (hB3.mono hsz))
    clear hb3 hB3
    go_wp2
    go_region
    all_goals
      go_wp2
      go_ret
      exact ⟨_, rfl, ERow.new (Mt.elems 10) rfl hsz (HL.out.trans (drawnAt _ _)) (by decide), HB3.out.trans (drawnAt _ _)⟩
  · go_wp2
    go_ret
    exact ⟨_, rfl, ERow.new (Mt.elems 11) rfl hsz (Below.refl _ _) (by decide), HB.out.alloc hsz _⟩
  · have n1 : (k == 1) = false := by simp; omega
    have n2 : (k == 2) = false := by simp; omega
    have n3 : (k == 3) = false := by simp; omega
    have n4 : (k == 4) = false := by simp; omega
    have n5 : (k == 5) = false := by simp; omega
    have n6 : (k == 6) = false := by simp; omega
    have n7 : (k == 7) = false := by simp; omega
    have n8 : (k == 8) = false := by simp; omega
    have n9 : (k == 9) = false := by simp; omega
    have n10 : (k == 10) = false := by simp; omega
    have n11 : (k == 11) = false := by simp; omega
    go_wp2
    go_ret
    rw [Mt.elems_no h]
    exact ⟨_, rfl, OwnsR.empty _ _ _ _, HB.out⟩

end Go.Proofs.YtodpdmlgjmgajaaGreatDoor
