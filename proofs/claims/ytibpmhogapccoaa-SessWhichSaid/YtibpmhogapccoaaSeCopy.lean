/- Slices of sessions: grown, put together; cut. -/
import Derived.Test.YtibpmhogapccoaaSeMem
import Derived.Lib.AppendZerosOnto
import Derived.ArgAppend
namespace Go.Proofs.Ytibpmhogapccoaa
open Go.RowKit

/-- What a call leaves that makes a slice of sessions. -/
def MadeN (w : World) (l : List Se.Ses) (e : Ending) (w' : World) : Prop := ∃ v, e = .returned v ∧ OwnsR w' w.heap.size 39 8 v (l.map Se.cells) ∧ Below w.heap.size w w'
theorem run_rest_ses (w : World) (ao : Option Addr) (n cap f : Nat) (hf : f ≤ n) :
    (Instr.slice 22 (.slice ao n cap) (some (.int .i64 (f : Int))) none none).run Try.prog w = .ok (sliced ao f n cap 8) w := by
  have he : Try.prog.elem 22 = 39 := by kernel_rfl
  have hi : (Try.prog.info? 39).isSome = true := by kernel_rfl
  obtain ⟨i, hi⟩ := Option.isSome_iff_exists.1 hi
  have hrun := run_slice_l (P := Try.prog) (w := w) 22 ao n cap (by rw [he]; exact Try.underlying22) .i64 (f : Int) (by omega) (by omega)
  rw [he] at hrun
  refine hrun.trans ?_
  rw [run_sizeOf _ hi, show Try.prog.cellsOf 39 = 8 by kernel_rfl]
  simp only [Result.andThen, Int.toNat_natCast]
theorem run_first_ses (w : World) (ao : Option Addr) (n cap f : Nat) (hf : f ≤ cap) :
    (Instr.slice 22 (.slice ao n cap) none (some (.int .i64 (f : Int))) none).run Try.prog w = .ok (sliced ao 0 f cap 8) w := by
  have he : Try.prog.elem 22 = 39 := by kernel_rfl
  have hi : (Try.prog.info? 39).isSome = true := by kernel_rfl
  obtain ⟨i, hi⟩ := Option.isSome_iff_exists.1 hi
  have hrun := run_slice_h (P := Try.prog) (w := w) 22 ao n cap (by rw [he]; exact Try.underlying22) .i64 (f : Int) (by omega) (by omega)
  rw [he] at hrun
  refine hrun.trans ?_
  rw [run_sizeOf _ hi, show Try.prog.cellsOf 39 = 8 by kernel_rfl]
  simp only [Result.andThen, Int.toNat_natCast]

set_option maxRecDepth 20000 in
theorem grow_sess (n : Nat) (w : World) (h0 : 0 < n) (hn : n ≤ 1048576) :
    Calls Try.prog 29 #[.slice none 0 0, .int .i64 (n : Int)] w (MadeN w []) := by
  obtain ⟨i, hi, hz, hs, hb⟩ := info_parts info_ses
  obtain ⟨G, hG⟩ : ∃ G, G = grownCap w n 0 39 := ⟨_, rfl⟩
  have hG1 : n ≤ G := by rw [hG]; exact grownCap_ge w _ _ _
  have hG2 : G ≤ maxLen := by rw [hG]; exact grownCap_le_maxLen w _ _ _ (by unfold maxLen; omega)
  have hzs : (Value.agg (Se.cells Se.zero)).cells.size = 8 := rfl
  obtain ⟨C, hC⟩ : ∃ C : Array Value, C = (([] : List Value).toArray ++ Builtin.zeroCells (Value.agg (Se.cells Se.zero)).cells n ++ Builtin.zeroCells (Value.agg (Se.cells Se.zero)).cells (G - n)) := ⟨_, rfl⟩
  have hCs : C.size = G * 8 := by rw [hC]; simp only [Array.size_append, size_zeroCells, hzs, List.size_toArray, List.length_nil]; omega
  have hrun : ∀ ty, (Builtin.append_ #[22, 3] ty #[.slice none 0 0, .int .i64 (n : Int)]).run Try.prog w = .ok (.slice (some ⟨w.heap.size, 0, none⟩) n G) (w.drew.alloc (.cells C 39)) := by
    intro ty
    have h := Lib.run_append_grow_zeros (P := Try.prog) w 22 3 ty 39 i (.agg (Se.cells Se.zero)) .i64 .i64 Try.underlying22 Try.underlying3 hi hz none 0 0 [] (run_firstCells_none w.drew i.size 0 0 0) n h0 (by omega) (by omega) (by omega) (by rw [hb]; omega) (by rw [Nat.zero_add, nextslicecap_zero (by omega), hb]; omega)
    rw [Nat.zero_add, ← hG, ← hC] at h
    exact h
  have hsl : ∀ W : World, (Instr.slice 22 (.slice (some ⟨w.heap.size, 0, none⟩) n G) none (some (.int .i64 0)) none).run Try.prog W = .ok (.slice (some ⟨w.heap.size, 0, none⟩) 0 G) W := fun W => by
    have h := run_first_ses W (some ⟨w.heap.size, 0, none⟩) n G 0 (Nat.zero_le _)
    rw [show sliced (some (⟨w.heap.size, 0, none⟩ : Addr)) 0 0 G 8 = .slice (some ⟨w.heap.size, 0, none⟩) 0 G by simp [sliced, Addr.add_lit]] at h
    exact h
  have hsl0 : ∀ W : World, (Instr.slice 22 (.slice none 0 0) none (some (.int .i64 0)) none).run Try.prog W = .ok (.slice none 0 0) W := fun W => by
    have h := run_first_ses W none 0 0 0 (Nat.zero_le _)
    rw [show sliced none 0 0 0 8 = .slice none 0 0 by simp [sliced]] at h
    exact h
  clear hG hC
  have hfin : Hid (OwnsR (w.drew.alloc (.cells C 39)) w.heap.size 39 8 (.slice (some ⟨w.heap.size, 0, none⟩) 0 G) []) := ⟨by simp [flatR], .inr ⟨w.heap.size, G, C, rfl, Nat.le_refl _, heap_alloc_new w.drew _, by simp, hG2, by omega, by simp [flatR]⟩⟩
  have hG3 : G ≤ 9223372036854775807 := by unfold maxLen at hG2; omega
  clear hCs hG2 hzs
  go_enter Try.func29, Try.ntmps29
  go_wp2_with (at_builtin; refine Lib.wpList_append_run _ rfl _ _ _ _ rfl _ _ rfl rfl _ _ (hrun _) ?_)
  all_goals
    go_ret
    exact ⟨_, rfl, hfin.out, (Below.refl _ _).drew.alloc (Nat.le_refl _) _⟩

/-- Three slices of sessions, one behind the other in a block. -/
def ThreeN (w : World) (H : Nat) (ls : List (List Se.Ses)) : Prop := ∀ k l, ls[k]? = some l → ∃ u, w.cell? ⟨H, k, none⟩ = some u ∧ ReadsN w u l
theorem flatN_take {ls : List (List Se.Ses)} {k : Nat} {l : List Se.Ses} (h : ls[k]? = some l) : (ls.take (k + 1)).flatten = (ls.take k).flatten ++ l := by
  rw [List.take_add_one, h, List.flatten_append]; simp
theorem flatN_len {ls : List (List Se.Ses)} {k : Nat} {l : List Se.Ses} (h : ls[k]? = some l) : (ls.take k).flatten.length + l.length ≤ ls.flatten.length := by
  have e : ls.flatten = (ls.take (k + 1)).flatten ++ (ls.drop (k + 1)).flatten := by rw [← List.flatten_append, List.take_append_drop]
  rw [e, List.length_append, flatN_take h, List.length_append]
  omega

set_option maxRecDepth 4000 in
set_option maxHeartbeats 800000 in
theorem concat_sess (H : Nat) (ls : List (List Se.Ses)) (w : World) (hv : ThreeN w H ls) (h3 : ls.length = 3) (h0 : 0 < ls.flatten.length) (hlen : ls.flatten.length ≤ 1048576) :
    Calls Try.prog 23 #[.slice (some ⟨H, 0, none⟩) 3 3] w (MadeN w ls.flatten) := by
  have HC := Lib.hid hv
  have H0 := Lib.hid h0
  have H3 := Lib.hid h3
  clear hv h0 h3
  go_enter Try.func23, Try.ntmps23
  go_wp2
  go_loop [3, 11] (fun s i => ∃ k S : Nat, i = .int .i64 (k : Int) ∧ s = .int .i64 (S : Int) ∧ k ≤ 3 ∧ S ≤ 1048576 ∧ Hid (S = (ls.take k).flatten.length)) (fun _ i => 3 - (intOf i).toNat)
  case atStart => exact ⟨0, 0, rfl, rfl, by omega, by omega, show 0 = _ by simp⟩
  case round =>
    obtain ⟨k, S, rfl, rfl, hk, hS, HS⟩ := hrel
    by_cases hlt : k < 3
    · obtain ⟨l, hl⟩ : ∃ l, ls[k]? = some l := ⟨_, List.getElem?_eq_getElem (by have := H3.out; omega)⟩
      obtain ⟨u, hu, hr⟩ := HC.out k l hl
      obtain ⟨uo, ucap, rfl, _, _⟩ := ReadsN.shape hr
      have hle := flatN_len hl
      have H1 : Hid (S + l.length = (ls.take (k + 1)).flatten.length) := by show _ = _; rw [flatN_take hl, List.length_append, HS.out]
      have hSl : S + l.length ≤ 1048576 := by have := HS.out; omega
      clear hr hl hle
      go_wp2
      go_round
      case rel => exact ⟨k + 1, S + l.length, by go_num, by go_num, by omega, hSl, H1⟩
      case measure => simp [intOf]; omega
    · have hSv : Hid (S = ls.flatten.length) := by show _ = _; rw [HS.out, List.take_of_length_le (by have := H3.out; omega)]
      have hS0 : 0 < S := by have := hSv.out; have := H0.out; omega
      clear HS
      go_wp2_with fail
      refine (grow_sess S w hS0 (by omega)).mono ?_
      rintro e w1 ⟨v1, rfl, ho1, hb1⟩
      go_wp2_with fail
      go_loopw [6, 27] (fun x i wr => ∃ k : Nat, i = .int .i64 (k : Int) ∧ k ≤ 3 ∧ OwnsR wr w.heap.size 39 8 x ((ls.take k).flatten.map Se.cells) ∧ Below w.heap.size w wr) (fun _ i _ => 3 - (intOf i).toNat)
      case atStart => exact ⟨0, rfl, by omega, by simpa using ho1, hb1⟩
      case round =>
        clear ho1 hb1
        obtain ⟨k, rfl, hk, ho, hb⟩ := hrel
        by_cases hlt : k < 3
        · obtain ⟨l, hl⟩ : ∃ l, ls[k]? = some l := ⟨_, List.getElem?_eq_getElem (by have := H3.out; omega)⟩
          obtain ⟨u, hu, hr⟩ := HC.out k l hl
          obtain ⟨uo, ucap, rfl, _, _⟩ := ReadsN.shape hr
          have hle := flatN_len hl
          have hu' : wr.cell? ⟨H, k, none⟩ = some (.slice uo l.length ucap) := (hb.cell (p := ⟨H, k, none⟩) (World.block_lt_of_cell? w _ hu)).trans hu
          have HR := Lib.hid (ReadsR.below hr hb)
          have HLN : Hid (((ls.take k).flatten.map Se.cells).length + (l.map Se.cells).length ≤ 1048576) := by show _ ≤ _; rw [List.length_map, List.length_map]; omega
          have H2 : Hid ((ls.take (k + 1)).flatten.map Se.cells = (ls.take k).flatten.map Se.cells ++ l.map Se.cells) := by show _ = _; rw [flatN_take hl, List.map_append]
          have HO := Lib.hid ho
          have HB := Lib.hid hb
          clear hu hr hle hl ho hb
          go_wp2_with (at_builtin; refine append_rows rfl _ _ 22 39 8 72 (.agg (Se.cells Se.zero)) rfl Try.underlying22 info_ses rfl (by decide) w.heap.size _ (l.map Se.cells) _ _ rfl rfl HO.out HR.out (Se.sized l) (by have := HLN.out; omega) (by have := HLN.out; omega) w HB.out (Nat.le_refl _) ?_; intro v' w' ho' hb' _)
          go_roundw
          case rel => exact ⟨k + 1, by go_num, by omega, by rw [H2.out]; exact ho', hb'⟩
          case measure => simp [intOf]; omega
        · rw [List.take_of_length_le (by have := H3.out; omega)] at ho
          go_wp2
          go_ret
          exact ⟨_, rfl, ho, hb⟩

end Go.Proofs.Ytibpmhogapccoaa
