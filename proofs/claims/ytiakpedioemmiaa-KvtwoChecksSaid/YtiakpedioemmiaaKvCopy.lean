/- Slices of pairs: grown, put together; cut; copied. Written by a program. -/
import Derived.Test.YtiakpedioemmiaaKvMem
import Derived.Lib.AppendZerosOnto
import Derived.ArgAppend
namespace Go.Proofs.Ytiakpedioemmiaa
open Go.RowKit

/-- What a call leaves that makes a slice of pairs. -/
def MadeK (w : World) (l : List Kv.Item) (e : Ending) (w' : World) : Prop := ∃ v, e = .returned v ∧ OwnsR w' w.heap.size 29 3 v (l.map Kv.cells) ∧ Below w.heap.size w w'
theorem run_rest_kv (w : World) (ao : Option Addr) (n cap f : Nat) (hf : f ≤ n) :
    (Instr.slice 22 (.slice ao n cap) (some (.int .i64 (f : Int))) none none).run Try.prog w = .ok (sliced ao f n cap 3) w := by
  have he : Try.prog.elem 22 = 29 := by kernel_rfl
  have hi : (Try.prog.info? 29).isSome = true := by kernel_rfl
  obtain ⟨i, hi⟩ := Option.isSome_iff_exists.1 hi
  have hrun := run_slice_l (P := Try.prog) (w := w) 22 ao n cap (by rw [he]; exact Try.underlying22) .i64 (f : Int) (by omega) (by omega)
  rw [he] at hrun
  refine hrun.trans ?_
  rw [run_sizeOf _ hi, show Try.prog.cellsOf 29 = 3 by kernel_rfl]
  simp only [Result.andThen, Int.toNat_natCast]
theorem run_first_kv (w : World) (ao : Option Addr) (n cap f : Nat) (hf : f ≤ cap) :
    (Instr.slice 22 (.slice ao n cap) none (some (.int .i64 (f : Int))) none).run Try.prog w = .ok (sliced ao 0 f cap 3) w := by
  have he : Try.prog.elem 22 = 29 := by kernel_rfl
  have hi : (Try.prog.info? 29).isSome = true := by kernel_rfl
  obtain ⟨i, hi⟩ := Option.isSome_iff_exists.1 hi
  have hrun := run_slice_h (P := Try.prog) (w := w) 22 ao n cap (by rw [he]; exact Try.underlying22) .i64 (f : Int) (by omega) (by omega)
  rw [he] at hrun
  refine hrun.trans ?_
  rw [run_sizeOf _ hi, show Try.prog.cellsOf 29 = 3 by kernel_rfl]
  simp only [Result.andThen, Int.toNat_natCast]

set_option maxRecDepth 20000 in
theorem grow_kvs (n : Nat) (w : World) (h0 : 0 < n) (hn : n ≤ 1048576) :
    Calls Try.prog 41 #[.slice none 0 0, .int .i64 (n : Int)] w (MadeK w []) := by
  obtain ⟨i, hi, hz, hs, hb⟩ := info_parts info_kv
  obtain ⟨G, hG⟩ : ∃ G, G = grownCap w n 0 29 := ⟨_, rfl⟩
  have hG1 : n ≤ G := by rw [hG]; exact grownCap_ge w _ _ _
  have hG2 : G ≤ maxLen := by rw [hG]; exact grownCap_le_maxLen w _ _ _ (by unfold maxLen; omega)
  have hzs : (Value.agg (Kv.cells Kv.zero)).cells.size = 3 := rfl
  obtain ⟨C, hC⟩ : ∃ C : Array Value, C = (([] : List Value).toArray ++ Builtin.zeroCells (Value.agg (Kv.cells Kv.zero)).cells n ++ Builtin.zeroCells (Value.agg (Kv.cells Kv.zero)).cells (G - n)) := ⟨_, rfl⟩
  have hCs : C.size = G * 3 := by rw [hC]; simp only [Array.size_append, size_zeroCells, hzs, List.size_toArray, List.length_nil]; omega
  have hrun : ∀ ty, (Builtin.append_ #[22, 3] ty #[.slice none 0 0, .int .i64 (n : Int)]).run Try.prog w = .ok (.slice (some ⟨w.heap.size, 0, none⟩) n G) (w.drew.alloc (.cells C 29)) := by
    intro ty
    have h := Lib.run_append_grow_zeros (P := Try.prog) w 22 3 ty 29 i (.agg (Kv.cells Kv.zero)) .i64 .i64 Try.underlying22 Try.underlying3 hi hz none 0 0 [] (run_firstCells_none w.drew i.size 0 0 0) n h0 (by omega) (by omega) (by omega) (by rw [hb]; omega) (by rw [Nat.zero_add, nextslicecap_zero (by omega), hb]; omega)
    rw [Nat.zero_add, ← hG, ← hC] at h
    exact h
  have hsl : ∀ W : World, (Instr.slice 22 (.slice (some ⟨w.heap.size, 0, none⟩) n G) none (some (.int .i64 0)) none).run Try.prog W = .ok (.slice (some ⟨w.heap.size, 0, none⟩) 0 G) W := fun W => by
    have h := run_first_kv W (some ⟨w.heap.size, 0, none⟩) n G 0 (Nat.zero_le _)
    rw [show sliced (some (⟨w.heap.size, 0, none⟩ : Addr)) 0 0 G 3 = .slice (some ⟨w.heap.size, 0, none⟩) 0 G by simp [sliced, Addr.add_lit]] at h
    exact h
  have hsl0 : ∀ W : World, (Instr.slice 22 (.slice none 0 0) none (some (.int .i64 0)) none).run Try.prog W = .ok (.slice none 0 0) W := fun W => by
    have h := run_first_kv W none 0 0 0 (Nat.zero_le _)
    rw [show sliced none 0 0 0 3 = .slice none 0 0 by simp [sliced]] at h
    exact h
  clear hG hC
  have hfin : Hid (OwnsR (w.drew.alloc (.cells C 29)) w.heap.size 29 3 (.slice (some ⟨w.heap.size, 0, none⟩) 0 G) []) := ⟨by simp [flatR], .inr ⟨w.heap.size, G, C, rfl, Nat.le_refl _, heap_alloc_new w.drew _, by simp, hG2, by omega, by simp [flatR]⟩⟩
  have hG3 : G ≤ 9223372036854775807 := by unfold maxLen at hG2; omega
  clear hCs hG2 hzs
  go_enter Try.func41, Try.ntmps41
  go_wp2_with (at_builtin; refine Lib.wpList_append_run _ rfl _ _ _ _ rfl _ _ rfl rfl _ _ (hrun _) ?_)
  all_goals
    go_ret
    exact ⟨_, rfl, hfin.out, (Below.refl _ _).drew.alloc (Nat.le_refl _) _⟩

theorem grow_none (w : World) : Calls Try.prog 41 #[.slice none 0 0, .int .i64 0] w (MadeK w []) := by
  go_enter Try.func41, Try.ntmps41
  go_wp2
  go_ret
  exact ⟨_, rfl, OwnsR.empty _ _ _ _, Below.refl _ _⟩
theorem grow_any (n : Nat) (w : World) (hn : n ≤ 1048576) : Calls Try.prog 41 #[.slice none 0 0, .int .i64 (n : Int)] w (MadeK w []) := by
  by_cases h : 0 < n
  · exact grow_kvs n w h hn
  · obtain rfl : n = 0 := by omega
    exact grow_none w

set_option maxRecDepth 4000 in
set_option maxHeartbeats 800000 in
theorem clone_kvs (v : Value) (rs : List (Array Value)) (w : World) (hv : ReadsR w v 3 rs) (hz : Sized 3 rs) (hn : rs.length ≤ 1099511627776) :
    Calls Try.prog 27 #[v] w fun e w' => ∃ v', e = .returned v' ∧ OwnsR w' w.heap.size 29 3 v' rs ∧ Below w.heap.size w w' := by
  have hq : ∀ (w : World) (a : Option Addr) (n c n' c' : Nat), (binOp .eql 22 (.slice a n c) (.slice none n' c')).run Try.prog w = .ok (.bool a.isNone) w := fun w a n c n' c' => Lib.run_eql_slice_nil w _ _ a n c n' c' Try.underlying22
  obtain ⟨ao, cap, rfl, hc1, hc2⟩ := hv.shape
  cases ao with
  | none =>
    obtain ⟨_, h1, h2, _⟩ := ReadsR.len hv
    have h3 := h2 rfl
    obtain rfl : rs = [] := List.eq_nil_of_length_eq_zero (by omega)
    go_enter Try.func27, Try.ntmps27
    go_wp2
    go_ret
    exact ⟨_, rfl, OwnsR.empty _ _ _ _, Below.refl _ _⟩
  | some a =>
    have HV : Hid (ReadsR (w.alloc (.cells #[] 29)) (.slice (some a) rs.length cap) 3 rs) := ReadsR.below hv ((Below.refl _ w).alloc (Nat.le_refl _) _)
    obtain ⟨n, hnn⟩ : ∃ n, n = rs.length := ⟨_, rfl⟩
    rw [← hnn] at hn HV ⊢
    have HN := Lib.hid hnn; have HZ := Lib.hid hz
    clear hv hc1 hnn hz
    go_enter Try.func27, Try.ntmps27
    go_wp2_with (at_builtin; refine append_rows rfl _ _ 22 29 3 40 _ rfl Try.underlying22 info_kv rfl (by decide) w.heap.size [] rs _ _ rfl rfl (World.ownsRow_made w #[] 0 (Nat.le_refl _) (Nat.zero_le _) (by simp)) HV.out HZ.out (by rw [← HN.out]; simp; omega) (by rw [← HN.out]; simp; omega) w ((Below.refl _ w).alloc (Nat.le_refl _) _) (Nat.le_refl _) ?_; intro v' w' ho' hb' _)
    all_goals
      rw [List.nil_append] at ho'
      obtain ⟨ao', cap', hs'⟩ := ho'.shape
      have HO := Lib.hid ho'
      rw [← HN.out] at hs'
      clear ho'
      subst hs'
      go_wp2
      go_ret
      exact ⟨_, rfl, HO.out, hb'⟩

theorem cloneKv_any (v : Value) (l : List Kv.Item) (w : World) (hv : ReadsK w v l) (hn : l.length ≤ 1048576) : Calls Try.prog 27 #[v] w (MadeK w l) :=
  clone_kvs v (l.map Kv.cells) w hv (Kv.sized l) (by rw [List.length_map]; omega)

/-- Three slices of pairs, one behind the other in a block. -/
def ThreeK (w : World) (H : Nat) (ls : List (List Kv.Item)) : Prop := ∀ k l, ls[k]? = some l → ∃ u, w.cell? ⟨H, k, none⟩ = some u ∧ ReadsK w u l
theorem flatK_take {ls : List (List Kv.Item)} {k : Nat} {l : List Kv.Item} (h : ls[k]? = some l) : (ls.take (k + 1)).flatten = (ls.take k).flatten ++ l := by
  rw [List.take_add_one, h, List.flatten_append]; simp
theorem flatK_len {ls : List (List Kv.Item)} {k : Nat} {l : List Kv.Item} (h : ls[k]? = some l) : (ls.take k).flatten.length + l.length ≤ ls.flatten.length := by
  have e : ls.flatten = (ls.take (k + 1)).flatten ++ (ls.drop (k + 1)).flatten := by rw [← List.flatten_append, List.take_append_drop]
  rw [e, List.length_append, flatK_take h, List.length_append]
  omega

set_option maxRecDepth 4000 in
set_option maxHeartbeats 800000 in
theorem concat_kvs (H : Nat) (ls : List (List Kv.Item)) (w : World) (hv : ThreeK w H ls) (h3 : ls.length = 3) (hlen : ls.flatten.length ≤ 1048576) :
    Calls Try.prog 35 #[.slice (some ⟨H, 0, none⟩) 3 3] w (MadeK w ls.flatten) := by
  have HC := Lib.hid hv
  have H3 := Lib.hid h3
  clear hv h3
  go_enter Try.func35, Try.ntmps35
  go_wp2
  go_loop [3, 11] (fun s i => ∃ k S : Nat, i = .int .i64 (k : Int) ∧ s = .int .i64 (S : Int) ∧ k ≤ 3 ∧ S ≤ 1048576 ∧ Hid (S = (ls.take k).flatten.length)) (fun _ i => 3 - (intOf i).toNat)
  case atStart => exact ⟨0, 0, rfl, rfl, by omega, by omega, show 0 = _ by simp⟩
  case round =>
    obtain ⟨k, S, rfl, rfl, hk, hS, HS⟩ := hrel
    by_cases hlt : k < 3
    · obtain ⟨l, hl⟩ : ∃ l, ls[k]? = some l := ⟨_, List.getElem?_eq_getElem (by have := H3.out; omega)⟩
      obtain ⟨u, hu, hr⟩ := HC.out k l hl
      obtain ⟨uo, ucap, rfl, _, _⟩ := ReadsK.shape hr
      have hle := flatK_len hl
      have H1 : Hid (S + l.length = (ls.take (k + 1)).flatten.length) := by show _ = _; rw [flatK_take hl, List.length_append, HS.out]
      have hSl : S + l.length ≤ 1048576 := by have := HS.out; omega
      clear hr hl hle
      go_wp2
      go_round
      case rel => exact ⟨k + 1, S + l.length, by go_num, by go_num, by omega, hSl, H1⟩
      case measure => simp [intOf]; omega
    · have hSv : Hid (S = ls.flatten.length) := by show _ = _; rw [HS.out, List.take_of_length_le (by have := H3.out; omega)]
      clear HS
      go_wp2_with fail
      refine (grow_any S w (by omega)).mono ?_
      rintro e w1 ⟨v1, rfl, ho1, hb1⟩
      go_wp2_with fail
      go_loopw [6, 27] (fun x i wr => ∃ k : Nat, i = .int .i64 (k : Int) ∧ k ≤ 3 ∧ OwnsR wr w.heap.size 29 3 x ((ls.take k).flatten.map Kv.cells) ∧ Below w.heap.size w wr) (fun _ i _ => 3 - (intOf i).toNat)
      case atStart => exact ⟨0, rfl, by omega, by simpa using ho1, hb1⟩
      case round =>
        clear ho1 hb1
        obtain ⟨k, rfl, hk, ho, hb⟩ := hrel
        by_cases hlt : k < 3
        · obtain ⟨l, hl⟩ : ∃ l, ls[k]? = some l := ⟨_, List.getElem?_eq_getElem (by have := H3.out; omega)⟩
          obtain ⟨u, hu, hr⟩ := HC.out k l hl
          obtain ⟨uo, ucap, rfl, _, _⟩ := ReadsK.shape hr
          have hle := flatK_len hl
          have hu' : wr.cell? ⟨H, k, none⟩ = some (.slice uo l.length ucap) := (hb.cell (p := ⟨H, k, none⟩) (World.block_lt_of_cell? w _ hu)).trans hu
          have HR := Lib.hid (ReadsR.below hr hb)
          have HLN : Hid (((ls.take k).flatten.map Kv.cells).length + (l.map Kv.cells).length ≤ 1048576) := by show _ ≤ _; rw [List.length_map, List.length_map]; omega
          have H2 : Hid ((ls.take (k + 1)).flatten.map Kv.cells = (ls.take k).flatten.map Kv.cells ++ l.map Kv.cells) := by show _ = _; rw [flatK_take hl, List.map_append]
          have HO := Lib.hid ho
          have HB := Lib.hid hb
          clear hu hr hle hl ho hb
          go_wp2_with (at_builtin; refine append_rows rfl _ _ 22 29 3 40 (.agg (Kv.cells Kv.zero)) rfl Try.underlying22 info_kv rfl (by decide) w.heap.size _ (l.map Kv.cells) _ _ rfl rfl HO.out HR.out (Kv.sized l) (by have := HLN.out; omega) (by have := HLN.out; omega) w HB.out (Nat.le_refl _) ?_; intro v' w' ho' hb' _)
          go_roundw
          case rel => exact ⟨k + 1, by go_num, by omega, by rw [H2.out]; exact ho', hb'⟩
          case measure => simp [intOf]; omega
        · rw [List.take_of_length_le (by have := H3.out; omega)] at ho
          go_wp2
          go_ret
          exact ⟨_, rfl, ho, hb⟩

end Go.Proofs.Ytiakpedioemmiaa
