/- slices.Concat at bytes; frame.Add. -/
import Derived.Test.YtmhabcabbefncaaDoorFrmLeaf
namespace Go.Proofs.YtmhabcabbefncaaDoor
open Go.RowKit

theorem flat_take {α : Type} {ls : List (List α)} {k : Nat} {l : List α} (h : ls[k]? = some l) : (ls.take (k + 1)).flatten = (ls.take k).flatten ++ l := by
  rw [List.take_add_one, h]; simp
theorem flat_len {α : Type} {ls : List (List α)} {k : Nat} {l : List α} (h : ls[k]? = some l) : (ls.take k).flatten.length + l.length ≤ ls.flatten.length := by
  have e := congrArg (fun x : List (List α) => x.flatten.length) (List.take_append_drop (k + 1) ls)
  simp only [List.flatten_append, List.length_append, flat_take h] at e
  omega

set_option maxRecDepth 4000 in
set_option maxHeartbeats 800000 in
theorem concat_any (v : Value) (ls : List (List UInt8)) (w : World) (hv : ReadsL w v ls) (h0 : 0 < ls.flatten.length) (hlen : ls.flatten.length ≤ 140737488351232) :
    Calls Tryd.prog 18 #[v] w (Makes w 5 ls.flatten) := by
  obtain ⟨ao, cap, rfl, hc1, hc2⟩ := hv.shape
  have hpos : 0 < ls.length := by
    cases ls with
    | nil => simp at h0
    | cons _ _ => simp
  obtain ⟨b, off, rfl, hcell⟩ := hv.place hpos
  have HC := Lib.hid hcell
  clear hcell
  have H0 := Lib.hid h0; clear h0
  go_enter Tryd.func18, Tryd.ntmps18
  go_wp2
  go_loop [3, 11] (fun s i => ∃ k S : Nat, i = .int .i64 (k : Int) ∧ s = .int .i64 (S : Int) ∧ k ≤ ls.length ∧ S ≤ 140737488351232 ∧ Hid (S = (ls.take k).flatten.length)) (fun _ i => ls.length - (intOf i).toNat)
  case atStart => exact ⟨0, 0, rfl, rfl, by omega, by omega, show 0 = _ by simp⟩
  case round =>
    obtain ⟨k, S, rfl, rfl, hk, hS, HS⟩ := hrel
    by_cases hlt : k < ls.length
    · obtain ⟨l, hl⟩ : ∃ l, ls[k]? = some l := ⟨_, List.getElem?_eq_getElem hlt⟩
      obtain ⟨u, hu, hr⟩ := HC.out k l hl
      obtain ⟨uo, ucap, rfl⟩ := hr.shape
      have hle := flat_len hl
      have H1 : Hid (S + l.length = (ls.take (k + 1)).flatten.length) := by show _ = _; rw [flat_take hl, List.length_append, HS.out]
      have hSl : S + l.length ≤ 140737488351232 := by have := HS.out; omega
      clear hr hl hle
      go_wp2
      go_round
      case rel => exact ⟨k + 1, S + l.length, by go_num, by go_num, by omega, hSl, H1⟩
      case measure => simp [intOf]; omega
    · have hSv : Hid (S = ls.flatten.length) := by show _ = _; rw [HS.out, List.take_of_length_le (by omega)]
      have hS0 : 0 < S := by have := hSv.out; have := H0.out; omega
      clear HS
      go_wp2_with fail
      refine (grow_any S w hS0 (by omega)).mono ?_
      rintro e w1 ⟨v1, rfl, ho1, hb1⟩
      go_wp2_with fail
      go_loopw [6, 27] (fun x i wr => ∃ k : Nat, i = .int .i64 (k : Int) ∧ k ≤ ls.length ∧ Owns wr w.heap.size 5 x (ls.take k).flatten ∧ Below w.heap.size w wr) (fun _ i _ => ls.length - (intOf i).toNat)
      case atStart => exact ⟨0, rfl, by omega, by simpa using ho1, hb1⟩
      case round =>
        clear ho1 hb1
        obtain ⟨k, rfl, hk, ho, hb⟩ := hrel
        by_cases hlt : k < ls.length
        · obtain ⟨l, hl⟩ : ∃ l, ls[k]? = some l := ⟨_, List.getElem?_eq_getElem hlt⟩
          obtain ⟨u, hu, hr⟩ := HC.out k l hl
          obtain ⟨uo, ucap, rfl⟩ := hr.shape
          have hle := flat_len hl
          have hu' : wr.cell? ⟨b, off + k, none⟩ = some (.slice uo l.length ucap) := (hb.cell (p := ⟨b, off + k, none⟩) (World.block_lt_of_cell? w _ hu)).trans hu
          have hr' := hr.below hb
          have hlen2 : (ls.take k).flatten.length + l.length ≤ 140737488355328 := by omega
          have H2 : Hid ((ls.take (k + 1)).flatten = (ls.take k).flatten ++ l) := flat_take hl
          clear hu hr hle hl
          go_wp2_with (at_builtin; refine append_bytes rfl _ _ 22 5 rfl Tryd.underlying22 info_u8 w.heap.size _ l _ _ rfl rfl ho hr' hlen2 w hb (Nat.le_refl _) ?_; intro v' w' ho' hb' _)
          go_roundw
          case rel => exact ⟨k + 1, by go_num, by omega, by rw [H2.out]; exact ho', hb'⟩
          case measure => simp [intOf]; omega
        · rw [List.take_of_length_le (by omega)] at ho
          go_wp2
          go_ret
          exact ⟨_, rfl, ho, hb⟩

set_option maxRecDepth 4000 in
set_option maxHeartbeats 800000 in
theorem add_none (v u : Value) (m : List UInt8) (w : World) (hu : Reads w u m) (h : m.length < 1 ∨ 65536 < m.length) :
    Calls Tryd.prog 8 #[v, u] w fun e w' => e = .returned (.tuple #[.slice none 0 0, .int .i64 (sizeErr m.length)]) ∧ w = w' := by
  obtain ⟨uo, ucap, rfl⟩ := hu.shape
  have hl := hu.len
  obtain ⟨n, hn⟩ : ∃ n, n = m.length := ⟨_, rfl⟩
  rw [← hn] at h ⊢
  have hn9 : n ≤ 9223372036854775807 := by omega
  obtain ⟨s, hs⟩ : ∃ s, s = sizeErr n := ⟨_, rfl⟩
  have hs0 : s = 3 ∨ s = 2 := by rw [hs]; unfold sizeErr; split; exact .inl rfl; split; exact .inr rfl; omega
  rw [← hs]
  have HS := Lib.hid hs; clear hs hl hu hn h
  go_enter Tryd.func8, Tryd.ntmps8
  go_wp2_with fail
  refine (sizeError_any n _).mono ?_
  rintro e w' ⟨rfl, rfl⟩
  rw [← HS.out]
  rcases hs0 with rfl | rfl
  all_goals
    go_wp2_with fail
    go_ret2
    exact ⟨rfl, rfl⟩

set_option maxRecDepth 4000 in
set_option maxHeartbeats 800000 in
theorem add_ok (v u : Value) (l m : List UInt8) (w : World) (hv : Reads w v l) (hu : Reads w u m) (hT : CrcTab w) (h0 : 1 ≤ m.length) (h1 : m.length ≤ 65536) (hlen : l.length ≤ 140737488000000) :
    Calls Tryd.prog 8 #[v, u] w fun e w' => ∃ x, e = .returned (.tuple #[x, .int .i64 0]) ∧ Owns w' w.heap.size 5 x (l ++ Frm.frame m) ∧ Below w.heap.size w w' := by
  obtain ⟨ao, cap, rfl⟩ := hv.shape
  obtain ⟨uo, ucap, rfl⟩ := hu.shape
  have hs : sizeErr (m.length : Int) = 0 := by unfold sizeErr; rw [if_neg (by omega), if_neg (by omega)]
  have h9 := enc_nine (n := m.length) (by omega)
  obtain ⟨n, hn⟩ : ∃ n, n = m.length := ⟨_, rfl⟩
  rw [← hn] at h0 h1 hs
  have HS := Lib.hid hs; clear hs
  have HN := Lib.hid hn
  rw [← hn]
  go_enter Tryd.func8, Tryd.ntmps8
  clear hn
  go_wp2_with fail
  refine (sizeError_any n _).mono ?_
  rintro e w' ⟨rfl, rfl⟩
  rw [HS.out]
  go_wp2_with fail
  refine (put_any _ [] n _ (Reads.empty _) (by simp) (by omega) (by omega)).mono ?_
  rintro e w1 ⟨x1, rfl, ho1, hb1⟩
  rw [List.nil_append, Int.toNat_natCast] at ho1
  obtain ⟨x1o, x1c, rfl⟩ := ho1.reads.shape
  go_wp2_with fail
  refine (tail_any _ m _ (by rw [HN.out]; exact hu.below hb1) (hT.below hb1)).mono ?_
  rintro e w2 ⟨x2, rfl, ho2, hb2⟩
  obtain ⟨x2o, x2c, rfl⟩ := ho2.reads.shape
  have hb12 := on hb1 hb2
  have hL : ReadsL (w2.alloc (.cells #[.slice ao l.length cap, .slice x1o (enc n).length x1c, .slice uo n ucap, .slice x2o (Frm.tail m).length x2c] 22)) (.slice (some ⟨w2.heap.size, 0, none⟩) 4 4) [l, enc n, m, Frm.tail m] := by
    refine ReadsL.laid w2 _ _ _ 4 _ rfl rfl rfl (by omega) fun j a b ha hb => ?_
    match j with
    | 0 => simp at ha hb; subst ha hb; exact hv.below hb12
    | 1 => simp at ha hb; subst ha hb; exact ho1.reads.below hb2
    | 2 => simp at ha hb; subst ha hb; rw [HN.out]; exact hu.below hb12
    | 3 => simp at ha hb; subst ha hb; exact ho2.reads
    | j + 4 => simp at ha
  have hfl : [l, enc n, m, Frm.tail m].flatten = l ++ Frm.frame m := by unfold Frm.frame; rw [← HN.out]; simp
  have hfn : (l ++ Frm.frame m).length = l.length + ((enc n).length + n + 4) := by rw [List.length_append, Frm.frame_len, ← HN.out]
  have hle : (enc n).length ≤ 9 := by rw [HN.out]; exact h9
  have hc := concat_any _ _ _ hL (by rw [hfl, hfn]; omega) (by rw [hfl, hfn]; omega)
  rw [hfl] at hc
  clear hfl hfn hL
  go_wp2_with (go_at_call 18; refine hc.mono ?_; rintro e w3 ⟨x3, rfl, ho3, hb3⟩)
  go_ret2
  exact ⟨_, rfl, ho3.mono (by have := hb12.size; simp; omega), on hb12 (on ((Below.refl _ _).alloc (Nat.le_refl _) _) hb3)⟩
end Go.Proofs.YtmhabcabbefncaaDoor
