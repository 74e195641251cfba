/- The law's own put: fields, written by the program. -/
import Derived.Test.YtpdblmicgpgiaaaPkRef
import Derived.Test.YtpdblmicgpgiaaaPkAwake
import Derived.Test.YtpdblmicgpgiaaaSame
namespace Go.Proofs.Ytpdblmicgpgiaaa
open Go.RowKit

/-- []byte(s): a block of its own, that reads as s. -/
theorem bytes_of (s : List UInt8) (w : World) (hs : s.length ≤ 1048576) : ∃ (C : Nat) (cs : Array Value) (fr : Nat × Nat),
    (convert 9 26 (.string ⟨s.toArray⟩)).run Try.prog w = .ok (.slice (some ⟨w.heap.size, 0, none⟩) s.length C) (w.drew.alloc (.cells cs 5 fr)) ∧
    Reads (w.drew.alloc (.cells cs 5 fr)) (.slice (some ⟨w.heap.size, 0, none⟩) s.length C) s := by
  have h := run_bytes_of_string (P := Try.prog) w _ _ _ ⟨s.toArray⟩ Try.underlying9 Try.underlying26 Try.underlying5
  rw [str_size] at h
  have h1 : s.length ≤ grownCap w s.length 0 5 := grownCap_ge w _ _ _
  have h2 : grownCap w s.length 0 5 ≤ maxLen := grownCap_le_maxLen w _ _ _ (by unfold maxLen; omega)
  refine ⟨_, _, _, h, some ⟨w.heap.size, 0, none⟩, _, rfl, h1, h2, (fun h => by cases h), fun x hx j u hu => ?_⟩
  cases hx
  rw [Addr.add_lit, Nat.zero_add]
  have hj : j < s.length := by have := (List.getElem?_eq_some_iff.1 hu).1; rwa [cellsOf_len] at this
  have hb := bytesRow_at ⟨s.toArray⟩ (grownCap w s.length 0 5) j (by simpa using hj)
  have hc : (w.drew.alloc (.cells (bytesRow ⟨s.toArray⟩ (grownCap w s.length 0 5)) 5 ((bytesRow ⟨s.toArray⟩ (grownCap w s.length 0 5)).size, (bytesRow ⟨s.toArray⟩ (grownCap w s.length 0 5)).size + 1))).heap[w.heap.size]? = some (.cells (bytesRow ⟨s.toArray⟩ (grownCap w s.length 0 5)) 5 ((bytesRow ⟨s.toArray⟩ (grownCap w s.length 0 5)).size, (bytesRow ⟨s.toArray⟩ (grownCap w s.length 0 5)).size + 1)) := World.alloc_heap_new w.drew _
  have hcell := cell_of_row _ w.heap.size j _ _ _ hc
  rw [hcell, hb]
  rw [cellsOf_at (List.getElem?_eq_getElem hj)] at hu
  simpa using hu

set_option maxRecDepth 4000 in
set_option maxHeartbeats 1600000 in
theorem lawput_any (v : Value) (l : List Fld) (w : World) (hv : ReadsF w v l) (hlg : Pk.large l = false) : Calls Try.prog 10 #[v] w (Makes w 5 (Pk.all l)) := by
  obtain ⟨ao, cap, rfl, hc1, hc2⟩ := hv.shape
  have hfit := hv.fits
  have hb0 : Below w.heap.size w (w.alloc (.cells #[.slice none 0 0] 49)) := (Below.refl _ w).alloc (Nat.le_refl _) _
  have hw0 : Wrt (w.alloc (.cells #[.slice none 0 0] 49)) w.heap.size w.heap.size (.slice none 0 0) [] := Wr.new _ _ w _ (Nat.le_refl _)
  obtain ⟨o, ho⟩ : ∃ o, o = w.heap.size := ⟨_, rfl⟩
  obtain ⟨n, hn⟩ : ∃ n, n = l.length := ⟨_, rfl⟩
  rw [← hn] at hc1 ⊢
  by_cases h0 : n = 0
  · subst h0
    obtain rfl : l = [] := List.eq_nil_of_length_eq_zero hn.symm
    clear hn hfit hv
    go_enter Try.func10, Try.ntmps10
    go_wp2
    refine wp_loop_rounds 1 ?_
    rw [rounds_succ]
    go_wp2_with fail
    refine (wbytes_any _ _ _ _ _ hw0 (by simp)).mono ?_
    rintro e1 w1 ⟨u, rfl, hou, hbu⟩
    go_wp2
    go_ret
    exact ⟨_, rfl, hou.mono hb0.size, hb0.trans (hbu.mono hb0.size)⟩
  · obtain ⟨b, off, rfl, hc⟩ := hv.places (by omega)
    have HN := Lib.hid hn
    have HC := Lib.hid hc
    have HF := Lib.hid hfit
    have hlen := Pk.take_len hlg hfit
    have hsm := (Pk.large_not hlg).2
    have HL := Lib.hid hlen
    have HS := Lib.hid hsm
    clear hn hc hfit hv hlen hsm hlg
    go_enter Try.func10, Try.ntmps10
    go_wp2
    go_loopw [4] (fun y wr => ∃ (i : Nat) (x : Value), y = .int .i64 (i : Int) ∧ i ≤ n ∧ Wrt wr w.heap.size w.heap.size x (Pk.all (l.take i)) ∧ Below w.heap.size w wr) (fun y _ => n - (intOf y).toNat)
    case atStart => exact ⟨0, _, rfl, by omega, by rw [List.take_zero]; exact hw0, hb0⟩
    case round =>
      obtain ⟨i, x, rfl, hi, hown, hb⟩ := hrel
      clear hw0 hb0
      by_cases hlt : i < n
      · obtain ⟨f, hf⟩ : ∃ f, l[i]? = some f := ⟨_, List.getElem?_eq_getElem (by have := HN.out; omega)⟩
        have hm := List.mem_of_getElem? hf
        obtain ⟨hk0, hk1, hz0, hz1, hs1⟩ := HF.out f hm
        have hs := HS.out f hm
        obtain ⟨hc0, hc1', hc2', hc3⟩ := HC.out _ hb i f hf
        have hnx := Pk.take_next hf
        obtain ⟨k, z, s, t⟩ := f
        dsimp only at *
        have hl := HL.out i
        obtain ⟨m, hm'⟩ : ∃ m, m = Pk.all (l.take i) := ⟨_, rfl⟩
        rw [← hm'] at hown hl hnx
        clear hf hm
        have HX := Lib.hid hnx
        clear hnx hm'
        have hsz := hb.size
        rcases (show k = 1 ∨ k = 2 ∨ k = 3 ∨ (k ≠ 1 ∧ k ≠ 2 ∧ k ≠ 3) by omega) with rfl | rfl | rfl | ⟨n1, n2, n3⟩
        · go_wp2_with fail
          refine (wnum_any z _ w.heap.size w.heap.size x m hown hsz (by omega) hz0 hz1).mono ?_
          rintro e1 w1 ⟨rfl, x1, hw1, hg1⟩
          have hb1 := hb.trans (hown.below hg1 hsz)
          go_wp2
          go_roundw
          case rel => exact ⟨i + 1, _, by go_num, by omega, by rw [HX.out]; exact hw1, hb1⟩
          case measure => simp [intOf]; omega
        · obtain ⟨par, hpar⟩ : ∃ par, ((i : Int) % 2 == 0) = par := ⟨_, rfl⟩
          cases par with
          | true =>
            go_wp2_with fail
            refine (wtext_any s _ w.heap.size w.heap.size x m hown hsz (by omega) (by omega)).mono ?_
            rintro e1 w1 ⟨rfl, x1, hw1, hb1⟩
            have hb1 := hb.trans hb1
            go_wp2
            go_roundw
            case rel => exact ⟨i + 1, _, by go_num, by omega, by rw [HX.out]; exact hw1, hb1⟩
            case measure => simp [intOf]; omega
          | false =>
            obtain ⟨C, cs, fr, hcv, hrd⟩ := bytes_of s wr (by omega)
            have hbc : Below wr.heap.size wr (wr.drew.alloc (.cells cs 5 fr)) := (drawn wr 1).alloc (Nat.le_refl _) _
            have hlo := hown.lies.lt
            have hro := World.ownsRow.lt hown.owns
            go_wp2_with fail
            refine (wraw_any _ s _ w.heap.size w.heap.size x m (hown.grown hbc) (by have := hbc.size; omega) (by omega) (by omega) hrd ?_).mono ?_
            · rintro y n' c' hy
              simp only [Value.slice.injEq, Option.some.injEq] at hy
              obtain ⟨rfl, _, _⟩ := hy
              dsimp only
              refine ⟨by omega, fun h => ?_⟩
              have := (hro _ h.symm).2
              omega
            rintro e1 w1 ⟨rfl, x1, hw1, hb1⟩
            have hb1 := (hb.trans (hbc.mono hsz)).trans hb1
            go_wp2
            go_roundw
            case rel => exact ⟨i + 1, _, by go_num, by omega, by rw [HX.out]; exact hw1, hb1⟩
            case measure => simp [intOf]; omega
        · go_wp2_with fail
          refine (wflag_any t _ w.heap.size w.heap.size x m hown hsz (by omega)).mono ?_
          rintro e1 w1 ⟨rfl, x1, hw1, hb1⟩
          have hb1 := hb.trans hb1
          go_wp2
          go_roundw
          case rel => exact ⟨i + 1, _, by go_num, by omega, by rw [HX.out]; exact hw1, hb1⟩
          case measure => simp [intOf]; omega
        · go_wp2
          go_roundw
          case rel => exact ⟨i + 1, _, by go_num, by omega, by rw [HX.out]; unfold Pk.one; simp [n1, n2, n3]; exact hown, hb⟩
          case measure => simp [intOf]; omega
      · obtain rfl : i = n := by omega
        have hall : l.take i = l := List.take_of_length_le (by have := HN.out; omega)
        have hl := HL.out i
        rw [hall] at hown hl
        clear hall
        go_wp2_with fail
        refine (wbytes_any _ _ _ _ _ hown (by omega)).mono ?_
        rintro e1 w1 ⟨u, rfl, hou, hbu⟩
        go_wp2
        go_ret
        exact ⟨_, rfl, hou.mono hb.size, hb.trans (hbu.mono hb.size)⟩
end Go.Proofs.Ytpdblmicgpgiaaa
