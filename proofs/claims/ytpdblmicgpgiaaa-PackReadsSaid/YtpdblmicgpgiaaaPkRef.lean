/- The document's answer: what is written. -/
import Derived.Test.YtpdblmicgpgiaaaPkFld
import Derived.Test.YtpdblmicgpgiaaaBytes
import Derived.Laws.IdiomStrings
namespace Go.Proofs.Ytpdblmicgpgiaaa
open Go.RowKit

set_option maxRecDepth 4000 in
set_option maxHeartbeats 400000 in
theorem refText_any (s : List UInt8) (w : World) (hs : s.length ≤ 1048576) : Calls Try.prog 28 #[.string ⟨s.toArray⟩] w (Makes w 5 (Pk.text s)) := by
  have hsz := str_size s
  have h9 := enc_nine (n := s.length) (by omega)
  go_enter Try.func28, Try.ntmps28
  go_wp2_with fail
  refine (bytes_any (s.length : Int) _ (by omega) (by omega)).mono ?_
  rintro e1 w1 ⟨u, rfl, ho, hb⟩
  rw [Int.toNat_natCast] at ho
  go_wp2_with (at_builtin; refine append_text rfl _ _ 26 9 5 rfl Try.underlying26 Try.underlying9 info_u8 w.heap.size (enc s.length) s u rfl rfl ho (by omega) hb.size ?_; intro v2 w2 ho2 hg2)
  go_ret
  exact ⟨_, rfl, ho2, hb.grown hg2 hb.size fun k hk => (World.ownsRow.lt ho k hk).1⟩

set_option maxRecDepth 4000 in
set_option maxHeartbeats 400000 in
theorem refFlag_any (b : Bool) (w : World) : Calls Try.prog 29 #[.bool b] w fun e w' => ∃ u, e = .returned u ∧ Reads w' u (Pk.flag b) ∧ Below w.heap.size w w' := by
  cases b
  · go_enter Try.func29, Try.ntmps29
    go_wp2
    go_ret
    exact ⟨_, rfl, Reads.one w _ 0 0 rfl, (Below.refl _ w).alloc (Nat.le_refl _) _⟩
  · go_enter Try.func29, Try.ntmps29
    go_wp2
    go_ret
    exact ⟨_, rfl, Reads.one w _ 1 1 rfl, (Below.refl _ w).alloc (Nat.le_refl _) _⟩

theorem Pk.take_len {l : List Fld} (h : Pk.large l = false) (hf : ∀ f ∈ l, f.Fits) (i : Nat) : (Pk.all (l.take i)).length ≤ 12540 := by
  obtain ⟨h1, h2⟩ := Pk.large_not h
  have := Pk.all_len (l := l.take i) fun f hfm => ⟨(hf f (List.mem_of_mem_take hfm)).n1, h2 f (List.mem_of_mem_take hfm)⟩
  have : (l.take i).length ≤ 60 := by simp; omega
  omega
theorem Pk.take_next {l : List Fld} {i : Nat} {f : Fld} (h : l[i]? = some f) : Pk.all (l.take (i + 1)) = Pk.all (l.take i) ++ Pk.one f := by
  rw [List.take_add_one, h]
  exact Pk.all_snoc _ _

set_option maxRecDepth 4000 in
set_option maxHeartbeats 1600000 in
theorem refBytes_any (v : Value) (l : List Fld) (w : World) (hv : ReadsF w v l) (hlg : Pk.large l = false) : Calls Try.prog 11 #[v] w (Makes w 5 (Pk.all l)) := by
  obtain ⟨ao, cap, rfl, hc1, hc2⟩ := hv.shape
  have hfit := hv.fits
  obtain ⟨n, hn⟩ : ∃ n, n = l.length := ⟨_, rfl⟩
  rw [← hn] at hc1 ⊢
  by_cases h0 : n = 0
  · subst h0
    obtain rfl : l = [] := List.eq_nil_of_length_eq_zero hn.symm
    clear hn hfit hv
    go_enter Try.func11, Try.ntmps11
    go_wp2
    refine wp_loop_rounds 1 ?_
    rw [rounds_succ]
    go_wp2
    go_ret
    exact ⟨_, rfl, Owns.empty _ _ _, Below.refl _ _⟩
  · obtain ⟨b, off, rfl, hc⟩ := hv.places (by omega)
    have HN := Lib.hid hn
    have HC := Lib.hid hc
    have HF := Lib.hid hfit
    have hlen := Pk.take_len hlg hfit
    have hsm := (Pk.large_not hlg).2
    have HL := Lib.hid hlen
    have HS := Lib.hid hsm
    clear hn hc hfit hv hlen hsm hlg
    go_enter Try.func11, Try.ntmps11
    go_wp2
    go_loopw [3, 4] (fun x y wr => ∃ i : Nat, y = .int .i64 (i : Int) ∧ i ≤ n ∧ Owns wr w.heap.size 5 x (Pk.all (l.take i)) ∧ Below w.heap.size w wr) (fun _ y _ => n - (intOf y).toNat)
    case atStart => exact ⟨0, rfl, by omega, by rw [List.take_zero]; exact Owns.empty _ _ _, Below.refl _ _⟩
    case round =>
      obtain ⟨i, rfl, hi, hown, hb⟩ := hrel
      by_cases hlt : i < n
      · obtain ⟨f, hf⟩ : ∃ f, l[i]? = some f := ⟨_, List.getElem?_eq_getElem (by have := HN.out; omega)⟩
        have hm := List.mem_of_getElem? hf
        obtain ⟨hk0, hk1, hz0, hz1, hs1⟩ := HF.out f hm
        have hs := HS.out f hm
        obtain ⟨hc0, hc1', hc2', hc3⟩ := HC.out _ hb i f hf
        have hnx := Pk.take_next hf
        obtain ⟨k, z, s, t⟩ := f
        dsimp only at *
        have hl := HL.out i
        obtain ⟨m, hm'⟩ : ∃ m, m = Pk.all (l.take i) := ⟨_, rfl⟩
        rw [← hm'] at hown hl hnx
        clear hf hm
        have HX := Lib.hid hnx
        clear hnx hm'
        have h9 := enc_nine (n := z.toNat) (by omega)
        have h9s := enc_nine (n := s.length) (by omega)
        have hsz := hb.size
        rcases (show k = 1 ∨ k = 2 ∨ k = 3 ∨ (k ≠ 1 ∧ k ≠ 2 ∧ k ≠ 3) by omega) with rfl | rfl | rfl | ⟨n1, n2, n3⟩
        · go_wp2_with (first
            | (go_at_call 27; refine (bytes_any z _ hz0 hz1).mono ?_; rintro e1 w1 ⟨u, rfl, ho1, hb1⟩; have hown1 := hown.keep hb1 (Nat.le_refl _); have hB1 := hb.trans (hb1.mono hsz))
            | (at_builtin; refine append_bytes rfl _ _ 26 5 rfl Try.underlying26 info_u8 w.heap.size m (enc z.toNat) _ _ rfl rfl hown1 ho1.reads (by omega) w hB1 (Nat.le_refl _) ?_; intro v' w' ho hb' hg; clear hg))
          go_roundw
          case rel => exact ⟨i + 1, by go_num, by omega, by rw [HX.out]; exact ho, hb'⟩
          case measure => simp [intOf]; omega
        · go_wp2_with (first
            | (go_at_call 28; refine (refText_any s _ (by omega)).mono ?_; rintro e1 w1 ⟨u, rfl, ho1, hb1⟩; have hown1 := hown.keep hb1 (Nat.le_refl _); have hB1 := hb.trans (hb1.mono hsz))
            | (at_builtin; refine append_bytes rfl _ _ 26 5 rfl Try.underlying26 info_u8 w.heap.size m (Pk.text s) _ _ rfl rfl hown1 ho1.reads (by simp [Pk.text]; omega) w hB1 (Nat.le_refl _) ?_; intro v' w' ho hb' hg; clear hg))
          go_roundw
          case rel => exact ⟨i + 1, by go_num, by omega, by rw [HX.out]; exact ho, hb'⟩
          case measure => simp [intOf]; omega
        · go_wp2_with (first
            | (go_at_call 29; refine (refFlag_any t _).mono ?_; rintro e1 w1 ⟨u, rfl, ho1, hb1⟩; have hown1 := hown.keep hb1 (Nat.le_refl _); have hB1 := hb.trans (hb1.mono hsz))
            | (at_builtin; refine append_bytes rfl _ _ 26 5 rfl Try.underlying26 info_u8 w.heap.size m (Pk.flag t) _ _ rfl rfl hown1 ho1 (by simp [Pk.flag]; omega) w hB1 (Nat.le_refl _) ?_; intro v' w' ho hb' hg; clear hg))
          go_roundw
          case rel => exact ⟨i + 1, by go_num, by omega, by rw [HX.out]; exact ho, hb'⟩
          case measure => simp [intOf]; omega
        · go_wp2
          go_roundw
          case rel => exact ⟨i + 1, by go_num, by omega, by rw [HX.out]; unfold Pk.one; simp [n1, n2, n3]; exact hown, hb⟩
          case measure => simp [intOf]; omega
      · obtain rfl : i = n := by omega
        have hall : l.take i = l := List.take_of_length_le (by have := HN.out; omega)
        rw [hall] at hown
        clear hall
        go_wp2
        go_ret
        exact ⟨_, rfl, hown, hb⟩
end Go.Proofs.Ytpdblmicgpgiaaa
