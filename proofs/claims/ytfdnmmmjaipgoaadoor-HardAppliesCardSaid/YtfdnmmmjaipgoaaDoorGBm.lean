/- Several texts of mine in one: BalTwo BalMax. -/
import Derived.Test.YtfdnmmmjaipgoaaDoorGBl
import Derived.Test.YtfdnmmmjaipgoaaDoorGMb
namespace Go.Proofs.YtfdnmmmjaipgoaaDoor
open Go.RowKit

theorem Bl.within9 (n : Int) : Bl.within n 9 = (!(decide (n < 1)) && !(decide (9 < n))) := by
  unfold Bl.within
  by_cases h1 : n < 1 <;> by_cases h2 : 9 < n <;> simp [h1, h2] <;> omega

/-- The law's own ballot. -/
theorem Bl.next_own : Bl.next ⟨3, 2⟩ 1 = (⟨4, 1⟩, 0) := by decide +kernel
theorem Bl.text_own : Bl.text ⟨4, 1⟩ = [52, 46, 49] := by decide +kernel

end Go.Proofs.YtfdnmmmjaipgoaaDoor


namespace Go.Proofs.YtfdnmmmjaipgoaaDoor
open Go.RowKit

theorem Bl.most_take {x c : Bl.Bal} {r : List Bl.Bal} {k : Nat} (h : r[k]? = some c) : Bl.most (x :: r.take (k + 1)) = Bl.top (Bl.most (x :: r.take k)) c := by
  rw [List.take_add_one, h]
  exact Bl.most_snoc x _ c

set_option maxRecDepth 4000 in
set_option maxHeartbeats 1600000 in
theorem bmax_any (v : Value) (l : List Bl.Bal) (w : World) (hv : ReadsB w v l) : Calls Tryd.prog 43 #[v] w (Looks w (.agg (Bl.cells (Bl.most l)))) := by
  obtain ⟨ao, cap, rfl, hc1, hc2⟩ := hv.shape
  rw [List.length_map] at hc1 ⊢
  cases l with
  | nil =>
    obtain ⟨w1, e1, hl1, hB1, hz1⟩ := box_bal w Bl.zero
    have HL1 := Lib.hid hl1; have HB1 := Lib.hid hB1
    dsimp only [Bl.cells, Bl.zero] at e1
    clear hl1 hB1 hz1
    go_enter Tryd.func43, Tryd.ntmps43
    go_wp2_with (refine store_bal (by rfl) _ _ (by rfl) w.heap.size Bl.zero Bl.zero (by rfl) (by rfl) HL1.out ?_; intro w2 hl2 hg2)
    refine ret_bal1 rfl rfl hl2 rfl ?_
    exact ⟨rfl, HB1.out.grown hg2 HB1.out.size (by rintro j hj; cases hj; omega)⟩
  | cons x r =>
    obtain ⟨b, off, rfl, hlt, hc⟩ := ReadsB.places hv (by simp)
    obtain ⟨n, hn⟩ : ∃ n, n = r.length := ⟨_, rfl⟩
    rw [show (x :: r).length = n + 1 by rw [hn]; rfl] at hc1 ⊢
    have hv' : ReadsB w (.slice (some ⟨b, off, none⟩) (n + 1) cap) (x :: r) := by rw [hn]; simpa using hv
    obtain ⟨ao2, hsl, hr⟩ := ReadsR.rest hv' 1 (by omega)
    rw [show n + 1 - 1 = n by omega] at hsl hr
    have hr' : ReadsB w (.slice ao2 n (cap - 1)) r := hr
    have hslice : ∀ W : World, (Instr.slice 75 (.slice (some ⟨b, off, none⟩) (n + 1) cap) (some (.int .i64 1)) none none).run Tryd.prog W = .ok (.slice ao2 n (cap - 1)) W := fun W => (run_rest_bal W _ _ _ 1 (by omega)).trans (by rw [hsl])
    obtain ⟨w1, e1, hl1, hk1, hB1, hz1⟩ := box_bals w Bl.zero x
    obtain ⟨w0, e0⟩ : ∃ w0, w.alloc (.cells #[.int .i64 0, .int .i64 0] 26) = w0 := ⟨_, rfl⟩
    have hb0 : Below w.heap.size w w0 := by rw [← e0]; exact (Below.refl _ w).alloc (Nat.le_refl _) _
    have hs0 : w0.heap.size = w.heap.size + 1 := by rw [← e0]; simp
    have hx0 := hc w0 hb0 0 x rfl
    rw [Nat.zero_mul, Nat.add_zero] at hx0
    obtain ⟨hx0, hx1⟩ := hx0
    dsimp only [Bl.cells, Bl.zero] at e1
    rw [e0] at e1
    rw [← hs0] at hk1
    have hnb : n < 9223372036854775807 := by omega
    have hsl0 : w.heap.size < w0.heap.size := by omega
    have HB1 := Lib.hid hB1
    have HL1 := Lib.hid hl1; have HK1 := Lib.hid hk1
    have HN := Lib.hid hn
    obtain ⟨m, hm⟩ : ∃ m, m = n + 1 := ⟨_, rfl⟩
    have hm0 : ((m : Int) == 0) = false := by simp; omega
    have hm1 : 0 < m := by omega
    rw [← hm] at hslice ⊢
    have HR := Lib.hid hr'
    clear hv hv' hsl hr hr' hc hn hB1 hl1 hk1 hz1 hb0 hc2 hm hlt hc1 hs0
    go_enter Tryd.func43, Tryd.ntmps43
    go_wp2
    go_loopw [16] (fun y wr => ∃ k : Nat, y = .int .i64 (k : Int) ∧ k ≤ n ∧ Bals wr w0.heap.size (Bl.most (x :: r.take k)) ∧ Bals wr w.heap.size Bl.zero ∧ Below w.heap.size w wr) (fun y _ => n - (intOf y).toNat)
    case atStart => exact ⟨0, rfl, by omega, HK1.out, HL1.out, HB1.out⟩
    case round =>
      obtain ⟨k, rfl, hk, hG, hO, hB⟩ := hrel
      have HG := Lib.hid hG; have HO := Lib.hid hO; have HB := Lib.hid hB
      clear hG hO hB
      by_cases hlt : k < n
      · obtain ⟨c, hcr⟩ : ∃ c, r[k]? = some c := ⟨_, List.getElem?_eq_getElem (by have := HN.out; omega)⟩
        obtain ⟨b2, off2, rfl, hblt, hc⟩ := ReadsB.places HR.out (by have := HN.out; omega)
        obtain ⟨c0, c1⟩ := hc wr HB.out k c hcr
        obtain ⟨g, hg⟩ : ∃ g, g = Bl.most (x :: r.take k) := ⟨_, rfl⟩
        rw [← hg] at HG
        have HNX : Hid (Bl.most (x :: r.take (k + 1)) = Bl.top g c) := by show _ = _; rw [hg]; exact Bl.most_take hcr
        obtain ⟨w3, e3, hl3, hB3, hz3⟩ := box_bal wr c
        have hG3 := HG.out.below hB3 HG.out.lt
        obtain ⟨g0, g1⟩ := Bals.both hG3
        obtain ⟨d0, d1⟩ := Bals.both hl3
        have HG3 := Lib.hid hG3; have HC3 := Lib.hid hl3
        have HO3 := Lib.hid (HO.out.below hB3 HO.out.lt)
        have HB3 := Lib.hid (HB.out.trans (hB3.mono HB.out.size))
        dsimp only [Bl.cells] at e3
        clear hcr hc hg hG3 hl3 hB3 hz3 hblt
        go_wp2_with fail
        refine (bless_any g c _).mono ?_
        rintro e w4 ⟨rfl, hB4⟩
        have hG4 := HG3.out.below hB4 HG3.out.lt
        have HC4 := Lib.hid (HC3.out.below hB4 HC3.out.lt)
        have HG4 := Lib.hid hG4
        have HO4 := Lib.hid (HO3.out.below hB4 HO3.out.lt)
        have HB4 := Lib.hid (HB3.out.trans (hB4.mono HB3.out.size))
        obtain ⟨m0, m1⟩ := Bals.both HC4.out
        obtain ⟨t, ht⟩ : ∃ t, t = Bl.less g c := ⟨_, rfl⟩
        rw [← ht]
        have HT := Lib.hid ht
        clear ht hG4 hB4 g0 g1 d0 d1 c0 c1
        cases t with
        | false =>
          have HTP : Hid (Bl.top g c = g) := by show _ = _; rw [Bl.top, ← HT.out]; rfl
          go_wp2
          go_roundw
          case rel => exact ⟨k + 1, by go_num, by omega, by rw [HNX.out, HTP.out]; exact HG4.out, HO4.out, HB4.out⟩
          case measure => simp [intOf]; omega
        | true =>
          have HTP : Hid (Bl.top g c = c) := by show _ = _; rw [Bl.top, ← HT.out]; rfl
          go_wp2_with (refine store_bal (by rfl) _ _ (by rfl) w0.heap.size g c (by rfl) (by rfl) HG4.out ?_; intro w5 hl5 hg5)
          have HO5 := Lib.hid (HO4.out.kept hg5 (by simp; omega))
          have HB5 := Lib.hid (HB4.out.grown hg5 HB4.out.size (by rintro j hj; cases hj; omega))
          go_roundw
          case rel => exact ⟨k + 1, by go_num, by omega, by rw [HNX.out, HTP.out]; exact hl5, HO5.out, HB5.out⟩
          case measure => simp [intOf]; omega
      · obtain rfl : k = n := by omega
        obtain ⟨g, hg⟩ : ∃ g, g = Bl.most (x :: r) := ⟨_, rfl⟩
        have hgt : Bl.most (x :: r.take k) = g := by rw [hg, HN.out, List.take_length]
        rw [hgt] at HG
        obtain ⟨g0, g1⟩ := Bals.both HG.out
        have HGG := Lib.hid hg
        clear hgt hg
        go_wp2_with (refine store_bal (by rfl) _ _ (by rfl) w.heap.size Bl.zero g (by rfl) (by rfl) HO.out ?_; intro w5 hl5 hg5)
        refine ret_bal1 rfl rfl hl5 rfl ?_
        exact ⟨by rw [HGG.out], HB.out.grown hg5 HB.out.size (by rintro j hj; cases hj; omega)⟩

theorem Bl.any_take {l : List Bl.Bal} {c M : Bl.Bal} {k : Nat} (h : l[k]? = some c) : (l.take (k + 1)).any (fun x => decide (x = M)) = ((l.take k).any (fun x => decide (x = M)) || decide (c = M)) := by
  rw [List.take_add_one, h]
  simp

end Go.Proofs.YtfdnmmmjaipgoaaDoor
