/- Entries: what is searched by; the binary search over them; between which places an index stands; the one that is found. -/
import Derived.Test.YtdbiplicmdnblaaDoorEnMem
import Derived.Test.YtdbiplicmdnblaaDoorCmp
import Derived.Shelf.Abstract
namespace Go.Proofs.YtdbiplicmdnblaaDoor
open Go.RowKit Go.Shelf

/-- What is searched by: the index of an entry, against the one that is sought. -/
theorem search_ent (e : En.Ent) (x : Int) (w : World) : Calls Tryd.prog 36 #[.agg (En.cells e), .int .i64 x] w (Looks w (.int .i64 (Cf.cmp e.index x))) := by
  obtain ⟨w1, e1, hl1, hB1, hz1⟩ := box_ent w e
  obtain ⟨p0, _⟩ := Ents.ten hl1
  have HB1 := Lib.hid hB1
  clear hl1 hB1 hz1
  go_enter Tryd.func36, Tryd.ntmps36
  go_wp2_with (go_at_call 37; refine (cmp_any _ _ _).mono ?_; rintro e w' ⟨rfl, rfl⟩)
  go_ret
  exact ⟨rfl, HB1.out⟩

set_option maxRecDepth 4000 in
set_option maxHeartbeats 1600000 in
theorem bsearch_ent (v : Value) (l : List En.Ent) (x : Int) (w : World) (hv : ReadsE w v l) (hp : En.Asc l) (hn : l.length ≤ 1048576) :
    Calls Tryd.prog 35 #[v, .int .i64 x, .func (.func 36) #[] #[]] w (Looks w (.tuple #[.int .i64 (En.below l x : Nat), .bool (En.found l x)])) := by
  obtain ⟨ao, cap, rfl, hc1, hc2⟩ := ReadsE.shape hv
  have HP := Lib.hid (fun h => ReadsE.places hv h)
  have hble := En.below_le l x
  have HI := Lib.hid (En.below_iff l x hp)
  obtain ⟨B, hB⟩ : ∃ B, B = En.below l x := ⟨_, rfl⟩
  have HF : Hid (En.found l x = (l[B]?).any fun c => decide (c.index = x)) := by show _ = _; rw [hB]; rfl
  obtain ⟨F, hF⟩ : ∃ F, F = En.found l x := ⟨_, rfl⟩
  rw [← hF] at HF ⊢
  rw [← hB] at hble HI ⊢
  obtain ⟨n, hnn⟩ : ∃ n, n = l.length := ⟨_, rfl⟩
  rw [← hnn] at hc1 hble hn ⊢
  have HN := Lib.hid hnn
  clear hv hp hB hF hnn
  go_enter Tryd.func35, Tryd.ntmps35
  go_wp2
  go_loopw [9, 10] (fun y z wr => ∃ lo hi : Nat, y = .int .i64 (lo : Int) ∧ z = .int .i64 (hi : Int) ∧ lo ≤ B ∧ B ≤ hi ∧ hi ≤ n ∧ Below w.heap.size w wr) (fun y z _ => (intOf z).toNat - (intOf y).toNat)
  case atStart => exact ⟨0, n, rfl, rfl, by omega, hble, by omega, Below.refl _ _⟩
  case round =>
    obtain ⟨lo, hi, rfl, rfl, hlo, hhi, hin, hBw⟩ := hrel
    have HBw := Lib.hid hBw
    clear hBw
    by_cases hlh : lo < hi
    · obtain ⟨m, hm⟩ : ∃ m, m = (lo + hi) / 2 := ⟨_, rfl⟩
      have hm1 : lo ≤ m := by omega
      have hm2 : m < hi := by omega
      have hmm : ((lo : Int) + (hi : Int)) / 2 = (m : Int) := by omega
      obtain ⟨c, hcm⟩ : ∃ c, l[m]? = some c := ⟨_, List.getElem?_eq_getElem (by have := HN.out; omega)⟩
      obtain ⟨g, off, rfl, hgl, hcell⟩ := HP.out (by have := HN.out; omega)
      have HC := Lib.hid (hcell wr HBw.out m c hcm)
      have hiff := HI.out m c hcm
      obtain ⟨z, hz⟩ : ∃ z, z = Cf.cmp c.index x := ⟨_, rfl⟩
      have hzi : z < 0 ↔ c.index < x := by rw [hz]; exact Cf.cmp_neg _ _
      have hcall := fun W => search_ent c x W
      rw [← hz] at hcall
      have HZ := Lib.hid hz
      clear hz hcell hcm hm
      by_cases hmB : m < B
      · have hz0 : z < 0 := by rw [hzi, hiff]; exact hmB
        clear hiff hzi
        go_wp2_with (first | (refine load_ent rfl _ rfl g (off + m * 10) c rfl HC.out ?_) | (go_at_call 36; refine (hcall _).mono ?_; rintro e w' ⟨rfl, hB'⟩))
        go_roundw
        case rel => exact ⟨m + 1, hi, by go_num, rfl, by omega, hhi, hin, HBw.out.trans (hB'.mono HBw.out.size)⟩
        case measure => simp [intOf]; omega
      · have hz0 : ¬ z < 0 := by rw [hzi, hiff]; exact hmB
        clear hiff hzi
        go_wp2_with (first | (refine load_ent rfl _ rfl g (off + m * 10) c rfl HC.out ?_) | (go_at_call 36; refine (hcall _).mono ?_; rintro e w' ⟨rfl, hB'⟩))
        go_roundw
        case rel => exact ⟨lo, m, rfl, rfl, hlo, by omega, by omega, HBw.out.trans (hB'.mono HBw.out.size)⟩
        case measure => simp [intOf]; omega
    · obtain rfl : lo = B := by omega
      obtain rfl : hi = lo := by omega
      by_cases hlt2 : hi < n
      · obtain ⟨c, hcm⟩ : ∃ c, l[hi]? = some c := ⟨_, List.getElem?_eq_getElem (by have := HN.out; omega)⟩
        obtain ⟨g, off, rfl, hgl, hcell⟩ := HP.out (by have := HN.out; omega)
        obtain ⟨c0, c1, c2, c3, c4, c5, c6, c7, c8, c9⟩ := hcell wr HBw.out hi c hcm
        obtain ⟨z, hz⟩ : ∃ z, z = Cf.cmp c.index x := ⟨_, rfl⟩
        have hzi : z = 0 ↔ c.index = x := by rw [hz]; exact Cf.cmp_zero _ _
        have hcall := fun W => search_ent c x W
        rw [← hz] at hcall
        have HFc : Hid (F = decide (c.index = x)) := by show _ = _; rw [HF.out, hcm]; rfl
        clear hz hcell hcm
        by_cases hz0 : z = 0
        · have hFt : Hid (F = true) := by show _ = _; rw [HFc.out]; exact decide_eq_true (hzi.1 hz0)
          subst hz0
          clear hzi
          go_wp2_with (go_at_call 36; refine (hcall _).mono ?_; rintro e w' ⟨rfl, hB'⟩)
          go_ret2
          exact ⟨by rw [hFt.out]; rfl, HBw.out.trans (hB'.mono HBw.out.size)⟩
        · have hFt : Hid (F = false) := by show _ = _; rw [HFc.out]; exact decide_eq_false (fun h => hz0 (hzi.2 h))
          have hz1 : (z == 0) = false := by simpa using hz0
          clear hzi
          go_wp2_with (go_at_call 36; refine (hcall _).mono ?_; rintro e w' ⟨rfl, hB'⟩)
          go_ret2
          exact ⟨by rw [hFt.out]; rfl, HBw.out.trans (hB'.mono HBw.out.size)⟩
      · have hFt : Hid (F = false) := by show _ = _; rw [HF.out, List.getElem?_eq_none (by have := HN.out; omega)]; rfl
        go_wp2
        go_ret2
        exact ⟨by rw [hFt.out]; rfl, HBw.out⟩

end Go.Proofs.YtdbiplicmdnblaaDoor
