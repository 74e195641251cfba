/- Configurations: the binary search over them, and where the one at an index stands; the document's At; cuts. -/
import Derived.Test.YtimlfiomoalieaaCfLeaf
import Derived.Shelf.Abstract
namespace Go.Proofs.Ytimlfiomoalieaa
open Go.RowKit Go.Shelf

theorem Cf.cmp_neg (f x : Int) : Cf.cmp f x < 0 ↔ f < x := by
  unfold Cf.cmp
  split
  · omega
  · split <;> omega
theorem Cf.cmp_zero (f x : Int) : Cf.cmp f x = 0 ↔ f = x := by
  unfold Cf.cmp
  split
  · omega
  · split <;> omega

set_option maxRecDepth 4000 in
set_option maxHeartbeats 1600000 in
theorem bsearch_any (v : Value) (l : List Cf.Conf) (x : Int) (w : World) (hv : ReadsC w v l) (hp : l.Pairwise fun a b => a.frm < b.frm) (h0 : 0 < l.length) (hn : l.length ≤ 1048576) :
    Calls Try.prog 31 #[v, .int .i64 x, .func (.func 32) #[] #[]] w (Looks w (.tuple #[.int .i64 (Cf.below l x : Nat), .bool (Cf.found l x)])) := by
  obtain ⟨ao, cap, rfl, hc1, hc2⟩ := ReadsC.shape hv
  obtain ⟨g, off, rfl, hlt, hc⟩ := ReadsC.places hv h0
  have hble := Cf.below_le l x
  have HI := Lib.hid (Cf.below_iff l x hp)
  obtain ⟨B, hB⟩ : ∃ B, B = Cf.below l x := ⟨_, rfl⟩
  have HF : Hid (Cf.found l x = (l[B]?).any fun c => decide (c.frm = x)) := by show _ = _; rw [hB]; rfl
  obtain ⟨F, hF⟩ : ∃ F, F = Cf.found l x := ⟨_, rfl⟩
  rw [← hF] at HF ⊢
  rw [← hB] at hble HI ⊢
  have HC := Lib.hid hc
  obtain ⟨n, hnn⟩ : ∃ n, n = l.length := ⟨_, rfl⟩
  rw [← hnn] at hc1 hble hn h0 ⊢
  have HN := Lib.hid hnn
  clear hv hp hc hB hF hnn
  go_enter Try.func31, Try.ntmps31
  go_wp2
  go_loopw [9, 10] (fun y z wr => ∃ lo hi : Nat, y = .int .i64 (lo : Int) ∧ z = .int .i64 (hi : Int) ∧ lo ≤ B ∧ B ≤ hi ∧ hi ≤ n ∧ Below w.heap.size w wr) (fun y z _ => (intOf z).toNat - (intOf y).toNat)
  case atStart => exact ⟨0, n, rfl, rfl, by omega, hble, by omega, Below.refl _ _⟩
  case round =>
    obtain ⟨lo, hi, rfl, rfl, hlo, hhi, hin, hBw⟩ := hrel
    have HBw := Lib.hid hBw
    clear hBw
    by_cases hlh : lo < hi
    · obtain ⟨m, hm⟩ : ∃ m, m = (lo + hi) / 2 := ⟨_, rfl⟩
      have hm1 : lo ≤ m := by omega
      have hm2 : m < hi := by omega
      have hmm : ((lo : Int) + (hi : Int)) / 2 = (m : Int) := by omega
      obtain ⟨c, hcm⟩ : ∃ c, l[m]? = some c := ⟨_, List.getElem?_eq_getElem (by have := HN.out; omega)⟩
      obtain ⟨uo, uc, hu, hu1, hu2, hcell⟩ := HC.out m c hcm
      obtain ⟨c0, c1⟩ := hcell wr HBw.out
      have hiff := HI.out m c hcm
      obtain ⟨z, hz⟩ : ∃ z, z = Cf.cmp c.frm x := ⟨_, rfl⟩
      have hzi : z < 0 ↔ c.frm < x := by rw [hz]; exact Cf.cmp_neg _ _
      have hcall := fun W => search_any c.frm x (.slice uo c.mem.length uc) W
      rw [← hz] at hcall
      have HZ := Lib.hid hz
      clear hz hcell hu hcm hm hu1 hu2
      by_cases hmB : m < B
      · have hz0 : z < 0 := by rw [hzi, hiff]; exact hmB
        clear hiff hzi
        go_wp2_with (go_at_call 32; refine (hcall _).mono ?_; rintro e w' ⟨rfl, hB'⟩)
        go_roundw
        case rel => exact ⟨m + 1, hi, by go_num, rfl, by omega, hhi, hin, HBw.out.trans (hB'.mono HBw.out.size)⟩
        case measure => simp [intOf]; omega
      · have hz0 : ¬ z < 0 := by rw [hzi, hiff]; exact hmB
        clear hiff hzi
        go_wp2_with (go_at_call 32; refine (hcall _).mono ?_; rintro e w' ⟨rfl, hB'⟩)
        go_roundw
        case rel => exact ⟨lo, m, rfl, rfl, hlo, by omega, by omega, HBw.out.trans (hB'.mono HBw.out.size)⟩
        case measure => simp [intOf]; omega
    · obtain rfl : lo = B := by omega
      obtain rfl : hi = lo := by omega
      by_cases hlt2 : hi < n
      · obtain ⟨c, hcm⟩ : ∃ c, l[hi]? = some c := ⟨_, List.getElem?_eq_getElem (by have := HN.out; omega)⟩
        obtain ⟨uo, uc, hu, hu1, hu2, hcell⟩ := HC.out hi c hcm
        obtain ⟨c0, c1⟩ := hcell wr HBw.out
        obtain ⟨z, hz⟩ : ∃ z, z = Cf.cmp c.frm x := ⟨_, rfl⟩
        have hzi : z = 0 ↔ c.frm = x := by rw [hz]; exact Cf.cmp_zero _ _
        have hcall := fun W => search_any c.frm x (.slice uo c.mem.length uc) W
        rw [← hz] at hcall
        have HFc : Hid (F = decide (c.frm = x)) := by show _ = _; rw [HF.out, hcm]; rfl
        clear hz hcell hu hcm hu1 hu2
        by_cases hz0 : z = 0
        · have hFt : Hid (F = true) := by show _ = _; rw [HFc.out]; exact decide_eq_true (hzi.1 hz0)
          subst hz0
          clear hzi
          go_wp2_with (go_at_call 32; refine (hcall _).mono ?_; rintro e w' ⟨rfl, hB'⟩)
          go_ret2
          exact ⟨by rw [hFt.out]; rfl, HBw.out.trans (hB'.mono HBw.out.size)⟩
        · have hFt : Hid (F = false) := by show _ = _; rw [HFc.out]; exact decide_eq_false (fun h => hz0 (hzi.2 h))
          have hz1 : (z == 0) = false := by simpa using hz0
          clear hzi
          go_wp2_with (go_at_call 32; refine (hcall _).mono ?_; rintro e w' ⟨rfl, hB'⟩)
          go_ret2
          exact ⟨by rw [hFt.out]; rfl, HBw.out.trans (hB'.mono HBw.out.size)⟩
      · have hFt : Hid (F = false) := by show _ = _; rw [HF.out, List.getElem?_eq_none (by have := HN.out; omega)]; rfl
        go_wp2
        go_ret2
        exact ⟨by rw [hFt.out]; rfl, HBw.out⟩

end Go.Proofs.Ytimlfiomoalieaa
