/- Between which places an index stands; the entry there; those from it on, up to it; one more. -/
import Derived.Test.YtdbiplicmdnblaaDoorEnCopy
import Derived.Test.YtdbiplicmdnblaaDoorOnce
namespace Go.Proofs.YtdbiplicmdnblaaDoor
open Go.RowKit

set_option maxRecDepth 4000 in
theorem place_ent (v : Value) (l : List En.Ent) (x : Int) (w : World) (hv : ReadsE w v l) (hp : En.Asc l) (hn : l.length ≤ 1048576) :
    Calls Tryd.prog 25 #[v, .int .i64 x] w (Looks w (.tuple #[.int .i64 (En.below l x : Nat), .int .i64 (En.upto l x : Nat)])) := by
  have hcall := bsearch_ent v l x w hv hp hn
  obtain ⟨ao, cap, rfl, _, _⟩ := ReadsE.shape hv
  have hble := En.below_le l x
  obtain ⟨U, hU⟩ : ∃ U, U = En.upto l x := ⟨_, rfl⟩
  rw [← hU]
  unfold En.upto at hU
  obtain ⟨B, hB⟩ : ∃ B, B = En.below l x := ⟨_, rfl⟩
  obtain ⟨F, hF⟩ : ∃ F, F = En.found l x := ⟨_, rfl⟩
  rw [← hB, ← hF] at hU hcall
  rw [← hB] at hble ⊢
  have hB9 : B ≤ 1048576 := by omega
  obtain ⟨n, hnn⟩ : ∃ n, n = l.length := ⟨_, rfl⟩
  rw [← hnn] at hcall ⊢
  clear hv hp hn hble hB hF hnn
  cases F with
  | true =>
    have hU1 : (B : Int) + 1 = (U : Int) := by simp at hU; omega
    clear hU
    go_enter Tryd.func25, Tryd.ntmps25
    go_wp2_with (go_at_call 35; refine hcall.mono ?_; rintro e w1 ⟨rfl, hB1⟩)
    go_ret2
    exact ⟨rfl, hB1⟩
  | false =>
    obtain rfl : U = B := by simpa using hU
    clear hU
    go_enter Tryd.func25, Tryd.ntmps25
    go_wp2_with (go_at_call 35; refine hcall.mono ?_; rintro e w1 ⟨rfl, hB1⟩)
    go_ret2
    exact ⟨rfl, hB1⟩

set_option maxRecDepth 4000 in
set_option maxHeartbeats 1600000 in
theorem find_ent (v : Value) (l : List En.Ent) (x : Int) (w : World) (hv : ReadsE w v l) (hp : En.Asc l) (hn : l.length ≤ 1048576) :
    Calls Tryd.prog 12 #[v, .int .i64 x] w (Looks w (.tuple #[.agg (En.cells (En.find l x)), .bool (En.found l x)])) := by
  obtain ⟨w1, e1, hl1, hB1, hz1⟩ := box_ent w En.zero
  dsimp only [En.cells, En.zero, Bl.zero, Cm.zero, Cm.bareOf] at e1
  have hcall := place_ent v l x w1 (hv.below hB1) hp hn
  have HV1 := Lib.hid (hv.below hB1)
  have HL1 := Lib.hid hl1; have HB1 := Lib.hid hB1
  obtain ⟨ao, cap, rfl, hc1, hc2⟩ := ReadsE.shape hv
  have hble := En.below_le l x
  have hule := En.upto_le l x
  obtain ⟨F, hF⟩ : ∃ F, F = En.found l x := ⟨_, rfl⟩
  have HF := Lib.hid hF
  obtain ⟨U, hU⟩ : ∃ U, U = En.upto l x := ⟨_, rfl⟩
  obtain ⟨B, hB⟩ : ∃ B, B = En.below l x := ⟨_, rfl⟩
  have hUB : U = B + (if En.found l x = true then 1 else 0) := by rw [hU, hB]; rfl
  have HBB := Lib.hid hB
  rw [← hB, ← hU] at hcall
  rw [← hF] at hUB ⊢
  rw [← hB] at hble
  rw [← hU] at hule
  obtain ⟨n, hnn⟩ : ∃ n, n = l.length := ⟨_, rfl⟩
  rw [← hnn] at hcall hble hule hn hc1 HV1 ⊢
  have HN := Lib.hid hnn
  clear hl1 hB1 hv hp hF hU hB hz1 hnn
  cases F with
  | false =>
    have hUB' : U = B := by simpa using hUB
    subst hUB'
    have HZ : Hid (En.find l x = En.zero) := En.find_no HF.out.symm
    clear hUB
    go_enter Tryd.func12, Tryd.ntmps12
    go_wp2_with (first | (refine store_ent (by rfl) _ _ (by rfl) w.heap.size En.zero En.zero (by rfl) (by rfl) HL2.out ?_; intro w6 hl6 hg6) | (go_at_call 25; refine hcall.mono ?_; rintro e w2 ⟨rfl, hB2⟩; have HL2 := Lib.hid (HL1.out.below hB2 HL1.out.lt); have HB2 := Lib.hid (HB1.out.trans (hB2.mono HB1.out.size)); clear hB2))
    refine ret_ent2 rfl rfl hl6 rfl ?_
    rw [HZ.out]
    exact ⟨rfl, HB2.out.grown hg6 HB2.out.size (by rintro j hj; cases hj; exact Nat.le_refl _)⟩
  | true =>
    have hUB' : (B : Int) + 1 = (U : Int) := by simp at hUB; omega
    have hne : ((B : Int) == (U : Int)) = false := by simp; omega
    have hBn : B < n := by simp at hUB; omega
    obtain ⟨e0, he0⟩ : ∃ e0, l[B]? = some e0 := ⟨_, List.getElem?_eq_getElem (by have := HN.out; omega)⟩
    have HZ : Hid (En.find l x = e0) := En.find_yes HF.out.symm (by rw [← HBB.out]; exact he0)
    obtain ⟨g, off, rfl, hgl, hcell⟩ := ReadsE.places HV1.out (by have := HN.out; omega)
    have HE := Lib.hid he0
    have HC := Lib.hid hcell
    clear hUB hUB' hcell he0
    go_enter Tryd.func12, Tryd.ntmps12
    go_wp2_with (first | (refine load_ent rfl _ rfl g (off + B * 10) e0 rfl (HC.out _ HBH.out B e0 HE.out) ?_) | (refine store_ent (by rfl) _ _ (by rfl) w.heap.size En.zero e0 (by rfl) (by rfl) HL2.out ?_; intro w6 hl6 hg6) | (go_at_call 25; refine hcall.mono ?_; rintro e w2 ⟨rfl, hB2⟩; have HBH := Lib.hid hB2; have HL2 := Lib.hid (HL1.out.below hB2 HL1.out.lt); have HB2 := Lib.hid (HB1.out.trans (hB2.mono HB1.out.size)); clear hB2))
    refine ret_ent2 rfl rfl hl6 rfl ?_
    rw [HZ.out]
    exact ⟨rfl, HB2.out.grown hg6 HB2.out.size (by rintro j hj; cases hj; exact Nat.le_refl _)⟩

set_option maxRecDepth 4000 in
theorem from_ent (v : Value) (l : List En.Ent) (x : Int) (w : World) (hv : ReadsE w v l) (hp : En.Asc l) (hn : l.length ≤ 1048576) :
    Calls Tryd.prog 17 #[v, .int .i64 x] w (MadeE w (l.drop (En.below l x))) := by
  have hcall := place_ent v l x w hv hp hn
  obtain ⟨ao, cap, rfl, hc1, hc2⟩ := ReadsE.shape hv
  have hble := En.below_le l x
  obtain ⟨U, hU⟩ : ∃ U, U = En.upto l x := ⟨_, rfl⟩
  obtain ⟨B, hB⟩ : ∃ B, B = En.below l x := ⟨_, rfl⟩
  rw [← hB, ← hU] at hcall
  rw [← hB] at hble ⊢
  obtain ⟨ao2, hs, hr⟩ := ReadsR.part hv B l.length cap hble (Nat.le_refl _) hc1 (Nat.le_refl _)
  have hrs : ((l.map En.cells).take l.length).drop B = (l.drop B).map En.cells := by rw [List.take_of_length_le (by simp), List.map_drop]
  rw [hrs] at hr
  have HR := Lib.hid hr
  have hsl := fun W => run_rest_ent W ao l.length cap B hble
  rw [hs] at hsl
  have HK := Lib.hid (fun (W : World) h => clone_ents (.slice ao2 (l.length - B) (cap - B)) (l.drop B) W h (by rw [List.length_drop]; omega))
  obtain ⟨m, hm⟩ : ∃ m, m = l.length - B := ⟨_, rfl⟩
  obtain ⟨c, hc⟩ : ∃ c, c = cap - B := ⟨_, rfl⟩
  rw [← hm, ← hc] at hsl HK HR
  obtain ⟨n, hnn⟩ : ∃ n, n = l.length := ⟨_, rfl⟩
  rw [← hnn] at hcall hsl ⊢
  clear hv hp hB hU hm hc hs hr hrs hnn
  go_enter Tryd.func17, Tryd.ntmps17
  go_wp2_with (first | (go_at_call 25; refine hcall.mono ?_; rintro e w2 ⟨rfl, hB2⟩) | (go_at_call 27; refine (HK.out _ (HR.out.below hB2)).mono ?_; rintro e w3 ⟨v3, rfl, ho3, hB3⟩))
  go_ret
  exact ⟨_, rfl, ho3.mono hB2.size, hB2.trans (hB3.mono hB2.size)⟩

set_option maxRecDepth 4000 in
theorem until_ent (v : Value) (l : List En.Ent) (x : Int) (w : World) (hv : ReadsE w v l) (hp : En.Asc l) (hn : l.length ≤ 1048576) :
    Calls Tryd.prog 19 #[v, .int .i64 x] w (MadeE w (l.take (En.upto l x))) := by
  have hcall := place_ent v l x w hv hp hn
  obtain ⟨ao, cap, rfl, hc1, hc2⟩ := ReadsE.shape hv
  have hule := En.upto_le l x
  obtain ⟨U, hU⟩ : ∃ U, U = En.upto l x := ⟨_, rfl⟩
  obtain ⟨B, hB⟩ : ∃ B, B = En.below l x := ⟨_, rfl⟩
  rw [← hB, ← hU] at hcall
  rw [← hU] at hule ⊢
  obtain ⟨ao2, hs, hr⟩ := ReadsR.part hv 0 U cap (Nat.zero_le _) hule (by omega) (Nat.le_refl _)
  rw [Nat.sub_zero, Nat.sub_zero] at hs hr
  rw [List.drop_zero, ← List.map_take] at hr
  have HR := Lib.hid hr
  have hsl := fun W => run_first_ent W ao l.length cap U (by omega)
  rw [hs] at hsl
  have HK := Lib.hid (fun (W : World) h => clone_ents (.slice ao2 U cap) (l.take U) W h (by rw [List.length_take]; omega))
  obtain ⟨n, hnn⟩ : ∃ n, n = l.length := ⟨_, rfl⟩
  rw [← hnn] at hcall hsl ⊢
  clear hv hp hB hU hs hr hnn
  go_enter Tryd.func19, Tryd.ntmps19
  go_wp2_with (first | (go_at_call 25; refine hcall.mono ?_; rintro e w2 ⟨rfl, hB2⟩) | (go_at_call 27; refine (HK.out _ (HR.out.below hB2)).mono ?_; rintro e w3 ⟨v3, rfl, ho3, hB3⟩))
  go_ret
  exact ⟨_, rfl, ho3.mono hB2.size, hB2.trans (hB3.mono hB2.size)⟩

end Go.Proofs.YtdbiplicmdnblaaDoor
