/- A change of members: the program's changed. -/
import Derived.Test.YtimlfiomoalieaaCfCopy
namespace Go.Proofs.Ytimlfiomoalieaa
open Go.RowKit

/-- What changed leaves: a row of its own, nil where there is none. -/
def Chg (w : World) (m : List Int) (e : Ending) (w' : World) : Prop := ∃ v', e = .returned v' ∧ RowI w' w.heap.size v' m ∧ Below w.heap.size w w' ∧ (m = [] → v' = .slice none 0 0)

theorem Cf.added_ne (l : List Int) {x : Int} (h1 : 1 ≤ x) (h2 : x ≤ 9) : Cf.added l x ≠ [] := by
  intro h
  have : x ∈ Cf.added l x := by
    unfold Cf.added
    rw [List.mem_filter, Cf.mem_upTo]
    exact ⟨⟨h1, by omega⟩, by simp⟩
  rw [h] at this
  cases this

set_option maxRecDepth 4000 in
set_option maxHeartbeats 3200000 in
theorem changed_any (v : Value) (l : List Int) (kind node : Int) (w : World) (hv : ReadsI w v l) (hl : Cf.Mems l) :
    Calls Try.prog 27 #[v, .int .i64 kind, .int .i64 node] w (Chg w (Cf.changed l kind node)) := by
  have h9 := Cf.mems_len hl
  have hse := search_ints v l node w hv (by omega) hl.up
  have HV := Lib.hid hv
  have HL := Lib.hid hl
  obtain ⟨ao, cap, rfl, hc1, hc2⟩ := ReadsI.shape hv
  have hpl := Cf.place_le l node
  have h0 : 0 < l.length := List.length_pos_iff.2 hl.some
  have HIN := Lib.hid (fun (h1 : 1 ≤ node) (h2 : node ≤ 9) (h3 : node ∉ l) => Cf.insert_eq hl h1 h2 h3)
  have HDEL := Lib.hid (fun h : node ∈ l => Cf.delete_eq hl.up h)
  have HAT := Lib.hid (fun h : node ∈ l => (List.getElem?_eq_some_iff.1 (Cf.place_at hl.up h)).1)
  obtain ⟨i, hi⟩ : ∃ i, i = Cf.place l node := ⟨_, rfl⟩
  obtain ⟨F, hF⟩ : ∃ F, F = l.contains node := ⟨_, rfl⟩
  have HF : Hid (F = true ↔ node ∈ l) := by show _ ↔ _; rw [hF, List.contains_iff_mem]
  rw [← hi, ← hF] at hse
  rw [← hi] at hpl HIN HDEL HAT
  obtain ⟨n, hn⟩ : ∃ n, n = l.length := ⟨_, rfl⟩
  have HCL := Lib.hid (fun (W : World) (h : Below w.heap.size w W) => clone_ints _ l W (hv.below h) (by omega))
  rw [← hn] at hse hc1 hpl h0 h9 HCL HAT ⊢
  have HN := Lib.hid hn
  clear hv hl hi hF hn
  obtain ⟨t7, e7⟩ : ∃ t, (kind == 7) = t := ⟨_, rfl⟩
  obtain ⟨t8, e8⟩ : ∃ t, (kind == 8) = t := ⟨_, rfl⟩
  obtain ⟨g1, e1⟩ : ∃ t, decide (1 ≤ node) = t := ⟨_, rfl⟩
  obtain ⟨g9, e9⟩ : ∃ t, decide (node ≤ 9) = t := ⟨_, rfl⟩
  obtain ⟨gL, eL⟩ : ∃ t, decide ((1 : Int) < (n : Int)) = t := ⟨_, rfl⟩
  obtain ⟨m, hm⟩ : ∃ m, m = Cf.changed l kind node := ⟨_, rfl⟩
  rw [← hm]
  have HM := Lib.hid hm
  have H7 : Hid (t7 = true ↔ kind = 7) := by show _ ↔ _; rw [← e7]; simp
  have H8 : Hid (t8 = true ↔ kind = 8) := by show _ ↔ _; rw [← e8]; simp
  have G1 : Hid (g1 = true ↔ 1 ≤ node) := by show _ ↔ _; rw [← e1]; simp
  have G9 : Hid (g9 = true ↔ node ≤ 9) := by show _ ↔ _; rw [← e9]; simp
  have GL : Hid (gL = true ↔ 1 < n) := by show _ ↔ _; rw [← eL, decide_eq_true_eq]; omega
  clear hm
  go_enter Try.func27, Try.ntmps27
  go_wp2_with fail
  refine hse.mono ?_
  rintro e w1 ⟨rfl, hB1⟩
  have HB1 := Lib.hid hB1
  clear hse hB1
  by_cases hA : t7 = true ∧ F = false ∧ g1 = true ∧ g9 = true
  · obtain ⟨rfl, rfl, rfl, rfl⟩ := hA
    have hnl : node ∉ l := fun h => by have := HF.out.2 h; cases this
    have hn1 := G1.out.1 rfl
    have hn9 := G9.out.1 rfl
    have HE : Hid (m = l.take i ++ node :: l.drop i) := by
      show _ = _
      rw [HM.out, Cf.changed, if_pos ⟨H7.out.1 rfl, hn1, hn9, hnl⟩]
      exact (HIN.out hn1 hn9 hnl).symm
    have HNE : Hid (m ≠ []) := by
      show m ≠ []
      rw [HM.out, Cf.changed, if_pos ⟨H7.out.1 rfl, hn1, hn9, hnl⟩]
      exact Cf.added_ne l hn1 hn9
    have hcl := HCL.out w1 HB1.out
    clear hnl hn1 hn9
    go_wp2_with fail
    refine hcl.mono ?_
    rintro e w2 ⟨v2, rfl, ho2, hB2⟩
    have hz := hB2.size
    have HB2 := Lib.hid (HB1.out.trans (hB2.mono HB1.out.size))
    have HB12 := Lib.hid hB2
    have hbl := (RowI.of_owns ho2).block
    obtain ⟨ao2, cap2, hs2, _, _⟩ := ReadsI.shape (RowI.of_owns ho2).reads
    have hins := insert_ints v2 l i node (w2.alloc (.cells #[.int .i64 node] 3)) w1.heap.size w2.heap.size (ho2.alloc _) (by have := HN.out; omega) (by have := HN.out; omega) (by have := HN.out; omega) (Lies.new w2 _ _) (fun a n c h => by have := (hbl a n c h).2; omega)
    rw [← HE.out] at hins
    clear hcl ho2 hB2 hbl
    subst hs2
    rw [← HN.out] at hins ⊢
    go_wp2_with fail
    refine hins.mono ?_
    rintro e w3 ⟨v3, rfl, hr3, hB3⟩
    have HR := Lib.hid hr3
    have HB3 : Hid (Below w.heap.size w w3) := HB2.out.trans (((Below.refl _ w2).alloc (Nat.le_refl _) _ |>.mono HB2.out.size).trans (hB3.mono HB1.out.size))
    obtain ⟨ao3, cap3, hs3, _, _⟩ := ReadsI.shape hr3.reads
    clear hr3 hB3 hins
    subst hs3
    go_wp2
    go_ret
    exact ⟨_, rfl, HR.out.mono HB1.out.size, HB3.out, fun h => absurd h HNE.out⟩
  · by_cases hB : t8 = true ∧ F = true ∧ gL = true
    · obtain ⟨rfl, rfl, rfl⟩ := hB
      have hk8 := H8.out.1 rfl
      obtain rfl : t7 = false := by
        cases t7 with
        | false => rfl
        | true => have := H7.out.1 rfl; omega
      have hin := HF.out.1 rfl
      have hgl := GL.out.1 rfl
      have HE : Hid (m = l.take i ++ l.drop (i + 1)) := by
        show _ = _
        rw [HM.out, Cf.changed, if_neg (fun h => by have := h.1; omega), if_pos ⟨hk8, hin⟩]
        exact (HDEL.out hin).symm
      have hil := HAT.out hin
      have HNE : Hid (m ≠ []) := by
        show m ≠ []
        rw [HE.out]
        intro h
        have h2 : (l.take i ++ l.drop (i + 1)).length = 0 := by rw [h]; rfl
        have := HN.out
        rw [List.length_append, List.length_take, List.length_drop] at h2
        omega
      have hcl := HCL.out w1 HB1.out
      have HHI := Lib.hid hil
      clear hk8 hin hgl hil hA
      go_wp2_with fail
      refine hcl.mono ?_
      rintro e w2 ⟨v2, rfl, ho2, hB2⟩
      have HB2 := Lib.hid (HB1.out.trans (hB2.mono HB1.out.size))
      obtain ⟨ao2, cap2, hs2, _, _⟩ := ReadsI.shape (RowI.of_owns ho2).reads
      have hdel := delete_ints v2 l i w2 w1.heap.size (RowI.of_owns ho2) (by have := HN.out; have := HHI.out; omega)
      rw [← HE.out] at hdel
      obtain ⟨j, hj⟩ : ∃ j, j = i + 1 := ⟨_, rfl⟩
      rw [← hj] at hdel
      have hi1 : (i : Int) + 1 = (j : Int) := by omega
      clear hcl ho2 hB2 hj
      subst hs2
      rw [← HN.out] at hdel ⊢
      go_wp2_with fail
      refine hdel.mono ?_
      rintro e w3 ⟨v3, rfl, hr3, hB3⟩
      have HR := Lib.hid hr3
      have HB3 : Hid (Below w.heap.size w w3) := HB2.out.trans (hB3.mono HB1.out.size)
      obtain ⟨ao3, cap3, hs3, _, _⟩ := ReadsI.shape hr3.reads
      clear hr3 hB3 hdel
      subst hs3
      go_wp2
      go_ret
      exact ⟨_, rfl, HR.out.mono HB1.out.size, HB3.out, fun h => absurd h HNE.out⟩
    · have HE : Hid (m = []) := by
        show _ = _
        rw [HM.out, Cf.changed]
        by_cases hx : kind = 7 ∧ 1 ≤ node ∧ node ≤ 9 ∧ node ∉ l
        · exfalso
          refine hA ⟨H7.out.2 hx.1, ?_, G1.out.2 hx.2.1, G9.out.2 hx.2.2.1⟩
          cases F with
          | false => rfl
          | true => exact absurd (HF.out.1 rfl) hx.2.2.2
        · rw [if_neg hx]
          by_cases hy : kind = 8 ∧ node ∈ l
          · rw [if_pos hy]
            have h1 : ¬ 1 < n := fun h => hB ⟨H8.out.2 hy.1, HF.out.2 hy.2, GL.out.2 h⟩
            have hlen : l.length = 1 := by have := HN.out; omega
            obtain ⟨z, rfl⟩ := List.length_eq_one_iff.1 hlen
            have : node = z := by simpa using hy.2
            subst this
            simp [Cf.dropped]
          · rw [if_neg hy]
      clear HIN HDEL HAT HCL
      cases t7 <;> cases F <;> (try cases g1) <;> (try cases g9) <;> (try cases t8) <;> (try cases gL)
      all_goals first
        | (exact absurd ⟨rfl, rfl, rfl, rfl⟩ hA)
        | (exact absurd ⟨rfl, rfl, rfl⟩ hB)
        | (go_wp2; go_ret; exact ⟨_, rfl, .inl ⟨rfl, HE.out⟩, HB1.out, fun _ => rfl⟩)

end Go.Proofs.Ytimlfiomoalieaa
