/- disk.New; (*Disk).hold, Make, Add, Drop. -/
import Derived.Test.YtffgfjfeoinnfaaDkApply
namespace Go.Proofs.Ytffgfjfeoinnfaa
open Go.RowKit

set_option maxRecDepth 4000 in
set_option maxHeartbeats 400000 in
theorem new_any (w : World) : Calls Try.prog 8 #[] w fun e w' => e = .returned (.pointer (some ⟨w.heap.size, 0, none⟩)) ∧ DiskAt (fun k => k = w.heap.size) w' w.heap.size [] [] ∧ Below w.heap.size w w' ∧ w'.heap.size = w.heap.size + 1 := by
  have hL := Lies.new w 51 #[.map none, .slice none 0 0]
  have HB := Lib.hid ((Below.refl w.heap.size w).alloc (Nat.le_refl _) (.cells #[.map none, .slice none 0 0] 51))
  have HL := Lib.hid hL
  clear hL
  go_enter Try.func8, Try.ntmps8
  go_wp2
  go_ret
  exact ⟨rfl, ⟨none, .slice none 0 0, [], [], ⟨HL.out, rfl, .inl ⟨rfl, rfl, rfl⟩, fun k hk => by obtain ⟨z, hz, _⟩ := hk; simp at hz, OwnsR.empty _ _ _ _, fun g e => by simp [Value.ownBlock] at e, fun q hq => by simp at hq⟩, rfl, rfl⟩, HB.out, by simp⟩

/-- One more is buffered. -/
theorem DiskP.hold {S : Nat → Prop} {w w3 w5 w6 : World} {d b : Nat} {bv bv' v3 : Value} {zs : List Row} {qs : List (Dk.Op × Value)} (h : DiskP S w d (some b) bv zs qs) (x : Dk.Op) (hb3 : Below w.heap.size w w3) (ho3 : Owns w3 w.heap.size 5 v3 x.data) (o : Obj)
    (ho5 : OwnsR w5 0 53 3 bv' (rowsOf Dk.cellO (qs ++ [(x, v3)]))) (hg5 : (w3.alloc o).grownBy w5 bv.ownBlock) (ha5 : bv'.ownBlock = bv.ownBlock ∨ bv'.ownBlock = some (w3.alloc o).heap.size)
    (hl6 : Lies w6 d 51 #[.map (some b), bv']) (hg6 : w5.grownBy w6 (some d)) :
    DiskP (fun j => S j ∨ w.heap.size ≤ j) w6 d (some b) bv' zs (qs ++ [(x, v3)]) ∧ Kp (fun j _ => ¬ S j) w w6 := by
  have hs3 := hb3.size
  have ha : (w3.alloc o).heap.size = w3.heap.size + 1 := by simp
  have hk : Kp (fun j _ => j ≠ d ∧ bv.ownBlock ≠ some j) w w6 := by
    refine Kp.trans (Kp.all (w' := w3.alloc o) (hb3.alloc hs3 o)) ((Kp.of_grown hg5 fun j _ e _ hq => hq.2 e).trans (Kp.of_grown hg6 fun j _ e _ hq => hq.1 (by simpa using e.symm)))
  have hmap : ∃ b', some b = some b' ∧ S b' ∧ FilesIn w b' zs := by
    rcases h.map with ⟨e, _⟩ | h'
    · cases e
    · exact h'
  obtain ⟨b', e, hSb, hf⟩ := hmap
  simp only [Option.some.injEq] at e
  subst e
  have bvNe : ∀ j, bv.ownBlock = some j → ∃ cs, w.heap[j]? = some (.cells cs 53 (0, 0)) := fun j e => by
    obtain ⟨cs, hc, _⟩ := h.row.cells e; exact ⟨cs, hc⟩
  have hl : w.heap[d]? = some (.cells #[.map (some b), bv] 51 (0, 0)) := h.lies
  have keepZ : ∀ j, Bl zs j → j ≠ d ∧ bv.ownBlock ≠ some j := fun j hj => by
    obtain ⟨cs, hc⟩ := hf.cells hj
    refine ⟨fun e => ?_, fun e => ?_⟩
    · subst e; rw [hl] at hc; cases hc
    · obtain ⟨cs', hc'⟩ := bvNe j e; rw [hc] at hc'; cases hc'
  have keepB : b ≠ d ∧ bv.ownBlock ≠ some b := by
    refine ⟨fun e => ?_, fun e => ?_⟩
    · subst e; exact hf.map.no_cells hl
    · obtain ⟨cs', hc'⟩ := bvNe b e; exact hf.map.no_cells hc'
  have hf6 : FilesIn w6 b zs := hf.stays (hk.block hf.map.lt fun _ => keepB) fun j hj => hk.block (hf.lt hj) fun _ => keepZ j hj
  have hd5 : ∀ g, bv'.ownBlock = some g → g ≠ d := fun g e e' => by
    subst e'
    obtain ⟨cs, hc, _⟩ := ho5.cells e
    have hdlt : g < (w3.alloc o).heap.size := by have := h.lies.lt; omega
    have h1 : w3.heap[g]? = _ := (hb3.block g h.lies.lt).trans hl
    have h2 := (Below.heap_alloc w3 o g (by have := h.lies.lt; omega)).trans h1
    have hne : some g ≠ bv.ownBlock := fun e'' => by obtain ⟨cs', hc'⟩ := bvNe g e''.symm; rw [hl] at hc'; cases hc'
    have h3 := (hg5.block g hdlt hne).trans h2
    rw [h3] at hc
    cases hc
  refine ⟨⟨hl6, .inl h.here, .inr ⟨b, rfl, .inl hSb, hf6⟩, fun k hk' => .inl (h.blk k hk'), ho5.stays fun g e => ?_, fun g e => ?_, fun q hq => ?_⟩, hk.imp fun j o' _ hS => ?_⟩
  · obtain ⟨cs, hc, _⟩ := ho5.cells e
    exact hg6.block g (lt_of_obj hc) (fun e' => hd5 g e (by simpa using e'))
  · rcases ha5 with e' | e'
    · exact .inl (h.rowS g (e' ▸ e))
    · rw [e'] at e
      simp only [Option.some.injEq] at e
      right; omega
  · rcases List.mem_append.1 hq with hq | hq
    · refine ((h.data q hq).keep (hk.keep fun j cs t fr e hp => ?_)).imp fun j cs t fr _ hp => ⟨hp.1, .inl hp.2.1, hp.2.2⟩
      obtain ⟨rfl, _, hz⟩ := hp
      refine ⟨fun e' => ?_, fun e' => ?_⟩
      · subst e'; rw [hl] at e; cases e
      · obtain ⟨cs', hc'⟩ := bvNe j e'; rw [e] at hc'; cases hc'
    · obtain rfl : q = (x, v3) := by simpa using hq
      have ho6 : Owns w6 w.heap.size 5 v3 x.data := by
        refine ho3.stays fun g e => ?_
        obtain ⟨cs, hc, hg⟩ := ho3.cells e
        have h1 : (w3.alloc o).heap[g]? = w3.heap[g]? := Below.heap_alloc w3 o g (lt_of_obj hc)
        have hne : some g ≠ bv.ownBlock := fun e' => by
          obtain ⟨cs', hc'⟩ := bvNe g e'.symm
          have := lt_of_obj hc'
          omega
        have hgd : g ≠ d := by have := h.lies.lt; omega
        rw [hg6.block g (by have := lt_of_obj hc; have := hg5.size; omega) (by simpa using hgd), hg5.block g (by have := lt_of_obj hc; omega) hne, h1]
      refine ReadsP.own ho6 fun g e => ?_
      obtain ⟨cs, hc, hg⟩ := ho3.cells e
      exact ⟨rfl, .inr hg, fun hz => by have := hf.lt hz; omega⟩
  · refine ⟨fun e => hS (e ▸ h.here), fun e => hS (h.rowS j e)⟩

end Go.Proofs.Ytffgfjfeoinnfaa
