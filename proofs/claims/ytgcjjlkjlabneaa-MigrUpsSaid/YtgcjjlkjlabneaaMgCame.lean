/- A state that came in. -/
import Derived.Test.YtgcjjlkjlabneaaMgAwake
import Derived.Test.YtgcjjlkjlabneaaElRows
namespace Go.Proofs.Ytgcjjlkjlabneaa
open Go.RowKit

section
variable {H : Type} {enc : TypeId × Value → H} {w : World} {b0 base : Nat} {held : Bool}
set_option maxRecDepth 20000 in
theorem el_st (m : Nat) (cs : List Value) (y : DataW H × List MemPlace) (h : DataW.trod enc Try.prog w base (fun _ => true) held m 25 cs = some y) :
    ∃ (a : Mg.St) (vp vs : Value), cs = (Mg.cells a.schema vp vs).toList ∧ StR w a vp vs ∧ a.Came := by
  obtain ⟨ys, n, _, _, hl, hlen, hat⟩ := DataW.trod_struct Try.underlying25 h
  have hce : Try.prog.cellsOf 25 = 3 := by kernel_rfl
  have hci : Try.prog.cellsOf 3 = 1 := by kernel_rfl
  have hcp : Try.prog.cellsOf 22 = 1 := by kernel_rfl
  have hcs : Try.prog.cellsOf 23 = 1 := by kernel_rfl
  have g0 := hat 0 _ rfl
  have g1 := hat 1 _ rfl
  have g2 := hat 2 _ rfl
  rw [List.getElem?_eq_getElem (by rw [hlen]; simp)] at g0 g1 g2
  have g0' : DataW.trod enc Try.prog w base (fun _ => true) held n 3 ((cs.drop 0).take (Try.prog.cellsOf 3)) = some _ := g0
  obtain ⟨bs, e0, a0, b0⟩ := one_int Try.underlying3 g0' hci
  have g1' : DataW.trod enc Try.prog w base (fun _ => true) held n 22 ((cs.drop 1).take (Try.prog.cellsOf 22)) = some _ := g1
  rw [hcp] at g1'
  obtain ⟨vp, l, e1, hrp, hfp⟩ := el_rows Kv.cells (fun s => s.key.length ≤ 9223372036854775807 ∧ s.val.length ≤ 9223372036854775807) Try.underlying22 (by kernel_rfl) (fun m cs y hm => el_kv m cs y hm) g1'
  have g2' : DataW.trod enc Try.prog w base (fun _ => true) held n 23 ((cs.drop 2).take (Try.prog.cellsOf 23)) = some _ := g2
  rw [hcs] at g2'
  obtain ⟨vs, k, e2, hrs, hfs⟩ := el_rows Se.cells (fun s => s.Fits ∧ s.last.val.length ≤ 9223372036854775807) Try.underlying23 (by kernel_rfl) (fun m cs y hm => el_ses m cs y hm) g2'
  rw [hce] at hl
  obtain ⟨c0, c1, c2, rfl⟩ : ∃ c0 c1 c2, cs = [c0, c1, c2] := by
    match cs, hl with
    | [c0, c1, c2], _ => exact ⟨_, _, _, rfl⟩
  refine ⟨⟨bs, l, k⟩, vp, vs, ?_, ⟨hrp, hrs⟩, ⟨hfp, fun s h => (hfs s h).2⟩⟩
  simp at e0 e1 e2
  simp [Mg.cells, e0, e1, e2]
set_option maxRecDepth 20000 in
theorem came_st {v : Value} {d : DataW H} {p : List MemPlace} (hv : Value.okWide Try.prog w .any b0 25 v) (h : DataW.Trod enc Try.prog w base (fun _ => true) held 25 v d p) :
    ∃ (a : Mg.St) (vp vs : Value), v = .agg (Mg.cells a.schema vp vs) ∧ StR w a vp vs ∧ a.Came := by
  obtain ⟨cs, rfl, hsz⟩ := WideShapes.okWide_struct Try.underlying25 hv
  obtain ⟨fuel, hf⟩ := h
  obtain ⟨a, vp, vs, he, hrest⟩ := el_st fuel _ _ hf
  refine ⟨a, vp, vs, ?_, hrest⟩
  have : cs.toList = (Mg.cells a.schema vp vs).toList := he
  rw [Array.toList_inj.1 this]
end

end Go.Proofs.Ytgcjjlkjlabneaa
