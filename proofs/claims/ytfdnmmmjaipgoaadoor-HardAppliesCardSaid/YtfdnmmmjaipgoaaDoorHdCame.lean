/- A state of a log that came in. -/
import Derived.Test.YtfdnmmmjaipgoaaDoorGHa
import Derived.Test.YtfdnmmmjaipgoaaDoorMsCame
namespace Go.Proofs.YtfdnmmmjaipgoaaDoor
open Go.RowKit

structure Hd.Hard.Fits (h : Hd.Hard) : Prop where
  prom : h.prom.Fits
  base : -9223372036854775808 ≤ h.base ∧ h.base ≤ 9223372036854775807
  acc : ∀ e ∈ h.acc, e.Fits ∧ e.cmd.Short 9223372036854775807
  chs : ∀ e ∈ h.chs, e.Fits ∧ e.cmd.Short 9223372036854775807
section
variable {H : Type} {enc : TypeId × Value → H} {w : World} {b0 base : Nat} {held : Bool}
set_option maxRecDepth 20000 in
theorem el_hard (m : Nat) (cs : List Value) (y : DataW H × List MemPlace) (h : DataW.trod enc Tryd.prog w base (fun _ => true) held m 30 cs = some y) :
    ∃ (a : Hd.Hard) (vi va vc : Value), cs = (Hd.cells a vi va vc).toList ∧ HardR w a vi va vc ∧ a.Fits := by
  obtain ⟨ys, n, _, _, hl, hlen, hat⟩ := DataW.trod_struct Tryd.underlying30 h
  have hce : Tryd.prog.cellsOf 30 = 6 := by kernel_rfl
  have hci : Tryd.prog.cellsOf 3 = 1 := by kernel_rfl
  have hcb : Tryd.prog.cellsOf 26 = 2 := by kernel_rfl
  have hcs : Tryd.prog.cellsOf 28 = 1 := by kernel_rfl
  have hcu : Tryd.prog.cellsOf 27 = 1 := by kernel_rfl
  have g0 := hat 0 _ rfl
  have g1 := hat 1 _ rfl
  have g2 := hat 2 _ rfl
  have g3 := hat 3 _ rfl
  have g4 := hat 4 _ rfl
  rw [List.getElem?_eq_getElem (by rw [hlen]; simp)] at g0 g1 g2 g3 g4
  have g0' : DataW.trod enc Tryd.prog w base (fun _ => true) held n 26 ((cs.drop 0).take (Tryd.prog.cellsOf 26)) = some _ := g0
  rw [hcb] at g0'
  obtain ⟨b, e0, fb⟩ := el_bal _ _ _ g0'
  have g1' : DataW.trod enc Tryd.prog w base (fun _ => true) held n 3 ((cs.drop 2).take (Tryd.prog.cellsOf 3)) = some _ := g1
  obtain ⟨bs, e1, a1, b1⟩ := one_int Tryd.underlying3 g1' hci
  have g2' : DataW.trod enc Tryd.prog w base (fun _ => true) held n 27 ((cs.drop 3).take (Tryd.prog.cellsOf 27)) = some _ := g2
  rw [hcu] at g2'
  obtain ⟨vi, img, e2, hri⟩ := el_bytes _ _ _ g2'
  have g3' : DataW.trod enc Tryd.prog w base (fun _ => true) held n 28 ((cs.drop 4).take (Tryd.prog.cellsOf 28)) = some _ := g3
  rw [hcs] at g3'
  obtain ⟨va, l, e3, hra, hfa⟩ := el_rows En.cells (fun e => e.Fits ∧ e.cmd.Short 9223372036854775807) Tryd.underlying28 (by kernel_rfl) (fun m cs y hm => el_ent m cs y hm) g3'
  have g4' : DataW.trod enc Tryd.prog w base (fun _ => true) held n 28 ((cs.drop 5).take (Tryd.prog.cellsOf 28)) = some _ := g4
  rw [hcs] at g4'
  obtain ⟨vc, k, e4, hrc, hfc⟩ := el_rows En.cells (fun e => e.Fits ∧ e.cmd.Short 9223372036854775807) Tryd.underlying28 (by kernel_rfl) (fun m cs y hm => el_ent m cs y hm) g4'
  rw [hce] at hl
  obtain ⟨c0, c1, c2, c3, c4, c5, rfl⟩ : ∃ c0 c1 c2 c3 c4 c5, cs = [c0, c1, c2, c3, c4, c5] := by
    match cs, hl with
    | [c0, c1, c2, c3, c4, c5], _ => exact ⟨_, _, _, _, _, _, rfl⟩
  refine ⟨⟨b, bs, img, l, k⟩, vi, va, vc, ?_, ⟨hri, hra, hrc⟩, ⟨fb, ⟨a1, b1⟩, hfa, hfc⟩⟩
  simp [Bl.cells] at e0 e1 e2 e3 e4
  simp [Hd.cells, e0, e1, e2, e3, e4]
set_option maxRecDepth 20000 in
theorem came_hard {v : Value} {d : DataW H} {p : List MemPlace} (hv : Value.okWide Tryd.prog w .any b0 30 v) (h : DataW.Trod enc Tryd.prog w base (fun _ => true) held 30 v d p) :
    ∃ (a : Hd.Hard) (vi va vc : Value), v = .agg (Hd.cells a vi va vc) ∧ HardR w a vi va vc ∧ a.Fits := by
  obtain ⟨cs, rfl, hsz⟩ := WideShapes.okWide_struct Tryd.underlying30 hv
  obtain ⟨fuel, hf⟩ := h
  obtain ⟨a, vi, va, vc, he, hrest⟩ := el_hard fuel _ _ hf
  refine ⟨a, vi, va, vc, ?_, hrest⟩
  have : cs.toList = (Hd.cells a vi va vc).toList := he
  rw [Array.toList_inj.1 this]
end

end Go.Proofs.YtfdnmmmjaipgoaaDoor
