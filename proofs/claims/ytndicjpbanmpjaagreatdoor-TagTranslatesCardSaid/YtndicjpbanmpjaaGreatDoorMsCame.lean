/- A message that came in; the table of fields out of what the row says of it. -/
import Derived.Test.YtndicjpbanmpjaaGreatDoorGMa
import Derived.Lib.LaidU8
namespace Go.Proofs.YtndicjpbanmpjaaGreatDoor
open Go.RowKit

/-- A slice of elements among cells. -/
theorem el_rows {α H : Type} {enc : TypeId × Value → H} {P : Program} {w : World} {base : Nat} {held : Bool} {t e : TypeId} {k : Nat} {fuel : Nat} {cs : List Value} {y : DataW H × List MemPlace} (cells : α → Array Value) (fit : α → Prop)
    (ht : P.underlying t = some (.slice e)) (hce : P.cellsOf e = k)
    (hel : ∀ (m : Nat) (cs : List Value) (y : DataW H × List MemPlace), DataW.trod enc P w base (fun _ => true) held m e cs = some y → ∃ a, cs = (cells a).toList ∧ fit a)
    (hf : DataW.trod enc P w base (fun _ => true) held fuel t cs = some y) : ∃ (u : Value) (l : List α), cs = [u] ∧ ReadsR w u k (l.map cells) ∧ ∀ a ∈ l, fit a := by
  rcases Deep.open_slice ht hf with ⟨rfl, _⟩ | ⟨x, l, c, m, n, D, Pl, rfl, _, hl, hm, hmm, _, hi⟩
  · exact ⟨_, [], rfl, ReadsR.empty w k, fun a ha => by simp at ha⟩
  · have each : ∀ i, i < l → ∃ f : α, (∀ (j : Nat) (u : Value), (cells f)[j]? = some u → w.cell? (x.add (i * k + j)) = some u) ∧ fit f := by
      intro i hil
      obtain ⟨cs', hc, ht'⟩ := hi i (by rw [hmm]; simp; omega)
      rw [hce] at hc
      obtain ⟨f, rfl, hfit⟩ := hel _ _ _ ht'
      obtain ⟨_, hcl, hat⟩ := World.cells?_some hc
      refine ⟨f, fun j u hu => ?_, hfit⟩
      have hjl : j < k := by have := (Array.getElem?_eq_some_iff.1 hu).1; rw [Array.length_toList] at hcl; omega
      have := hat j hjl
      rw [← Deep.add_add, this]
      simpa using hu
    obtain ⟨fs, hfl, hfq⟩ := pick _ l each
    refine ⟨_, fs, rfl, ⟨some x, c, by rw [List.length_map, hfl], by rw [List.length_map]; omega, hm, (fun h => by cases h), fun y hy i r hr j u hu => ?_⟩, fun f hf => ?_⟩
    · cases hy
      rw [List.getElem?_map, Option.map_eq_some_iff] at hr
      obtain ⟨f, hf, rfl⟩ := hr
      exact (hfq i f hf).1 j u hu
    · obtain ⟨i, hi⟩ := List.getElem?_of_mem hf
      exact (hfq i f hi).2

section
variable {H : Type} {enc : TypeId × Value → H} {w : World} {b0 base : Nat} {held : Bool}
set_option maxRecDepth 20000 in
theorem el_bytes (m : Nat) (cs : List Value) (y : DataW H × List MemPlace) (h : DataW.trod enc Tryz.prog w base (fun _ => true) held m 25 cs = some y) : ∃ u l, cs = [u] ∧ Reads w u l := by
  rcases ChangeShapes.open_ints Tryz.underlying25 Tryz.underlying5 (by kernel_rfl) h with ⟨rfl, _⟩ | ⟨x, l, c, zs, rfl, _, hl, hm, hz, _, hcell, hwz⟩
  · exact ⟨_, [], rfl, Reads.empty w⟩
  · exact ⟨_, _, rfl, reads_row (zs := zs) (.inr ⟨_, rfl, hl, hm, by simpa using hz, hcell, hwz⟩)⟩
set_option maxRecDepth 20000 in
theorem el_msg (m : Nat) (cs : List Value) (y : DataW H × List MemPlace) (h : DataW.trod enc Tryz.prog w base (fun _ => true) held m 27 cs = some y) :
    ∃ (a : Ms.Msg) (ve vi : Value), cs = (Ms.cells a ve vi).toList ∧ ReadsE w ve a.ents ∧ Reads w vi a.img ∧ a.Fits ∧ ∀ e ∈ a.ents, e.cmd.Short 9223372036854775807 := by
  obtain ⟨ys, n, _, _, hl, hlen, hat⟩ := DataW.trod_struct Tryz.underlying27 h
  have hce : Tryz.prog.cellsOf 27 = 10 := by kernel_rfl
  have hci : Tryz.prog.cellsOf 3 = 1 := by kernel_rfl
  have hcb : Tryz.prog.cellsOf 23 = 2 := by kernel_rfl
  have hcs : Tryz.prog.cellsOf 24 = 1 := by kernel_rfl
  have hcu : Tryz.prog.cellsOf 25 = 1 := by kernel_rfl
  have g0 := hat 0 _ rfl
  have g1 := hat 1 _ rfl
  have g2 := hat 2 _ rfl
  have g3 := hat 3 _ rfl
  have g4 := hat 4 _ rfl
  have g5 := hat 5 _ rfl
  have g6 := hat 6 _ rfl
  have g7 := hat 7 _ rfl
  have g8 := hat 8 _ rfl
  rw [List.getElem?_eq_getElem (by rw [hlen]; simp)] at g0 g1 g2 g3 g4 g5 g6 g7 g8
  obtain ⟨kd, e0, a0, b0⟩ := one_int Tryz.underlying3 g0 hci
  obtain ⟨fr, e1, a1, b1⟩ := one_int Tryz.underlying3 g1 hci
  obtain ⟨dt, e2, a2, b2⟩ := one_int Tryz.underlying3 g2 hci
  have g3' : DataW.trod enc Tryz.prog w base (fun _ => true) held n 23 ((cs.drop 3).take (Tryz.prog.cellsOf 23)) = some _ := g3
  rw [hcb] at g3'
  obtain ⟨b, e3, fb⟩ := el_bal _ _ _ g3'
  have g4' : DataW.trod enc Tryz.prog w base (fun _ => true) held n 3 ((cs.drop 5).take (Tryz.prog.cellsOf 3)) = some _ := g4
  have g5' : DataW.trod enc Tryz.prog w base (fun _ => true) held n 3 ((cs.drop 6).take (Tryz.prog.cellsOf 3)) = some _ := g5
  have g6' : DataW.trod enc Tryz.prog w base (fun _ => true) held n 3 ((cs.drop 7).take (Tryz.prog.cellsOf 3)) = some _ := g6
  obtain ⟨ix, e4, a4, b4⟩ := one_int Tryz.underlying3 g4' hci
  obtain ⟨cm, e5, a5, b5⟩ := one_int Tryz.underlying3 g5' hci
  obtain ⟨vr, e6, a6, b6⟩ := one_int Tryz.underlying3 g6' hci
  have g7' : DataW.trod enc Tryz.prog w base (fun _ => true) held n 24 ((cs.drop 8).take (Tryz.prog.cellsOf 24)) = some _ := g7
  rw [hcs] at g7'
  obtain ⟨ve, l, e7, hre, hfit⟩ := el_rows En.cells (fun e => e.Fits ∧ e.cmd.Short 9223372036854775807) Tryz.underlying24 (by kernel_rfl) (fun m cs y hm => el_ent m cs y hm) g7'
  have g8' : DataW.trod enc Tryz.prog w base (fun _ => true) held n 25 ((cs.drop 9).take (Tryz.prog.cellsOf 25)) = some _ := g8
  rw [hcu] at g8'
  obtain ⟨vi, img, e8, hri⟩ := el_bytes _ _ _ g8'
  rw [hce] at hl
  obtain ⟨c0, c1, c2, c3, c4, c5, c6, c7, c8, c9, rfl⟩ : ∃ c0 c1 c2 c3 c4 c5 c6 c7 c8 c9, cs = [c0, c1, c2, c3, c4, c5, c6, c7, c8, c9] := by
    match cs, hl with
    | [c0, c1, c2, c3, c4, c5, c6, c7, c8, c9], _ => exact ⟨_, _, _, _, _, _, _, _, _, _, rfl⟩
  · refine ⟨⟨kd, fr, dt, b, ix, cm, vr, l, img⟩, ve, vi, ?_, hre, hri, ⟨?_, fun e he => (hfit e he).1⟩, fun e he => (hfit e he).2⟩
    · simp [Bl.cells] at e0 e1 e2 e3 e4 e5 e6 e7 e8
      simp [Ms.cells, e0, e1, e2, e3, e4, e5, e6, e7, e8]
    · intro x hx
      simp only [Ms.nums, List.mem_cons, List.not_mem_nil, or_false] at hx
      have := fb.r0; have := fb.r1; have := fb.n0; have := fb.n1
      rcases hx with rfl | rfl | rfl | rfl | rfl | rfl | rfl <;> omega
set_option maxRecDepth 20000 in
theorem came_msg {v : Value} {d : DataW H} {p : List MemPlace} (hv : Value.okWide Tryz.prog w .any b0 27 v) (h : DataW.Trod enc Tryz.prog w base (fun _ => true) held 27 v d p) :
    ∃ (a : Ms.Msg) (ve vi : Value), v = .agg (Ms.cells a ve vi) ∧ ReadsE w ve a.ents ∧ Reads w vi a.img ∧ a.Fits ∧ ∀ e ∈ a.ents, e.cmd.Short 9223372036854775807 := by
  obtain ⟨cs, rfl, hsz⟩ := WideShapes.okWide_struct Tryz.underlying27 hv
  obtain ⟨fuel, hf⟩ := h
  obtain ⟨a, ve, vi, he, hrest⟩ := el_msg fuel _ _ hf
  refine ⟨a, ve, vi, ?_, hrest⟩
  have : cs.toList = (Ms.cells a ve vi).toList := he
  rw [Array.toList_inj.1 this]
end

theorem fields_of {W : World} (h : Lib.VarReads Tryz.prog W "changeover/msgone.fields" (Lib.tabData .i64 Ms.tab)) : FieldsIn W := by
  obtain ⟨g, t, cs, fuel, p, hg, ht, hvar, hd⟩ := h
  have hty : (Tryz.prog.globals[0]?).map (·.type) = some 118 := by kernel_rfl
  have hgn : Tryz.prog.globalNamed "changeover/msgone.fields" = some 0 := by kernel_rfl
  obtain rfl := Option.some.inj (hgn.symm.trans hg)
  obtain rfl := Option.some.inj (hty.symm.trans ht)
  have e := Lib.cells_of_tab (n := 12) Tryz.underlying118 Tryz.underlying3 (by kernel_rfl) (by kernel_rfl) hd
  unfold FieldsIn
  rw [hvar, ← e]

end Go.Proofs.YtndicjpbanmpjaaGreatDoor
