/- Several texts of mine in one: PkFld PkRef. -/
import Derived.Test.YtammfmmpldahhaaGreatRows
import Derived.Test.YtammfmmpldahhaaGreatPkMem
import Derived.Deep.Slices
import Derived.Deep.Fields
import Derived.ChangeSame
import Derived.Test.YtammfmmpldahhaaGreatGNum
import Derived.Laws.IdiomStrings
namespace Go.Proofs.YtammfmmpldahhaaGreat
open Go.RowKit

/-- The value reads as a row of fields. -/
def ReadsF (w : World) (v : Value) (l : List Fld) : Prop :=
  ∃ (ao : Option Addr) (cap : Nat), v = .slice ao l.length cap ∧ l.length ≤ cap ∧ cap ≤ maxLen ∧ (ao = none → cap = 0) ∧
    (∀ x, ao = some x → ∀ (i : Nat) (f : Fld), l[i]? = some f → ∀ (j : Nat) (u : Value), f.cells[j]? = some u → w.cell? (x.add (i * 4 + j)) = some u) ∧ ∀ f ∈ l, f.Fits

theorem ReadsF.shape {w : World} {v : Value} {l : List Fld} (h : ReadsF w v l) : ∃ ao cap, v = .slice ao l.length cap ∧ l.length ≤ cap ∧ cap ≤ 9223372036854775807 := by
  obtain ⟨ao, cap, rfl, h1, h2, _⟩ := h
  exact ⟨ao, cap, rfl, h1, by unfold maxLen at h2; exact h2⟩
theorem ReadsF.fits {w : World} {v : Value} {l : List Fld} (h : ReadsF w v l) : ∀ f ∈ l, f.Fits := by
  obtain ⟨ao, cap, rfl, h1, h2, h3, h4, h5⟩ := h
  exact h5
theorem ReadsF.empty (w : World) : ReadsF w (.slice none 0 0) [] := ⟨none, 0, rfl, by simp, by simp [maxLen], fun _ => rfl, (fun x hx => by cases hx), fun f hf => by simp at hf⟩
theorem ReadsF.below {w w' : World} {v : Value} {l : List Fld} (h : ReadsF w v l) (hb : Below w.heap.size w w') : ReadsF w' v l := by
  obtain ⟨ao, cap, rfl, h1, h2, h3, h4, h5⟩ := h
  refine ⟨ao, cap, rfl, h1, h2, h3, fun x hx i f hf j u hu => ?_, h5⟩
  have hc := h4 x hx i f hf j u hu
  rw [← hc]
  exact hb.cell (World.block_lt_of_cell? w _ hc)
/-- At a field that there is: its four cells. -/
theorem ReadsF.place {w : World} {ao : Option Addr} {n cap : Nat} {l : List Fld} (h : ReadsF w (.slice ao n cap) l) (hl : 0 < l.length) :
    ∃ b off, ao = some ⟨b, off, none⟩ ∧ ∀ i f, l[i]? = some f → w.cell? ⟨b, off + i * 4, none⟩ = some (.int .i64 f.kind) ∧ w.cell? ⟨b, off + i * 4 + 1, none⟩ = some (.int .i64 f.n) ∧
      w.cell? ⟨b, off + i * 4 + 2, none⟩ = some (.string ⟨f.s.toArray⟩) ∧ w.cell? ⟨b, off + i * 4 + 3, none⟩ = some (.bool f.is) := by
  obtain ⟨ao', cap', hv, h1, h2, h3, h4, h5⟩ := h
  simp only [Value.slice.injEq] at hv
  obtain ⟨rfl, rfl, rfl⟩ := hv
  cases ao with
  | none => exact absurd (h3 rfl) (by omega)
  | some x =>
    obtain ⟨b, off, spot⟩ := x
    have hc := h4 _ rfl 0 _ (List.getElem?_eq_getElem (by omega)) 0 _ rfl
    have hspot : spot = none := by simpa [Addr.add] using World.cell?_spot hc
    subst hspot
    refine ⟨b, off, rfl, fun i f hf => ⟨?_, ?_, ?_, ?_⟩⟩
    · have := h4 _ rfl i f hf 0 _ rfl; rwa [Addr.add_lit] at this
    · have := h4 _ rfl i f hf 1 _ rfl; rwa [Addr.add_lit, ← Nat.add_assoc] at this
    · have := h4 _ rfl i f hf 2 _ rfl; rwa [Addr.add_lit, ← Nat.add_assoc] at this
    · have := h4 _ rfl i f hf 3 _ rfl; rwa [Addr.add_lit, ← Nat.add_assoc] at this

/-- The same in every world behind it. -/
theorem ReadsF.places {w : World} {ao : Option Addr} {n cap : Nat} {l : List Fld} (h : ReadsF w (.slice ao n cap) l) (hl : 0 < l.length) :
    ∃ b off, ao = some ⟨b, off, none⟩ ∧ ∀ w', Below w.heap.size w w' → ∀ i f, l[i]? = some f → w'.cell? ⟨b, off + i * 4, none⟩ = some (.int .i64 f.kind) ∧ w'.cell? ⟨b, off + i * 4 + 1, none⟩ = some (.int .i64 f.n) ∧
      w'.cell? ⟨b, off + i * 4 + 2, none⟩ = some (.string ⟨f.s.toArray⟩) ∧ w'.cell? ⟨b, off + i * 4 + 3, none⟩ = some (.bool f.is) := by
  obtain ⟨b, off, rfl, _⟩ := h.place hl
  refine ⟨b, off, rfl, fun w' hb => ?_⟩
  obtain ⟨b', off', he, hc⟩ := (h.below hb).place hl
  cases he
  exact hc

/-- A row of fields that came in. -/
theorem came_fields {H : Type} {enc : TypeId × Value → H} {P : Program} {w : World} {b0 base : Nat} {held : Bool} {t e : TypeId} {f0 f1 f2 f3 : Field} {v : Value} {d : DataW H} {p : List MemPlace}
    (ht : P.underlying t = some (.slice e)) (he : P.underlying e = some (.struct #[f0, f1, f2, f3])) (hone : Deep.oneCellFields P #[f0, f1, f2, f3] = true) (hce : P.cellsOf e = 4)
    (h0 : P.underlying f0.type = some (.int .i64)) (h1 : P.underlying f1.type = some (.int .i64)) (h2 : P.underlying f2.type = some .string) (h3 : P.underlying f3.type = some .bool)
    (hv : Value.okWide P w .any b0 t v) (h : DataW.Trod enc P w base (fun _ => true) held t v d p) : ∃ l, ReadsF w v l := by
  obtain ⟨a, len, cap, rfl⟩ := WideShapes.okWide_slice ht hv
  obtain ⟨fuel, hf⟩ := h
  rcases Deep.open_slice ht hf with ⟨hcs, _⟩ | ⟨x, l, c, m, n, D, Pl, hcs, _, hl, hm, hmm, _, hi⟩
  · simp [Value.cells] at hcs
    obtain ⟨rfl, rfl, rfl⟩ := hcs
    exact ⟨[], ReadsF.empty w⟩
  · simp [Value.cells] at hcs
    obtain ⟨rfl, rfl, rfl⟩ := hcs
    have each : ∀ i, i < len → ∃ f : Fld, (∀ (j : Nat) (u : Value), f.cells[j]? = some u → w.cell? (x.add (i * 4 + j)) = some u) ∧ f.Fits := by
      intro i hil
      obtain ⟨cs', hc, ht'⟩ := hi i (by rw [hmm]; simp; omega)
      rw [hce] at hc
      obtain ⟨ys, n', _, _, _, hys, hfs⟩ := DataW.trod_struct he ht'
      obtain ⟨_, hcl, hat⟩ := World.cells?_some hc
      match cs', hcl with
      | [c0, c1, c2, c3], _ =>
        obtain ⟨o0, k0⟩ := Deep.hone_of hone 0 f0 rfl
        obtain ⟨o1, k1⟩ := Deep.hone_of hone 1 f1 rfl
        obtain ⟨o2, k2⟩ := Deep.hone_of hone 2 f2 rfl
        obtain ⟨o3, k3⟩ := Deep.hone_of hone 3 f3 rfl
        have g0 := hfs 0 f0 rfl
        have g1 := hfs 1 f1 rfl
        have g2 := hfs 2 f2 rfl
        have g3 := hfs 3 f3 rfl
        rw [o0, k0] at g0; rw [o1, k1] at g1; rw [o2, k2] at g2; rw [o3, k3] at g3
        have hy : ∀ j, j < 4 → ∃ y, ys[j]? = some y := fun j hj => ⟨_, List.getElem?_eq_getElem (by rw [hys]; simpa using hj)⟩
        obtain ⟨y0, e0⟩ := hy 0 (by omega)
        obtain ⟨y1, e1⟩ := hy 1 (by omega)
        obtain ⟨y2, e2⟩ := hy 2 (by omega)
        obtain ⟨y3, e3⟩ := hy 3 (by omega)
        rw [e0] at g0; rw [e1] at g1; rw [e2] at g2; rw [e3] at g3
        obtain ⟨k, hk, _, wk⟩ := DataW.trod_int h0 g0
        obtain ⟨z, hz, _, wz⟩ := DataW.trod_int h1 g1
        obtain ⟨s, hs, _, ws⟩ := DataW.trod_string h2 g2
        obtain ⟨t', ht'', _⟩ := DataW.trod_bool h3 g3
        simp at hk hz hs ht''
        subst hk hz hs ht''
        refine ⟨⟨k, z, s.data.toList, t'⟩, fun j u hu => ?_, ⟨(i64_bounds wk).1, (i64_bounds wk).2, (i64_bounds wz).1, (i64_bounds wz).2, by unfold maxLen at ws; rw [Array.length_toList]; exact ws⟩⟩
        have hjl : j < 4 := by have := (List.getElem?_eq_some_iff.1 hu).1; simpa [Fld.cells] using this
        have := hat j hjl
        rw [← Deep.add_add, this]
        simpa [Fld.cells] using hu
    obtain ⟨fs, hfl, hfq⟩ := pick _ len each
    refine ⟨fs, some x, cap, by rw [hfl], by omega, hm, (fun h => by cases h), fun y hy i f hf j u hu => ?_, fun f hf => ?_⟩
    · cases hy
      exact (hfq i f hf).1 j u hu
    · obtain ⟨i, hi⟩ := List.getElem?_of_mem hf
      exact (hfq i f hi).2

/-- Are there too many, or too long ones? -/
def Pk.large (l : List Fld) : Bool := (l.take 60).any (fun f => decide (200 < f.s.length)) || decide (60 < l.length)
theorem Pk.large_not {l : List Fld} (h : Pk.large l = false) : l.length ≤ 60 ∧ ∀ f ∈ l, f.s.length ≤ 200 := by
  unfold Pk.large at h
  simp only [Bool.or_eq_false_iff, List.any_eq_false, decide_eq_true_eq, decide_eq_false_iff_not] at h
  have h1 : l.length ≤ 60 := by omega
  rw [List.take_of_length_le h1] at h
  exact ⟨h1, fun f hf => by have := h.1 f hf; omega⟩
theorem Pk.large_at {l : List Fld} {i : Nat} {f : Fld} (hf : l[i]? = some f) (hi : i < 60) (hs : 200 < f.s.length) : Pk.large l = true := by
  unfold Pk.large
  rw [Bool.or_eq_true_iff]
  left
  rw [List.any_eq_true]
  refine ⟨f, ?_, by simpa using hs⟩
  exact List.mem_of_getElem? (i := i) (by rw [List.getElem?_take_of_lt hi]; exact hf)
theorem Pk.large_end {l : List Fld} {i : Nat} (hi : ¬ (i < l.length ∧ i < 60)) (h : ∀ f ∈ l.take i, f.s.length ≤ 200) : Pk.large l = decide (60 < l.length) := by
  unfold Pk.large
  rw [Bool.or_eq_right_iff_imp]
  intro h1
  rw [List.any_eq_true] at h1
  obtain ⟨f, hf, hs⟩ := h1
  exfalso
  have hm : f ∈ l.take i := by
    rcases Nat.lt_or_ge i 60 with h60 | h60
    · have : l.length ≤ i := by omega
      rw [List.take_of_length_le this]
      exact List.mem_of_mem_take hf
    · exact (List.take_subset_take_left l h60) hf
  have := h f hm
  simp at hs
  omega

end Go.Proofs.YtammfmmpldahhaaGreat


namespace Go.Proofs.YtammfmmpldahhaaGreat
open Go.RowKit

set_option maxRecDepth 4000 in
set_option maxHeartbeats 400000 in
theorem refText_any (s : List UInt8) (w : World) (hs : s.length ≤ 1048576) : Calls Tryz.prog 32 #[.string ⟨s.toArray⟩] w (Makes w 5 (Pk.text s)) := by
  have hsz := str_size s
  have h9 := enc_nine (n := s.length) (by omega)
  go_enter Tryz.func32, Tryz.ntmps32
  go_wp2_with fail
  refine (bytes_any (s.length : Int) _ (by omega) (by omega)).mono ?_
  rintro e1 w1 ⟨u, rfl, ho, hb⟩
  rw [Int.toNat_natCast] at ho
  go_wp2_with (at_builtin; refine append_text rfl _ _ 28 9 5 rfl Tryz.underlying28 Tryz.underlying9 info_u8 w.heap.size (enc s.length) s u rfl rfl ho (by omega) hb.size ?_; intro v2 w2 ho2 hg2)
  go_ret
  exact ⟨_, rfl, ho2, hb.grown hg2 hb.size fun k hk => (World.ownsRow.lt ho k hk).1⟩

set_option maxRecDepth 4000 in
set_option maxHeartbeats 400000 in
theorem refFlag_any (b : Bool) (w : World) : Calls Tryz.prog 57 #[.bool b] w fun e w' => ∃ u, e = .returned u ∧ Reads w' u (Pk.flag b) ∧ Below w.heap.size w w' := by
  cases b
  · go_enter Tryz.func57, Tryz.ntmps57
    go_wp2
    go_ret
    exact ⟨_, rfl, Reads.one w _ 0 0 rfl, (Below.refl _ w).alloc (Nat.le_refl _) _⟩
  · go_enter Tryz.func57, Tryz.ntmps57
    go_wp2
    go_ret
    exact ⟨_, rfl, Reads.one w _ 1 1 rfl, (Below.refl _ w).alloc (Nat.le_refl _) _⟩

theorem Pk.take_len {l : List Fld} (h : Pk.large l = false) (hf : ∀ f ∈ l, f.Fits) (i : Nat) : (Pk.all (l.take i)).length ≤ 12540 := by
  obtain ⟨h1, h2⟩ := Pk.large_not h
  have := Pk.all_len (l := l.take i) fun f hfm => ⟨(hf f (List.mem_of_mem_take hfm)).n1, h2 f (List.mem_of_mem_take hfm)⟩
  have : (l.take i).length ≤ 60 := by simp; omega
  omega
theorem Pk.take_next {l : List Fld} {i : Nat} {f : Fld} (h : l[i]? = some f) : Pk.all (l.take (i + 1)) = Pk.all (l.take i) ++ Pk.one f := by
  rw [List.take_add_one, h]
  exact Pk.all_snoc _ _

end Go.Proofs.YtammfmmpldahhaaGreat
