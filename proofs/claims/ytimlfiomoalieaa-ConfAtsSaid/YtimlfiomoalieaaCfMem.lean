/- Configurations in memory: one in a block; rows of them; rows that came in. -/
import Derived.Test.YtimlfiomoalieaaRows
import Derived.Test.YtimlfiomoalieaaCfMath
import Derived.Test.YtimlfiomoalieaaInts
import Derived.ChangeShapes
import Derived.ChangeOld
import Derived.Deep.MidRow
namespace Go.Proofs.Ytimlfiomoalieaa
open Go.RowKit

/-- The cells of a configuration: the index, and the slice of its members. -/
def Cf.cells (f : Int) (u : Value) : Array Value := #[.int .i64 f, u]
/-- A configuration lies in a block. -/
abbrev Cnf (w : World) (g : Nat) (f : Int) (u : Value) : Prop := Lies w g 43 (Cf.cells f u)
theorem Cnf.both {w : World} {g : Nat} {f : Int} {u : Value} (h : Cnf w g f u) : w.cell? ⟨g, 0, none⟩ = some (.int .i64 f) ∧ w.cell? ⟨g, 1, none⟩ = some u := ⟨h.cell 0 _ rfl, h.cell 1 _ rfl⟩
/-- A configuration boxed. -/
theorem box_cnf (w : World) (f : Int) (u : Value) : ∃ w1, w.alloc (.cells (Cf.cells f u) 43) = w1 ∧ Cnf w1 w.heap.size f u ∧ Below w.heap.size w w1 ∧ w1.heap.size = w.heap.size + 1 :=
  ⟨_, rfl, Lies.new w _ _, (Below.refl _ w).alloc (Nat.le_refl _) _, by simp⟩

/-- Rows of cells that are these configurations. -/
def CRows (w : World) (rs : List (Array Value)) (cs : List Cf.Conf) : Prop :=
  rs.length = cs.length ∧ ∀ (i : Nat) (r : Array Value) (c : Cf.Conf), rs[i]? = some r → cs[i]? = some c → ∃ u, r = Cf.cells c.frm u ∧ ReadsI w u c.mem
/-- The slice reads as these configurations. -/
def ReadsC (w : World) (v : Value) (cs : List Cf.Conf) : Prop := ∃ rs, ReadsR w v 2 rs ∧ CRows w rs cs

theorem CRows.below {w w' : World} {rs : List (Array Value)} {cs : List Cf.Conf} (h : CRows w rs cs) (hb : Below w.heap.size w w') : CRows w' rs cs :=
  ⟨h.1, fun i r c hr hc => by obtain ⟨u, e, hu⟩ := h.2 i r c hr hc; exact ⟨u, e, hu.below hb⟩⟩
theorem ReadsC.below {w w' : World} {v : Value} {cs : List Cf.Conf} (h : ReadsC w v cs) (hb : Below w.heap.size w w') : ReadsC w' v cs := by
  obtain ⟨rs, h1, h2⟩ := h
  exact ⟨rs, h1.below hb, h2.below hb⟩
theorem ReadsC.empty (w : World) : ReadsC w (.slice none 0 0) [] := ⟨[], ReadsR.empty w 2, rfl, fun i r c hr => by simp at hr⟩
theorem ReadsC.shape {w : World} {v : Value} {cs : List Cf.Conf} (h : ReadsC w v cs) : ∃ ao cap, v = .slice ao cs.length cap ∧ cs.length ≤ cap ∧ cap ≤ 9223372036854775807 := by
  obtain ⟨rs, h1, h2⟩ := h
  obtain ⟨ao, cap, h3, h4, h5⟩ := ReadsR.shape h1
  rw [h2.1] at h3 h4
  exact ⟨ao, cap, h3, h4, h5⟩
/-- Where there is one: its two cells, in every world behind, and its members. -/
theorem ReadsC.places {w : World} {ao : Option Addr} {n cap : Nat} {cs : List Cf.Conf} (h : ReadsC w (.slice ao n cap) cs) (hl : 0 < cs.length) :
    ∃ b off, ao = some ⟨b, off, none⟩ ∧ b < w.heap.size ∧ ∀ (i : Nat) (c : Cf.Conf), cs[i]? = some c → ∃ uo uc, ReadsI w (.slice uo c.mem.length uc) c.mem ∧ c.mem.length ≤ uc ∧ uc ≤ 9223372036854775807 ∧
      ∀ w', Below w.heap.size w w' → w'.cell? ⟨b, off + i * 2, none⟩ = some (.int .i64 c.frm) ∧ w'.cell? ⟨b, off + i * 2 + 1, none⟩ = some (.slice uo c.mem.length uc) := by
  obtain ⟨rs, h1, h2, h3⟩ := h
  obtain ⟨r0, hr0⟩ : ∃ r, rs[0]? = some r := ⟨_, List.getElem?_eq_getElem (by omega)⟩
  obtain ⟨u0, e0, _⟩ := h3 0 r0 _ hr0 (List.getElem?_eq_getElem hl)
  obtain ⟨b, off, e, hlt, hc⟩ := ReadsR.places h1 hr0 (u0 := .int .i64 (cs[0]'hl).frm) (by rw [e0]; rfl)
  refine ⟨b, off, e, hlt, fun i c hi => ?_⟩
  obtain ⟨r, hr⟩ : ∃ r, rs[i]? = some r := ⟨_, List.getElem?_eq_getElem (by have := (List.getElem?_eq_some_iff.1 hi).1; omega)⟩
  obtain ⟨u, er, hu⟩ := h3 i r c hr hi
  subst er
  obtain ⟨uo, uc, rfl, hu1, hu2⟩ := hu.shape
  exact ⟨uo, uc, hu, hu1, hu2, fun w' hb => ⟨hc w' hb i _ hr 0 _ rfl, hc w' hb i _ hr 1 _ rfl⟩⟩

/-- A literal of numbers, just laid. -/
theorem ReadsI.laid {w : World} {g : Nat} {t : TypeId} {cs : Array Value} (l : List Int) (n : Nat) (h : Lies w g t cs) (hc : cs = (l.map (Value.int .i64)).toArray) (hn : n = l.length) (hm : n ≤ 9223372036854775807) : ReadsI w (.slice (some ⟨g, 0, none⟩) n n) l := by
  subst hn hc
  refine ⟨_, _, by rw [List.length_map], by simp, by unfold maxLen; omega, (fun h => by cases h), fun x hx i r hr j u hu => ?_⟩
  cases hx
  rw [List.getElem?_map, Option.map_eq_some_iff] at hr
  obtain ⟨y, hy, rfl⟩ := hr
  obtain ⟨hj, he⟩ := Array.getElem?_eq_some_iff.1 hu
  have hj0 : j = 0 := by simp at hj; omega
  subst hj0
  simp at he
  subst he
  rw [Addr.add_lit, Nat.mul_one, Nat.add_zero, Nat.zero_add]
  exact h.cell i _ (by rw [List.getElem?_toArray, List.getElem?_map, hy]; rfl)
/-- One configuration in a block, as a row. -/
theorem ReadsC.one {w : World} {g : Nat} (c : Cf.Conf) (u : Value) (h : Cnf w g c.frm u) (hu : ReadsI w u c.mem) : ReadsC w (.slice (some ⟨g, 0, none⟩) 1 1) [c] := by
  refine ⟨[Cf.cells c.frm u], ⟨_, _, rfl, by simp, by simp [maxLen], (fun h => by cases h), fun x hx i r hr j v hv => ?_⟩, rfl, fun i r d hr hd => ?_⟩
  · cases hx
    obtain ⟨hi, e⟩ := List.getElem?_eq_some_iff.1 hr
    have hi0 : i = 0 := by simp at hi; omega
    subst hi0
    simp at e
    subst e
    rw [Addr.add_lit, Nat.zero_mul, Nat.zero_add, Nat.zero_add]
    exact h.cell j v hv
  · obtain ⟨hi, e⟩ := List.getElem?_eq_some_iff.1 hr
    have hi0 : i = 0 := by simp at hi; omega
    subst hi0
    simp at e hd
    subst e hd
    exact ⟨u, rfl, hu⟩

/-! What came in. -/
section
variable {H : Type} {enc : TypeId × Value → H} {w : World} {b0 base : Nat} {held : Bool}
theorem el_ints (m : Nat) (cs : List Value) (y : DataW H × List MemPlace) (h : DataW.trod enc Try.prog w base (fun _ => true) held m 25 cs = some y) : ∃ u l, cs = [u] ∧ ReadsI w u l := by
  rcases ChangeShapes.open_ints Try.underlying25 Try.underlying3 (by kernel_rfl) h with ⟨rfl, _⟩ | ⟨x, l, c, zs, rfl, _, hl, hm, hz, _, hcell, hwz⟩
  · exact ⟨_, [], rfl, ReadsI.empty w⟩
  · have hz' : zs.length = c := by simpa using hz
    have e : (zs.take l).length = l := by rw [List.length_take]; omega
    refine ⟨_, zs.take l, rfl, some x, c, by rw [List.length_map, e], by rw [List.length_map, e]; omega, hm, (fun h => by cases h), fun y hy i r hr j v hv => ?_⟩
    cases hy
    rw [List.getElem?_map, Option.map_eq_some_iff] at hr
    obtain ⟨z, hzi, rfl⟩ := hr
    obtain ⟨hj, he⟩ := Array.getElem?_eq_some_iff.1 hv
    have hj0 : j = 0 := by simp at hj; omega
    subst hj0
    simp at he
    subst he
    rw [List.getElem?_take] at hzi
    split at hzi
    · obtain ⟨q, ez⟩ := List.getElem?_eq_some_iff.1 hzi
      have := hcell i q
      rw [Nat.mul_one, Nat.add_zero, this, List.getD_eq_getElem?_getD, hzi, Option.getD_some]
    · cases hzi
theorem el_conf (m : Nat) (cs : List Value) (y : DataW H × List MemPlace) (h : DataW.trod enc Try.prog w base (fun _ => true) held m 43 cs = some y) :
    ∃ a : Cf.Conf × Value, cs = (Cf.cells a.1.frm a.2).toList ∧ (ReadsI w a.2 a.1.mem ∧ -9223372036854775808 ≤ a.1.frm ∧ a.1.frm ≤ 9223372036854775807) := by
  obtain ⟨ys, n, _, _, hl, hlen, hat⟩ := DataW.trod_struct Try.underlying43 h
  have hce : Try.prog.cellsOf 43 = 2 := by kernel_rfl
  have hci : Try.prog.cellsOf 3 = 1 := by kernel_rfl
  have hcs : Try.prog.cellsOf 25 = 1 := by kernel_rfl
  have g0 := hat 0 _ rfl
  have g1 := hat 1 _ rfl
  rw [List.getElem?_eq_getElem (by rw [hlen]; simp)] at g0 g1
  obtain ⟨f, e0, a0, b0⟩ := one_int Try.underlying3 g0 hci
  have g1' : DataW.trod enc Try.prog w base (fun _ => true) held n 25 ((cs.drop 1).take (Try.prog.cellsOf 25)) = some _ := g1
  rw [hcs] at g1'
  obtain ⟨u, l, e1, hu⟩ := el_ints _ _ _ g1'
  rw [hce] at hl
  match cs, hl with
  | [c0, c1], _ =>
    simp at e0 e1
    subst e0 e1
    exact ⟨(⟨f, l⟩, _), rfl, hu, a0, b0⟩
theorem came_confs {v : Value} {d : DataW H} {p : List MemPlace} (hv : Value.okWide Try.prog w .any b0 22 v) (h : DataW.Trod enc Try.prog w base (fun _ => true) held 22 v d p) :
    ∃ cs : List Cf.Conf, ReadsC w v cs ∧ ∀ c ∈ cs, -9223372036854775808 ≤ c.frm ∧ c.frm ≤ 9223372036854775807 := by
  obtain ⟨l, hr, hf⟩ := came_rows (fun a : Cf.Conf × Value => Cf.cells a.1.frm a.2) (fun a => ReadsI w a.2 a.1.mem ∧ -9223372036854775808 ≤ a.1.frm ∧ a.1.frm ≤ 9223372036854775807) Try.underlying22 (by kernel_rfl) (fun m cs y hm => el_conf m cs y hm) hv h
  refine ⟨l.map (·.1), ⟨_, hr, by simp, fun i r c h1 h2 => ?_⟩, fun c hc => ?_⟩
  · rw [List.getElem?_map, Option.map_eq_some_iff] at h1 h2
    obtain ⟨a, ha, rfl⟩ := h1
    obtain ⟨a', ha', rfl⟩ := h2
    rw [ha] at ha'
    cases ha'
    exact ⟨a.2, rfl, (hf a (List.mem_of_getElem? ha)).1⟩
  · obtain ⟨a, ha, rfl⟩ := List.mem_map.1 hc
    exact (hf a ha).2
theorem came_ints {v : Value} {d : DataW H} {p : List MemPlace} (hv : Value.okWide Try.prog w .any b0 25 v) (h : DataW.Trod enc Try.prog w base (fun _ => true) held 25 v d p) : ∃ l, ReadsI w v l := by
  obtain ⟨a, len, cap, rfl⟩ := WideShapes.okWide_slice Try.underlying25 hv
  obtain ⟨fuel, hf⟩ := h
  obtain ⟨u, l, e, hu⟩ := el_ints fuel _ _ hf
  simp [Value.cells] at e
  subst e
  exact ⟨l, hu⟩
end

end Go.Proofs.Ytimlfiomoalieaa
