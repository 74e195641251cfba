/- Several texts of mine in one: CmdText CmdVars. -/
import Derived.Test.YtfdnmmmjaipgoaaDoorCmdChk
import Derived.Test.YtfdnmmmjaipgoaaDoorGBl
import Derived.Lib.ItoaNum
import Derived.Lib.LaidU8
import Derived.OpenShut
namespace Go.Proofs.YtfdnmmmjaipgoaaDoor
open Go.RowKit

namespace Cm
/-- A field as a word of a line; the words of a command's line; its text. -/
def told (c : Cmd) (f : F) : List UInt8 := if f.num = true then Lib.itoa (c.n f) else Qt.quote ⟨(c.s f).toArray⟩
def ws (c : Cmd) : List (List UInt8) := word c.kind :: (fields c.kind).map (told c)
def line (c : Cmd) : List UInt8 := Lib.join (ws c) [32]
def text (c : Cmd) : List UInt8 := if check c = 0 then line c else []

theorem told_len (c : Cmd) (hf : c.Fits) {m : Nat} (hs : c.Short m) (f : F) : (told c f).length ≤ 4 * m + 21 := by
  unfold told
  split
  · have := itoa_len (c.n f) (hf.n f).1 (hf.n f).2; omega
  · have := hs.s f
    have h2 := Qt.quote_len ⟨(c.s f).toArray⟩
    rw [str_size] at h2
    omega
theorem word_len (k : Int) : (word k).length ≤ 8 := by
  rcases Vs.kinds k with rfl | rfl | rfl | rfl | rfl | rfl | rfl | rfl | h
  rotate_right
  · rw [word_no h]; simp
  all_goals decide
theorem lens_le (m : Nat) : ∀ l : List (List UInt8), (∀ x ∈ l, x.length ≤ m) → Lib.lens l ≤ m * l.length := by
  intro l
  induction l with
  | nil => intro _; simp [Lib.lens]
  | cons x l ih =>
    intro h
    have h1 := h x (by simp)
    have h2 := ih fun y hy => h y (by simp [hy])
    have h3 : Lib.lens (x :: l) = x.length + Lib.lens l := by simp [Lib.lens]
    rw [h3, List.length_cons, Nat.mul_add, Nat.mul_one]
    omega
theorem line_len (c : Cmd) (hf : c.Fits) {m : Nat} (hs : c.Short m) : (line c).length ≤ 20 * m + 200 := by
  unfold line ws
  rw [Lib.join_cons, List.length_append, Lib.joinTail_length]
  have h1 := word_len c.kind
  have h2 := fields_len c.kind
  have h3 := lens_le (4 * m + 21) ((fields c.kind).map (told c)) (by
    intro x hx
    obtain ⟨f, _, rfl⟩ := List.mem_map.1 hx
    exact told_len c hf hs f)
  rw [List.length_map] at h3 ⊢
  have h4 : (4 * m + 21) * (fields c.kind).length ≤ (4 * m + 21) * 5 := Nat.mul_le_mul_left _ h2
  simp only [List.length_cons, List.length_nil]
  omega
end Cm

/-- A row of one string, laid. -/
theorem OwnsS.one (w : World) (B : Nat) (hB : B ≤ w.heap.size) (E : TypeId) (u : ByteArray) : OwnsS (w.alloc (.cells #[.string u] E)) B E (.slice (some ⟨w.heap.size, 0, none⟩) 1 1) [u] := by
  refine ⟨by simp, .inr ⟨w.heap.size, 1, #[.string u], rfl, hB, heap_alloc_new w _, by simp, by unfold maxLen; omega, by simp, ?_⟩⟩
  simp
theorem FRow.row {w w' : World} {lo B b : Nat} {u v : Value} {fs : List Cm.F} {ls : List ByteArray} (h : FRow w lo u b fs) (ho : OwnsS w B 9 v ls) (hg : w.grownBy w' v.ownBlock) : FRow w' lo u b fs := by
  rcases h with ⟨rfl, rfl⟩ | ⟨g, h1, rfl, h2⟩
  · exact .inl ⟨rfl, rfl⟩
  · exact .inr ⟨g, h1, rfl, h2.kept hg (h2.not_row (by decide) ho)⟩

def Cm.bl (ls : List (List UInt8)) : List ByteArray := ls.map fun l => ⟨l.toArray⟩
theorem Cm.bl_back (ls : List (List UInt8)) : (Cm.bl ls).map (·.data.toList) = ls := by
  unfold Cm.bl
  rw [List.map_map]
  induction ls with
  | nil => rfl
  | cons l ls ih => rw [List.map_cons, ih]; rfl

theorem OwnsS.kept {w w' : World} {B : Nat} {E : TypeId} {v : Value} {ls : List ByteArray} (h : OwnsS w B E v ls) (hb : Below w.heap.size w w') : OwnsS w' B E v ls := by
  refine World.ownsRow.kept h (grown_of hb none) ?_
  cases v.ownBlock with
  | none => exact .inl rfl
  | some k => exact .inr (by simp)
theorem Cm.bl_next (c : Cm.Cmd) (fs : List Cm.F) (k : Nat) (f : Cm.F) (h : fs[k]? = some f) : Cm.bl ((fs.take (k + 1)).map (Cm.told c)) = Cm.bl ((fs.take k).map (Cm.told c)) ++ [⟨(Cm.told c f).toArray⟩] := by
  rw [List.take_add_one, h, List.map_append]
  unfold Cm.bl
  rw [List.map_append]
  rfl
theorem Cm.bl_len (ls : List (List UInt8)) : (Cm.bl ls).length = ls.length := by simp [Cm.bl]

end Go.Proofs.YtfdnmmmjaipgoaaDoor


namespace Go.Proofs.YtfdnmmmjaipgoaaDoor
open Go.RowKit

theorem cells_of_strs {H : Type} {enc : TypeId × Value → H} {P : Program} {w : World} {base : Nat} {sp : Nat → Bool} {held : Bool} {fuel : Nat} {t e : TypeId} {n : Nat} {cs : List Value} {ls : List (List UInt8)} {p : List MemPlace}
    (ht : P.underlying t = some (.array n e)) (he : P.underlying e = some .string) (hce : P.cellsOf e = 1) (hct : P.cellsOf t = n)
    (h : DataW.trod enc P w base sp held fuel t cs = some (.agg (ls.map fun l => .lit (.string l)), p)) : cs = ls.map fun l => Value.string ⟨l.toArray⟩ := by
  obtain ⟨xs, m, _, hx, hl, hn, hel⟩ := DataW.trod_array ht h
  have hxs : (ls.map fun l => (DataW.lit (.string l) : DataW H)) = xs.map (·.1) := by
    have := congrArg Prod.fst hx
    simpa using this
  have hll : ls.length = n := by
    have := congrArg List.length hxs
    simp at this
    omega
  apply List.ext_getElem?
  intro i
  by_cases hi : i < n
  · have h1 := hel i hi
    rw [hce, Nat.mul_one, List.getElem?_eq_getElem (by omega)] at h1
    obtain ⟨s, e1, e2, _⟩ := DataW.trod_string he h1
    have h2 : cs[i]? = some (.string s) := by
      have := congrArg (·[0]?) e1
      simpa [List.getElem?_take, List.getElem?_drop] using this
    have h3 : (xs.map (·.1))[i]? = some (DataW.lit (.string s.data.toList) : DataW H) := by
      rw [List.getElem?_map, List.getElem?_eq_getElem (by omega), e2]; rfl
    rw [← hxs] at h3
    simp only [List.getElem?_map, Option.map_eq_some_iff, DataW.lit.injEq, Lit.string.injEq] at h3
    obtain ⟨l, hl1, rfl⟩ := h3
    rw [h2, List.getElem?_map, hl1]
    rfl
  · rw [List.getElem?_eq_none (by omega), List.getElem?_eq_none (by simp; omega)]

theorem words_of {W : World} (h : Lib.VarReads Tryd.prog W "changeover/cmd.words" (.agg (Cm.wordList.map fun l => .lit (.string l)))) : WordsIn W := by
  obtain ⟨g, t, cs, fuel, p, hg, ht, hvar, hd⟩ := h
  have hty : (Tryd.prog.globals[0]?).map (·.type) = some 108 := by kernel_rfl
  have hgn : Tryd.prog.globalNamed "changeover/cmd.words" = some 0 := by kernel_rfl
  obtain rfl := Option.some.inj (hgn.symm.trans hg)
  obtain rfl := Option.some.inj (hty.symm.trans ht)
  have e := cells_of_strs (n := 9) Tryd.underlying108 Tryd.underlying9 (by kernel_rfl) (by kernel_rfl) hd
  unfold WordsIn
  rw [hvar, ← e]

end Go.Proofs.YtfdnmmmjaipgoaaDoor
