/- Several texts of mine in one: SnRow SoRow. -/
import Derived.Test.YtammfmmpldahhaaGreatSnMath
import Derived.Test.YtammfmmpldahhaaGreatGSu
import Derived.Test.YtammfmmpldahhaaGreatGSv
import Derived.Test.YtammfmmpldahhaaGreatAnsGet
import Derived.Test.YtammfmmpldahhaaGreatPart
namespace Go.Proofs.YtammfmmpldahhaaGreat
open Go.RowKit

/-- All blocks of cells but the reader's lie as they lay. -/
def SavesS (o : Nat) (w w' : World) : Prop := ∀ (k : Nat) (T : TypeId) (vs : Array Value), k ≠ o → Lies w k T vs → Lies w' k T vs
theorem SavesS.refl (o : Nat) (w : World) : SavesS o w w := fun _ _ _ _ h => h
theorem SavesS.trans {o : Nat} {a b c : World} (h : SavesS o a b) (k : SavesS o b c) : SavesS o a c := fun j T vs h1 h2 => k j T vs h1 (h j T vs h1 h2)
theorem SavesS.of_below {o : Nat} {w w' : World} (h : Below w.heap.size w w') : SavesS o w w' := fun _ _ _ _ hl => hl.below h hl.lt
theorem SavesS.of_grown {o : Nat} {w w' : World} (h : w.grownBy w' (some o)) : SavesS o w w' := fun _ _ _ h1 hl => hl.kept h (by intro e; cases e; exact h1 rfl)

/-- A reading, and then a store into a block of the call's own: what there is behind both. -/
theorem sget_end {w0 w v w' : World} {B o b : Nat} {u : Value} {s : List UInt8} {q : Nat} {e : Int} {T : TypeId} {vs' : Array Value} (hT : T ≠ 5) (hB : B ≤ w0.heap.size) (hb : w0.heap.size ≤ b) (ho : o < w0.heap.size)
    (HB : Below B w0 w) (HS : SavesS o w0 w) (hr : Rdr v B o u s q e) (hg : w.grownBy v (some o)) (vs : Array Value) (hl : Lies w b T vs) (_hl' : Lies w' b T vs') (hg' : v.grownBy w' (some b)) :
    Rdr w' B o u s q e ∧ Below B w0 w' ∧ SavesS o w0 w' ∧ (∀ k T' us, k ≠ o → k ≠ b → Lies w k T' us → Lies w' k T' us) := by
  have hbo : b ≠ o := by omega
  have hlv : Lies v b T vs := hl.kept hg (by simp; omega)
  refine ⟨hr.beside' hg' hbo (fun h => hlv.not_row hT hr.owns h.symm), ?_, ?_, ?_⟩
  · exact (HB.grown hg (Nat.le_trans hB HB.size) (by rintro x hx; cases hx; exact hr.base)).grown hg' (Nat.le_trans hB (Nat.le_trans HB.size hg.size)) (by rintro x hx; cases hx; omega)
  · intro k T' us h1 h2
    exact ((HS k T' us h1 h2).kept hg (by simp; omega)).kept hg' (by have := h2.lt; simp; omega)
  · intro k T' us h1 h2 h3
    exact (h3.kept hg (by simp; omega)).kept hg' (by simp; omega)

theorem Kv.drop_atL {l : List Kv.Item} {k : Nat} {s : Kv.Item} (h : l[k]? = some s) : l.drop k = s :: l.drop (k + 1) := by
  obtain ⟨hk, rfl⟩ := List.getElem?_eq_some_iff.1 h
  exact List.drop_eq_getElem_cons hk
/-- The block of a row. -/
abbrev BlkK (w : World) (g : Nat) (l : List Kv.Item) : Prop := Lies w g 62 (flatR (l.map Kv.cells)).toArray
theorem Kv.flat_len3 (l : List Kv.Item) : (flatR (l.map Kv.cells)).length = l.length * 3 := by rw [flatR_len (Kv.sized l), List.length_map]
theorem Kv.flat_split (l : List Kv.Item) (i : Nat) (e : Kv.Item) (h : i < l.length) :
    flatR ((l.set i e).map Kv.cells) = (flatR (l.map Kv.cells)).take (i * 3) ++ (Kv.cells e).toList ++ (flatR (l.map Kv.cells)).drop (i * 3 + 3) := by
  obtain ⟨a, ha⟩ : ∃ a, l[i]? = some a := ⟨_, List.getElem?_eq_getElem h⟩
  have h1 : l = l.take i ++ (a :: l.drop (i + 1)) := by
    conv => lhs; rw [← List.take_append_drop i l, Kv.drop_atL ha]
  have hlen : (l.take i).length = i := by rw [List.length_take]; omega
  have h2 : l.set i e = l.take i ++ (e :: l.drop (i + 1)) := by
    rw [List.set_eq_take_append_cons_drop, if_pos h]
  have hA : (flatR ((l.take i).map Kv.cells)).length = i * 3 := by rw [Kv.flat_len3, hlen]
  have hc : (Kv.cells a).toList.length = 3 := rfl
  have e1 : flatR (l.map Kv.cells) = flatR ((l.take i).map Kv.cells) ++ ((Kv.cells a).toList ++ flatR ((l.drop (i + 1)).map Kv.cells)) := by
    conv => lhs; rw [h1]
    rw [List.map_append, flatR_app, List.map_cons, flatR_cons]
  rw [h2, List.map_append, flatR_app, List.map_cons, flatR_cons]
  obtain ⟨X, hX⟩ : ∃ X, X = flatR ((l.take i).map Kv.cells) := ⟨_, rfl⟩
  obtain ⟨Y, hY⟩ : ∃ Y, Y = flatR ((l.drop (i + 1)).map Kv.cells) := ⟨_, rfl⟩
  rw [← hX] at hA e1 ⊢
  rw [← hY] at e1 ⊢
  have e2 : (flatR (l.map Kv.cells)).take (i * 3) = X := by rw [e1, List.take_left' hA]
  have e3 : (flatR (l.map Kv.cells)).drop (i * 3 + 3) = Y := by rw [e1, ← List.append_assoc, List.drop_left' (by rw [List.length_append, hA, hc])]
  rw [e2, e3, List.append_assoc]
theorem Kv.made (n : Nat) : madeCells (Value.agg (Kv.cells Kv.zero)).cells (n * 3) = (flatR ((List.replicate n Kv.zero).map Kv.cells)).toArray := by
  refine Array.ext_getElem? fun j => ?_
  by_cases hj : j < n * 3
  · have hz : (Value.agg (Kv.cells Kv.zero)).cells = Kv.cells Kv.zero := rfl
    have hi : j / 3 < n := by omega
    have hr : (List.replicate n Kv.zero).map Kv.cells = List.replicate n (Kv.cells Kv.zero) := by simp
    have h1 := flatR_at (k := 3) (rs := List.replicate n (Kv.cells Kv.zero)) (hr ▸ Kv.sized _) (i := j / 3) (r := Kv.cells Kv.zero) (j := j % 3) (u := (Kv.cells Kv.zero)[j % 3]'(by show j % 3 < 3; omega)) (by rw [List.getElem?_replicate, if_pos hi]) (Array.getElem?_eq_getElem _)
    rw [show j / 3 * 3 + j % 3 = j by omega] at h1
    have e2 : ∀ (L : List Value) (j : Nat), L.toArray[j]? = L[j]? := fun L j => by simp
    rw [hr, e2 (flatR (List.replicate n (Kv.cells Kv.zero))) j, h1, hz]
    unfold madeCells
    rw [Array.getElem?_map, Array.getElem?_range, if_pos hj]
    show some ((Kv.cells Kv.zero)[j % 3]!) = _
    rw [getElem!_pos (Kv.cells Kv.zero) (j % 3) (by show j % 3 < 3; omega)]
  · rw [Array.getElem?_eq_none (by rw [size_madeCells]; omega), Array.getElem?_eq_none (by rw [List.size_toArray, Kv.flat_len3, List.length_replicate]; omega)]
theorem BlkK.reads {w : World} {g n : Nat} {l : List Kv.Item} (h : BlkK w g l) (hn : n = l.length) (hm : n ≤ 1048576) : ReadsK w (.slice (some ⟨g, 0, none⟩) n n) l := by
  refine ⟨_, n, by rw [hn, List.length_map], by rw [List.length_map]; omega, by unfold maxLen; omega, (fun h => by cases h), fun a ha i r hr j u hu => ?_⟩
  cases ha
  have h1 := flatR_at (Kv.sized l) hr hu
  rw [Addr.add_lit, Nat.zero_add]
  exact h.cell _ u (by simpa using h1)
/-- What a list that was read is: nothing, or a block of its own that is not the reader's. -/
def LstK (o : Nat) (w : World) (v : Value) (l : List Kv.Item) : Prop := (v = .slice none 0 0 ∧ l = []) ∨ ∃ g, g ≠ o ∧ v = .slice (some ⟨g, 0, none⟩) l.length l.length ∧ l.length ≤ 1048576 ∧ BlkK w g l
theorem LstK.reads {o : Nat} {w : World} {v : Value} {l : List Kv.Item} (h : LstK o w v l) : ReadsK w v l := by
  rcases h with ⟨rfl, rfl⟩ | ⟨g, _, rfl, hm, hr⟩
  · exact ReadsR.empty w 3
  · exact hr.reads rfl hm
theorem LstK.saves {o : Nat} {w w' : World} {v : Value} {l : List Kv.Item} (h : LstK o w v l) (hs : SavesS o w w') : LstK o w' v l := by
  rcases h with h | ⟨g, hg, hv, hm, hr⟩
  · exact .inl h
  · exact .inr ⟨g, hg, hv, hm, hs _ _ _ hg hr⟩
theorem LstK.one {o : Nat} {w : World} {v : Value} {l : List Kv.Item} (h : LstK o w v l) : v.oneCell' = true := by
  rcases h with ⟨rfl, _⟩ | ⟨g, _, rfl, _, _⟩ <;> rfl
/-- It lies as it lay where a block of another type is stored into. -/
theorem LstK.kept {o b : Nat} {w w' : World} {v : Value} {l : List Kv.Item} {T : TypeId} {vs : Array Value} (h : LstK o w v l) (hl : Lies w b T vs) (hT : T ≠ 62) (hg : w.grownBy w' (some b)) : LstK o w' v l := by
  rcases h with h | ⟨g, hgo, hv, hm, hr⟩
  · exact .inl h
  · refine .inr ⟨g, hgo, hv, hm, Lies.kept hr hg ?_⟩
    intro e
    obtain rfl : g = b := by simpa using e
    have h' : Lies w g T vs := hl
    unfold BlkK Lies at hr
    unfold Lies at h'
    rw [hr] at h'
    simp only [Option.some.injEq, Obj.cells.injEq] at h'
    exact hT h'.2.1.symm
def KsGot (w : World) (B o : Nat) (u : Value) (s : List UInt8) (t : List Kv.Item × Nat × Int) (e : Ending) (w' : World) : Prop :=
  ∃ v, e = .returned v ∧ LstK o w' v t.1 ∧ Rdr w' B o u s t.2.1 t.2.2 ∧ Below B w w' ∧ SavesS o w w'

/-- What the reading of one gives. -/
def KGot (w : World) (B o : Nat) (u : Value) (s : List UInt8) (t : Kv.Item × Nat × Int) (e : Ending) (w' : World) : Prop :=
  e = .returned (.agg (Kv.cells t.1)) ∧ Rdr w' B o u s t.2.1 t.2.2 ∧ Below B w w' ∧ SavesS o w w'
theorem Se.drop_atL {l : List Se.Ses} {k : Nat} {s : Se.Ses} (h : l[k]? = some s) : l.drop k = s :: l.drop (k + 1) := by
  obtain ⟨hk, rfl⟩ := List.getElem?_eq_some_iff.1 h
  exact List.drop_eq_getElem_cons hk
/-- The block of a row. -/
abbrev BlkS (w : World) (g : Nat) (l : List Se.Ses) : Prop := Lies w g 55 (flatR (l.map Se.cells)).toArray
theorem Se.flat_len8 (l : List Se.Ses) : (flatR (l.map Se.cells)).length = l.length * 8 := by rw [flatR_len (Se.sized l), List.length_map]
theorem Se.flat_split (l : List Se.Ses) (i : Nat) (e : Se.Ses) (h : i < l.length) :
    flatR ((l.set i e).map Se.cells) = (flatR (l.map Se.cells)).take (i * 8) ++ (Se.cells e).toList ++ (flatR (l.map Se.cells)).drop (i * 8 + 8) := by
  obtain ⟨a, ha⟩ : ∃ a, l[i]? = some a := ⟨_, List.getElem?_eq_getElem h⟩
  have h1 : l = l.take i ++ (a :: l.drop (i + 1)) := by
    conv => lhs; rw [← List.take_append_drop i l, Se.drop_atL ha]
  have hlen : (l.take i).length = i := by rw [List.length_take]; omega
  have h2 : l.set i e = l.take i ++ (e :: l.drop (i + 1)) := by
    rw [List.set_eq_take_append_cons_drop, if_pos h]
  have hA : (flatR ((l.take i).map Se.cells)).length = i * 8 := by rw [Se.flat_len8, hlen]
  have hc : (Se.cells a).toList.length = 8 := rfl
  have e1 : flatR (l.map Se.cells) = flatR ((l.take i).map Se.cells) ++ ((Se.cells a).toList ++ flatR ((l.drop (i + 1)).map Se.cells)) := by
    conv => lhs; rw [h1]
    rw [List.map_append, flatR_app, List.map_cons, flatR_cons]
  rw [h2, List.map_append, flatR_app, List.map_cons, flatR_cons]
  obtain ⟨X, hX⟩ : ∃ X, X = flatR ((l.take i).map Se.cells) := ⟨_, rfl⟩
  obtain ⟨Y, hY⟩ : ∃ Y, Y = flatR ((l.drop (i + 1)).map Se.cells) := ⟨_, rfl⟩
  rw [← hX] at hA e1 ⊢
  rw [← hY] at e1 ⊢
  have e2 : (flatR (l.map Se.cells)).take (i * 8) = X := by rw [e1, List.take_left' hA]
  have e3 : (flatR (l.map Se.cells)).drop (i * 8 + 8) = Y := by rw [e1, ← List.append_assoc, List.drop_left' (by rw [List.length_append, hA, hc])]
  rw [e2, e3, List.append_assoc]
theorem Se.made (n : Nat) : madeCells (Value.agg (Se.cells Se.zero)).cells (n * 8) = (flatR ((List.replicate n Se.zero).map Se.cells)).toArray := by
  refine Array.ext_getElem? fun j => ?_
  by_cases hj : j < n * 8
  · have hz : (Value.agg (Se.cells Se.zero)).cells = Se.cells Se.zero := rfl
    have hi : j / 8 < n := by omega
    have hr : (List.replicate n Se.zero).map Se.cells = List.replicate n (Se.cells Se.zero) := by simp
    have h1 := flatR_at (k := 8) (rs := List.replicate n (Se.cells Se.zero)) (hr ▸ Se.sized _) (i := j / 8) (r := Se.cells Se.zero) (j := j % 8) (u := (Se.cells Se.zero)[j % 8]'(by show j % 8 < 8; omega)) (by rw [List.getElem?_replicate, if_pos hi]) (Array.getElem?_eq_getElem _)
    rw [show j / 8 * 8 + j % 8 = j by omega] at h1
    have e2 : ∀ (L : List Value) (j : Nat), L.toArray[j]? = L[j]? := fun L j => by simp
    rw [hr, e2 (flatR (List.replicate n (Se.cells Se.zero))) j, h1, hz]
    unfold madeCells
    rw [Array.getElem?_map, Array.getElem?_range, if_pos hj]
    show some ((Se.cells Se.zero)[j % 8]!) = _
    rw [getElem!_pos (Se.cells Se.zero) (j % 8) (by show j % 8 < 8; omega)]
  · rw [Array.getElem?_eq_none (by rw [size_madeCells]; omega), Array.getElem?_eq_none (by rw [List.size_toArray, Se.flat_len8, List.length_replicate]; omega)]
theorem BlkS.reads {w : World} {g n : Nat} {l : List Se.Ses} (h : BlkS w g l) (hn : n = l.length) (hm : n ≤ 1048576) : ReadsN w (.slice (some ⟨g, 0, none⟩) n n) l := by
  refine ⟨_, n, by rw [hn, List.length_map], by rw [List.length_map]; omega, by unfold maxLen; omega, (fun h => by cases h), fun a ha i r hr j u hu => ?_⟩
  cases ha
  have h1 := flatR_at (Se.sized l) hr hu
  rw [Addr.add_lit, Nat.zero_add]
  exact h.cell _ u (by simpa using h1)
/-- What a list that was read is: nothing, or a block of its own that is not the reader's. -/
def LstS (o : Nat) (w : World) (v : Value) (l : List Se.Ses) : Prop := (v = .slice none 0 0 ∧ l = []) ∨ ∃ g, g ≠ o ∧ v = .slice (some ⟨g, 0, none⟩) l.length l.length ∧ l.length ≤ 1048576 ∧ BlkS w g l
theorem LstS.reads {o : Nat} {w : World} {v : Value} {l : List Se.Ses} (h : LstS o w v l) : ReadsN w v l := by
  rcases h with ⟨rfl, rfl⟩ | ⟨g, _, rfl, hm, hr⟩
  · exact ReadsR.empty w 8
  · exact hr.reads rfl hm
theorem LstS.saves {o : Nat} {w w' : World} {v : Value} {l : List Se.Ses} (h : LstS o w v l) (hs : SavesS o w w') : LstS o w' v l := by
  rcases h with h | ⟨g, hg, hv, hm, hr⟩
  · exact .inl h
  · exact .inr ⟨g, hg, hv, hm, hs _ _ _ hg hr⟩
theorem LstS.one {o : Nat} {w : World} {v : Value} {l : List Se.Ses} (h : LstS o w v l) : v.oneCell' = true := by
  rcases h with ⟨rfl, _⟩ | ⟨g, _, rfl, _, _⟩ <;> rfl
/-- It lies as it lay where a block of another type is stored into. -/
theorem LstS.kept {o b : Nat} {w w' : World} {v : Value} {l : List Se.Ses} {T : TypeId} {vs : Array Value} (h : LstS o w v l) (hl : Lies w b T vs) (hT : T ≠ 55) (hg : w.grownBy w' (some b)) : LstS o w' v l := by
  rcases h with h | ⟨g, hgo, hv, hm, hr⟩
  · exact .inl h
  · refine .inr ⟨g, hgo, hv, hm, Lies.kept hr hg ?_⟩
    intro e
    obtain rfl : g = b := by simpa using e
    have h' : Lies w g T vs := hl
    unfold BlkS Lies at hr
    unfold Lies at h'
    rw [hr] at h'
    simp only [Option.some.injEq, Obj.cells.injEq] at h'
    exact hT h'.2.1.symm
def SsGot (w : World) (B o : Nat) (u : Value) (s : List UInt8) (t : List Se.Ses × Nat × Int) (e : Ending) (w' : World) : Prop :=
  ∃ v, e = .returned v ∧ LstS o w' v t.1 ∧ Rdr w' B o u s t.2.1 t.2.2 ∧ Below B w w' ∧ SavesS o w w'

/-- What the reading of one gives. -/
def SGot (w : World) (B o : Nat) (u : Value) (s : List UInt8) (t : Se.Ses × Nat × Int) (e : Ending) (w' : World) : Prop :=
  e = .returned (.agg (Se.cells t.1)) ∧ Rdr w' B o u s t.2.1 t.2.2 ∧ Below B w w' ∧ SavesS o w w'

/-- A count, with its limit. -/
theorem rcountL_any (most : Int) (w : World) (B o : Nat) (v : Value) (b : List UInt8) (p : Nat) (er x : Int) (q : Nat) (e : Int) (hr : Rdr w B o v b p er) (hx : e ≠ 0 → x = 0) (h : Hid (Lc.count b p er most = (x, (q : Int), e))) :
    Calls Tryz.prog 60 #[.pointer (some ⟨o, 0, none⟩), .int .i64 most] w (Gave w B o v b q e (.int .i64 x)) := by
  by_cases h0 : er = 0
  · subst h0
    exact rcnt_is most w B o v b p x q e hr hx h.out
  · have h1 := h.out
    unfold Lc.count at h1
    rw [if_neg h0] at h1
    simp only [Prod.mk.injEq] at h1
    obtain ⟨rfl, h2, rfl⟩ := h1
    obtain rfl : p = q := by omega
    exact rcnt_err _ er w B o v b p hr h0
/-- A text, with its limit. -/
theorem rtextL_any (most : Int) (w : World) (B o : Nat) (v : Value) (b : List UInt8) (p : Nat) (er : Int) (x : List UInt8) (q : Nat) (e : Int) (hr : Rdr w B o v b p er) (hx : e ≠ 0 → x = []) (h : Hid (Sn.rtx most b p er = (x, (q : Int), e))) :
    Calls Tryz.prog 62 #[.pointer (some ⟨o, 0, none⟩), .int .i64 most] w (Gave w B o v b q e (.string ⟨x.toArray⟩)) := by
  by_cases h0 : er = 0
  · subst h0
    exact rtext_is most w B o v b p x q e hr hx h.out
  · have h1 := h.out
    unfold Sn.rtx at h1
    rw [if_neg h0] at h1
    simp only [Prod.mk.injEq] at h1
    obtain ⟨rfl, h2, rfl⟩ := h1
    obtain rfl : p = q := by omega
    exact rtext_err _ er w B o v b p hr h0
/-- A number, with its limit. -/
theorem rnumL_any (most : Int) (w : World) (B o : Nat) (v : Value) (b : List UInt8) (p : Nat) (er x : Int) (q : Nat) (e : Int) (hr : Rdr w B o v b p er) (hx : e ≠ 0 → x = 0) (h : Hid (Sn.rnm most b p er = (x, (q : Int), e))) :
    Calls Tryz.prog 30 #[.pointer (some ⟨o, 0, none⟩), .int .i64 most] w (Gave w B o v b q e (.int .i64 x)) := by
  by_cases h0 : er = 0
  · subst h0
    exact rnum_is most w B o v b p x q e hr hx h.out
  · have h1 := h.out
    unfold Sn.rnm at h1
    rw [if_neg h0] at h1
    simp only [Prod.mk.injEq] at h1
    obtain ⟨rfl, h2, rfl⟩ := h1
    obtain rfl : p = q := by omega
    exact rnum_err _ er w B o v b p hr h0

end Go.Proofs.YtammfmmpldahhaaGreat


namespace Go.Proofs.YtammfmmpldahhaaGreat
open Go.RowKit

theorem flatR_mid {k : Nat} {rs : List (Array Value)} (hz : Sized k rs) {i : Nat} {r : Array Value} (hr : rs[i]? = some r) (j : Nat) (cs : List Value) (r' : Array Value) (hj : j + cs.length ≤ k)
    (h1 : r'.toList = r.toList.take j ++ cs ++ r.toList.drop (j + cs.length)) : flatR (rs.set i r') = (flatR rs).take (i * k + j) ++ cs ++ (flatR rs).drop (i * k + j + cs.length) := by
  obtain ⟨hi, hri⟩ := List.getElem?_eq_some_iff.1 hr
  have e0 : rs = rs.take i ++ (r :: rs.drop (i + 1)) := by
    conv => lhs; rw [← List.take_append_drop i rs, List.drop_eq_getElem_cons hi, hri]
  have hX : (flatR (rs.take i)).length = i * k := by rw [flatR_len (hz.take i), List.length_take]; congr 1; omega
  have hR : r.toList.length = k := by rw [Array.length_toList]; exact (hz r (List.mem_of_getElem? hr)).1
  have e1 : flatR rs = flatR (rs.take i) ++ (r.toList ++ flatR (rs.drop (i + 1))) := by
    conv => lhs; rw [e0]
    rw [flatR_app, flatR_cons]
  have e2 : flatR (rs.set i r') = flatR (rs.take i) ++ (r'.toList ++ flatR (rs.drop (i + 1))) := by
    rw [List.set_eq_take_append_cons_drop, if_pos hi, flatR_app, flatR_cons]
  obtain ⟨X, hX'⟩ : ∃ X, X = flatR (rs.take i) := ⟨_, rfl⟩
  obtain ⟨Y, hY'⟩ : ∃ Y, Y = flatR (rs.drop (i + 1)) := ⟨_, rfl⟩
  obtain ⟨R, hR'⟩ : ∃ R, R = r.toList := ⟨_, rfl⟩
  rw [← hX'] at hX
  rw [e2, e1, h1, ← hX', ← hY', ← hR', ← hX]
  rw [← hR'] at hR
  rw [List.take_length_add_append, Nat.add_assoc, List.drop_length_add_append, List.take_append_of_le_length (by omega), List.drop_append_of_le_length (by omega)]
  simp only [List.append_assoc]

theorem Lies.unlike {w : World} {a b : Nat} {T U : TypeId} {us vs : Array Value} (h : Lies w a T us) (h' : Lies w b U vs) (hT : T ≠ U) : a ≠ b := by
  rintro rfl
  unfold Lies at h h'
  rw [h] at h'
  simp only [Option.some.injEq, Obj.cells.injEq] at h'
  exact hT h'.2.1

section
variable {P : Program} {ops : Array Oper} {rest : List Oper} {op : Oper} {a : Act} {w : World} {Q : Exit → Act → World → Prop}
/-- A part of an element of a row of pairs, of sessions. -/
theorem store_kvpart (hgd : op.guard = none) (ty : TypeId) (x y : Operand) (ho : op.op = .store ty x y) (g k j : Nat) (L : List Kv.Item) (p q : Kv.Item) (u : Value) (cs : List Value) (hx : a.eval x = .pointer (some ⟨g, k * 3 + j, none⟩)) (hy : a.eval y = u)
    (hp : L[k]? = some p) (hcs : u.cells.toList = cs) (hi : (P.info? ty).map (·.size) = some cs.length) (h1 : cs.all (·.oneCell') = true) (hl : BlkK w g L) (hj : j + cs.length ≤ 3)
    (hq : (Kv.cells q).toList = (Kv.cells p).toList.take j ++ cs ++ (Kv.cells p).toList.drop (j + cs.length))
    (h : ∀ w', BlkK w' g (L.set k q) → w.grownBy w' (some g) → wpList P ops Q rest (a.put op.dst undef) w') : wpList P ops Q (op :: rest) a w := by
  have hk := (List.getElem?_eq_some_iff.1 hp).1
  have hf := flatR_mid (Kv.sized L) (i := k) (r := Kv.cells p) (by rw [List.getElem?_map, hp]; rfl) j cs (Kv.cells q) hj hq
  refine store_part hgd ty x y ho g (k * 3 + j) 62 _ (flatR ((L.set k q).map Kv.cells)).toArray u cs hx hy hcs hi h1 hl ?_ ?_ fun w' h1 h2 => h w' h1 h2
  · rw [List.size_toArray, Kv.flat_len3]
    have : k * 3 + 3 ≤ L.length * 3 := by omega
    omega
  · rw [List.map_set]
    exact hf
theorem store_sespart (hgd : op.guard = none) (ty : TypeId) (x y : Operand) (ho : op.op = .store ty x y) (g k j : Nat) (L : List Se.Ses) (p q : Se.Ses) (u : Value) (cs : List Value) (hx : a.eval x = .pointer (some ⟨g, k * 8 + j, none⟩)) (hy : a.eval y = u)
    (hp : L[k]? = some p) (hcs : u.cells.toList = cs) (hi : (P.info? ty).map (·.size) = some cs.length) (h1 : cs.all (·.oneCell') = true) (hl : BlkS w g L) (hj : j + cs.length ≤ 8)
    (hq : (Se.cells q).toList = (Se.cells p).toList.take j ++ cs ++ (Se.cells p).toList.drop (j + cs.length))
    (h : ∀ w', BlkS w' g (L.set k q) → w.grownBy w' (some g) → wpList P ops Q rest (a.put op.dst undef) w') : wpList P ops Q (op :: rest) a w := by
  have hk := (List.getElem?_eq_some_iff.1 hp).1
  have hf := flatR_mid (Se.sized L) (i := k) (r := Se.cells p) (by rw [List.getElem?_map, hp]; rfl) j cs (Se.cells q) hj hq
  refine store_part hgd ty x y ho g (k * 8 + j) 55 _ (flatR ((L.set k q).map Se.cells)).toArray u cs hx hy hcs hi h1 hl ?_ ?_ fun w' h1 h2 => h w' h1 h2
  · rw [List.size_toArray, Se.flat_len8]
    have : k * 8 + 8 ≤ L.length * 8 := by omega
    omega
  · rw [List.map_set]
    exact hf
end
/-- The cells of an element of a row. -/
theorem BlkK.at {w : World} {g : Nat} {L : List Kv.Item} (h : BlkK w g L) {k : Nat} {p : Kv.Item} (hp : L[k]? = some p) (j : Nat) (u : Value) (hu : (Kv.cells p)[j]? = some u) : w.cell? ⟨g, k * 3 + j, none⟩ = some u := by
  have h1 := flatR_at (Kv.sized L) (i := k) (r := Kv.cells p) (by rw [List.getElem?_map, hp]; rfl) hu
  exact Lies.cell h _ u (by simpa using h1)
theorem BlkS.at {w : World} {g : Nat} {L : List Se.Ses} (h : BlkS w g L) {k : Nat} {p : Se.Ses} (hp : L[k]? = some p) (j : Nat) (u : Value) (hu : (Se.cells p)[j]? = some u) : w.cell? ⟨g, k * 8 + j, none⟩ = some u := by
  have h1 := flatR_at (Se.sized L) (i := k) (r := Se.cells p) (by rw [List.getElem?_map, hp]; rfl) hu
  exact Lies.cell h _ u (by simpa using h1)
/-- The variable that a function literal captures: the reader. -/
abbrev CapR (w : World) (c o : Nat) : Prop := Lies w c 56 #[.pointer (some ⟨o, 0, none⟩)]
/-- What a function leaves that fills the element at k of the row in block h. -/
def KInto (w : World) (B o : Nat) (u : Value) (s : List UInt8) (h k : Nat) (L : List Kv.Item) (t : Kv.Item × Nat × Int) (e : Ending) (w' : World) : Prop :=
  e = .returned (.tuple #[]) ∧ BlkK w' h (L.set k t.1) ∧ Rdr w' B o u s t.2.1 t.2.2 ∧ Below B w w' ∧ Saves o h w w'
def SInto (w : World) (B o : Nat) (u : Value) (s : List UInt8) (h k : Nat) (L : List Se.Ses) (t : Se.Ses × Nat × Int) (e : Ending) (w' : World) : Prop :=
  e = .returned (.tuple #[]) ∧ BlkS w' h (L.set k t.1) ∧ Rdr w' B o u s t.2.1 t.2.2 ∧ Below B w w' ∧ Saves o h w w'

end Go.Proofs.YtammfmmpldahhaaGreat
