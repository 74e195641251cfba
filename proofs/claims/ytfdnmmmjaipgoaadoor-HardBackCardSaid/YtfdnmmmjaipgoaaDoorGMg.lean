/- Several texts of mine in one: MsInv EnGet MsGet MsDec. -/
import Derived.Test.YtfdnmmmjaipgoaaDoorGPl
import Derived.Test.YtfdnmmmjaipgoaaDoorGCw
import Derived.Test.YtfdnmmmjaipgoaaDoorEnChk
import Derived.Test.YtfdnmmmjaipgoaaDoorGMb
import Derived.Test.YtfdnmmmjaipgoaaDoorGMp
namespace Go.Proofs.YtfdnmmmjaipgoaaDoor

/-! What is read is small. -/
theorem Cm.get_inv_at (v : Int) (b : List UInt8) (p : Nat) (er : Int) (hp : p ≤ b.length) : (Cm.get v b p er).2.1 ≤ b.length ∧ (Cm.get v b p er).1.Short b.length ∧ (Cm.get v b p er).1.Fits := by
  unfold Cm.get
  have hS : ∀ n, (Cm.bareOf n).Short b.length := fun n => ⟨by simp [Cm.bareOf], by simp [Cm.bareOf], by simp [Cm.bareOf]⟩
  rcases Cm.rnum_cases b p er with ⟨e, _, hn⟩ | ⟨n, q, _, _, hq, hb, hn, _⟩
  · rw [hn]
    exact Cm.fold_inv b _ _ (by simpa using hp) (hS _) (by constructor <;> simp [Cm.bareOf])
  · rw [hn]
    exact Cm.fold_inv b _ _ (by simpa using hq) (hS _) (by constructor <;> simp [Cm.bareOf] <;> omega)
theorem En.get1_inv (v : Int) (b : List UInt8) (p : Nat) (er : Int) (hp : p ≤ b.length) : (En.get1 v b p er).1.cmd.Short b.length ∧ (En.get1 v b p er).1.Fits := by
  have l3 := Cm.rnum_le b _ (Cm.rnum b (Cm.rnum b p er).2.1.toNat (Cm.rnum b p er).2.2).2.2 (Cm.rnum_le b _ (Cm.rnum b p er).2.2 (Cm.rnum_le b p er hp))
  have l4 := Cm.rnum_le b _ (Cm.rnum b (Cm.rnum b (Cm.rnum b p er).2.1.toNat (Cm.rnum b p er).2.2).2.1.toNat (Cm.rnum b (Cm.rnum b p er).2.1.toNat (Cm.rnum b p er).2.2).2.2).2.2 l3
  obtain ⟨_, h2, h3⟩ := Cm.get_inv_at v b _ (Cm.rnum b (Cm.rnum b (Cm.rnum b p er).2.1.toNat (Cm.rnum b p er).2.2).2.1.toNat (Cm.rnum b (Cm.rnum b p er).2.1.toNat (Cm.rnum b p er).2.2).2.2).2.2 l3
  have n1 := Ms.rnum_num b p er
  have n2 := Ms.rnum_num b (Cm.rnum b p er).2.1.toNat (Cm.rnum b p er).2.2
  have n3 := Ms.rnum_num b (Cm.rnum b (Cm.rnum b p er).2.1.toNat (Cm.rnum b p er).2.2).2.1.toNat (Cm.rnum b (Cm.rnum b p er).2.1.toNat (Cm.rnum b p er).2.2).2.2
  refine ⟨h2, ⟨?_, ?_, ⟨?_, ?_, ?_, ?_⟩, h3⟩⟩ <;> (dsimp only [En.get1]; omega)
theorem En.gets_inv (v : Int) (b : List UInt8) (p : Nat) (er : Int) (hp : p ≤ b.length) : ∀ k, ∀ e ∈ (En.gets v b p er k).1, e.cmd.Short b.length ∧ e.Fits
  | 0, e, h => by simp [En.gets] at h
  | k + 1, e, h => by
    unfold En.gets at h
    dsimp only at h
    rcases List.mem_append.1 h with h | h
    · exact En.gets_inv v b p er hp k e h
    · rw [List.mem_singleton] at h
      subst h
      exact En.get1_inv v b _ _ (En.gets_le v b p er hp k)
theorem En.get_inv (v : Int) (b : List UInt8) (p : Nat) (er : Int) (hp : p ≤ b.length) : (∀ e ∈ (En.get v b p er).1, e.cmd.Short b.length ∧ e.Fits) ∧ (En.get v b p er).1.length ≤ 256 := by
  unfold En.get
  rcases En.count_cases b p er hp with ⟨e, q, _, hq, h⟩ | ⟨n, q, _, hq, hn, h, _⟩
  · rw [h]
    dsimp only
    split
    · exact ⟨En.gets_inv v b _ _ (by simpa using hq) _, by simp [En.gets]⟩
    · exact ⟨fun e he => by simp at he, by simp⟩
  · rw [h]
    dsimp only
    split
    · exact ⟨En.gets_inv v b _ _ (by simpa using hq) _, by rw [En.gets_len]; simpa using hn⟩
    · exact ⟨fun e he => by simp at he, by simp⟩
theorem Ms.get_inv (b : List UInt8) : (Ms.get b).1.Fits ∧ (∀ e ∈ (Ms.get b).1.ents, e.cmd.Short b.length) ∧ (Ms.get b).1.ents.length ≤ 256 ∧ (Ms.get b).1.img.length ≤ b.length := by
  obtain ⟨h1, h2⟩ := En.get_inv 1 b (Ms.rnums b 7).2.1 (Ms.rnums b 7).2.2 (Ms.rnums_le b 7)
  refine ⟨⟨fun x hx => ?_, fun e he => (h1 e he).2⟩, fun e he => (h1 e he).1, h2, ?_⟩
  · have hn7 : Ms.nums (Ms.get b).1 = (Ms.rnums b 7).1 := Ms.seven (Ms.rnums_len b 7)
    rw [hn7] at hx
    have := Ms.rnums_num b 7 x hx
    omega
  · rcases Ms.raw_cases b (Ms.gotE b).2.1 (Ms.gotE b).2.2 (En.get_le 1 b _ _ (Ms.rnums_le b 7)) with ⟨e, q, _, _, hr⟩ | ⟨s, q, _, _, hs, hr, _⟩
    · show (Ms.raw b (Ms.gotE b).2.1 (Ms.gotE b).2.2).1.length ≤ _
      rw [hr]; simp
    · show (Ms.raw b (Ms.gotE b).2.1 (Ms.gotE b).2.2).1.length ≤ _
      rw [hr]; exact hs

/-- The kinds of the commands of a valid message. -/
theorem Ms.ent_kinds {m : Ms.Msg} (h : Ms.check m = 0) : ∀ e ∈ m.ents, 1 ≤ e.cmd.kind ∧ e.cmd.kind ≤ 8 := fun e he => by
  have h1 := (Cm.check_ok (Ms.ents_ok _ _ (Ms.check_good h).ents e he).2).1
  unfold Cm.known at h1
  simpa using h1
/-- The texts of a valid command are short. -/
theorem Cm.check_short {c : Cm.Cmd} (h : Cm.check c = 0) : c.Short 48 := by
  obtain ⟨hk, ha⟩ := Cm.check_ok h
  unfold Cm.check at h
  rw [hk, if_neg (by simp)] at h
  by_cases h6 : (Cm.fields c.kind).all (Cm.within c) = false
  · rw [if_pos h6] at h; omega
  rw [if_neg h6] at h
  by_cases h7 : (Cm.fields c.kind).all (Cm.spelt c) = false
  · rw [if_pos h7] at h; omega
  have hw : (Cm.fields c.kind).all (Cm.spelt c) = true := by simpa using h7
  have h' := of_decide_eq_true ha
  have hkey : ∀ s : List UInt8, Rn.key ⟨s.toArray⟩ = true → s.length ≤ 48 := fun s hs => by
    unfold Rn.key at hs
    simp only [Bool.and_eq_true, decide_eq_true_eq] at hs
    have := hs.1.2
    rw [str_size] at this
    omega
  have hval : ∀ s : List UInt8, Rn.val ⟨s.toArray⟩ = true → s.length ≤ 48 := fun s hs => by
    unfold Rn.val at hs
    simp only [Bool.and_eq_true, decide_eq_true_eq] at hs
    have := hs.1.1
    rwa [str_size] at this
  clear h ha h6 h7
  obtain ⟨k, cl, sq, nd, ky, od, vl⟩ := c
  dsimp only at hk hw h'
  rcases Vs.kinds k with rfl | rfl | rfl | rfl | rfl | rfl | rfl | rfl | h
  rotate_right
  · simp [Cm.known] at hk; omega
  all_goals
    simp [Cm.fields, Cm.wipe, Cm.F.num, Cm.Cmd.setN, Cm.Cmd.setS, Cm.bareOf] at h'
    simp [Cm.fields, Cm.spelt, Cm.F.num, Cm.okS, Cm.Cmd.s] at hw
    refine ⟨?_, ?_, ?_⟩ <;> dsimp only <;> first | (rw [h'.1]; simp; done) | (rw [h'.2]; simp; done) | (rw [h'.2.1]; simp; done) | (rw [h'.2.2]; simp; done) | exact hkey _ hw | exact hkey _ hw.1 | exact hkey _ hw.2 | exact hval _ hw.2 | exact hval _ hw.1 | exact hval _ hw.2.1 | exact hval _ hw.2.2 | grind
theorem Short.up {c : Cm.Cmd} {a b : Nat} (h : c.Short a) (hab : a ≤ b) : c.Short b := ⟨Nat.le_trans h.1 hab, Nat.le_trans h.2.1 hab, Nat.le_trans h.2.2 hab⟩
end Go.Proofs.YtfdnmmmjaipgoaaDoor


namespace Go.Proofs.YtfdnmmmjaipgoaaDoor
open Go.RowKit

/-- All blocks of cells but the reader's lie as they lay. -/
def SavesO (o : Nat) (w w' : World) : Prop := ∀ (k : Nat) (T : TypeId) (vs : Array Value), k ≠ o → Lies w k T vs → Lies w' k T vs
theorem SavesO.refl (o : Nat) (w : World) : SavesO o w w := fun _ _ _ _ h => h
theorem SavesO.trans {o : Nat} {a b c : World} (h : SavesO o a b) (k : SavesO o b c) : SavesO o a c := fun j T vs h1 h2 => k j T vs h1 (h j T vs h1 h2)
theorem SavesO.of_below {o : Nat} {w w' : World} (h : Below w.heap.size w w') : SavesO o w w' := fun _ _ _ _ hl => hl.below h hl.lt
theorem SavesO.of_grown {o : Nat} {w w' : World} (h : w.grownBy w' (some o)) : SavesO o w w' := fun _ _ _ h1 hl => hl.kept h (by intro e; cases e; exact h1 rfl)

/-- Two blocks for entries. -/
theorem box_ents0 (w : World) : ∃ w2, (w.alloc (.cells (En.cells En.zero) 46)).alloc (.cells (En.cells En.zero) 46) = w2 ∧ Ents w2 w.heap.size En.zero ∧ Ents w2 (w.heap.size + 1) En.zero ∧ Below w.heap.size w w2 ∧ w2.heap.size = w.heap.size + 2 := by
  refine ⟨_, rfl, (Lies.new w _ _).alloc _, ?_, ((Below.refl _ w).alloc (Nat.le_refl _) _).alloc (by simp) _, by simp⟩
  have := Lies.new (w.alloc (.cells (En.cells En.zero) 46)) 46 (En.cells En.zero)
  simpa using this

/-! A row of entries that a reading makes. -/
/-- The block of a row. -/
abbrev RowE (w : World) (g : Nat) (l : List En.Ent) : Prop := Lies w g 46 (flatR (l.map En.cells)).toArray
theorem En.flat_len10 (l : List En.Ent) : (flatR (l.map En.cells)).length = l.length * 10 := by rw [flatR_len (En.sized l), List.length_map]
theorem En.flat_split (l : List En.Ent) (i : Nat) (e : En.Ent) (h : i < l.length) :
    flatR ((l.set i e).map En.cells) = (flatR (l.map En.cells)).take (i * 10) ++ (En.cells e).toList ++ (flatR (l.map En.cells)).drop (i * 10 + 10) := by
  obtain ⟨a, ha⟩ : ∃ a, l[i]? = some a := ⟨_, List.getElem?_eq_getElem h⟩
  have h1 : l = l.take i ++ (a :: l.drop (i + 1)) := by
    conv => lhs; rw [← List.take_append_drop i l, En.drop_at ha]
  have hlen : (l.take i).length = i := by rw [List.length_take]; omega
  have h2 : l.set i e = l.take i ++ (e :: l.drop (i + 1)) := by
    rw [List.set_eq_take_append_cons_drop, if_pos h]
  have hA : (flatR ((l.take i).map En.cells)).length = i * 10 := by rw [En.flat_len10, hlen]
  have hc : (En.cells a).toList.length = 10 := rfl
  have e1 : flatR (l.map En.cells) = flatR ((l.take i).map En.cells) ++ ((En.cells a).toList ++ flatR ((l.drop (i + 1)).map En.cells)) := by
    conv => lhs; rw [h1]
    rw [List.map_append, flatR_app, List.map_cons, flatR_cons]
  rw [h2, List.map_append, flatR_app, List.map_cons, flatR_cons]
  obtain ⟨X, hX⟩ : ∃ X, X = flatR ((l.take i).map En.cells) := ⟨_, rfl⟩
  obtain ⟨Y, hY⟩ : ∃ Y, Y = flatR ((l.drop (i + 1)).map En.cells) := ⟨_, rfl⟩
  rw [← hX] at hA e1 ⊢
  rw [← hY] at e1 ⊢
  have e2 : (flatR (l.map En.cells)).take (i * 10) = X := by rw [e1, List.take_left' hA]
  have e3 : (flatR (l.map En.cells)).drop (i * 10 + 10) = Y := by rw [e1, ← List.append_assoc, List.drop_left' (by rw [List.length_append, hA, hc])]
  rw [e2, e3, List.append_assoc]
theorem En.made (n : Nat) : madeCells (Value.agg (En.cells En.zero)).cells (n * 10) = (flatR ((List.replicate n En.zero).map En.cells)).toArray := by
  refine Array.ext_getElem? fun j => ?_
  by_cases hj : j < n * 10
  · have hz : (Value.agg (En.cells En.zero)).cells = En.cells En.zero := rfl
    have hi : j / 10 < n := by omega
    have hr : (List.replicate n En.zero).map En.cells = List.replicate n (En.cells En.zero) := by simp
    have h1 := flatR_at (k := 10) (rs := List.replicate n (En.cells En.zero)) (hr ▸ En.sized _) (i := j / 10) (r := En.cells En.zero) (j := j % 10) (u := (En.cells En.zero)[j % 10]'(by show j % 10 < 10; omega)) (by rw [List.getElem?_replicate, if_pos hi]) (Array.getElem?_eq_getElem _)
    rw [show j / 10 * 10 + j % 10 = j by omega] at h1
    have e2 : ∀ (L : List Value) (j : Nat), L.toArray[j]? = L[j]? := fun L j => by simp
    rw [hr, e2 (flatR (List.replicate n (En.cells En.zero))) j, h1, hz]
    unfold madeCells
    rw [Array.getElem?_map, Array.getElem?_range, if_pos hj]
    show some ((En.cells En.zero)[j % 10]!) = _
    rw [getElem!_pos (En.cells En.zero) (j % 10) (by show j % 10 < 10; omega)]
  · rw [Array.getElem?_eq_none (by rw [size_madeCells]; omega), Array.getElem?_eq_none (by rw [List.size_toArray, En.flat_len10, List.length_replicate]; omega)]
theorem RowE.reads {w : World} {g n : Nat} {l : List En.Ent} (h : RowE w g l) (hn : n = l.length) (hm : n ≤ 1048576) : ReadsE w (.slice (some ⟨g, 0, none⟩) n n) l := by
  refine ⟨_, n, by rw [hn, List.length_map], by rw [List.length_map]; omega, by unfold maxLen; omega, (fun h => by cases h), fun a ha i r hr j u hu => ?_⟩
  cases ha
  have h1 := flatR_at (En.sized l) hr hu
  rw [Addr.add_lit, Nat.zero_add]
  exact h.cell _ u (by simpa using h1)
/-- What a list that was read is: nothing, or a block of its own that is not the reader's. -/
def ListE (o : Nat) (w : World) (v : Value) (l : List En.Ent) : Prop := (v = .slice none 0 0 ∧ l = []) ∨ ∃ g, g ≠ o ∧ v = .slice (some ⟨g, 0, none⟩) l.length l.length ∧ l.length ≤ 1048576 ∧ RowE w g l
theorem ListE.reads {o : Nat} {w : World} {v : Value} {l : List En.Ent} (h : ListE o w v l) : ReadsE w v l := by
  rcases h with ⟨rfl, rfl⟩ | ⟨g, _, rfl, hm, hr⟩
  · exact ReadsR.empty w 10
  · exact hr.reads rfl hm
theorem ListE.saves {o : Nat} {w w' : World} {v : Value} {l : List En.Ent} (h : ListE o w v l) (hs : SavesO o w w') : ListE o w' v l := by
  rcases h with h | ⟨g, hg, hv, hm, hr⟩
  · exact .inl h
  · exact .inr ⟨g, hg, hv, hm, hs _ _ _ hg hr⟩
theorem ListE.one {o : Nat} {w : World} {v : Value} {l : List En.Ent} (h : ListE o w v l) : v.oneCell' = true := by
  rcases h with ⟨rfl, _⟩ | ⟨g, _, rfl, _, _⟩ <;> rfl
/-- It lies as it lay where a block of another type is stored into. -/
theorem ListE.kept {o b : Nat} {w w' : World} {v : Value} {l : List En.Ent} {T : TypeId} {vs : Array Value} (h : ListE o w v l) (hl : Lies w b T vs) (hT : T ≠ 46) (hg : w.grownBy w' (some b)) : ListE o w' v l := by
  rcases h with h | ⟨g, hgo, hv, hm, hr⟩
  · exact .inl h
  · refine .inr ⟨g, hgo, hv, hm, Lies.kept hr hg ?_⟩
    intro e
    obtain rfl : g = b := by simpa using e
    have h' : Lies w g T vs := hl
    unfold RowE Lies at hr
    unfold Lies at h'
    rw [hr] at h'
    simp only [Option.some.injEq, Obj.cells.injEq] at h'
    exact hT h'.2.1.symm
end Go.Proofs.YtfdnmmmjaipgoaaDoor


namespace Go.Proofs.YtfdnmmmjaipgoaaDoor
open Go.RowKit

theorem Ms.rnums_succ (b : List UInt8) (k : Nat) : Ms.rnums b (k + 1) = ((Ms.rnums b k).1 ++ [(Cm.rnum b (Ms.rnums b k).2.1 (Ms.rnums b k).2.2).1], (Cm.rnum b (Ms.rnums b k).2.1 (Ms.rnums b k).2.2).2.1.toNat, (Cm.rnum b (Ms.rnums b k).2.1 (Ms.rnums b k).2.2).2.2) := rfl
theorem Ms.ofNums_set : ∀ (L : List Int) (n : Int) (ve vi : Value), L.length < 7 → (Ms.cells (Ms.ofNums (L ++ [n])) ve vi).toList = (Ms.cells (Ms.ofNums L) ve vi).toList.take L.length ++ [.int .i64 n] ++ (Ms.cells (Ms.ofNums L) ve vi).toList.drop (L.length + 1)
  | [], _, _, _, _ => rfl
  | [_], _, _, _, _ => rfl
  | [_, _], _, _, _, _ => rfl
  | [_, _, _], _, _, _, _ => rfl
  | [_, _, _, _], _, _, _, _ => rfl
  | [_, _, _, _, _], _, _, _, _ => rfl
  | [_, _, _, _, _, _], _, _, _, _ => rfl
  | _ :: _ :: _ :: _ :: _ :: _ :: _ :: r, _, _, _, h => by simp at h; omega
theorem Ms.cells_no8 (m : Ms.Msg) (eo io : Option Addr) (en ec ik ic : Nat) (c : Int) : ∀ k : Nat, (Ms.cells m (.slice eo en ec) (.slice io ik ic))[k]? ≠ some (Value.int .u8 c)
  | 0 => by simp [Ms.cells]
  | 1 => by simp [Ms.cells]
  | 2 => by simp [Ms.cells]
  | 3 => by simp [Ms.cells]
  | 4 => by simp [Ms.cells]
  | 5 => by simp [Ms.cells]
  | 6 => by simp [Ms.cells]
  | 7 => by simp [Ms.cells]
  | 8 => by simp [Ms.cells]
  | 9 => by simp [Ms.cells]
  | k + 10 => by simp [Ms.cells]
theorem ListE.slice {o : Nat} {w : World} {v : Value} {l : List En.Ent} (h : ListE o w v l) : ∃ ao n c, v = .slice ao n c := by
  rcases h with ⟨rfl, _⟩ | ⟨g, _, rfl, _, _⟩ <;> exact ⟨_, _, _, rfl⟩

end Go.Proofs.YtfdnmmmjaipgoaaDoor


namespace Go.Proofs.YtfdnmmmjaipgoaaDoor
open Go.RowKit

/-- What a decoding gives. -/
def MDecd (w : World) (r : Ms.Msg × Int) (e : Ending) (w' : World) : Prop :=
  Below w.heap.size w w' ∧ ∃ ve vi, e = .returned (.tuple #[.agg (Ms.cells r.1 ve vi), .int .i64 r.2]) ∧ ReadsE w' ve r.1.ents ∧ Reads w' vi r.1.img ∧ ve.oneCell' = true ∧ vi.oneCell' = true

end Go.Proofs.YtfdnmmmjaipgoaaDoor
