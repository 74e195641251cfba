/- A map from numbers to slices, as the list of its entries in the order of their numbers: looked up, stored into, struck; its numbers in order. -/
import Derived.Test.YtffgfjfeoinnfaaDkMath
import Derived.Test.YtffgfjfeoinnfaaRows
import Derived.Test.YtffgfjfeoinnfaaLie
import Derived.Test.YtffgfjfeoinnfaaMem
import Derived.Test.YtffgfjfeoinnfaaShelf
import Derived.Maps.OwnSet
import Derived.Maps.OwnOps
import Derived.Deep.RegionHeld
import Derived.Sort.AtCall
namespace Go.Proofs.Ytffgfjfeoinnfaa
open Go.RowKit Go.Maps Go.Shelf

/-- A slot of the map reads as the value that lies there. -/
def heldR (v : Value) : Option (DataW Value × List MemPlace) := some (.held v, [])
def datOf (us : List (Int × Value)) : DataW Value := .map (us.map fun u => (Lit.int .i64 u.1, DataW.held u.2))
/-- Block b is a map with these entries. -/
structure MapAt (w : World) (b : Nat) (us : List (Int × Value)) : Prop where
  own : w.ownsMap Try.prog 3 heldR b us.length (datOf us)
  asc : Dk.Asc us

theorem keyed_int : Keyed Try.prog 3 := int_keyed Try.underlying3
theorem key_int {n : Int} (h0 : -9223372036854775808 ≤ n) (h1 : n ≤ 9223372036854775807) : keyOf Try.prog 3 (.int .i64 n) = some (.int .i64 n) :=
  keyOf_int_mk Try.underlying3 (by simp [Lit.wf, IntKind.min, IntKind.max, IntKind.signed, IntKind.bits]; omega)

theorem ownsMap_exact {H : Type} {w : World} {P : Program} {k : TypeId} {R : Value → Option (DataW H × List MemPlace)} {b n : Nat} {D : DataW H} (h : w.ownsMap P k R b n D) : w.ownsMap P k R b (Maps.size D) D := by
  obtain ⟨es, clock, hb, F, hs, hD⟩ := h
  refine ⟨es, clock, hb, F, ?_, hD⟩
  rw [hD]
  show es.size ≤ ((es.toList.map (WideElems.rg P k R)).foldr DataW.insert []).length
  rw [length_read]
  exact Nat.le_refl _

theorem size_dat (us : List (Int × Value)) : Maps.size (datOf us) = us.length := by
  show (us.map _).length = _
  rw [List.length_map]
theorem insert_dat (n : Int) (v : Value) : ∀ us : List (Int × Value), DataW.insert (Lit.int .i64 n, DataW.held v) (us.map fun u => (Lit.int .i64 u.1, DataW.held u.2)) = (Dk.ins n v us).map fun u => (Lit.int .i64 u.1, DataW.held u.2)
  | [] => rfl
  | u :: r => by
    unfold Dk.ins
    rw [List.map_cons]
    unfold DataW.insert
    by_cases h : n < u.1
    · rw [if_pos h, if_pos (by simpa [Lit.before] using h)]
      rfl
    · rw [if_neg h, if_neg (by simpa [Lit.before] using h), insert_dat n v r]
      rfl
theorem filter_dat (n : Int) (us : List (Int × Value)) : (us.map fun u => (Lit.int .i64 u.1, DataW.held u.2)).filter (ChangeMaps.notKey (.int .i64 n)) = (Dk.del us n).map fun u => (Lit.int .i64 u.1, DataW.held u.2) := by
  unfold Dk.del
  rw [List.filter_map]
  congr 1
  refine List.filter_congr fun u _ => ?_
  show (!(Lit.int .i64 u.1).sameKey (.int .i64 n)) = (u.1 != n)
  by_cases h : u.1 = n <;> simp [Lit.sameKey, h]
theorem put_dat (us : List (Int × Value)) (n : Int) (v : Value) : (datOf us).put (.int .i64 n) (.held v) = datOf (Dk.put us n v) := by
  unfold datOf Dk.put
  rw [DataW.put_eq]
  unfold ChangeMaps.putKey
  rw [filter_dat, insert_dat]
theorem del_dat (us : List (Int × Value)) (n : Int) : (datOf us).del (.int .i64 n) = datOf (Dk.del us n) := by
  unfold datOf
  rw [DataW.del_eq]
  unfold ChangeMaps.delKey
  rw [filter_dat]
theorem has_dat (n : Int) : ∀ us : List (Int × Value), Maps.has (datOf us) (.int .i64 n) = (Dk.get us n).isSome
  | [] => rfl
  | u :: r => by
    have ih := has_dat n r
    unfold datOf at ih ⊢
    rw [Maps.has_eq] at ih ⊢
    rw [List.map_cons, List.any_cons, ih]
    show _ = (if u.1 = n then some u.2 else Dk.get r n).isSome
    by_cases h : u.1 = n
    · rw [if_pos h]; simp [Lit.sameKey, h]
    · rw [if_neg h]; simp [Lit.sameKey, h]
theorem at_dat (n : Int) (z : Value) : ∀ us : List (Int × Value), (datOf us).atKey (.int .i64 n) (.held z) = .held ((Dk.get us n).getD z)
  | [] => rfl
  | u :: r => by
    have ih := at_dat n z r
    unfold datOf DataW.atKey at ih ⊢
    show _ = DataW.held ((if u.1 = n then some u.2 else Dk.get r n).getD z)
    simp only [List.map_cons, List.find?_cons] at ih ⊢
    by_cases h : u.1 = n
    · rw [if_pos h]; simp [Lit.sameKey, h]
    · rw [if_neg h]
      have e : (Lit.int .i64 u.1).sameKey (.int .i64 n) = false := by simp [Lit.sameKey, h]
      rw [e]
      exact ih

theorem MapAt.of_block {w w' : World} {b : Nat} {us : List (Int × Value)} (h : MapAt w b us) (hb : w'.heap[b]? = w.heap[b]?) : MapAt w' b us := by
  obtain ⟨⟨es, clock, h1, rest⟩, ha⟩ := h
  exact ⟨⟨es, clock, hb.trans h1, rest⟩, ha⟩
theorem MapAt.lt {w : World} {b : Nat} {us : List (Int × Value)} (h : MapAt w b us) : b < w.heap.size := h.own.lt
theorem MapAt.kept {w w' : World} {row : Option Nat} {b : Nat} {us : List (Int × Value)} (h : MapAt w b us) (hg : w.grownBy w' row) (hne : some b ≠ row) : MapAt w' b us := h.of_block (hg.block b h.lt hne)
theorem MapAt.below {w w' : World} {b B : Nat} {us : List (Int × Value)} (h : MapAt w b us) (hb : Below B w w') (hlt : b < B) : MapAt w' b us := h.of_block (hb.block b hlt)
theorem MapAt.alloc {w : World} {b : Nat} {us : List (Int × Value)} (h : MapAt w b us) (o : Obj) : MapAt (w.alloc o) b us := h.kept (World.grownBy_alloc w o none) (by simp)
theorem MapAt.drew {w : World} {b : Nat} {us : List (Int × Value)} (h : MapAt w b us) : MapAt w.drew b us := ⟨h.own.drew, h.asc⟩
/-- The block holds no cells. -/
theorem MapAt.no_cells {w : World} {b : Nat} {us : List (Int × Value)} (h : MapAt w b us) {cs : Array Value} {t : TypeId} {fr : Nat × Nat} (hc : w.heap[b]? = some (.cells cs t fr)) : False := by
  obtain ⟨⟨es, clock, h1, _⟩, _⟩ := h
  rw [h1] at hc
  cases hc
theorem MapAt.new (w : World) : MapAt (w.alloc (.map #[] 0)) w.heap.size [] := ⟨World.ownsMap_made w _ _ _, Dk.Asc.nil⟩

theorem zero_bytes (w : World) : (zeroValue 33).run Try.prog w = .ok (.slice none 0 0) w := Try.zeroValue33 w

/-- v, ok := m[k]. -/
theorem MapAt.look {w : World} {b : Nat} {us : List (Int × Value)} (h : MapAt w b us) {n : Int} (h0 : -9223372036854775808 ≤ n) (h1 : n ≤ 9223372036854775807) :
    (Instr.lookup 49 (.map (some b)) (.int .i64 n) true).run Try.prog w = .ok (.tuple #[(Dk.get us n).getD (.slice none 0 0), .bool (Dk.get us n).isSome]) w := by
  obtain ⟨v, ps, hrun, hv⟩ := h.own.look_ok keyed_int Try.underlying49 (zero_bytes w) (zd := .held (.slice none 0 0)) (zp := []) rfl (key_int h0 h1)
  rw [at_dat] at hv
  rw [has_dat] at hrun
  simp only [heldR, Option.some.injEq, Prod.mk.injEq, DataW.held.injEq] at hv
  rw [hrun, hv.1]
/-- m[k]. -/
theorem MapAt.see {w : World} {b : Nat} {us : List (Int × Value)} (h : MapAt w b us) {n : Int} (h0 : -9223372036854775808 ≤ n) (h1 : n ≤ 9223372036854775807) :
    (Instr.lookup 49 (.map (some b)) (.int .i64 n) false).run Try.prog w = .ok ((Dk.get us n).getD (.slice none 0 0)) w := by
  obtain ⟨v, ps, hrun, hv⟩ := h.own.lookup keyed_int Try.underlying49 (zero_bytes w) (zd := .held (.slice none 0 0)) (zp := []) rfl (key_int h0 h1)
  rw [at_dat] at hv
  simp only [heldR, Option.some.injEq, Prod.mk.injEq, DataW.held.injEq] at hv
  rw [hrun, hv.1]
/-- m[k] = v. -/
theorem MapAt.store {w : World} {b : Nat} {us : List (Int × Value)} (h : MapAt w b us) {n : Int} (h0 : -9223372036854775808 ≤ n) (h1 : n ≤ 9223372036854775807) (hl : us.length < 4611686018427387904) (v : Value) :
    ∃ w', (Instr.mapUpdate 49 (.map (some b)) (.int .i64 n) v).run Try.prog w = .ok () w' ∧ MapAt w' b (Dk.put us n v) ∧ w.grownBy w' (some b) := by
  obtain ⟨w', hrun, hown, hg⟩ := h.own.update keyed_int Try.underlying49 (by unfold maxLen; omega) (key_int h0 h1) (val := v) (d := .held v) (ps := []) rfl
  rw [put_dat] at hown
  have := ownsMap_exact hown
  rw [size_dat] at this
  exact ⟨w', hrun, ⟨this, Dk.asc_put h.asc⟩, hg⟩
/-- delete(m, k). -/
theorem MapAt.strike {w : World} {b : Nat} {us : List (Int × Value)} (h : MapAt w b us) {n : Int} (h0 : -9223372036854775808 ≤ n) (h1 : n ≤ 9223372036854775807) (ty : TypeId) :
    ∃ w', (Builtin.delete_ #[49, 3] ty #[.map (some b), .int .i64 n]).run Try.prog w = .ok (.tuple #[]) w' ∧ MapAt w' b (Dk.del us n) ∧ w.grownBy w' (some b) := by
  obtain ⟨w', hrun, hown, hg⟩ := h.own.drop keyed_int Try.underlying49 (key_int h0 h1) ty
  rw [del_dat] at hown
  have := ownsMap_exact hown
  rw [size_dat] at this
  exact ⟨w', hrun, ⟨this, Dk.asc_del h.asc⟩, hg.grown⟩

/-- m[k] = v, the operation. -/
theorem op_mapUpdate {w : World} {o : Oper} {a : Act} {K : Act → World → Prop} {Q : Exit → Act → World → Prop} (m x v : Operand) (ho : o.op = Op.mapUpdate 49 m x v) (b : Nat) (us : List (Int × Value)) (n : Int) (u : Value)
    (hm : a.eval m = .map (some b)) (hx : a.eval x = .int .i64 n) (hu : a.eval v = u) (h : MapAt w b us) (h0 : -9223372036854775808 ≤ n) (h1 : n ≤ 9223372036854775807) (hl : us.length < 4611686018427387904)
    (hK : ∀ w', MapAt w' b (Dk.put us n u) → w.grownBy w' (some b) → K (a.put o.dst undef) w') : Oper.wp Try.prog o a w K Q := by
  obtain ⟨w', hrun, hm', hg⟩ := h.store h0 h1 hl u
  unfold Oper.wp
  simp [execOp, ho, hm, hx, hu, hrun, Result.andThen]
  exact hK _ hm' hg
theorem ready_mapUpdate {md : Region.Mode} {ops : Array Oper} {Q : Exit → Act → World → Prop} {S : World → Prop} {fuel : Nat} {listed : Array Bool} {a : Act} {w : World} (i : Nat) (m x v : Operand) {o : Oper} (ho : ops[i]? = some o) (hgd : o.guard = none) (hop : o.op = Op.mapUpdate 49 m x v)
    (b : Nat) (us : List (Int × Value)) (n : Int) (u : Value) (hm : a.eval m = .map (some b)) (hx : a.eval x = .int .i64 n) (hu : a.eval v = u) (h : MapAt w b us) (h0 : -9223372036854775808 ≤ n) (h1 : n ≤ 9223372036854775807) (hl : us.length < 4611686018427387904)
    (hK : ∀ w', MapAt w' b (Dk.put us n u) → w.grownBy w' (some b) → S w' ∧ (S w' → wpAnyH Try.prog md ops Q S fuel (listed.setIfInBounds i true) (a.put o.dst undef) w')) : AllReadyH Try.prog md ops Q S fuel listed a w [i] := by
  obtain ⟨w', hrun, hm', hg⟩ := h.store h0 h1 hl u
  refine AllReadyH.cons ho (fun K hS => ?_) AllReadyH.nil
  rw [if_pos (by simp [Region.wanted, hgd])]
  unfold Oper.wp
  simp [execOp, hop, hm, hx, hu, hrun, Result.andThen]
  exact hS.out _ _ (hK w' hm' hg).1 (hK w' hm' hg).2
theorem step_mapUpdate {w : World} {ops : Array Oper} {rest : List Oper} {o : Oper} {a : Act} {Q : Exit → Act → World → Prop} (hg : o.guard = none) (m x v : Operand) (ho : o.op = Op.mapUpdate 49 m x v) (b : Nat) (us : List (Int × Value)) (n : Int) (u : Value)
    (hm : a.eval m = .map (some b)) (hx : a.eval x = .int .i64 n) (hu : a.eval v = u) (h : MapAt w b us) (h0 : -9223372036854775808 ≤ n) (h1 : n ≤ 9223372036854775807) (hl : us.length < 4611686018427387904)
    (hK : ∀ w', MapAt w' b (Dk.put us n u) → w.grownBy w' (some b) → wpList Try.prog ops Q rest (a.put o.dst undef) w') : wpList Try.prog ops Q (o :: rest) a w :=
  wpList_plain hg fun _ hK' => op_mapUpdate m x v ho b us n u hm hx hu h h0 h1 hl fun w' h2 h3 => hK' _ _ (hK w' h2 h3)
theorem step_delete {w : World} {ops : Array Oper} {rest : List Oper} {o : Oper} {a : Act} {Q : Exit → Act → World → Prop} (hg : o.guard = none) (m x : Operand) (ho : o.op = Op.call { callee := Callee.builtin Builtin.delete, args := #[m, x], argTypes := #[49, 3] }) (b : Nat) (us : List (Int × Value)) (n : Int)
    (hm : a.eval m = .map (some b)) (hx : a.eval x = .int .i64 n) (h : MapAt w b us) (h0 : -9223372036854775808 ≤ n) (h1 : n ≤ 9223372036854775807)
    (hK : ∀ w', MapAt w' b (Dk.del us n) → w.grownBy w' (some b) → wpList Try.prog ops Q rest (a.put o.dst (.tuple #[])) w') : wpList Try.prog ops Q (o :: rest) a w := by
  refine wpList_plain hg fun K hK' => ?_
  obtain ⟨w', hrun, hm', hgr⟩ := h.strike h0 h1 o.type
  unfold Oper.wp
  simp [execOp, ho, resolve, invoke, builtin, hm, hx, hrun, Result.andThen]
  exact hK' _ _ (hK w' hm' hgr)

/-- A map's value, the nil one too. -/
def MapOr (w : World) (mv : Value) (us : List (Int × Value)) : Prop := (mv = .map none ∧ us = []) ∨ ∃ b, mv = .map (some b) ∧ MapAt w b us

/-! The map's numbers, in order. -/
theorem sorts_in (m : Nat) : AnyZI.SortsIn Try.prog Try.sortedI_ren Fence.wide m :=
  ⟨fun blk off cap ss W hH hblk hsz => callsIn_wide.2 (AnyM.slices_Sort_int Try.sortI blk off cap ss W hH hblk hsz), fun p cap W => callsIn_wide.2 (AnyM.slices_Sort_int_none Try.sortI p cap W)⟩
theorem keys_any (mv : Option Nat) (W : World) : CallsIn Fence.wide 5 Try.prog 36 #[.map mv] W fun e w' => e = .returned (.func (.func 39) #[] #[.pointer (some ⟨W.heap.size, 0, none⟩)]) ∧ w' = W.alloc (.cells #[.map mv] 49) :=
  AnyZI.keys_in Try.keysI Fence.wide 5 trivial rfl mv W

theorem sort_asc {us : List (Int × Value)} (h : Dk.Asc us) {ss : List Int} (hp : ss.Perm (intKeys (datOf us))) : ss.mergeSort (fun x y => decide (x ≤ y)) = us.map (·.1) := by
  have e : intKeys (datOf us) = us.map (·.1) := by
    show ((us.map _).map _ : List Int) = _
    rw [List.map_map]
    rfl
  rw [e] at hp
  rw [show (ss.mergeSort fun x y => decide (x ≤ y)) = ss.mergeSort leI from rfl, mergeSort_of_perm_i hp]
  refine List.mergeSort_of_pairwise (List.pairwise_map.2 (h.imp ?_))
  intro a b hab
  simp only [leI, decide_eq_true_eq]
  omega

set_option maxHeartbeats 1000000 in
theorem sorted_any (mv : Option Nat) (us : List (Int × Value)) (w : World) (h : MapOr w (.map mv) us) (hl : us.length ≤ 17592186044416) :
    CallsIn Fence.wide 5 Try.prog 35 #[.func (.func 39) #[] #[.pointer (some ⟨w.heap.size, 0, none⟩)]] (w.alloc (.cells #[.map mv] 49)) fun e w' =>
      ∃ v, e = .returned v ∧ w'.ownsRow (w.alloc (.cells #[.map mv] 49)).heap.size 3 1 v us.length ((us.map (·.1)).map encZ) ∧ Below (w.alloc (.cells #[.map mv] 49)).heap.size (w.alloc (.cells #[.map mv] 49)) w' := by
  rcases h with ⟨e, rfl⟩ | ⟨b, e, hm⟩
  · simp only [Value.map.injEq] at e
    subst e
    have hseq : SeqGives Fence.wide 2 Try.prog 39 #[.pointer (some ⟨w.heap.size, 0, none⟩)] encZ (fun ss : List Int => ss = []) 0 (w.alloc (.cells #[.map none] 49)) :=
      AnyZI.keys_gives_nil (ρ := Try.keysI_ren) { Try.keysI with } Fence.wide _ trivial rfl w.heap.size _ (by simp) (by simp)
    have cS := AnyZI.sorted_in Try.sortedI Fence.wide 5 trivial trivial trivial trivial rfl (by omega) (sorts_in _) (enters_of Try.func38 (by kernel_rfl) rfl) 39 #[.pointer (some ⟨w.heap.size, 0, none⟩)] trivial (enters_of Try.func39 (by kernel_rfl) rfl) _ 0 (Nat.zero_le _) (by omega) _ hseq
    change CallsIn _ _ Try.prog 35 _ _ _ at cS
    refine cS.mono ?_
    rintro e w' ⟨v, ss, rfl, rfl, hrow, _, hb⟩
    rw [List.mergeSort_nil] at hrow
    exact ⟨v, rfl, hrow, hb⟩
  · simp only [Value.map.injEq] at e
    subst e
    have hbl := hm.lt
    have hseq : SeqGives Fence.wide 2 Try.prog 39 #[.pointer (some ⟨w.heap.size, 0, none⟩)] encZ (fun ss => ss.Perm (intKeys (datOf us))) (Maps.size (datOf us)) (w.alloc (.cells #[.map (some b)] 49)) :=
      AnyZI.keys_gives (ρ := Try.keysI_ren) { Try.keysI with } Fence.wide _ trivial rfl (by omega) w.heap.size b us.length (datOf us) _ (by simp) (by simp) (hm.alloc _).own
    have cS := AnyZI.sorted_in Try.sortedI Fence.wide 5 trivial trivial trivial trivial rfl (by omega) (sorts_in _) (enters_of Try.func38 (by kernel_rfl) rfl) 39 #[.pointer (some ⟨w.heap.size, 0, none⟩)] trivial (enters_of Try.func39 (by kernel_rfl) rfl) _ _ (by rw [size_dat]; unfold maxLen; omega) (by rw [size_dat]; omega) _ hseq
    change CallsIn _ _ Try.prog 35 _ _ _ at cS
    refine cS.mono ?_
    rintro e w' ⟨v, ss, rfl, hp, hrow, _, hb⟩
    rw [sort_asc hm.asc hp] at hrow
    have hlen : ss.length = us.length := by
      rw [hp.length_eq]
      show ((us.map _).map _ : List Int).length = _
      simp
    rw [hlen] at hrow
    exact ⟨v, rfl, hrow, hb⟩

end Go.Proofs.Ytffgfjfeoinnfaa
