/- contents.sorted: the files in the order of their numbers, one behind the other. -/
import Derived.Test.YtffgfjfeoinnfaaDkMem
import Derived.Test.YtffgfjfeoinnfaaTold
import Derived.RangeFuncNested
import Derived.RangeFuncLeaves
import Derived.Shelf.Abstract
import Derived.OwnWalkIn
import Derived.TacticsInMore
import Derived.LoopNIn
import Derived.LoopIn
namespace Go.Proofs.Ytffgfjfeoinnfaa
open Go.RowKit Go.Shelf

attribute [local go_sem] Oper.semAt_some

/-- What is handed over: the number, the slice. -/
def fileArgs (x : Int × Value) : Array Value := #[.int .i64 x.1, x.2]
/-- What is kept between the rounds: the objects of which q speaks. -/
def fileGiven (us : List (Int × Value)) (pre : List (Int × Value)) (x : Int × Value) (_ : World) : Prop := ∃ post, us = pre ++ x :: post
def fileOver (us : List (Int × Value)) (xs : List (Int × Value)) (_ : World) : Prop := xs = us

set_option maxRecDepth 4000 in
set_option maxHeartbeats 400000 in
theorem sorted_made (mv : Option Nat) (w : World) :
    Calls Try.prog 33 #[.map mv] w fun e w' => e = .returned (.func (.func 34) #[] #[.pointer (some ⟨w.heap.size, 0, none⟩)]) ∧ w' = w.alloc (.cells #[.map mv] 49) := by
  go_enter Try.func33, Try.ntmps33
  go_wp2
  go_ret
  exact ⟨rfl, rfl⟩

theorem MapOr.kp {q : Nat → Obj → Prop} {w w' : World} {mv : Option Nat} {us : List (Int × Value)} (h : MapOr w (.map mv) us) (hk : Kp q w w') (hq : ∀ b, mv = some b → ∀ o, q b o) : MapOr w' (.map mv) us := by
  rcases h with h | ⟨b, e, h⟩
  · exact .inl h
  · simp only [Value.map.injEq] at e
    subst e
    exact .inr ⟨b, rfl, h.of_block (hk.block h.lt (hq b rfl))⟩
theorem MapOr.below {w w' : World} {mv : Option Nat} {us : List (Int × Value)} (h : MapOr w (.map mv) us) (hb : Below w.heap.size w w') : MapOr w' (.map mv) us := by
  rcases h with h | ⟨b, e, h⟩
  · exact .inl h
  · exact .inr ⟨b, e, h.below hb h.lt⟩
theorem MapOr.asc {w : World} {mv : Value} {us : List (Int × Value)} (h : MapOr w mv us) : Dk.Asc us := by
  rcases h with ⟨_, rfl⟩ | ⟨b, _, h⟩
  · exact Dk.Asc.nil
  · exact h.asc
/-- m[k] at the i-th number. -/
theorem MapOr.see {w : World} {mv : Option Nat} {us : List (Int × Value)} (h : MapOr w (.map mv) us) (hr : ∀ u ∈ us, 1 ≤ u.1 ∧ u.1 ≤ 4294967296) {i : Nat} {u : Int × Value} (hi : us[i]? = some u) :
    (Instr.lookup 49 (.map mv) (.int .i64 u.1) false).run Try.prog w = .ok u.2 w := by
  have hm := List.mem_of_getElem? hi
  rcases h with ⟨_, rfl⟩ | ⟨b, e, h⟩
  · simp at hm
  · simp only [Value.map.injEq] at e
    subst e
    have hb := hr u hm
    have := h.see (n := u.1) (by omega) (by omega)
    rw [Dk.get_of_mem h.asc (show (u.1, u.2) ∈ us from hm)] at this
    exact this

theorem take_drop_at {α : Type} : ∀ {l : List α} {i : Nat} {u : α}, l[i]? = some u → l = l.take i ++ u :: l.drop (i + 1)
  | [], i, u, h => by simp at h
  | a :: r, 0, u, h => by simp at h; simp [h]
  | a :: r, i + 1, u, h => by
    have := take_drop_at (l := r) (i := i) (by simpa using h)
    simp only [List.take_succ_cons, List.drop_succ_cons, List.cons_append]
    exact congrArg _ this
theorem ints_places {w : World} {base n : Nat} {v : Value} {xs : List Value} {E : TypeId} (h : w.ownsRow base E 1 v n xs) :
    ∃ ao cap, v = .slice ao n cap ∧ n ≤ cap ∧ cap ≤ 9223372036854775807 ∧ (0 < n → ∃ g cur, ao = some ⟨g, 0, none⟩ ∧ w.heap[g]? = some (.cells cur E (0, 0)) ∧ ∀ w' : World, w'.heap[g]? = w.heap[g]? → ∀ j u, xs[j]? = some u → w'.cell? ⟨g, j, none⟩ = some u) := by
  have h' := h
  rcases h.2 with ⟨rfl, h0⟩ | ⟨g, cap, cur, rfl, _, hg, hc, hm, _, _⟩
  · exact ⟨none, 0, by rw [h0], by omega, by omega, fun h => by omega⟩
  · refine ⟨_, cap, rfl, hc, by unfold maxLen at hm; exact hm, fun _ => ⟨g, cur, rfl, hg, fun w' e j u hu => ?_⟩⟩
    have := World.ownsRow.cells h' (g := g) rfl j u hu
    rw [Addr.add_lit, Nat.zero_add] at this
    rw [← this]
    exact World.cell?_of_block e

set_option maxRecDepth 100000 in
set_option maxHeartbeats 2000000 in
theorem sorted_told (q : Nat → Obj → Prop) (mv : Option Nat) (Bn : Nat) (us : List (Int × Value)) (w0 : World) (hqb : ∀ b, mv = some b → ∀ o, q b o) (hqn : ∀ o, q Bn o) (hqi : ∀ k cs fr, q k (.cells cs 3 fr))
    (hBn : Boxed w0 Bn 49 (.map mv)) (hm : MapOr w0 (.map mv) us) (hr : ∀ u ∈ us, 1 ≤ u.1 ∧ u.1 ≤ 4294967296) (hl : us.length ≤ 17592186044416) :
    Told Fence.wide 8 Try.prog 34 #[.pointer (some ⟨Bn, 0, none⟩)] fileArgs (Kp q) (fileGiven us) (fileOver us) w0 := by
  intro lp J A hA hJ hY h0
  have hBA : Boxed A Bn 49 (.map mv) := (hA.block _ hBn.lt).trans hBn
  have hMA := hm.below hA
  have hcA := hBA.cell
  refine callsIn_of_wp Try.func34 rfl trivial ?_ rfl
  simp only [Try.ntmps34, List.size_toArray, List.length_cons, List.length_nil, Nat.reduceAdd, Nat.reduceSub, Array.replicate_succ, Array.replicate_zero, List.push_toArray, List.append_toArray, List.nil_append, List.cons_append]
  have cS := sorted_any mv us A hMA hl
  gi_wp2_with (first
    | (refine ⟨trivial, ?_⟩; gi_at_call 36; refine (callsIn_wide.2 (callsIn_wide.1 (keys_any mv A))).mono ?_; rintro e w1 ⟨rfl, rfl⟩)
    | (refine ⟨trivial, ?_⟩; gi_at_call 35; refine (callsIn_wide.2 (callsIn_wide.1 cS)).mono ?_; rintro e w1 ⟨v1, rfl, ho1, hb1⟩; obtain ⟨ao1, cap1, rfl, hc1, hc2, hp1⟩ := ints_places ho1))
  have hbA : Below A.heap.size A w1 := ((Below.refl _ A).alloc (Nat.le_refl _) _).trans (hb1.mono (by simp))
  have HBA := Lib.hid hbA; have HP1 := Lib.hid hp1; have HMA := Lib.hid hMA; have HBX := Lib.hid hBA; have HL := Lib.hid hl; have HR := Lib.hid hr; have HQI := Lib.hid hqi; have HQN := Lib.hid hqn; have HQB := Lib.hid hqb
  have HJ0 : Hid (J [] w1) := hJ _ _ _ h0 hbA
  have HYY := Lib.hid hY
  obtain ⟨n, hn⟩ : ∃ n, n = us.length := ⟨_, rfl⟩
  rw [← hn] at hc1
  have hn9 : n ≤ 17592186044416 := by omega
  have HN := Lib.hid hn
  rw [← hn]
  clear cS ho1 hb1 hp1 hbA hMA hBA hcA hl hr hqi hqn hqb hBn hm hY h0 hn hA
  gi_loopw [9] (fun x wr => ∃ i : Nat, x = .int .i64 (i : Int) ∧ i ≤ n ∧ J (us.take i) wr ∧ Kp q w1 wr) (fun x _ => n - (intOf x).toNat)
  case atStart => exact ⟨0, rfl, Nat.zero_le _, by simpa using HJ0.out, Kp.refl _ _⟩
  case round =>
    obtain ⟨i, rfl, hin, hJi, hk⟩ := hrel
    have HJI := Lib.hid hJi; have HK := Lib.hid hk
    clear hJi hk
    by_cases hlt : i < n
    · have hint : ((i : Nat) : Int) < (n : Int) := by omega
      obtain ⟨u, hu⟩ : ∃ u, us[i]? = some u := ⟨_, List.getElem?_eq_getElem (by have := HN.out; omega)⟩
      obtain ⟨g, cur, rfl, hgc, hcell⟩ := HP1.out (by have := HN.out; omega)
      have hki : wr.cell? ⟨g, i, none⟩ = some (.int .i64 u.1) := hcell wr ((HK.out.same g _ hgc (HQI.out g cur _)).trans hgc.symm) i _ (by simp [hu])
      have hBw : Boxed wr Bn 49 (.map mv) := HK.out.same Bn _ ((HBA.out.block _ HBX.out.lt).trans HBX.out) (HQN.out _)
      have hcB := hBw.cell
      have hsee := ((HMA.out.below HBA.out).kp HK.out HQB.out).see HR.out hu
      have hgiven : fileGiven us (us.take i) u wr := ⟨us.drop (i + 1), take_drop_at hu⟩
      obtain ⟨fn, tmps, assign, body, hy, hR⟩ := HYY.out (us.take i) u wr HJI.out hgiven
      dsimp only [fileArgs] at hy
      clear hgc hcell hgiven hBw
      gi_wp2
      refine hR.mono ?_
      rintro e W3 ⟨rfl, hJ3, hk3⟩
      gi_wp2
      go_roundw
      case rel => exact ⟨i + 1, by simp, by omega, by rw [List.take_add_one, hu]; exact hJ3, HK.out.trans hk3⟩
      case measure => simp [intOf]; omega
    · have hint : ¬ ((i : Nat) : Int) < (n : Int) := by omega
      gi_wp2
      go_end0
      refine ⟨⟨_, rfl⟩, us, rfl, ?_⟩
      have := HJI.out
      rwa [List.take_of_length_le (by have := HN.out; omega)] at this

end Go.Proofs.Ytffgfjfeoinnfaa
