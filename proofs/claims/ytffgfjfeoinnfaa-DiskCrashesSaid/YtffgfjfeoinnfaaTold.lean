/- A loop over an iterator whose rounds are told what lies in memory when a value is handed over. No program is spoken of. -/
import Derived.Test.YtffgfjfeoinnfaaMem
import Derived.RangeFuncBound
import Derived.RangeFuncCalls
namespace Go.Proofs.Ytffgfjfeoinnfaa
open Go.RowKit

/-- The iterator's contract: a round at x is asked for where gives says so of what has come, x and the world; behind all rounds over says so of what has come and the world. No round leaves early. -/
def Told {α : Type} (F : Fence) (n : Nat) (P : Program) (f : Nat) (held : Array Value) (encs : α → Array Value) (keeps : World → World → Prop) (gives : List α → α → World → Prop) (over : List α → World → Prop) (w : World) : Prop :=
  ∀ (l : Nat) (J : List α → World → Prop) (A : World), Below w.heap.size w A →
    (∀ pre B C, J pre B → Below B.heap.size B C → J pre C) →
    (∀ pre x B, J pre B → gives pre x B → YieldAt F (n - 1) P l (encs x) B fun e C => e = .returned (.bool true) ∧ J (pre ++ [x]) C ∧ keeps B C) →
    J [] A → CallsIn F n P f (#[.func (.yield l) #[] #[]] ++ held) A fun e B => (∃ v, e = .returned v) ∧ ∃ xs, over xs B ∧ J xs B

/-- How a round's body must end. -/
def roundTold {α : Type} (keeps : World → World → Prop) (I : List α → World → Prop) (base : Nat) (xs : List α) (A : World) : Exit → Act → World → Prop
  | .normal, _, B => KeepsFrom base A B ∧ keeps A B ∧ I xs B
  | .ret, _, _ => False
  | .exit _, _, _ => False
  | .goto _, _, _ => False
  | .panic _, _, _ => False
  | .outgrown, _, _ => False

theorem range_told {α : Type} {F : Fence} {n : Nat} {P : Program} {g : Operand} {ps : Array Tmp} {assign body : Code} {Q : Exit → Act → World → Prop} {a : Act} {w : World}
    (hro : F.round = none) (h1 : 1 ≤ n) {f : Nat} {held : Array Value} (hg : a.eval g = .func (.func f) #[] held) (hF : F.fn f) (hen : ∀ args w, (callFunc f args).run P w = .ok (.enter f args) w)
    {encs : α → Array Value} {keeps : World → World → Prop} {gives : List α → α → World → Prop} {over : List α → World → Prop} {w0 : World} (hseq : Told F (n - 1) P f held encs keeps gives over w0) (hb0 : Below w0.heap.size w0 w)
    (hkt : ∀ {A B C : World}, keeps A B → keeps B C → keeps A C) (hkb : ∀ (A : World) (l : Nat) (o o' : Obj), w.heap.size ≤ l → A.heap[l]? = some o → o.isCells = false → keeps A (A.putObj l o')) (hps : ∀ x, (encs x).size = ps.size)
    (I : List α → World → Prop) (hI : OwnFrom w.heap.size I) (hG : OwnFrom w.heap.size (fun (p : List α × α) => gives p.1 p.2)) (hO : OwnFrom w.heap.size over) (h0 : I [] w) (a₁ : α → Act)
    (hassign : ∀ (l : Nat) (x : α) (A : World) (K : Act → World → Prop), K (a₁ x) A →
      assign.wpIn (F.inRound l) (n - 1 - 1) P (Exit.then K (fun _ _ _ => False)) { tmps := (ps.zip (encs x)).foldl (fun t (p, v) => t.setIfInBounds p v) a.tmps, defers := [] } A)
    (hbody : ∀ (l : Nat) (pre : List α) (x : α) (A : World), I pre A → gives pre x A → w.heap.size ≤ A.heap.size → body.wpIn (F.inRound l) (n - 1 - 1) P (roundTold keeps I w.heap.size (pre ++ [x]) A) (a₁ x) A)
    (hdone : ∀ (D : Nat) (xs : List α) (A : World), w.heap.size ≤ D → over xs A → I xs A → A.heap[D]? = some (.deferred (some [])) → Q .normal { a with defers := { target := .collected D, args := #[] } :: a.defers } A) :
    (Code.rangeFunc g ps assign body).wpIn F n P Q a w := by
  apply wpIn_rangeFunc
  intro fn hfn
  rw [hro]
  let rc (st : LoopState) (pe : Option Code) : Obj := .loop { state := st, pending := pe, fn := fn, tmps := a.tmps, params := ps, assign := assign, body := body, defers := w.heap.size }
  have hrun := run_enterLoop_outer (P := P) (w := w) fn a.tmps ps assign body
  obtain ⟨A0, hA0⟩ : ∃ A0, A0 = (w.alloc (.deferred (some []))).alloc (rc .ready none) := ⟨_, rfl⟩
  have hrun' : (Instr.enterLoop fn a.tmps ps assign body none).run P w = .ok (w.heap.size + 1, [{ target := .collected w.heap.size, args := #[] }]) A0 := by rw [hA0]; exact hrun
  have hgw : Below w.heap.size w A0 := by rw [hA0]; exact ((Below.refl _ w).alloc (Nat.le_refl _) _).alloc (by simp) _
  have hL : A0.heap[w.heap.size + 1]? = some (rc .ready none) := by
    have := World.alloc_heap_new (w.alloc (.deferred (some []))) (rc .ready none)
    rw [World.size_alloc] at this
    rw [hA0]; exact this
  have hD : A0.heap[w.heap.size]? = some (.deferred (some [])) := by
    rw [hA0]; exact (Below.heap_alloc _ _ _ (by simp)).trans (World.alloc_heap_new w _)
  have new : ∀ {β : Type} {R : β → World → Prop} {s : β} {B C : World}, OwnFrom w.heap.size R → R s B → Below B.heap.size B C → R s C := fun h hs hb => h _ _ _ none hs (grown_of_below hb) (fun r e => by cases e)
  have put : ∀ {β : Type} {R : β → World → Prop} {s : β} {B : World} {o : Obj} (o' : Obj), OwnFrom w.heap.size R → R s B → B.heap[w.heap.size + 1]? = some o → o.isCells = false → R s (B.putObj (w.heap.size + 1) o') := fun o' h hs hl ho => h.putObj o' hs (by omega) hl ho
  refine ⟨w.heap.size + 1, _, A0, { target := .fn (.func f) held, args := #[.func (.yield (w.heap.size + 1)) #[] #[]] }, A0, f, #[.func (.yield (w.heap.size + 1)) #[] #[]] ++ held, A0, hrun', ?_, ?_, ?_, fun _ => h1, ?_⟩
  · simp only [resolve, hg]; simp [go_sem]
  · intro f' e; simp [Target.leads] at e; subst e; exact hF
  · simp [invoke, go_sem, hen]
  refine (hseq (w.heap.size + 1) (fun pre B => I pre B ∧ B.heap[w.heap.size + 1]? = some (rc .ready none) ∧ B.heap[w.heap.size]? = some (.deferred (some []))) A0 (hb0.trans (hgw.mono hb0.size))
    (fun pre B C hJ hb => ⟨new hI hJ.1 hb, (hb.block _ (Array.getElem?_eq_some_iff.1 hJ.2.1).1).trans hJ.2.1, (hb.block _ (Array.getElem?_eq_some_iff.1 hJ.2.2).1).trans hJ.2.2⟩) ?_
    ⟨new hI h0 hgw, hL, hD⟩).mono ?_
  · -- a round
    rintro pre x B ⟨hi, hl, hd⟩ hgv
    have hlt := (Array.getElem?_eq_some_iff.1 hl).1
    refine ⟨fn, _, assign, body, run_yield hl (hps x), roundIn_of_wpIn hfn (hassign _ x B _ ⟨_, run_beginRound hl rfl, ?_⟩)⟩
    have hl2 : (B.putObj (w.heap.size + 1) (rc .busy none)).heap[w.heap.size + 1]? = some (rc .busy none) := World.putObj_heap_same hlt
    have hd2 : (B.putObj (w.heap.size + 1) (rc .busy none)).heap[w.heap.size]? = some (.deferred (some [])) := (World.putObj_heap_other (by omega)).trans hd
    refine wpIn_mono (hbody _ pre x _ (put _ hI hi hl rfl) (put (s := (pre, x)) _ hG hgv hl rfl) (by simp; omega)) ?_
    intro e a3 C hC
    cases e with
    | normal =>
      obtain ⟨hk, hkk, hi3⟩ := hC
      have hl3 := hk.same _ _ (by omega) hl2 rfl
      have hd3 := hk.same _ _ (by omega) hd2 rfl
      refine ⟨_, _, run_endRound none hl3, rfl, ⟨put _ hI hi3 hl3 rfl, World.putObj_heap_same (Array.getElem?_eq_some_iff.1 hl3).1, (World.putObj_heap_other (by omega)).trans hd3⟩, ?_⟩
      exact hkt (hkt (hkb _ _ _ _ (by omega) hl rfl) hkk) (hkb _ _ _ _ (by omega) hl3 rfl)
    | ret => exact hC.elim
    | exit _ => exact hC.elim
    | goto _ => exact hC.elim
    | panic _ => exact hC.elim
    | outgrown => exact hC.elim
  · -- behind the iterator
    rintro e B ⟨⟨v, rfl⟩, xs, hov, hi, hl, hd⟩
    exact ⟨none, _, run_endLoop hl (by simp), hdone _ xs _ (Nat.le_refl _) (put _ hO hov hl rfl) (put _ hI hi hl rfl) ((World.putObj_heap_other (by omega)).trans hd)⟩
end Go.Proofs.Ytffgfjfeoinnfaa
