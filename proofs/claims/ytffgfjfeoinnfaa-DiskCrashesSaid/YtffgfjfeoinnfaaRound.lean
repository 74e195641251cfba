/- A region that draws its order, in the body of a loop over an iterator: walked as everywhere. No program is spoken of. -/
import Derived.Test.YtffgfjfeoinnfaaMem
import Derived.RangeFuncCalls
import Derived.TacticsIn
import Derived.OrdersIn
import Derived.Deep.RegionHeld
namespace Go.Proofs.Ytffgfjfeoinnfaa
open Go.RowKit

/-- What is asked of a region's end, and of no other way out. -/
def OnlyOn (Q : Exit → Act → World → Prop) : Exit → Act → World → Prop
  | .normal, a, w => Q .normal a w
  | _, _, _ => False
theorem OnlyOn.on {Q : Exit → Act → World → Prop} {a : Act} {w : World} (h : Q .normal a w) : OnlyOn Q .normal a w := h
theorem OnlyOn.imp {Q : Exit → Act → World → Prop} : ∀ (e : Exit) (a : Act) (w : World), OnlyOn Q e a w → Q e a w := fun e a w h => by
  cases e <;> first | exact h | exact h.elim
/-- No defer statement. -/
def plainOp (o : Oper) : Bool := match o.op with
  | .defer _ => false
  | _ => true

theorem rows_in {P : Program} {l n : Nat} {row : String} {args : Array Value} {w : World} {R : Value → World → Prop} (h : Rows P row args w R) : RowsIn (Fence.wide.inRound l) n P row args w R := fun c cs _ => by
  obtain ⟨v, w', r, s⟩ := h c cs
  exact ⟨v, w', r, stepsIn_wide.2 s⟩
theorem op_in_round {P : Program} {l n : Nat} {o : Oper} {a : Act} {w : World} {K : Act → World → Prop} {Q : Exit → Act → World → Prop} (hd : plainOp o = true) (h : o.wp P a w K Q) : o.wpIn (Fence.wide.inRound l) n P a w K Q := by
  have hs : o.semAt (some l) a.eval = execOp a.eval o := Oper.semAt_some l a.eval o (fun c e => by simp [plainOp, e] at hd)
  refine ⟨fun _ _ => trivial, ?_⟩
  show o.uponIn (Fence.wide.inRound l) n P a K Q ((o.semAt (some l) a.eval).run P w)
  rw [hs]
  unfold Oper.wp at h
  revert h
  generalize (execOp a.eval o).run P w = r
  intro h
  cases r with
  | ok x w' =>
    cases x with
    | value v => exact h
    | skip => exact h
    | defer d => exact h
    | enter f args => exact ⟨(fun e => by cases e), (callsIn_wide.2 h).inRound l⟩
    | row row args => exact ⟨(fun e => by cases e), rows_in h⟩
    | round _ _ _ _ _ => exact h.elim
    | _ => exact h.elim
  | halt x w' =>
    cases x with
    | panic v => exact h
    | _ => exact h.elim

theorem ops_in_round {P : Program} {l n : Nat} {ops : Array Oper} {Q : Exit → Act → World → Prop} (hd : ∀ (i : Nat) (o : Oper), ops[i]? = some o → plainOp o = true) (hQ : ∀ a w, ¬ Q .outgrown a w) :
    ∀ (is : List Nat) (a : Act) (w : World), wpOps P ops Q is a w → wpOpsIn (Fence.wide.inRound l) n P ops Q is a w
  | [], _, _, h => h
  | i :: rest, a, w, h => by
    unfold wpOps at h
    unfold wpOpsIn
    cases ho : ops[i]? with
    | none =>
      simp only [ho] at h
      exact ops_in_round hd hQ rest a w h
    | some o =>
      simp only [ho] at h
      show if _ then _ else _
      split
      · rename_i hw
        rw [if_pos hw] at h
        rcases h with h | ⟨_, x, y, hx⟩
        · exact Oper.wpIn_mono (fun a w h => ops_in_round hd hQ rest a w h) (op_in_round (hd i o ho) h)
        · exact (hQ x y hx).elim
      · rename_i hw
        rw [if_neg hw] at h
        exact ⟨fun _ _ => trivial, ops_in_round hd hQ rest _ w h⟩

/-- The region, from the world behind the draw. -/
theorem region_round {P : Program} {S : World → Prop} {id n l : Nat} {ops : Array Oper} {Q : Exit → Act → World → Prop} {a : Act} {w : World} (hm : P.follows .mixedOrders = true) (hd : ops.all plainOp = true) (hS : S w.drew)
    (h : S w.drew → wpAnyH P .any ops (OnlyOn Q) S ops.size (Array.replicate ops.size false) a w.drew) : (Code.region id ops true).wpIn (Fence.wide.inRound l) n P Q a w := by
  refine wpIn_mono ?_ (fun e a w hq => OnlyOn.imp e a w hq)
  refine wpIn_region_draw fun t => ?_
  refine ops_in_round (fun i o ho => ?_) (fun _ _ h => h) _ _ _ ?_
  · have := Array.all_eq_true'.1 hd o (Array.mem_of_getElem? ho)
    exact this
  · simp only [Region.schedule, hm, Bool.true_or, if_true]
    exact wpAny_sound ops.size t _ a _ (wpAny_of_held _ _ _ _ (h hS))

end Go.Proofs.Ytffgfjfeoinnfaa
