/- A region that draws its order, whose operations only read, and whose callees read, draw, and may lay blocks of their own: walked once, in the order of the text. No program is spoken of. -/
import Derived.Test.YtammfmmpldahhaaGreatLie
import Derived.Deep.QuietTactic
import Derived.BigQuiet
namespace Go.Proofs.YtammfmmpldahhaaGreat
open Go.RowKit

/-- A world behind w: what was there is as it was. -/
structure Behind (w : World) where
  world : World
  below : Below w.heap.size w world
instance (w : World) : Inhabited (Behind w) := ⟨⟨w, Below.refl _ w⟩⟩

theorem wp_region_behind {P : Program} {id : Nat} {Q : Exit → Act → World → Prop} {a : Act} {w : World} {l : List Oper} (hm : P.follows .mixedOrders = true) (hB : Region.lexB .any l.toArray = true)
    (h : wpQuiet P l.toArray (fun w' => ∃ p : Behind w, w' = p.world) (fun a' => ∀ w', (∃ p : Behind w, w' = p.world) → Q .normal a' w') l a) : (Code.region id l.toArray true).wp P Q a w :=
  wp_region_quiet (C := fun w' => ∃ p : Behind w, w' = p.world) hm hB ⟨⟨w.drewN 1, drawn w 1⟩, rfl⟩ (by simpa using h)

/-- A callee's contract, met in such a world. -/
theorem Looks.behind {P : Program} {f : FuncId} {args : Array Value} {w : World} {p : Behind w} {v : Value} (h : Calls P f args p.world (Looks p.world v)) :
    Calls P f args p.world fun e w'' => e = .returned v ∧ ∃ q : Behind w, w'' = q.world :=
  h.mono fun _ w' ⟨he, hb⟩ => ⟨he, ⟨w', p.below.trans (hb.mono p.below.size)⟩, rfl⟩
theorem Truly.behind {P : Program} {f : FuncId} {args : Array Value} {w : World} {p : Behind w} (h : Calls P f args p.world (Truly p.world)) :
    Calls P f args p.world fun e w'' => e = .returned (.bool true) ∧ ∃ q : Behind w, w'' = q.world :=
  h.mono fun _ w' ⟨he, hb⟩ => ⟨he, ⟨w', p.below.trans (hb.mono p.below.size)⟩, rfl⟩
theorem Says.behind {P : Program} {f : FuncId} {args : Array Value} {w : World} {p : Behind w} {v : Value} (h : Calls P f args p.world (Says p.world v)) :
    Calls P f args p.world fun e w'' => e = .returned v ∧ ∃ q : Behind w, w'' = q.world :=
  h.mono fun _ _ ⟨he, hb⟩ => ⟨he, p, hb.symm⟩

end Go.Proofs.YtammfmmpldahhaaGreat
