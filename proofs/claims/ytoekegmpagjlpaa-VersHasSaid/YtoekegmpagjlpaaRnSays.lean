/- Words for calls that only read, and for calls that find something. No program is spoken of. -/
import Derived.Test.YtoekegmpagjlpaaKit
namespace Go.Proofs.Ytoekegmpagjlpaa
open Go.RowKit

/-- A call that only reads and makes nothing: the world is the same. -/
def Says (w : World) (v : Value) (e : Ending) (w' : World) : Prop := e = .returned v ∧ w = w'

/-- A call that tells v, and leaves all that there was as it was. -/
def Finds (w : World) (v : Value) (e : Ending) (w' : World) : Prop := e = .returned v ∧ Below w.heap.size w w'
end Go.Proofs.Ytoekegmpagjlpaa
