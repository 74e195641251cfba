/- Several texts of mine in one: MgUp MgRevs MgAwake MgCame. -/
import Derived.Test.YtggipagbmmjfbaaGSw
import Derived.Test.YtggipagbmmjfbaaGSx
import Derived.Test.YtggipagbmmjfbaaGSu
import Derived.Test.YtggipagbmmjfbaaElRows
namespace Go.Proofs.Ytggipagbmmjfbaa
open Go.RowKit

/-- What is owned stays where another block turns (its base known). -/
theorem OwnsR.apart {w w' : World} {base g : Nat} {E : TypeId} {k : Nat} {v : Value} {rs : List (Array Value)} (h : OwnsR w base E k v rs) (hg : w.grownBy w' (some g)) (hlt : g < base) : OwnsR w' base E k v rs := by
  refine ⟨h.1, ?_⟩
  rcases h.2 with hn | ⟨j, cap, cur, rfl, hb', hgg, rest⟩
  · exact .inl hn
  · exact .inr ⟨j, cap, cur, rfl, hb', (hg.block j (Array.getElem?_eq_some_iff.1 hgg).1 (by simp; omega)).trans hgg, rest⟩
/-- What a call leaves that makes a state: the sessions lie behind the pairs. -/
def MadeC (w : World) (s : Mg.St) (e : Ending) (w' : World) : Prop := ∃ vp vs B, e = .returned (.agg (Mg.cells s.schema vp vs)) ∧ OwnsR w' w.heap.size 61 3 vp (s.pairs.map Kv.cells) ∧ (∀ j, vp.ownBlock = some j → j < B) ∧ w.heap.size ≤ B ∧ OwnsR w' B 52 8 vs (s.sess.map Se.cells) ∧ B ≤ w'.heap.size ∧ Below w.heap.size w w'
theorem MadeC.gives {w : World} {s : Mg.St} (e : Ending) (w' : World) (h : MadeC w s e w') : GivesSt w s e w' := by
  obtain ⟨vp, vs, B, he, h1, _, _, h2, _, h3⟩ := h
  exact ⟨vp, vs, he, ⟨h1.reads (Kv.sized _), h2.reads (Se.sized _)⟩, h3⟩
/-- What a call leaves that makes a state. -/
def MadeSt (w : World) (s : Mg.St) (e : Ending) (w' : World) : Prop := ∃ vp vs, e = .returned (.agg (Mg.cells s.schema vp vs)) ∧ OwnsR w' w.heap.size 61 3 vp (s.pairs.map Kv.cells) ∧ OwnsR w' w.heap.size 52 8 vs (s.sess.map Se.cells) ∧ Below w.heap.size w w'
theorem MadeSt.gives {w : World} {s : Mg.St} (e : Ending) (w' : World) (h : MadeSt w s e w') : GivesSt w s e w' := by
  obtain ⟨vp, vs, he, h1, h2, h3⟩ := h
  exact ⟨vp, vs, he, ⟨h1.reads (Kv.sized _), h2.reads (Se.sized _)⟩, h3⟩
theorem OwnsR.sl {w : World} {base : Nat} {E : TypeId} {k : Nat} {v : Value} {rs : List (Array Value)} (h : OwnsR w base E k v rs) : ∃ o n c, v = .slice o n c := by
  obtain ⟨o, c, e⟩ := h.shape
  exact ⟨_, _, _, e⟩

/-- What a call leaves that migrates a state, or tells why not. -/
def MadeUp (w : World) (q : Mg.St × Int) (e : Ending) (w' : World) : Prop := ∃ vp vs, e = .returned (.tuple #[.agg (Mg.cells q.1.schema vp vs), .int .i64 q.2]) ∧ OwnsR w' w.heap.size 61 3 vp (q.1.pairs.map Kv.cells) ∧ OwnsR w' w.heap.size 52 8 vs (q.1.sess.map Se.cells) ∧ Below w.heap.size w w'

end Go.Proofs.Ytggipagbmmjfbaa


namespace Go.Proofs.Ytggipagbmmjfbaa
open Go.RowKit

/-- append(out, p) onto a row of the call's own: the element has been laid in a block ahead. -/
theorem append_kv {ops : Array Oper} {rest : List Oper} {o : Oper} {a : Act} {Q : Exit → Act → World → Prop} (hgd : o.guard = none) (s x : Operand)
    (ho : o.op = .call { callee := .builtin .append, args := #[s, x], argTypes := #[22, 22] })
    (w : World) (base : Nat) (l : List Kv.Item) (v : Value) (e : Kv.Item) (hs : a.eval s = v) (hx : a.eval x = .slice (some ⟨w.heap.size, 0, none⟩) 1 1) (hown : OwnsR w base 61 3 v (l.map Kv.cells)) (hlen : l.length ≤ 1048576)
    (w0 : World) (hb : Below base w0 w) (hbase : base ≤ w0.heap.size)
    (h : ∀ v' w', OwnsR w' base 61 3 v' ((l ++ [e]).map Kv.cells) → Below base w0 w' → wpList Try.prog ops Q rest (a.put o.dst v') w') : wpList Try.prog ops Q (o :: rest) a (w.alloc (.cells (Kv.cells e) 61)) := by
  refine append_rows hgd s x 22 61 3 40 (.agg (Kv.cells Kv.zero)) ho Try.underlying22 info_kv rfl (by decide) base (l.map Kv.cells) [Kv.cells e] v _ hs hx (hown.alloc _) (ReadsR.single (Lies.new w _ _)) (Kv.sized [e]) (by simp; omega) (by simp; omega) w0 (hb.alloc (by have := hb.size; omega) _) hbase fun v' w' h1 h2 _ => h v' w' ?_ h2
  rw [List.map_append]
  exact h1
/-- A load of a pair, its cells spelt out. -/
theorem load_lit3 {ops : Array Oper} {rest : List Oper} {op : Oper} {a : Act} {w : World} {Q : Exit → Act → World → Prop} (hgd : op.guard = none) (x : Operand) (ho : op.op = .load 61 x)
    (g o : Nat) (s : Kv.Item) (hx : a.eval x = .pointer (some ⟨g, o, none⟩)) (hl : KvAt w g o s)
    (h : wpList Try.prog ops Q rest (a.put op.dst (.agg #[.string ⟨s.key.toArray⟩, .string ⟨s.val.toArray⟩, .int .i64 s.rev])) w) : wpList Try.prog ops Q (op :: rest) a w :=
  load_kv hgd x ho g o s hx hl h
/-- The revision of a pair in a block stored anew. -/
theorem store_kvrev {ops : Array Oper} {rest : List Oper} {op : Oper} {a : Act} {w : World} {Q : Exit → Act → World → Prop} {g : Nat} (hgd : op.guard = none) (x y : Operand) (ho : op.op = .store 3 x y) (p : Kv.Item) (r : Int) (hx : a.eval x = .pointer (some ⟨g, 2, none⟩)) (hy : a.eval y = .int .i64 r) (hl : Kvs w g p)
    (h : ∀ w', Kvs w' g (Mg.rev r p) → w.grownBy w' (some g) → wpList Try.prog ops Q rest (a.put op.dst undef) w') : wpList Try.prog ops Q (op :: rest) a w :=
  store_part hgd _ x y ho g 2 61 _ (Kv.cells (Mg.rev r p)) (.int .i64 r) [.int .i64 r] hx hy rfl (by kernel_rfl) rfl hl (Nat.le_of_ble_eq_true rfl) rfl fun w' h1 h2 => h w' h1 h2
theorem Mg.rev_take (r : Int) {l : List Kv.Item} {k : Nat} {p : Kv.Item} (h : l[k]? = some p) : (l.take (k + 1)).map (Mg.rev r) = (l.take k).map (Mg.rev r) ++ [Mg.rev r p] := by
  rw [List.take_add_one, h, List.map_append]
  rfl

end Go.Proofs.Ytggipagbmmjfbaa


namespace Go.Proofs.Ytggipagbmmjfbaa
open Go.RowKit

def Mg.asked : Mg.St := ⟨1, [⟨[97], [49], 0⟩], []⟩
def Mg.told : Mg.St := ⟨2, [⟨[97], [49], 1⟩], []⟩
theorem Mg.asked_up : Mg.up Mg.asked = (Mg.told, 0) := by decide +kernel
theorem Mg.asked_few : Mg.asked.Few := ⟨by decide, by intro e he; simp [Mg.asked] at he; subst he; decide, by intro e he; simp [Mg.asked] at he, by decide⟩

structure Mg.St.Came (s : Mg.St) : Prop where
  kv : ∀ e ∈ s.pairs, e.key.length ≤ 9223372036854775807 ∧ e.val.length ≤ 9223372036854775807
  ses : ∀ e ∈ s.sess, e.last.val.length ≤ 9223372036854775807

end Go.Proofs.Ytggipagbmmjfbaa


namespace Go.Proofs.Ytggipagbmmjfbaa
open Go.RowKit

section
variable {H : Type} {enc : TypeId × Value → H} {w : World} {b0 base : Nat} {held : Bool}
set_option maxRecDepth 20000 in
theorem el_st (m : Nat) (cs : List Value) (y : DataW H × List MemPlace) (h : DataW.trod enc Try.prog w base (fun _ => true) held m 25 cs = some y) :
    ∃ (a : Mg.St) (vp vs : Value), cs = (Mg.cells a.schema vp vs).toList ∧ StR w a vp vs ∧ a.Came := by
  obtain ⟨ys, n, _, _, hl, hlen, hat⟩ := DataW.trod_struct Try.underlying25 h
  have hce : Try.prog.cellsOf 25 = 3 := by kernel_rfl
  have hci : Try.prog.cellsOf 3 = 1 := by kernel_rfl
  have hcp : Try.prog.cellsOf 22 = 1 := by kernel_rfl
  have hcs : Try.prog.cellsOf 23 = 1 := by kernel_rfl
  have g0 := hat 0 _ rfl
  have g1 := hat 1 _ rfl
  have g2 := hat 2 _ rfl
  rw [List.getElem?_eq_getElem (by rw [hlen]; simp)] at g0 g1 g2
  have g0' : DataW.trod enc Try.prog w base (fun _ => true) held n 3 ((cs.drop 0).take (Try.prog.cellsOf 3)) = some _ := g0
  obtain ⟨bs, e0, a0, b0⟩ := one_int Try.underlying3 g0' hci
  have g1' : DataW.trod enc Try.prog w base (fun _ => true) held n 22 ((cs.drop 1).take (Try.prog.cellsOf 22)) = some _ := g1
  rw [hcp] at g1'
  obtain ⟨vp, l, e1, hrp, hfp⟩ := el_rows Kv.cells (fun s => s.key.length ≤ 9223372036854775807 ∧ s.val.length ≤ 9223372036854775807) Try.underlying22 (by kernel_rfl) (fun m cs y hm => el_kv m cs y hm) g1'
  have g2' : DataW.trod enc Try.prog w base (fun _ => true) held n 23 ((cs.drop 2).take (Try.prog.cellsOf 23)) = some _ := g2
  rw [hcs] at g2'
  obtain ⟨vs, k, e2, hrs, hfs⟩ := el_rows Se.cells (fun s => s.Fits ∧ s.last.val.length ≤ 9223372036854775807) Try.underlying23 (by kernel_rfl) (fun m cs y hm => el_ses m cs y hm) g2'
  rw [hce] at hl
  obtain ⟨c0, c1, c2, rfl⟩ : ∃ c0 c1 c2, cs = [c0, c1, c2] := by
    match cs, hl with
    | [c0, c1, c2], _ => exact ⟨_, _, _, rfl⟩
  refine ⟨⟨bs, l, k⟩, vp, vs, ?_, ⟨hrp, hrs⟩, ⟨hfp, fun s h => (hfs s h).2⟩⟩
  simp at e0 e1 e2
  simp [Mg.cells, e0, e1, e2]
set_option maxRecDepth 20000 in
theorem came_st {v : Value} {d : DataW H} {p : List MemPlace} (hv : Value.okWide Try.prog w .any b0 25 v) (h : DataW.Trod enc Try.prog w base (fun _ => true) held 25 v d p) :
    ∃ (a : Mg.St) (vp vs : Value), v = .agg (Mg.cells a.schema vp vs) ∧ StR w a vp vs ∧ a.Came := by
  obtain ⟨cs, rfl, hsz⟩ := WideShapes.okWide_struct Try.underlying25 hv
  obtain ⟨fuel, hf⟩ := h
  obtain ⟨a, vp, vs, he, hrest⟩ := el_st fuel _ _ hf
  refine ⟨a, vp, vs, ?_, hrest⟩
  have : cs.toList = (Mg.cells a.schema vp vs).toList := he
  rw [Array.toList_inj.1 this]
end

end Go.Proofs.Ytggipagbmmjfbaa
