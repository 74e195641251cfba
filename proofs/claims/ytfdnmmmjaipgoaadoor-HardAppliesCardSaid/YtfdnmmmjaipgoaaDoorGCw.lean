/- Several texts of mine in one: PkWr CmdPack CmdCode. -/
import Derived.Test.YtfdnmmmjaipgoaaDoorRows
import Derived.Test.YtfdnmmmjaipgoaaDoorPkMem
import Derived.Test.YtfdnmmmjaipgoaaDoorGNum
import Derived.Test.YtfdnmmmjaipgoaaDoorClone
import Derived.Deep.RegionHeld3
import Derived.Deep.RegionLaw
import Derived.Test.YtfdnmmmjaipgoaaDoorGCa
import Derived.Test.YtfdnmmmjaipgoaaDoorGRd
import Derived.Test.YtfdnmmmjaipgoaaDoorCmdChk
namespace Go.Proofs.YtfdnmmmjaipgoaaDoor
open Go.RowKit

/-! Where there is no writer. -/
end Go.Proofs.YtfdnmmmjaipgoaaDoor


namespace Go.Proofs.YtfdnmmmjaipgoaaDoor
open Go.RowKit

/-- Blocks of structs, but the writer's, lie as they lay. -/
def Spares (o : Nat) (w w' : World) : Prop := ∀ (k : Nat) (T : TypeId) (vs : Array Value), k ≠ o → T ≠ 5 → Lies w k T vs → Lies w' k T vs
theorem Spares.refl (o : Nat) (w : World) : Spares o w w := fun _ _ _ _ _ h => h
theorem Spares.trans {o : Nat} {a b c : World} (h : Spares o a b) (k : Spares o b c) : Spares o a c := fun j T vs h1 h2 h3 => k j T vs h1 h2 (h j T vs h1 h2 h3)
theorem Spares.of_below {o : Nat} {w w' : World} (h : Below w.heap.size w w') : Spares o w w' := fun _ _ _ _ _ hl => hl.below h hl.lt
theorem FRow.spares {w w' : World} {lo o : Nat} {v : Value} {b : Nat} {fs : List Cm.F} (h : FRow w lo v b fs) (hs : Spares o w w') (ho : o < lo) : FRow w' lo v b fs := by
  rcases h with ⟨rfl, rfl⟩ | ⟨g, h1, rfl, h2⟩
  · exact .inl ⟨rfl, rfl⟩
  · exact .inr ⟨g, h1, rfl, hs g _ _ (by omega) (by decide) h2⟩

/-! A field got. -/
/-- All blocks of structs but two lie as they lay. -/
def Saves (o b : Nat) (w w' : World) : Prop := ∀ (k : Nat) (T : TypeId) (vs : Array Value), k ≠ o → k ≠ b → Lies w k T vs → Lies w' k T vs
theorem Saves.refl (o b : Nat) (w : World) : Saves o b w w := fun _ _ _ _ _ h => h
theorem Saves.trans {o b : Nat} {x y z : World} (h : Saves o b x y) (k : Saves o b y z) : Saves o b x z := fun j T vs h1 h2 h3 => k j T vs h1 h2 (h j T vs h1 h2 h3)
theorem Saves.of_below {o b : Nat} {w w' : World} (h : Below w.heap.size w w') : Saves o b w w' := fun _ _ _ _ _ hl => hl.below h hl.lt
theorem Saves.of_grown {o b : Nat} {w w' : World} (h : w.grownBy w' (some o)) : Saves o b w w' := fun _ _ _ h1 _ hl => hl.kept h (by intro e; cases e; exact h1 rfl)
theorem Saves.of_grown2 {o b : Nat} {w w' : World} (h : w.grownBy w' (some b)) : Saves o b w w' := fun _ _ _ _ h2 hl => hl.kept h (by intro e; cases e; exact h2 rfl)
theorem FRow.saves {w w' : World} {lo o b : Nat} {v : Value} {fs : List Cm.F} (h : FRow w lo v b fs) (hs : Saves o b w w') (ho : o < lo) (hb : b < lo) : FRow w' lo v b fs := by
  rcases h with ⟨rfl, rfl⟩ | ⟨g, h1, rfl, h2⟩
  · exact .inl ⟨rfl, rfl⟩
  · exact .inr ⟨g, h1, rfl, hs g _ _ (by omega) (by omega) h2⟩

theorem Cm.rnum_res (b : List UInt8) (p : Nat) (er : Int) : ∃ (n : Int) (q : Nat) (e : Int), Cm.rnum b p er = (n, (q : Int), e) ∧ (e ≠ 0 → n = 0) ∧ 0 ≤ n ∧ n ≤ 9223372036854775807 := by
  rcases Cm.rnum_cases b p er with ⟨e, he, hn⟩ | ⟨n, q, _, _, _, hb, hn, _⟩
  · exact ⟨_, _, _, hn, fun _ => rfl, by omega, by omega⟩
  · exact ⟨_, _, _, hn, fun h => absurd rfl h, by omega, by omega⟩
theorem Cm.rtxt_res (b : List UInt8) (p : Nat) (er : Int) (hp : p ≤ b.length) : ∃ (x : List UInt8) (q : Nat) (e : Int), Cm.rtxt b p er = (x, (q : Int), e) ∧ (e ≠ 0 → x = []) ∧ x.length ≤ b.length := by
  rcases Cm.rtxt_cases b p er hp with ⟨e, q, he, hq, hn⟩ | ⟨s, q, _, _, _, hl, hn, _⟩
  · exact ⟨_, _, _, hn, fun _ => rfl, by simp⟩
  · exact ⟨_, _, _, hn, fun h => absurd rfl h, hl⟩

end Go.Proofs.YtfdnmmmjaipgoaaDoor


namespace Go.Proofs.YtfdnmmmjaipgoaaDoor
open Go.RowKit

theorem Cmds.all {w : World} {b : Nat} {c : Cm.Cmd} (h : Cmds w b c) : w.cell? ⟨b, 0, none⟩ = some (.int .i64 c.kind) ∧ w.cell? ⟨b, 1, none⟩ = some (.int .i64 c.client) ∧ w.cell? ⟨b, 2, none⟩ = some (.int .i64 c.seq) ∧ w.cell? ⟨b, 3, none⟩ = some (.string ⟨c.key.toArray⟩) ∧
    w.cell? ⟨b, 4, none⟩ = some (.string ⟨c.val.toArray⟩) ∧ w.cell? ⟨b, 5, none⟩ = some (.string ⟨c.old.toArray⟩) ∧ w.cell? ⟨b, 6, none⟩ = some (.int .i64 c.node) :=
  ⟨h.cell 0 _ rfl, h.cell 1 _ rfl, h.cell 2 _ rfl, h.cell 3 _ rfl, h.cell 4 _ rfl, h.cell 5 _ rfl, h.cell 6 _ rfl⟩

theorem Wr.fresh (T E : TypeId) (w : World) (B : Nat) (hB : B ≤ w.heap.size) : Wr T E (w.alloc (.cells #[.slice none 0 0] T)) B w.heap.size (.slice none 0 0) [] :=
  ⟨hB, Lies.new _ _ _, Owns.empty _ _ _⟩
theorem Cm.fenc_len (c : Cm.Cmd) (hf : c.Fits) (hs : c.Short 1000) (f : Cm.F) : (Cm.fenc c f).length ≤ 1009 := by
  unfold Cm.fenc
  split
  · have := (hf.n f).2
    have := enc_nine (n := (c.n f).toNat) (by omega)
    omega
  · have := hs.s f
    have h9 := enc_nine (n := (c.s f).length) (by omega)
    simp [Pk.text]; omega
theorem Cm.flat_len (c : Cm.Cmd) (hf : c.Fits) (hs : c.Short 1000) : ∀ fs : List Cm.F, (fs.flatMap (Cm.fenc c)).length ≤ 1009 * fs.length := by
  intro fs
  induction fs with
  | nil => simp
  | cons f fs ih => rw [List.flatMap_cons, List.length_append, List.length_cons]; have := Cm.fenc_len c hf hs f; omega

/-! A command that lies in a block, read and stored whole. -/
theorem run_command (w : World) (g : Nat) (c : Cm.Cmd) (h : Cmds w g c) : (loadVar 39 ⟨g, 0, none⟩).run Tryd.prog w = .ok (.agg (Cm.cells c)) w :=
  run_loadVar_row w g _ _ (Cm.cells c) (0, 0) _ h Tryd.underlying39 rfl (by kernel_rfl)
theorem ret_cmd1 {fn : Func} {R : Ending → World → Prop} {a : Act} {w : World} {p : Tmp} {g : Nat} {c : Cm.Cmd} (h : fn.results = #[.cell p 39]) (hp : a.tmps.getD p undef = .pointer (some ⟨g, 0, none⟩))
    (hl : Cmds w g c) (hd : a.defers = []) (hR : R (.returned (.agg (Cm.cells c))) w) : bodyPost Tryd.prog fn R .ret a w := by
  refine bodyPost_ret ?_ hd hR
  rw [results_one h, hp]
  simp [asAddr, Result.andThen, run_command w g c hl]
theorem ret_cmd2 {fn : Func} {R : Ending → World → Prop} {a : Act} {w : World} {p u : Tmp} {g : Nat} {c : Cm.Cmd} (h : fn.results = #[.cell p 39, .tmp u]) (hp : a.tmps.getD p undef = .pointer (some ⟨g, 0, none⟩))
    (hl : Cmds w g c) (hd : a.defers = []) (hR : R (.returned (.tuple #[.agg (Cm.cells c), a.tmps.getD u undef])) w) : bodyPost Tryd.prog fn R .ret a w := by
  refine bodyPost_ret ?_ hd hR
  rw [results_two h, hp]
  simp [asAddr, Result.andThen, run_command w g c hl]

theorem Cm.cells_one (c : Cm.Cmd) : (Cm.cells c).all (·.oneCell') = true := by simp [Cm.cells, Value.oneCell']
theorem Cm.cells_at (c : Cm.Cmd) (j : Nat) (hj : j < 7) : ∃ v, (Cm.cells c)[j]? = some v := ⟨_, Array.getElem?_eq_getElem (show j < (Cm.cells c).size from hj)⟩
set_option maxHeartbeats 1600000 in
theorem store_cmd {ops : Array Oper} {rest : List Oper} {op : Oper} {a : Act} {w : World} {Q : Exit → Act → World → Prop} (hgd : op.guard = none) (x y : Operand) (ho : op.op = .store 39 x y)
    (g : Nat) (c0 c : Cm.Cmd) (hx : a.eval x = .pointer (some ⟨g, 0, none⟩)) (hy : a.eval y = .agg (Cm.cells c)) (hl : Cmds w g c0)
    (h : ∀ w', Cmds w' g c → w.grownBy w' (some g) → wpList Tryd.prog ops Q rest (a.put op.dst undef) w') : wpList Tryd.prog ops Q (op :: rest) a w := by
  have h0 : ∀ j, j < 7 → (w.cell? ⟨g, j, none⟩).isSome = true := by
    intro j hj
    obtain ⟨v, hv⟩ := Cm.cells_at c0 j hj
    rw [hl.cell j v hv]; rfl
  have hone := Cm.cells_one c
  have hL : Cmds (((((((w.setCell ⟨g, 0, none⟩ (.int .i64 c.kind)).setCell ⟨g, 1, none⟩ (.int .i64 c.client)).setCell ⟨g, 2, none⟩ (.int .i64 c.seq)).setCell ⟨g, 3, none⟩ (.string ⟨c.key.toArray⟩)).setCell ⟨g, 4, none⟩ (.string ⟨c.val.toArray⟩)).setCell ⟨g, 5, none⟩ (.string ⟨c.old.toArray⟩)).setCell ⟨g, 6, none⟩ (.int .i64 c.node)) g c :=
    ((((((hl.set 0 _).set 1 _).set 2 _).set 3 _).set 4 _).set 5 _).set 6 _
  have hG : w.grownBy (((((((w.setCell ⟨g, 0, none⟩ (.int .i64 c.kind)).setCell ⟨g, 1, none⟩ (.int .i64 c.client)).setCell ⟨g, 2, none⟩ (.int .i64 c.seq)).setCell ⟨g, 3, none⟩ (.string ⟨c.key.toArray⟩)).setCell ⟨g, 4, none⟩ (.string ⟨c.val.toArray⟩)).setCell ⟨g, 5, none⟩ (.string ⟨c.old.toArray⟩)).setCell ⟨g, 6, none⟩ (.int .i64 c.node)) (some g) :=
    grown_on (grown_on (grown_on (grown_on (grown_on (grown_on (grown_set w g 0 _) (grown_set _ g 1 _)) (grown_set _ g 2 _)) (grown_set _ g 3 _)) (grown_set _ g 4 _)) (grown_set _ g 5 _)) (grown_set _ g 6 _)
  have hf := hl.free
  refine wpList_store_mid hgd _ x y ho g 0 (Cm.cells c) hx hy (fun j hj => ?_) (by kernel_rfl) hone (h _ hL hG)
  rw [Nat.zero_add]
  exact ⟨h0 j hj, hf j⟩
theorem load_cmd {ops : Array Oper} {rest : List Oper} {op : Oper} {a : Act} {w : World} {Q : Exit → Act → World → Prop} (hgd : op.guard = none) (x : Operand) (ho : op.op = .load 39 x)
    (g : Nat) (c : Cm.Cmd) (hx : a.eval x = .pointer (some ⟨g, 0, none⟩)) (hl : Cmds w g c)
    (h : wpList Tryd.prog ops Q rest (a.put op.dst (.agg (Cm.cells c))) w) : wpList Tryd.prog ops Q (op :: rest) a w :=
  wpList_load_mid hgd _ x ho g 0 hx (Cm.cells c).toList _ (fun j v hv => by rw [Nat.zero_add]; exact hl.cell j v (by simpa using hv)) Tryd.underlying39 rfl (by kernel_rfl) h

theorem Cm.checkIn_may {v : Int} {c : Cm.Cmd} (h : Cm.checkIn v c = 0) : Vs.may v = true := by
  unfold Cm.checkIn at h
  cases hm : Vs.may v with
  | true => rfl
  | false => rw [if_pos hm] at h; omega
theorem Cm.bytes_len (v : Int) (c : Cm.Cmd) (hf : c.Fits) (hs : c.Short 1000) : (Cm.bytes v c).length ≤ 6000 := by
  have h1 := enc_nine (n := c.kind.toNat) (by have := hf.k1; omega)
  have h2 := Cm.flat_len c hf hs (Cm.encoded v c.kind)
  have h3 := Cm.encoded_len v c.kind
  unfold Cm.bytes
  rw [List.length_append]
  omega

/-- What an encoding gives. -/
def Encd (w : World) (v : Int) (c : Cm.Cmd) (e : Ending) (w' : World) : Prop :=
  Below w.heap.size w w' ∧ ∃ u, e = .returned (.tuple #[u, .int .i64 (Cm.checkIn v c)]) ∧ Reads w' u (if Cm.checkIn v c = 0 then Cm.bytes v c else [])

theorem Cm.gstep_inv (b : List UInt8) (t : Cm.Cmd × Nat × Int) (f : Cm.F) (hp : t.2.1 ≤ b.length) (hs : t.1.Short b.length) (hf : t.1.Fits) : (Cm.gstep b t f).2.1 ≤ b.length ∧ (Cm.gstep b t f).1.Short b.length ∧ (Cm.gstep b t f).1.Fits := by
  obtain ⟨c, p, er⟩ := t
  dsimp only at hp hs hf
  unfold Cm.gstep
  cases h : f.num with
  | true =>
    rw [if_pos rfl]
    dsimp only
    rcases Cm.rnum_cases b p er with ⟨e, _, hn⟩ | ⟨n, q, _, _, hq, hb, hn, _⟩
    · rw [hn]; exact ⟨by simpa using hp, hs.setN f _, hf.setN f (by omega) (by omega)⟩
    · rw [hn]; exact ⟨by simpa using hq, hs.setN f _, hf.setN f (by simp only; omega) (by simp only; omega)⟩
  | false =>
    rw [if_neg (by simp)]
    dsimp only
    rcases Cm.rtxt_cases b p er hp with ⟨e, q, _, hq, hn⟩ | ⟨s, q, _, _, hq, hl, hn, _⟩
    · rw [hn]; exact ⟨by simpa using hq, hs.setS f (by simp), hf.setS f _⟩
    · rw [hn]; exact ⟨by simpa using hq, hs.setS f hl, hf.setS f _⟩
theorem Cm.fold_inv (b : List UInt8) : ∀ (fs : List Cm.F) (t : Cm.Cmd × Nat × Int), t.2.1 ≤ b.length → t.1.Short b.length → t.1.Fits → (fs.foldl (Cm.gstep b) t).2.1 ≤ b.length ∧ (fs.foldl (Cm.gstep b) t).1.Short b.length ∧ (fs.foldl (Cm.gstep b) t).1.Fits := by
  intro fs
  induction fs with
  | nil => intro t h1 h2 h3; exact ⟨h1, h2, h3⟩
  | cons f fs ih =>
    intro t h1 h2 h3
    obtain ⟨h4, h5, h6⟩ := Cm.gstep_inv b t f h1 h2 h3
    exact ih _ h4 h5 h6
theorem Cm.get_inv (v : Int) (b : List UInt8) : (Cm.get v b 0 0).2.1 ≤ b.length ∧ (Cm.get v b 0 0).1.Short b.length ∧ (Cm.get v b 0 0).1.Fits := by
  unfold Cm.get
  have hS : ∀ n, (Cm.bareOf n).Short b.length := fun n => ⟨by simp [Cm.bareOf], by simp [Cm.bareOf], by simp [Cm.bareOf]⟩
  rcases Cm.rnum_cases b 0 0 with ⟨e, _, hn⟩ | ⟨n, q, _, _, hq, hb, hn, _⟩
  · rw [hn]
    exact Cm.fold_inv b _ _ (by simp) (hS _) (by constructor <;> simp [Cm.bareOf])
  · rw [hn]
    exact Cm.fold_inv b _ _ (by simpa using hq) (hS _) (by constructor <;> simp [Cm.bareOf] <;> omega)

/-- What a decoding gives. -/
def Decd (w : World) (r : Cm.Cmd × Int) (e : Ending) (w' : World) : Prop := e = .returned (.tuple #[.agg (Cm.cells r.1), .int .i64 r.2]) ∧ Below w.heap.size w w'

end Go.Proofs.YtfdnmmmjaipgoaaDoor
