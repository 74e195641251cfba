/- Slices of bytes: what they read as, and the laws on append, make and copy in those words. No program is spoken of. -/
import Derived.WalkKit
import Derived.ProofKit
import Derived.Lib.Hide
import Derived.Laws.CopyOwn
import Derived.Laws.AppendOwnNone
import Derived.Deep.QuietTactic
import Derived.Laws.IdiomStrings
import Derived.Lib.SlBytesConst
import Derived.WideShapes
import Derived.OpenShut
namespace Go.Proofs.YtammfmmpldahhaaGreat
open Go.RowKit

theorem ret_int {k : IntKind} {a b : Int} (h : a = b) : Ending.returned (.int k a) = .returned (.int k b) := by rw [h]

theorem ret_bool {a b : Bool} (h : a = b) : Ending.returned (.bool a) = .returned (.bool b) := by rw [h]

/-- A list of bytes as the cells that hold it. -/
def cellsOf (l : List UInt8) : List Value := l.map fun c => .int .u8 (c.toNat : Int)
theorem cellsOf_len (l : List UInt8) : (cellsOf l).length = l.length := by simp [cellsOf]
theorem cellsOf_app (l m : List UInt8) : cellsOf (l ++ m) = cellsOf l ++ cellsOf m := by simp [cellsOf]
theorem cellsOf_one (l : List UInt8) : ∀ u ∈ cellsOf l, u.oneCell' = true := by
  intro u hu; obtain ⟨_, _, rfl⟩ := List.mem_map.1 hu; rfl
theorem cellsOf_at {l : List UInt8} {j : Nat} {c : UInt8} (h : l[j]? = some c) : (cellsOf l)[j]? = some (.int .u8 (c.toNat : Int)) := by simp [cellsOf, h]

/-- The slice value v reads as the bytes l. -/
def Reads (w : World) (v : Value) (l : List UInt8) : Prop :=
  ∃ (ao : Option Addr) (cap : Nat), v = .slice ao l.length cap ∧ l.length ≤ cap ∧ cap ≤ maxLen ∧ (ao = none → cap = 0) ∧ ∀ x, ao = some x → ∀ j u, (cellsOf l)[j]? = some u → w.cell? (x.add j) = some u

/-- The slice value v owns the bytes l, in a row of its own among the blocks from base on. -/
def Owns (w : World) (base : Nat) (E : TypeId) (v : Value) (l : List UInt8) : Prop := w.ownsRow base E 1 v l.length (cellsOf l)

theorem Owns.reads {w : World} {base : Nat} {E : TypeId} {v : Value} {l : List UInt8} (h : Owns w base E v l) : Reads w v l := by
  rcases h.2 with ⟨rfl, h0⟩ | ⟨g, cap, cur, rfl, hb, hg, hc, hm, _, _⟩
  · exact ⟨none, 0, by rw [h0], by omega, by simp [maxLen], fun _ => rfl, (fun x hx => by cases hx)⟩
  · refine ⟨_, cap, rfl, hc, hm, (fun h => by cases h), fun x hx j u hu => ?_⟩
    cases hx
    exact World.ownsRow.cells h (g := g) rfl j u hu

theorem Reads.below {w w' : World} {v : Value} {l : List UInt8} (h : Reads w v l) (hb : Below w.heap.size w w') : Reads w' v l := by
  obtain ⟨ao, cap, rfl, h1, h2, h3, h4⟩ := h
  refine ⟨ao, cap, rfl, h1, h2, h3, fun x hx j u hu => ?_⟩
  have hc := h4 x hx j u hu
  rw [← hc]
  exact hb.cell (World.block_lt_of_cell? w _ hc)

/-- Reading needs only that blocks below some number are kept, if the slice lies below it. -/
def Under (v : Value) (B : Nat) : Prop := ∀ x n c, v = .slice (some x) n c → x.block < B

theorem Reads.empty (w : World) : Reads w (.slice none 0 0) [] := ⟨none, 0, rfl, by simp, by simp [maxLen], fun _ => rfl, (fun x hx => by cases hx)⟩

/-- At a byte that there is: the address is a place in a block of cells. -/
theorem Reads.place {w : World} {ao : Option Addr} {n cap : Nat} {l : List UInt8} (h : Reads w (.slice ao n cap) l) (hl : 0 < l.length) :
    ∃ b off, ao = some ⟨b, off, none⟩ ∧ ∀ j c, l[j]? = some c → w.cell? ⟨b, off + j, none⟩ = some (.int .u8 (c.toNat : Int)) := by
  obtain ⟨ao', cap', hv, h1, h2, h3, h4⟩ := h
  simp only [Value.slice.injEq] at hv
  obtain ⟨rfl, rfl, rfl⟩ := hv
  cases ao with
  | none => exact absurd (h3 rfl) (by omega)
  | some x =>
    obtain ⟨b, off, spot⟩ := x
    have hc := h4 _ rfl 0 _ (cellsOf_at (List.getElem?_eq_getElem hl))
    have hspot : spot = none := by simpa [Addr.add] using World.cell?_spot hc
    subst hspot
    refine ⟨b, off, rfl, fun j c hj => ?_⟩
    have := h4 _ rfl j _ (cellsOf_at hj)
    rwa [Addr.add_lit] at this

theorem Reads.len {w : World} {ao : Option Addr} {n cap : Nat} {l : List UInt8} (h : Reads w (.slice ao n cap) l) : n = l.length ∧ l.length ≤ cap ∧ cap ≤ 9223372036854775807 ∧ (ao = none → cap = 0) := by
  obtain ⟨ao', cap', hv, h1, h2, h3, h4⟩ := h
  simp only [Value.slice.injEq] at hv
  obtain ⟨rfl, rfl, rfl⟩ := hv
  exact ⟨rfl, h1, by unfold maxLen at h2; exact h2, h3⟩

theorem Reads.shape {w : World} {v : Value} {l : List UInt8} (h : Reads w v l) : ∃ ao cap, v = .slice ao l.length cap := by
  obtain ⟨ao, cap, rfl, _⟩ := h; exact ⟨ao, cap, rfl⟩

/-- append(out, x..) where out is the call's own and x any slice of bytes. -/
theorem append_bytes {P : Program} {w : World} {ops : Array Oper} {rest : List Oper} {o : Oper} {a : Act} {Q : Exit → Act → World → Prop} (hgd : o.guard = none) (s x : Operand) (t E : TypeId)
    (ho : o.op = .call { callee := .builtin .append, args := #[s, x], argTypes := #[t, t] }) (ht : P.underlying t = some (.slice E))
    (hi : (P.info? E).map (fun i => (i.zero, i.size, i.bytes)) = some (some (.int .u8 0), 1, 1))
    (base : Nat) (l m : List UInt8) (v u : Value) (hs : a.eval s = v) (hx : a.eval x = u) (hown : Owns w base E v l) (hr : Reads w u m)
    (hlen : l.length + m.length ≤ 140737488355328) (w0 : World) (hb : Below base w0 w) (hbase : base ≤ w0.heap.size)
    (h : ∀ v' w', Owns w' base E v' (l ++ m) → Below base w0 w' → w.grownBy w' v.ownBlock → wpList P ops Q rest (a.put o.dst v') w') : wpList P ops Q (o :: rest) a w := by
  obtain ⟨i, h1, h2, h3, h4⟩ := info_parts hi
  obtain ⟨ao, cap, rfl, hc1, hc2, hc3, hc4⟩ := hr
  have hsz := hb.size
  cases ao with
  | none =>
    have h0 := hc3 rfl
    have hm : m = [] := List.eq_nil_of_length_eq_zero (by omega)
    subst hm
    refine wpList_plain hgd fun K hK => ?_
    have hrun := run_append_owned_none (P := P) w base t o.type E i 1 ht h1 v l.length (cellsOf l) hown
    subst h0
    unfold Oper.wp
    simp [execOp, ho, resolve, invoke, builtin, hs, hx, hrun, Result.andThen]
    exact hK _ _ (h _ _ (by simpa using hown) hb (World.grownBy.refl _ _))
  | some ad =>
    refine wpList_append_own w hgd s x t ho base E i (.int .u8 0) 1 1 ht h1 h2 h3 h4 rfl (by decide) v l.length (cellsOf l) hs hown ad m.length cap (cellsOf m) hx (by simp [cellsOf]) (hc4 ad rfl) (cellsOf_one m) (by unfold maxLen; omega) (by omega) (by omega) ?_
    intro v' w' h5 h6 _
    refine h v' w' ?_ (hb.grown h6 (by omega) fun k hk => (World.ownsRow.lt hown k hk).1) h6
    unfold Owns
    rw [List.length_append, cellsOf_app]
    exact h5

/-- What is owned is below whatever is made later. -/
theorem Owns.keep {w w' : World} {base B : Nat} {E : TypeId} {v : Value} {l : List UInt8} (h : Owns w base E v l) (hb : Below B w w') (hB : w.heap.size ≤ B) : Owns w' base E v l := by
  refine ⟨h.1, ?_⟩
  rcases h.2 with hn | ⟨g, cap, cur, rfl, hb', hgg, rest⟩
  · exact .inl hn
  · refine .inr ⟨g, cap, cur, rfl, hb', ?_, rest⟩
    rw [hb.block g (by have := (Array.getElem?_eq_some_iff.1 hgg).1; omega)]
    exact hgg

theorem Owns.alloc {w : World} {base : Nat} {E : TypeId} {v : Value} {l : List UInt8} (h : Owns w base E v l) (o : Obj) : Owns (w.alloc o) base E v l := World.ownsRow.alloc h o
theorem Owns.drew {w : World} {base : Nat} {E : TypeId} {v : Value} {l : List UInt8} (h : Owns w base E v l) : Owns w.drew base E v l := h
theorem Owns.empty (w : World) (base : Nat) (E : TypeId) : Owns w base E (.slice none 0 0) [] := World.ownsRow_nil _ _ _ _

/-- The one byte that is laid in a block of its own ahead of an append. -/
theorem Reads.one (w : World) (E : TypeId) (x : Int) (c : UInt8) (h : x = (c.toNat : Int)) : Reads (w.alloc (.cells #[.int .u8 x] E)) (.slice (some ⟨w.heap.size, 0, none⟩) 1 1) [c] := by
  subst h
  refine ⟨_, 1, rfl, by simp, by simp [maxLen], (fun h => by cases h), fun a ha j u hu => ?_⟩
  cases ha
  match j, hu with
  | 0, hu => simp [cellsOf] at hu; subst hu; simp [Addr.add]
  | j + 1, hu => simp [cellsOf] at hu

/-- []byte{}. -/
theorem Owns.lit0 (w : World) (E : TypeId) : Owns (w.alloc (.cells #[] E)) w.heap.size E (.slice (some ⟨w.heap.size, 0, none⟩) 0 0) [] := World.ownsRow_lit w #[] 0 (Nat.le_refl _) (by simp [maxLen]) rfl

/-- One call behind another. -/
theorem on {w w1 w2 : World} (h : Below w.heap.size w w1) (k : Below w1.heap.size w1 w2) : Below w.heap.size w w2 := h.trans (k.mono h.size)
theorem drawn (w : World) (n : Nat) : Below w.heap.size w (w.drewN n) := ⟨rfl, rfl, rfl, Nat.le_refl _, fun _ _ => rfl⟩

/-- What a call that makes a slice of bytes leaves. -/
def Makes (w : World) (E : TypeId) (l : List UInt8) (e : Ending) (w' : World) : Prop :=
  ∃ v, e = .returned v ∧ Owns w' w.heap.size E v l ∧ Below w.heap.size w w'

theorem made_zeros (n c : Nat) (h : n ≤ c) : (madeCells (Value.int .u8 0).cells (c * 1)).toList.take n = cellsOf (List.replicate n 0) := by
  rw [show (Value.int .u8 0).cells = #[Value.int .u8 0] from rfl, toList_madeCells_one, List.take_replicate]
  simp [cellsOf, show min n c = n by omega]

/-- make([]byte, n, c). -/
theorem make_bytes {P : Program} {w : World} {ops : Array Oper} {rest : List Oper} {o : Oper} {a : Act} {Q : Exit → Act → World → Prop} (hgd : o.guard = none) (lo co : Operand) (t E : TypeId)
    (ho : o.op = Op.makeSlice t lo co) (ht : P.underlying t = some (.slice E))
    (hi : (P.info? E).map (fun i => (i.zero, i.size, i.bytes)) = some (some (.int .u8 0), 1, 1))
    (base n c : Nat) (kl kc : IntKind) (L C : Int) (hl : a.eval lo = .int kl L) (hc : a.eval co = .int kc C) (hL : L = (n : Int)) (hC : C = (c : Int)) (hnc : n ≤ c) (hcap : c ≤ 281474976710656)
    (w0 : World) (hb : Below base w0 w) (hbase : base ≤ w0.heap.size)
    (h : ∀ w', Owns w' base E (.slice (some ⟨w.heap.size, 0, none⟩) n c) (List.replicate n 0) → Below base w0 w' → wpList P ops Q rest (a.put o.dst (.slice (some ⟨w.heap.size, 0, none⟩) n c)) w') : wpList P ops Q (o :: rest) a w := by
  obtain ⟨i, h1, h2, h3, h4⟩ := info_parts hi
  subst hL
  subst hC
  have hsz := hb.size
  have hr := run_make (P := P) w t E i (.int .u8 0) ht h1 h2 kl kc n c (by omega) (by omega) (by rw [h4]; omega) (by omega)
  simp only [Int.toNat_natCast, h3] at hr
  refine wpList_plain hgd fun K hK => ?_
  unfold Oper.wp
  simp [execOp, ho, hl, hc, hr, Result.andThen]
  refine hK _ _ (h _ ?_ ?_)
  · refine ⟨by simp [cellsOf], .inr ⟨w.heap.size, c, _, by simp, by omega, heap_alloc_new w _, by simpa using hnc, by unfold maxLen; omega, by simp [size_madeCells], ?_⟩⟩
    simpa using made_zeros n c hnc
  · exact hb.alloc (by omega) _

/-- copy(out, x) where out is a row of the call's own and x any slice of bytes, no longer than out. -/
theorem copy_bytes {P : Program} {w : World} {ops : Array Oper} {rest : List Oper} {o : Oper} {a : Act} {Q : Exit → Act → World → Prop} (hgd : o.guard = none) (d s : Operand) (dT sT E : TypeId)
    (ho : o.op = .call { callee := .builtin .copy, args := #[d, s], argTypes := #[dT, sT] }) (ht : P.underlying dT = some (.slice E))
    (hi : (P.info? E).map (fun i => (i.zero, i.size, i.bytes)) = some (some (.int .u8 0), 1, 1))
    (base : Nat) (l m : List UInt8) (g n cap : Nat) (u : Value) (hd : a.eval d = .slice (some ⟨g, 0, none⟩) n cap) (hs : a.eval s = u) (hown : Owns w base E (.slice (some ⟨g, 0, none⟩) n cap) l) (hr : Reads w u m)
    (hlen : m.length ≤ l.length) (w0 : World) (hb : Below base w0 w) (hg : base ≤ g)
    (h : ∀ w', Owns w' base E (.slice (some ⟨g, 0, none⟩) n cap) (m ++ l.drop m.length) → Below base w0 w' → w.grownBy w' (some g) → wpList P ops Q rest (a.put o.dst (goInt m.length)) w') : wpList P ops Q (o :: rest) a w := by
  obtain ⟨i, h1, h2, h3, h4⟩ := info_parts hi
  obtain ⟨ao, mcap, rfl, hc1, hc2, hc3, hc4⟩ := hr
  rcases hown.2 with ⟨hv, _⟩ | ⟨g', cap', cur, hv, hbg, hgg, hnc, hcm, hcs, htake⟩
  · simp at hv
  · simp only [Value.slice.injEq, Option.some.injEq, Addr.mk.injEq, and_true] at hv
    obtain ⟨rfl, rfl, rfl⟩ := hv
    refine wpList_plain hgd fun K hK => ?_
    by_cases h0 : m.length = 0
    · obtain rfl : m = [] := List.eq_nil_of_length_eq_zero h0
      have hrun := run_copy_none (P := P) w dT sT o.type E (some ⟨g, 0, none⟩) ao l.length cap 0 mcap ht (by rw [h1]; simp [h3]) (by simp)
      unfold Oper.wp
      simp only [List.length_nil] at hs
      simp [execOp, ho, resolve, invoke, builtin, hd, hs, hrun, Result.andThen]
      exact hK _ _ (h w (by simpa using hown) hb (World.grownBy.refl _ _))
    · obtain ⟨x, rfl⟩ : ∃ x, ao = some x := by
        cases ao with
        | none => exact absurd (hc3 rfl) (by omega)
        | some x => exact ⟨x, rfl⟩
      have hrun := run_copy_row (P := P) w dT sT o.type E g 0 l.length cap x m.length mcap cur E (cellsOf m) ht (by rw [h1]; simp [h3]) hgg (by rw [cellsOf_len]; show _ = min _ _; omega) (hc4 x rfl) (by rw [cellsOf_len, hcs]; omega) (cellsOf_one m)
      unfold Oper.wp
      simp [execOp, ho, resolve, invoke, builtin, hd, hs, hrun, Result.andThen]
      have hrow := setRow_heap w g cur (cellsOf m ++ cur.toList.drop (cellsOf m).length).toArray E _ hgg
      have hkeep : w.grownBy (w.setRow g (cellsOf m ++ cur.toList.drop (cellsOf m).length).toArray) (some g) := ⟨rfl, rfl, rfl, by simp [World.setRow], fun k _ hk => setRow_other w g k _ (fun e => hk (by simp [e]))⟩
      have hnext := h (w.setRow g (cellsOf m ++ cur.toList.drop (cellsOf m).length).toArray) ⟨by simp [cellsOf], .inr ⟨g, cap, _, by simp; omega, hbg, hrow, by simp; omega, hcm, by simp [cellsOf]; omega, ?_⟩⟩ (below_setRow hb hg _) hkeep
      · rw [cellsOf_len] at hnext
        exact hK _ _ (by rw [cellsOf_len]; exact hnext)
      · have e1 : (m ++ l.drop m.length).length = l.length := by simp; omega
        rw [e1, cellsOf_app]
        have e2 : cellsOf (l.drop m.length) = (cellsOf l).drop m.length := by simp [cellsOf, List.map_drop]
        rw [e2, ← htake, List.toList_toArray, List.take_append, cellsOf_len, List.drop_take]
        simp [List.take_of_length_le, cellsOf_len, hlen]

/-- The bytes of a row of numbers. -/
def bytesOf (zs : List Int) : List UInt8 := zs.map fun z => UInt8.ofNat z.toNat

theorem byte_back {z : Int} (h : (Lit.int .u8 z).wf = true) : ((UInt8.ofNat z.toNat).toNat : Int) = z := by
  simp [Lit.wf, IntKind.min, IntKind.max, IntKind.signed, IntKind.bits] at h
  rw [UInt8.toNat_ofNat']
  omega

/-- A slice of bytes that came in reads as its bytes. -/
theorem reads_row {w : World} {a : Option Addr} {len cap : Nat} {zs : List Int}
    (h : (a = none ∧ len = 0 ∧ cap = 0 ∧ zs = []) ∨
      ∃ x, a = some x ∧ len ≤ cap ∧ cap ≤ maxLen ∧ zs.length = cap ∧ (∀ i, i < zs.length → w.cell? (x.add i) = some (.int .u8 (zs.getD i 0))) ∧ ∀ n ∈ zs, (Lit.int .u8 n).wf = true) :
    Reads w (.slice a len cap) (bytesOf (zs.take len)) := by
  rcases h with ⟨rfl, rfl, rfl, rfl⟩ | ⟨x, rfl, hl, hm, hz, hc, hw⟩
  · exact Reads.empty w
  · have e : (bytesOf (zs.take len)).length = len := by simp [bytesOf]; omega
    refine ⟨some x, cap, by rw [e], by omega, hm, (fun h => by cases h), fun y hy j u hu => ?_⟩
    cases hy
    simp only [cellsOf, bytesOf, List.map_map, List.getElem?_map, List.getElem?_take] at hu
    split at hu
    · rename_i hj
      have hjz : j < zs.length := by omega
      have h1 := hc j hjz
      rw [List.getElem?_eq_getElem hjz] at hu
      simp only [Option.map_some, Function.comp, Option.some.injEq] at hu
      rw [h1, ← hu, List.getD_eq_getElem?_getD, List.getElem?_eq_getElem hjz, Option.getD_some, byte_back (hw _ (List.getElem_mem hjz))]
    · simp at hu

theorem i64_bounds {n : Int} (h : (Lit.int .i64 n).wf = true) : -9223372036854775808 ≤ n ∧ n ≤ 9223372036854775807 := by
  simpa [Lit.wf, IntKind.min, IntKind.max, IntKind.signed, IntKind.bits] using h

/-- x[:k]. -/
theorem Reads.take {w : World} {ao : Option Addr} {n cap : Nat} {l : List UInt8} (h : Reads w (.slice ao n cap) l) (k : Nat) (hk : k ≤ l.length) : Reads w (.slice ao k cap) (l.take k) := by
  obtain ⟨ao', cap', hv, h1, h2, h3, h4⟩ := h
  simp only [Value.slice.injEq] at hv
  obtain ⟨rfl, rfl, rfl⟩ := hv
  have e : (l.take k).length = k := by simp; omega
  refine ⟨ao, cap, by rw [e], by omega, h2, h3, fun x hx j u hu => h4 x hx j u ?_⟩
  simp only [cellsOf, List.getElem?_map, List.getElem?_take] at hu ⊢
  split at hu
  · exact hu
  · simp at hu

/-- A block of bytes that has just been laid, whole. -/
theorem Reads.fresh (w : World) (T : TypeId) (l : List UInt8) (n : Nat) (cs : Array Value) (hn : n = l.length) (hc : cs.toList = cellsOf l) (hm : n ≤ 9223372036854775807) (fr : Nat × Nat := (0, 0)) : Reads (w.alloc (.cells cs T fr)) (.slice (some ⟨w.heap.size, 0, none⟩) n n) l := by
  subst hn
  refine ⟨_, _, rfl, Nat.le_refl _, by unfold maxLen; omega, (fun h => by cases h), fun a ha j u hu => ?_⟩
  cases ha
  rw [Addr.add_lit, Nat.zero_add, World.cell?_alloc_mark]
  rw [← hu, ← hc, Array.getElem?_toList]

/-- string(b). -/
theorem run_string_of {P : Program} {w : World} {src dst e : TypeId} {ao : Option Addr} {n cap : Nat} (l : List UInt8) (hs : P.underlying src = some (.slice e)) (he : P.underlying e = some (.int .u8)) (hd : P.underlying dst = some .string) (hr : Reads w (.slice ao n cap) l) :
    (convert src dst (.slice ao n cap)).run P w = .ok (.string ⟨l.toArray⟩) w := by
  obtain ⟨rfl, _, _, hnil⟩ := hr.len
  cases ao with
  | none =>
    have h0 := hnil rfl
    obtain rfl : l = [] := List.eq_nil_of_length_eq_zero (by omega)
    exact run_convert_bytes_nil w src e hs he _ _ dst hd
  | some x =>
    refine run_convert_bytes_back w src dst e x cap l hs he hd fun j hj => ?_
    obtain ⟨ao', cap', hv, _, _, _, h4⟩ := hr
    simp only [Value.slice.injEq] at hv
    obtain ⟨rfl, _, rfl⟩ := hv
    exact h4 x rfl j _ (cellsOf_at (List.getElem?_eq_getElem hj))

theorem Owns.form {w : World} {base : Nat} {E : TypeId} {v : Value} {l : List UInt8} (h : Owns w base E v l) (hl : 0 < l.length) : ∃ g cap, v = .slice (some ⟨g, 0, none⟩) l.length cap ∧ base ≤ g ∧ g < w.heap.size := by
  rcases h.2 with ⟨_, h0⟩ | ⟨g, cap, cur, hv, hb, hg, _⟩
  · omega
  · exact ⟨g, cap, hv, hb, (Array.getElem?_eq_some_iff.1 hg).1⟩
theorem Owns.cell {w : World} {base : Nat} {E : TypeId} {g n cap : Nat} {l : List UInt8} (h : Owns w base E (.slice (some ⟨g, 0, none⟩) n cap) l) (j : Nat) (c : UInt8) (hj : l[j]? = some c) : w.cell? ⟨g, j, none⟩ = some (.int .u8 (c.toNat : Int)) := by
  have := World.ownsRow.cells h (g := g) rfl j _ (cellsOf_at hj)
  rwa [Addr.add_lit, Nat.zero_add] at this
theorem Owns.free {w : World} {base : Nat} {E : TypeId} {g n cap : Nat} {l : List UInt8} (h : Owns w base E (.slice (some ⟨g, 0, none⟩) n cap) l) (j : Nat) : w.frozen? ⟨g, j, none⟩ = false := by
  have hn := h.2
  rcases hn with ⟨h', _⟩ | ⟨g', cap', cur, h', _, hg, _⟩
  · simp at h'
  · simp only [Value.slice.injEq, Option.some.injEq, Addr.mk.injEq, and_true] at h'
    obtain ⟨rfl, _, rfl⟩ := h'
    exact frozen_of_row w g j cur E hg
theorem Owns.store {w : World} {base : Nat} {E : TypeId} {g n cap : Nat} {l : List UInt8} (h : Owns w base E (.slice (some ⟨g, 0, none⟩) n cap) l) (j : Nat) (c : UInt8) (x : Int) (hx : x = (c.toNat : Int)) : Owns (w.setCell ⟨g, j, none⟩ (.int .u8 x)) base E (.slice (some ⟨g, 0, none⟩) n cap) (l.set j c) := by
  subst hx
  rcases h.2 with ⟨h', _⟩ | ⟨g', cap', cur, h', hb, hg, hnc, hcm, hcs, htake⟩
  · simp at h'
  · simp only [Value.slice.injEq, Option.some.injEq, Addr.mk.injEq, and_true] at h'
    obtain ⟨rfl, hn, rfl⟩ := h'
    refine ⟨by simp [cellsOf], .inr ⟨g, cap, cur.setIfInBounds j _, by simp [hn], hb, heap_setCell_same w g j cur E _ hg, by simpa using hnc, hcm, by simpa using hcs, ?_⟩⟩
    rw [Array.toList_setIfInBounds, List.length_set, List.take_set, htake]
    simp [cellsOf, List.map_set]

/-- []byte{}, where the block's number and the base are spelled otherwise. -/
theorem Owns.lit (w : World) (E : TypeId) (base g : Nat) (hg : g = w.heap.size) (hb : base ≤ g) : Owns (w.alloc (.cells #[] E)) base E (.slice (some ⟨g, 0, none⟩) 0 0) [] := by
  subst hg
  exact World.ownsRow_lit w #[] 0 hb (by simp [maxLen]) rfl

/-- A slice of bytes that came in. -/
theorem came_bytes {H : Type} {enc : TypeId × Value → H} {P : Program} {w : World} {b0 base : Nat} {held : Bool} {t e : TypeId} {v : Value} {d : DataW H} {p : List MemPlace} (ht : P.underlying t = some (.slice e)) (he : P.underlying e = some (.int .u8)) (hc : P.cellsOf e = 1)
    (hv : Value.okWide P w .any b0 t v) (h : DataW.Trod enc P w base (fun _ => true) held t v d p) : ∃ l, Reads w v l := by
  obtain ⟨a, len, cap, rfl⟩ := WideShapes.okWide_slice ht hv
  obtain ⟨fuel, hf⟩ := h
  rcases ChangeShapes.open_ints ht he hc hf with ⟨hcs, _⟩ | ⟨x, l, c, zs, hcs, _, hl, hm, hz, _, hcell, hwz⟩
  · simp [Value.cells] at hcs
    obtain ⟨rfl, rfl, rfl⟩ := hcs
    exact ⟨[], Reads.empty w⟩
  · simp [Value.cells] at hcs
    obtain ⟨rfl, rfl, rfl⟩ := hcs
    exact ⟨_, reads_row (zs := zs) (.inr ⟨_, rfl, hl, hm, by simpa using hz, hcell, hwz⟩)⟩

/-- An array of four bytes that came in. -/
theorem came_four {H : Type} {enc : TypeId × Value → H} {P : Program} {w : World} {b0 base : Nat} {sp : Nat → Bool} {held : Bool} {t e : TypeId} {v : Value} {d : DataW H} {p : List MemPlace} (ht : P.underlying t = some (.array 4 e)) (he : P.underlying e = some (.int .u8)) (hce : P.cellsOf e = 1) (hct : P.cellsOf t = 4)
    (hv : Value.okWide P w .any b0 t v) (h : DataW.Trod enc P w base sp held t v d p) : ∃ x0 x1 x2 x3 : Int, v = .agg #[.int .u8 x0, .int .u8 x1, .int .u8 x2, .int .u8 x3] ∧ (0 ≤ x0 ∧ x0 ≤ 255) ∧ (0 ≤ x1 ∧ x1 ≤ 255) ∧ (0 ≤ x2 ∧ x2 ≤ 255) ∧ (0 ≤ x3 ∧ x3 ≤ 255) := by
  obtain ⟨cs, rfl, hsz⟩ : ∃ cs, v = .agg cs ∧ cs.size = P.cellsOf t := by
    simp only [Value.okWide, ht] at hv
    obtain ⟨cs, h1, h2, _⟩ := hv
    exact ⟨cs, h1, h2⟩
  obtain ⟨fuel, hf⟩ := h
  obtain ⟨xs, m, rfl, _, _, hn, hel⟩ := DataW.trod_array ht hf
  rw [hct] at hsz
  have one : ∀ i, i < 4 → ∃ x : Int, cs[i]? = some (.int .u8 x) ∧ 0 ≤ x ∧ x ≤ 255 := by
    intro i hi
    have h1 := hel i hi
    rw [List.getElem?_eq_getElem (by omega), hce, Nat.mul_one] at h1
    obtain ⟨x, e1, _, hw⟩ := DataW.trod_int he h1
    refine ⟨x, ?_, by simpa [Lit.wf, IntKind.min, IntKind.max, IntKind.signed, IntKind.bits] using hw⟩
    have h2 := congrArg (fun l => l[0]?) e1
    simpa [List.getElem?_take, List.getElem?_drop, Value.cells] using h2
  obtain ⟨x0, e0, b0⟩ := one 0 (by omega)
  obtain ⟨x1, e1, b1⟩ := one 1 (by omega)
  obtain ⟨x2, e2, b2⟩ := one 2 (by omega)
  obtain ⟨x3, e3, b3⟩ := one 3 (by omega)
  refine ⟨x0, x1, x2, x3, ?_, b0, b1, b2, b3⟩
  congr 1
  apply Array.ext_getElem?
  intro i
  match i with
  | 0 => exact e0
  | 1 => exact e1
  | 2 => exact e2
  | 3 => exact e3
  | i + 4 => rw [Array.getElem?_eq_none (by omega), Array.getElem?_eq_none (by simp)]

/-- What a law leaves that answers true: nothing that was there has changed. -/
def Truly (w : World) (e : Ending) (w' : World) : Prop := e = .returned (.bool true) ∧ Below w.heap.size w w'

end Go.Proofs.YtammfmmpldahhaaGreat
