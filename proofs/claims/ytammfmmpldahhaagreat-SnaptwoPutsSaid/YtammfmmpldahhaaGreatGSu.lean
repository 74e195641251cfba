/- Several texts of mine in one: KvMem KwRow KvCopy KwCh KvChk KwChk. -/
import Derived.Test.YtammfmmpldahhaaGreatGSt
import Derived.Test.YtammfmmpldahhaaGreatCmdCell
import Derived.Test.YtammfmmpldahhaaGreatAnsMem
import Derived.Test.YtammfmmpldahhaaGreatRows
import Derived.Test.YtammfmmpldahhaaGreatOwn
import Derived.Deep.MidRow
import Derived.Lib.AppendZerosOnto
import Derived.ArgAppend
import Derived.Test.YtammfmmpldahhaaGreatOnce
namespace Go.Proofs.YtammfmmpldahhaaGreat
open Go.RowKit

/-- A pair lies in a block. -/
abbrev Kvs (w : World) (g : Nat) (p : Kv.Item) : Prop := Lies w g 62 (Kv.cells p)
/-- Three cells in a row are a pair's. -/
structure KvAt (w : World) (g o : Nat) (p : Kv.Item) : Prop where
  c0 : w.cell? ⟨g, o, none⟩ = some (.string ⟨p.key.toArray⟩)
  c1 : w.cell? ⟨g, o + 1, none⟩ = some (.string ⟨p.val.toArray⟩)
  c2 : w.cell? ⟨g, o + 2, none⟩ = some (.int .i64 p.rev)
theorem KvAt.of {w : World} {g o : Nat} {p : Kv.Item} (h : ∀ j u, (Kv.cells p)[j]? = some u → w.cell? ⟨g, o + j, none⟩ = some u) : KvAt w g o p := ⟨h 0 _ rfl, h 1 _ rfl, h 2 _ rfl⟩
theorem Kvs.at {w : World} {g : Nat} {p : Kv.Item} (h : Kvs w g p) : KvAt w g 0 p := ⟨h.cell 0 _ rfl, h.cell 1 _ rfl, h.cell 2 _ rfl⟩
theorem Kvs.three {w : World} {g : Nat} {p : Kv.Item} (h : Kvs w g p) : w.cell? ⟨g, 0, none⟩ = some (.string ⟨p.key.toArray⟩) ∧ w.cell? ⟨g, 1, none⟩ = some (.string ⟨p.val.toArray⟩) ∧ w.cell? ⟨g, 2, none⟩ = some (.int .i64 p.rev) :=
  ⟨h.cell 0 _ rfl, h.cell 1 _ rfl, h.cell 2 _ rfl⟩
theorem guard_kv : Tryz.prog.eqGuardType Tryz.prog.depth 62 = false := by kernel_rfl
theorem Kv.ext_iff (a b : Kv.Item) : a = b ↔ a.key = b.key ∧ a.val = b.val ∧ a.rev = b.rev := by
  obtain ⟨c, q, k⟩ := a
  obtain ⟨c', q', k'⟩ := b
  simp only [Kv.Item.mk.injEq]
theorem run_neq_kv (w : World) (a b : Kv.Item) : (binOp .neq 62 (.agg (Kv.cells a)) (.agg (Kv.cells b))).run Tryz.prog w = .ok (.bool (!decide (a = b))) w := by
  have hu := Tryz.underlying62
  rw [show decide (a = b) = decide (a.key = b.key ∧ a.val = b.val ∧ a.rev = b.rev) from decide_eq_decide.2 (Kv.ext_iff a b)]
  obtain ⟨c, q, k⟩ := a
  obtain ⟨c', q', k'⟩ := b
  dsimp only [Kv.cells]
  go_simp
  repeat' split
  all_goals simp_all
theorem run_eql_kv (w : World) (a b : Kv.Item) : (binOp .eql 62 (.agg (Kv.cells a)) (.agg (Kv.cells b))).run Tryz.prog w = .ok (.bool (decide (a = b))) w := by
  have hu := Tryz.underlying62
  rw [show decide (a = b) = decide (a.key = b.key ∧ a.val = b.val ∧ a.rev = b.rev) from decide_eq_decide.2 (Kv.ext_iff a b)]
  obtain ⟨c, q, k⟩ := a
  obtain ⟨c', q', k'⟩ := b
  dsimp only [Kv.cells]
  go_simp
  repeat' split
  all_goals simp_all
/-! Two strings compared. -/
theorem str_bytes (a : List UInt8) : (ByteArray.mk a.toArray).toList = a := by rw [ByteArray.toList_eq]
theorem run_lss_str (w : World) (a b : List UInt8) : (binOp .lss 9 (.string ⟨a.toArray⟩) (.string ⟨b.toArray⟩)).run Tryz.prog w = .ok (.bool (decide (a < b))) w := by
  have h : (binOp .lss 9 (.string ⟨a.toArray⟩) (.string ⟨b.toArray⟩)).run Tryz.prog w = .ok (.bool (Op.bytesLess (ByteArray.mk a.toArray).toList (ByteArray.mk b.toArray).toList)) w := rfl
  rw [h, str_bytes, str_bytes]
  rw [Kv.less_eq]
theorem run_gtr_str (w : World) (a b : List UInt8) : (binOp .gtr 9 (.string ⟨a.toArray⟩) (.string ⟨b.toArray⟩)).run Tryz.prog w = .ok (.bool (decide (b < a))) w := by
  have h : (binOp .gtr 9 (.string ⟨a.toArray⟩) (.string ⟨b.toArray⟩)).run Tryz.prog w = .ok (.bool (!(Op.bytesLess (ByteArray.mk a.toArray).toList (ByteArray.mk b.toArray).toList || (ByteArray.mk a.toArray).toList == (ByteArray.mk b.toArray).toList))) w := rfl
  rw [h, str_bytes, str_bytes]
  rw [Kv.le_eq, Bool.not_not]
theorem run_leq_str (w : World) (a b : List UInt8) : (binOp .leq 9 (.string ⟨a.toArray⟩) (.string ⟨b.toArray⟩)).run Tryz.prog w = .ok (.bool (!decide (b < a))) w := by
  have h : (binOp .leq 9 (.string ⟨a.toArray⟩) (.string ⟨b.toArray⟩)).run Tryz.prog w = .ok (.bool (Op.bytesLess (ByteArray.mk a.toArray).toList (ByteArray.mk b.toArray).toList || (ByteArray.mk a.toArray).toList == (ByteArray.mk b.toArray).toList)) w := rfl
  rw [h, str_bytes, str_bytes]
  rw [Kv.le_eq]
theorem run_eql_str (w : World) (a b : List UInt8) : (binOp .eql 9 (.string ⟨a.toArray⟩) (.string ⟨b.toArray⟩)).run Tryz.prog w = .ok (.bool (decide (a = b))) w := by
  have h : (binOp .eql 9 (.string ⟨a.toArray⟩) (.string ⟨b.toArray⟩)).run Tryz.prog w = .ok (.bool ((ByteArray.mk a.toArray).toList == (ByteArray.mk b.toArray).toList)) w := rfl
  rw [h, str_bytes, str_bytes]
  rw [show (a == b) = decide (a = b) by rw [Bool.eq_iff_iff]; simp]
theorem run_neq_str (w : World) (a b : List UInt8) : (binOp .neq 9 (.string ⟨a.toArray⟩) (.string ⟨b.toArray⟩)).run Tryz.prog w = .ok (.bool (!decide (a = b))) w := by
  have h : (binOp .neq 9 (.string ⟨a.toArray⟩) (.string ⟨b.toArray⟩)).run Tryz.prog w = .ok (.bool (!((ByteArray.mk a.toArray).toList == (ByteArray.mk b.toArray).toList))) w := rfl
  rw [h, str_bytes, str_bytes]
  rw [show (a == b) = decide (a = b) by rw [Bool.eq_iff_iff]; simp]

/-- A pair boxed. -/
theorem box_kv (w : World) (p : Kv.Item) : ∃ w1, w.alloc (.cells (Kv.cells p) 62) = w1 ∧ Kvs w1 w.heap.size p ∧ Below w.heap.size w w1 ∧ w1.heap.size = w.heap.size + 1 :=
  ⟨_, rfl, Lies.new w _ _, (Below.refl _ w).alloc (Nat.le_refl _) _, by simp⟩
theorem Kv.cells_one (p : Kv.Item) : (Kv.cells p).size = 3 ∧ (Kv.cells p).all (·.oneCell') = true := ⟨rfl, by simp [Kv.cells, Value.oneCell']⟩
theorem Kv.sized (l : List Kv.Item) : Sized 3 (l.map Kv.cells) := Sized.map Kv.cells_one l
theorem run_kv (w : World) (g : Nat) (p : Kv.Item) (h : Kvs w g p) : (loadVar 62 ⟨g, 0, none⟩).run Tryz.prog w = .ok (.agg (Kv.cells p)) w :=
  run_loadVar_row w g _ _ (Kv.cells p) (0, 0) _ h Tryz.underlying62 rfl (by kernel_rfl)
theorem ret_kv2 {fn : Func} {R : Ending → World → Prop} {a : Act} {w : World} {p u : Tmp} {g : Nat} {s : Kv.Item} (h : fn.results = #[.cell p 62, .tmp u]) (hp : a.tmps.getD p undef = .pointer (some ⟨g, 0, none⟩))
    (hl : Kvs w g s) (hd : a.defers = []) (hR : R (.returned (.tuple #[.agg (Kv.cells s), a.tmps.getD u undef])) w) : bodyPost Tryz.prog fn R .ret a w := by
  refine bodyPost_ret ?_ hd hR
  rw [results_two h, hp]
  simp [asAddr, Result.andThen, run_kv w g s hl]
/-- A value, and an answer that lies in memory. -/
theorem ret_val_ans {fn : Func} {R : Ending → World → Prop} {a : Act} {w : World} {p u : Tmp} {g : Nat} {c : An.Ans} (h : fn.results = #[.tmp u, .cell p 53]) (hp : a.tmps.getD p undef = .pointer (some ⟨g, 0, none⟩))
    (hl : Anss w g c) (hd : a.defers = []) (hR : R (.returned (.tuple #[a.tmps.getD u undef, .agg (An.cells c)])) w) : bodyPost Tryz.prog fn R .ret a w := by
  refine bodyPost_ret ?_ hd hR
  rw [results_tail h, hp]
  simp [asAddr, Result.andThen, run_answer w g c hl]
theorem Kv.cells_at (p : Kv.Item) (j : Nat) (h : j < 3) : ∃ v, (Kv.cells p)[j]? = some v := ⟨_, Array.getElem?_eq_getElem (show j < (Kv.cells p).size from h)⟩
set_option maxHeartbeats 1600000 in
theorem store_kv {ops : Array Oper} {rest : List Oper} {op : Oper} {a : Act} {w : World} {Q : Exit → Act → World → Prop} (hgd : op.guard = none) (x y : Operand) (ho : op.op = .store 62 x y)
    (g : Nat) (e0 e : Kv.Item) (hx : a.eval x = .pointer (some ⟨g, 0, none⟩)) (hy : a.eval y = .agg (Kv.cells e)) (hl : Kvs w g e0)
    (h : ∀ w', Kvs w' g e → w.grownBy w' (some g) → wpList Tryz.prog ops Q rest (a.put op.dst undef) w') : wpList Tryz.prog ops Q (op :: rest) a w := by
  have h0 : ∀ j, j < 3 → (w.cell? ⟨g, j, none⟩).isSome = true := by
    intro j hj
    obtain ⟨v, hv⟩ := Kv.cells_at e0 j hj
    rw [hl.cell j v hv]; rfl
  have hone := (Kv.cells_one e).2
  have hf := hl.free
  refine wpList_store_mid hgd _ x y ho g 0 (Kv.cells e) hx hy (fun j hj => ?_) (by kernel_rfl) hone (h _ (Lies.whole hl rfl) (grown_sets g _ _ _))
  rw [Nat.zero_add]
  exact ⟨h0 j hj, hf j⟩
/-- A load of a pair that lies anywhere. -/
theorem load_kv {ops : Array Oper} {rest : List Oper} {op : Oper} {a : Act} {w : World} {Q : Exit → Act → World → Prop} (hgd : op.guard = none) (x : Operand) (ho : op.op = .load 62 x)
    (g o : Nat) (s : Kv.Item) (hx : a.eval x = .pointer (some ⟨g, o, none⟩)) (hl : KvAt w g o s)
    (h : wpList Tryz.prog ops Q rest (a.put op.dst (.agg (Kv.cells s))) w) : wpList Tryz.prog ops Q (op :: rest) a w :=
  wpList_load_mid hgd _ x ho g o hx (Kv.cells s).toList _ (fun j v hv => by
    match j with
    | 0 => simp [Kv.cells] at hv; subst hv; exact hl.c0
    | 1 => simp [Kv.cells] at hv; subst hv; exact hl.c1
    | 2 => simp [Kv.cells] at hv; subst hv; exact hl.c2
    | j + 3 => simp [Kv.cells] at hv) Tryz.underlying62 rfl (by kernel_rfl) h

/-! What came in. -/
section
variable {H : Type} {enc : TypeId × Value → H} {w : World} {b0 base : Nat} {held : Bool}
set_option maxRecDepth 20000 in
/-- An element's cells are a pair's. -/
theorem el_kv {sp : Nat → Bool} (m : Nat) (cs : List Value) (y : DataW H × List MemPlace)
    (h : DataW.trod enc Tryz.prog w base sp held m 62 cs = some y) : ∃ p : Kv.Item, cs = (Kv.cells p).toList ∧ p.key.length ≤ 9223372036854775807 ∧ p.val.length ≤ 9223372036854775807 := by
  obtain ⟨ys, n, _, _, hl, hlen, hat⟩ := DataW.trod_struct Tryz.underlying62 h
  have hce : Tryz.prog.cellsOf 62 = 3 := by kernel_rfl
  have hci : Tryz.prog.cellsOf 3 = 1 := by kernel_rfl
  have hcs : Tryz.prog.cellsOf 9 = 1 := by kernel_rfl
  have g0 := hat 0 _ rfl
  have g1 := hat 1 _ rfl
  have g2 := hat 2 _ rfl
  rw [List.getElem?_eq_getElem (by rw [hlen]; simp)] at g0 g1 g2
  obtain ⟨x0, e0, a0⟩ := one_str Tryz.underlying9 g0 hcs
  obtain ⟨x1, e1, a1⟩ := one_str Tryz.underlying9 g1 hcs
  obtain ⟨x2, e2, a2, b2⟩ := one_int Tryz.underlying3 g2 hci
  rw [hce] at hl
  match cs, hl with
  | [c0, c1, c2], _ =>
    simp at e0 e1 e2
    subst e0 e1 e2
    refine ⟨⟨x0.data.toList, x1.data.toList, x2⟩, rfl, ?_, ?_⟩
    · show x0.size ≤ _; omega
    · show x1.size ≤ _; omega
/-- A row of pairs. -/
abbrev ReadsK (w : World) (v : Value) (l : List Kv.Item) : Prop := ReadsR w v 3 (l.map Kv.cells)
set_option maxRecDepth 20000 in
theorem came_kvs {v : Value} {d : DataW H} {p : List MemPlace} (hv : Value.okWide Tryz.prog w .any b0 22 v) (h : DataW.Trod enc Tryz.prog w base (fun _ => true) held 22 v d p) :
    ∃ l : List Kv.Item, ReadsK w v l ∧ ∀ s ∈ l, s.key.length ≤ 9223372036854775807 ∧ s.val.length ≤ 9223372036854775807 :=
  came_rows Kv.cells (fun s => s.key.length ≤ 9223372036854775807 ∧ s.val.length ≤ 9223372036854775807) Tryz.underlying22 (by kernel_rfl) (fun m cs y hm => el_kv m cs y hm) hv h
end
theorem ReadsK.shape {w : World} {v : Value} {l : List Kv.Item} (h : ReadsK w v l) : ∃ ao cap, v = .slice ao l.length cap ∧ l.length ≤ cap ∧ cap ≤ 9223372036854775807 := by
  obtain ⟨ao, cap, h1, h2, h3⟩ := ReadsR.shape h
  rw [List.length_map] at h1 h2
  exact ⟨ao, cap, h1, h2, h3⟩
/-- Where there is a pair: its three cells, in every world behind. -/
theorem ReadsK.places {w : World} {ao : Option Addr} {n cap : Nat} {l : List Kv.Item} (h : ReadsK w (.slice ao n cap) l) (hl : 0 < l.length) :
    ∃ b off, ao = some ⟨b, off, none⟩ ∧ b < w.heap.size ∧ ∀ w', Below w.heap.size w w' → ∀ i s, l[i]? = some s → KvAt w' b (off + i * 3) s := by
  obtain ⟨b, off, e, hlt, hc⟩ := ReadsR.places h (r0 := Kv.cells (l[0]'hl)) (u0 := .string ⟨(l[0]'hl).key.toArray⟩) (by rw [List.getElem?_map, List.getElem?_eq_getElem hl]; rfl) rfl
  refine ⟨b, off, e, hlt, fun w' hb i c hi => KvAt.of fun j u hu => ?_⟩
  have := hc w' hb i (Kv.cells c) (by rw [List.getElem?_map, hi]; rfl) j u hu
  rwa [← Nat.add_assoc] at this
theorem info_kv : (Tryz.prog.info? 62).map (fun i => (i.zero, i.size, i.bytes)) = some (some (.agg (Kv.cells Kv.zero)), 3, 40) := by kernel_rfl

end Go.Proofs.YtammfmmpldahhaaGreat


namespace Go.Proofs.YtammfmmpldahhaaGreat
open Go.RowKit

/-- A row of cells stored into a block: what lies behind stays too. -/
theorem Lies.sets3 {g : Nat} {T : TypeId} : ∀ (vs : List Value) (o : Nat) (w : World) (cur : Array Value), Lies w g T cur → o + vs.length ≤ cur.size →
    ∃ cur', Lies (w.setCells g o vs) g T cur' ∧ cur'.size = cur.size ∧ (∀ j, j < o → cur'[j]? = cur[j]?) ∧ (∀ j u, vs[j]? = some u → cur'[o + j]? = some u) ∧ ∀ j, o + vs.length ≤ j → cur'[j]? = cur[j]?
  | [], _, _, cur, h, _ => ⟨cur, h, rfl, fun _ _ => rfl, fun j u hu => by simp at hu, fun _ _ => rfl⟩
  | v :: r, o, w, cur, h, hs => by
    rw [List.length_cons] at hs
    obtain ⟨cur', h1, h2, h3, h4, h5⟩ := Lies.sets3 r (o + 1) _ _ (h.set o v) (by simp; omega)
    refine ⟨cur', h1, by rw [h2]; simp, fun j hj => ?_, fun j u hu => ?_, fun j hj => ?_⟩
    · rw [h3 j (by omega), Array.getElem?_setIfInBounds, if_neg (by omega)]
    · cases j with
      | zero =>
        simp at hu
        subst hu
        rw [Nat.add_zero, h3 o (by omega), Array.getElem?_setIfInBounds, if_pos rfl, if_pos (by omega)]
      | succ j =>
        have := h4 j u (by simpa using hu)
        rw [show o + (j + 1) = o + 1 + j by omega]
        exact this
    · rw [List.length_cons] at hj
      rw [h5 j (by omega), Array.getElem?_setIfInBounds, if_neg (by omega)]

/-- A block holds these pairs, one behind the other, with room for cap. -/
def RowK (w : World) (g cap : Nat) (l : List Kv.Item) : Prop := ∃ cur, Lies w g 62 cur ∧ l.length ≤ cap ∧ cap ≤ maxLen ∧ cur.size = cap * 3 ∧ cur.toList.take (l.length * 3) = flatR (l.map Kv.cells)
theorem RowK.of_owns {w : World} {base : Nat} {v : Value} {l : List Kv.Item} (h : OwnsR w base 62 3 v (l.map Kv.cells)) : (v = .slice none 0 0 ∧ l = []) ∨ ∃ g cap, v = .slice (some ⟨g, 0, none⟩) l.length cap ∧ base ≤ g ∧ RowK w g cap l := by
  rcases h.2 with ⟨hv, h0⟩ | ⟨g, cap, cur, hv, hb, hg, hc, hm, hs, ht⟩
  · rw [List.length_map] at h0
    exact .inl ⟨hv, List.eq_nil_of_length_eq_zero h0⟩
  · rw [List.length_map] at hv hc ht
    exact .inr ⟨g, cap, hv, hb, cur, hg, hc, hm, hs, ht⟩
theorem RowK.owns {w : World} {base g cap : Nat} {l : List Kv.Item} (h : RowK w g cap l) (hb : base ≤ g) : OwnsR w base 62 3 (.slice (some ⟨g, 0, none⟩) l.length cap) (l.map Kv.cells) := by
  obtain ⟨cur, hg, hc, hm, hs, ht⟩ := h
  refine ⟨by rw [flatR_len (Kv.sized l)], .inr ⟨g, cap, cur, ?_, hb, hg, ?_, hm, hs, ?_⟩⟩ <;> rw [List.length_map] <;> assumption
theorem RowK.lt {w : World} {g cap : Nat} {l : List Kv.Item} (h : RowK w g cap l) : g < w.heap.size := by obtain ⟨cur, hg, _⟩ := h; exact hg.lt
theorem RowK.below {w w' : World} {B g cap : Nat} {l : List Kv.Item} (h : RowK w g cap l) (hb : Below B w w') (hB : g < B) : RowK w' g cap l := by
  obtain ⟨cur, hg, rest⟩ := h
  exact ⟨cur, hg.below hb hB, rest⟩
theorem RowK.kept {w w' : World} {row : Option Nat} {g cap : Nat} {l : List Kv.Item} (h : RowK w g cap l) (hg' : w.grownBy w' row) (hne : some g ≠ row) : RowK w' g cap l := by
  obtain ⟨cur, hg, rest⟩ := h
  exact ⟨cur, hg.kept hg' hne, rest⟩
theorem RowK.at {w : World} {g cap : Nat} {l : List Kv.Item} (h : RowK w g cap l) {k : Nat} {p : Kv.Item} (hp : l[k]? = some p) : KvAt w g (k * 3) p := by
  obtain ⟨cur, hg, hc, hm, hs, ht⟩ := h
  refine KvAt.of fun j u hu => hg.cell _ u ?_
  have h1 := flatR_at (Kv.sized l) (i := k) (r := Kv.cells p) (by rw [List.getElem?_map, hp]; rfl) hu
  rw [← ht, List.getElem?_take] at h1
  split at h1
  · rwa [Array.getElem?_toList] at h1
  · cases h1
theorem RowK.there {w : World} {g cap : Nat} {l : List Kv.Item} (h : RowK w g cap l) {k : Nat} (hk : k < l.length) : w.there g (k * 3) 3 := by
  obtain ⟨cur, hg, hc, hm, hs, ht⟩ := h
  intro j hj
  have hlt : k * 3 + j < cur.size := by omega
  exact ⟨by rw [hg.cell _ _ (Array.getElem?_eq_getElem hlt)]; rfl, hg.free _⟩
theorem RowK.store {w : World} {g cap : Nat} {l : List Kv.Item} (h : RowK w g cap l) {k : Nat} (hk : k < l.length) (q : Kv.Item) : RowK (w.setCells g (k * 3) (Kv.cells q).toList) g cap (l.set k q) := by
  obtain ⟨cur, hg, hc, hm, hs, ht⟩ := h
  have hq : (Kv.cells q).toList.length = 3 := rfl
  obtain ⟨cur', h1, h2, h3, h4, h5⟩ := Lies.sets3 (Kv.cells q).toList (k * 3) w cur hg (by rw [hq]; omega)
  rw [hq] at h5
  refine ⟨cur', h1, by rw [List.length_set]; exact hc, hm, by rw [h2]; exact hs, ?_⟩
  have hfl : (flatR (l.map Kv.cells)).length = l.length * 3 := by rw [flatR_len (Kv.sized l), List.length_map]
  have hfl' : (flatR ((l.set k q).map Kv.cells)).length = l.length * 3 := by rw [flatR_len (Kv.sized _), List.length_map, List.length_set]
  rw [List.length_set]
  apply List.ext_getElem?
  intro m
  rw [List.getElem?_take]
  by_cases hml : m < l.length * 3
  · rw [if_pos hml, Array.getElem?_toList]
    have hme : m = m / 3 * 3 + m % 3 := by omega
    have hr := Nat.mod_lt m (show 0 < 3 by omega)
    obtain ⟨i, hi⟩ : ∃ i, i = m / 3 := ⟨_, rfl⟩
    obtain ⟨j, hj⟩ : ∃ j, j = m % 3 := ⟨_, rfl⟩
    rw [← hi, ← hj] at hme
    rw [← hj] at hr
    clear hi hj
    subst hme
    have hil : i < l.length := by omega
    by_cases hik : i = k
    · subst hik
      obtain ⟨u, hu⟩ := Kv.cells_at q j hr
      rw [h4 j u (by simpa using hu)]
      symm
      exact flatR_at (Kv.sized _) (by rw [List.getElem?_map, List.getElem?_set, if_pos rfl, if_pos hk]; rfl) hu
    · obtain ⟨e, he⟩ : ∃ e, l[i]? = some e := ⟨_, List.getElem?_eq_getElem hil⟩
      obtain ⟨u, hu⟩ := Kv.cells_at e j hr
      have ho : cur'[i * 3 + j]? = cur[i * 3 + j]? := by
        rcases Nat.lt_or_gt_of_ne hik with h' | h'
        · exact h3 _ (by omega)
        · exact h5 _ (by omega)
      rw [ho]
      have e1 := flatR_at (Kv.sized l) (i := i) (r := Kv.cells e) (by rw [List.getElem?_map, he]; rfl) hu
      have e2 := flatR_at (Kv.sized (l.set k q)) (i := i) (r := Kv.cells e) (by rw [List.getElem?_map, List.getElem?_set, if_neg (fun h => hik h.symm), he]; rfl) hu
      rw [e2, ← e1, ← ht, List.getElem?_take, if_pos (by omega), Array.getElem?_toList]
  · rw [if_neg hml, List.getElem?_eq_none (by omega)]

set_option maxHeartbeats 1600000 in
/-- A pair stored into a row. -/
theorem store_rowK {ops : Array Oper} {rest : List Oper} {op : Oper} {a : Act} {w : World} {Q : Exit → Act → World → Prop} (hgd : op.guard = none) (x y : Operand) (ho : op.op = .store 62 x y)
    (g cap k : Nat) (l : List Kv.Item) (q : Kv.Item) (hx : a.eval x = .pointer (some ⟨g, k * 3, none⟩)) (hy : a.eval y = .agg (Kv.cells q)) (hl : RowK w g cap l) (hk : k < l.length)
    (h : ∀ w', RowK w' g cap (l.set k q) → w.grownBy w' (some g) → wpList Tryz.prog ops Q rest (a.put op.dst undef) w') : wpList Tryz.prog ops Q (op :: rest) a w :=
  wpList_store_mid hgd _ x y ho g (k * 3) (Kv.cells q) hx hy (hl.there hk) (by kernel_rfl) (Kv.cells_one q).2 (h _ (hl.store hk q) (grown_sets g _ _ _))

end Go.Proofs.YtammfmmpldahhaaGreat


namespace Go.Proofs.YtammfmmpldahhaaGreat
open Go.RowKit

/-- What a call leaves that makes a slice of pairs. -/
def MadeK (w : World) (l : List Kv.Item) (e : Ending) (w' : World) : Prop := ∃ v, e = .returned v ∧ OwnsR w' w.heap.size 62 3 v (l.map Kv.cells) ∧ Below w.heap.size w w'
theorem run_rest_kv (w : World) (ao : Option Addr) (n cap f : Nat) (hf : f ≤ n) :
    (Instr.slice 22 (.slice ao n cap) (some (.int .i64 (f : Int))) none none).run Tryz.prog w = .ok (sliced ao f n cap 3) w := by
  have he : Tryz.prog.elem 22 = 62 := by kernel_rfl
  have hi : (Tryz.prog.info? 62).isSome = true := by kernel_rfl
  obtain ⟨i, hi⟩ := Option.isSome_iff_exists.1 hi
  have hrun := run_slice_l (P := Tryz.prog) (w := w) 22 ao n cap (by rw [he]; exact Tryz.underlying22) .i64 (f : Int) (by omega) (by omega)
  rw [he] at hrun
  refine hrun.trans ?_
  rw [run_sizeOf _ hi, show Tryz.prog.cellsOf 62 = 3 by kernel_rfl]
  simp only [Result.andThen, Int.toNat_natCast]
theorem run_first_kv (w : World) (ao : Option Addr) (n cap f : Nat) (hf : f ≤ cap) :
    (Instr.slice 22 (.slice ao n cap) none (some (.int .i64 (f : Int))) none).run Tryz.prog w = .ok (sliced ao 0 f cap 3) w := by
  have he : Tryz.prog.elem 22 = 62 := by kernel_rfl
  have hi : (Tryz.prog.info? 62).isSome = true := by kernel_rfl
  obtain ⟨i, hi⟩ := Option.isSome_iff_exists.1 hi
  have hrun := run_slice_h (P := Tryz.prog) (w := w) 22 ao n cap (by rw [he]; exact Tryz.underlying22) .i64 (f : Int) (by omega) (by omega)
  rw [he] at hrun
  refine hrun.trans ?_
  rw [run_sizeOf _ hi, show Tryz.prog.cellsOf 62 = 3 by kernel_rfl]
  simp only [Result.andThen, Int.toNat_natCast]

set_option maxRecDepth 4000 in
set_option maxHeartbeats 800000 in
theorem clone_kvs (v : Value) (rs : List (Array Value)) (w : World) (hv : ReadsR w v 3 rs) (hz : Sized 3 rs) (hn : rs.length ≤ 1099511627776) :
    Calls Tryz.prog 97 #[v] w fun e w' => ∃ v', e = .returned v' ∧ OwnsR w' w.heap.size 62 3 v' rs ∧ Below w.heap.size w w' := by
  have hq : ∀ (w : World) (a : Option Addr) (n c n' c' : Nat), (binOp .eql 22 (.slice a n c) (.slice none n' c')).run Tryz.prog w = .ok (.bool a.isNone) w := fun w a n c n' c' => Lib.run_eql_slice_nil w _ _ a n c n' c' Tryz.underlying22
  obtain ⟨ao, cap, rfl, hc1, hc2⟩ := hv.shape
  cases ao with
  | none =>
    obtain ⟨_, h1, h2, _⟩ := ReadsR.len hv
    have h3 := h2 rfl
    obtain rfl : rs = [] := List.eq_nil_of_length_eq_zero (by omega)
    go_enter Tryz.func97, Tryz.ntmps97
    go_wp2
    go_ret
    exact ⟨_, rfl, OwnsR.empty _ _ _ _, Below.refl _ _⟩
  | some a =>
    have HV : Hid (ReadsR (w.alloc (.cells #[] 62)) (.slice (some a) rs.length cap) 3 rs) := ReadsR.below hv ((Below.refl _ w).alloc (Nat.le_refl _) _)
    obtain ⟨n, hnn⟩ : ∃ n, n = rs.length := ⟨_, rfl⟩
    rw [← hnn] at hn HV ⊢
    have HN := Lib.hid hnn; have HZ := Lib.hid hz
    clear hv hc1 hnn hz
    go_enter Tryz.func97, Tryz.ntmps97
    go_wp2_with (at_builtin; refine append_rows rfl _ _ 22 62 3 40 _ rfl Tryz.underlying22 info_kv rfl (by decide) w.heap.size [] rs _ _ rfl rfl (World.ownsRow_made w #[] 0 (Nat.le_refl _) (Nat.zero_le _) (by simp)) HV.out HZ.out (by rw [← HN.out]; simp; omega) (by rw [← HN.out]; simp; omega) w ((Below.refl _ w).alloc (Nat.le_refl _) _) (Nat.le_refl _) ?_; intro v' w' ho' hb' _)
    all_goals
      rw [List.nil_append] at ho'
      obtain ⟨ao', cap', hs'⟩ := ho'.shape
      have HO := Lib.hid ho'
      rw [← HN.out] at hs'
      clear ho'
      subst hs'
      go_wp2
      go_ret
      exact ⟨_, rfl, HO.out, hb'⟩

theorem cloneKv_any (v : Value) (l : List Kv.Item) (w : World) (hv : ReadsK w v l) (hn : l.length ≤ 1048576) : Calls Tryz.prog 97 #[v] w (MadeK w l) :=
  clone_kvs v (l.map Kv.cells) w hv (Kv.sized l) (by rw [List.length_map]; omega)

/-- Three slices of pairs, one behind the other in a block. -/
def ThreeK (w : World) (H : Nat) (ls : List (List Kv.Item)) : Prop := ∀ k l, ls[k]? = some l → ∃ u, w.cell? ⟨H, k, none⟩ = some u ∧ ReadsK w u l
theorem flatK_take {ls : List (List Kv.Item)} {k : Nat} {l : List Kv.Item} (h : ls[k]? = some l) : (ls.take (k + 1)).flatten = (ls.take k).flatten ++ l := by
  rw [List.take_add_one, h, List.flatten_append]; simp
theorem flatK_len {ls : List (List Kv.Item)} {k : Nat} {l : List Kv.Item} (h : ls[k]? = some l) : (ls.take k).flatten.length + l.length ≤ ls.flatten.length := by
  have e : ls.flatten = (ls.take (k + 1)).flatten ++ (ls.drop (k + 1)).flatten := by rw [← List.flatten_append, List.take_append_drop]
  rw [e, List.length_append, flatK_take h, List.length_append]
  omega

end Go.Proofs.YtammfmmpldahhaaGreat


namespace Go.Proofs.YtammfmmpldahhaaGreat
open Go.RowKit

theorem ret_kv1 {fn : Func} {R : Ending → World → Prop} {a : Act} {w : World} {p : Tmp} {g : Nat} {s : Kv.Item} (h : fn.results = #[.cell p 62]) (hp : a.tmps.getD p undef = .pointer (some ⟨g, 0, none⟩))
    (hl : Kvs w g s) (hd : a.defers = []) (hR : R (.returned (.agg (Kv.cells s))) w) : bodyPost Tryz.prog fn R .ret a w := by
  refine bodyPost_ret ?_ hd hR
  rw [results_one h, hp]
  simp [asAddr, Result.andThen, run_kv w g s hl]
/-- A pair's revision stored. -/
theorem set_rev {w : World} {g : Nat} {p : Kv.Item} (r : Int) (h : Kvs w g p) : ∃ w', w.setCell ⟨g, 2, none⟩ (.int .i64 r) = w' ∧ Kvs w' g ⟨p.key, p.val, r⟩ ∧ w.grownBy w' (some g) :=
  ⟨_, rfl, h.set 2 _, grown_set w g 2 _⟩

set_option maxRecDepth 4000 in
set_option maxHeartbeats 1600000 in
theorem bare_any (p : Kv.Item) (w : World) : Calls Tryz.prog 102 #[.agg (Kv.cells p)] w (Looks w (.agg (Kv.cells (Kv.bare p)))) := by
  obtain ⟨w1, e1, hl1, hB1, hz1⟩ := box_kv w p
  obtain ⟨w2, e2, hl2, hB2, hz2⟩ := box_kv w1 Kv.zero
  dsimp only [Kv.cells, Kv.zero] at e2
  rw [hz1] at hl2
  have hp2 := hl1.below hB2 hl1.lt
  obtain ⟨w3, e3, hl3, hg3⟩ := set_rev 0 hp2
  have f2 := hp2.free 2
  obtain ⟨p0, p1, p2⟩ := Kvs.three hp2
  have HP3 := Lib.hid hl3
  have HZ3 := Lib.hid (hl2.kept hg3 (by simp))
  have hB := hB1.trans (hB2.mono hB1.size)
  have HB3 := Lib.hid (hB.grown hg3 hB.size (by rintro j hj; cases hj; exact Nat.le_refl _))
  clear hl1 hB1 hl2 hB2 hp2 hl3 hg3 hz2 hB
  go_enter Tryz.func102, Tryz.ntmps102
  go_wp2_with (first
    | (refine load_kv rfl _ rfl w.heap.size 0 _ rfl (Kvs.at HP3.out) ?_)
    | (refine store_kv (by rfl) _ _ (by rfl) (w.heap.size + 1) Kv.zero (Kv.bare p) (by rfl) (by rfl) HZ3.out ?_; intro w4 hl4 hg4))
  refine ret_kv1 rfl rfl hl4 rfl ?_
  exact ⟨rfl, HB3.out.grown hg4 HB3.out.size (by rintro j hj; cases hj; omega)⟩

/-- The first k changed, the others as they were. -/
def Kv.part (f : Kv.Item → Kv.Item) (l : List Kv.Item) (k : Nat) : List Kv.Item := (l.map f).take k ++ l.drop k
theorem Kv.part_len (f : Kv.Item → Kv.Item) (l : List Kv.Item) (k : Nat) (hk : k ≤ l.length) : (Kv.part f l k).length = l.length := by unfold Kv.part; simp; omega
theorem Kv.part_none (f : Kv.Item → Kv.Item) (l : List Kv.Item) : Kv.part f l 0 = l := by simp [Kv.part]
theorem Kv.part_all (f : Kv.Item → Kv.Item) (l : List Kv.Item) : Kv.part f l l.length = l.map f := by simp [Kv.part, List.take_of_length_le]
theorem Kv.part_at (f : Kv.Item → Kv.Item) {l : List Kv.Item} {k : Nat} {p : Kv.Item} (h : l[k]? = some p) : (Kv.part f l k)[k]? = some p := by
  have hk := (List.getElem?_eq_some_iff.1 h).1
  unfold Kv.part
  rw [List.getElem?_append_right (by simp; omega), List.getElem?_drop]
  rw [show k + (k - ((l.map f).take k).length) = k by simp; omega]
  exact h
theorem Kv.part_set (f : Kv.Item → Kv.Item) {l : List Kv.Item} {k : Nat} {p : Kv.Item} (h : l[k]? = some p) : (Kv.part f l k).set k (f p) = Kv.part f l (k + 1) := by
  have hk := (List.getElem?_eq_some_iff.1 h).1
  apply List.ext_getElem?
  intro i
  unfold Kv.part
  rw [List.getElem?_set]
  by_cases hi : k = i
  · subst hi
    rw [if_pos rfl, if_pos (by simp; omega), List.getElem?_append_left (by simp; omega), List.getElem?_take, if_pos (by omega), List.getElem?_map, h]
    rfl
  · rw [if_neg hi]
    rcases Nat.lt_or_gt_of_ne hi with h' | h'
    · rw [List.getElem?_append_right (by simp; omega), List.getElem?_append_right (by simp; omega), List.getElem?_drop, List.getElem?_drop]
      congr 1
      simp
      omega
    · rw [List.getElem?_append_left (by simp; omega), List.getElem?_append_left (by simp; omega), List.getElem?_take, List.getElem?_take, if_pos h', if_pos (by omega)]

set_option maxRecDepth 4000 in
set_option maxHeartbeats 3200000 in
theorem changedP_any (v : Value) (l : List Kv.Item) (w : World) (hv : ReadsK w v l) (hn : l.length ≤ 1000000) :
    Calls Tryz.prog 101 #[v, .func (.func 102) #[] #[]] w (MadeK w (Kv.plain l)) := by
  have hcl := cloneKv_any v l w hv (by omega)
  have HF := Lib.hid (fun p W (_ : Below w.heap.size w W) => bare_any p W)
  obtain ⟨f, hf⟩ : ∃ f, f = Kv.bare := ⟨_, rfl⟩
  have HOUT : Hid (Kv.plain l = l.map f) := by show _ = _; rw [hf]; rfl
  have HFE : Hid (∀ p, f p = Kv.bare p) := by intro p; rw [hf]
  have HF' : Hid (∀ p W, Below w.heap.size w W → Calls Tryz.prog 102 #[.agg (Kv.cells p)] W (Looks W (.agg (Kv.cells (f p))))) := by intro p W hb; rw [HFE.out]; exact HF.out p W hb
  obtain ⟨ao, cap, rfl, _, _⟩ := ReadsK.shape hv
  obtain ⟨n, hnn⟩ : ∃ n, n = l.length := ⟨_, rfl⟩
  rw [← hnn] at hcl hn ⊢
  have HN := Lib.hid hnn
  have HCL := Lib.hid hcl
  clear hv hnn hf HF HFE hcl
  go_enter Tryz.func101, Tryz.ntmps101
  go_wp2_with fail
  refine HCL.out.mono ?_
  rintro e w1 ⟨v1, rfl, ho1, hB1⟩
  have HB1 := Lib.hid hB1
  rcases RowK.of_owns ho1 with ⟨rfl, h0⟩ | ⟨g, rcap, hv1, hg, hr⟩
  · have HZ : Hid (l = []) := h0
    clear h0 ho1 hB1
    go_wp2
    refine wp_loop_rounds 1 ?_
    rw [rounds_succ]
    go_wp2
    go_ret
    refine ⟨_, rfl, ?_, HB1.out⟩
    rw [HOUT.out, HZ.out]
    exact OwnsR.empty _ _ _ _
  · rw [← HN.out] at hv1
    subst hv1
    have HR1 := Lib.hid hr
    have HG : Hid (w.heap.size ≤ g) := hg
    clear ho1 hr hB1 hg
    go_wp2
    go_loopw [12] (fun i wr => ∃ k : Nat, i = .int .i64 (k : Int) ∧ k ≤ n ∧ Hid (RowK wr g rcap (Kv.part f l k)) ∧ Below w.heap.size w wr) (fun i _ => n - (intOf i).toNat)
    case atStart => exact ⟨0, rfl, by omega, by show RowK _ _ _ _; rw [Kv.part_none]; exact HR1.out, HB1.out⟩
    case round =>
      obtain ⟨k, rfl, hk, HI, hB⟩ := hrel
      have HB := Lib.hid hB
      clear hB
      by_cases hlt : k < n
      · obtain ⟨p, hp⟩ : ∃ e, l[k]? = some e := ⟨_, List.getElem?_eq_getElem (by have := HN.out; omega)⟩
        have HC := Lib.hid (HI.out.at (Kv.part_at f hp))
        have HS := Lib.hid (Kv.part_set f hp)
        have HLN : Hid (k < (Kv.part f l k).length) := by show _ < _; rw [Kv.part_len f l k (by have := HN.out; omega), ← HN.out]; exact hlt
        clear hp
        go_wp2_with (first
          | (refine load_kv rfl _ rfl g (k * 3) p rfl HC.out ?_)
          | (refine store_kv (by rfl) _ _ (by rfl) wr.heap.size Kv.zero p (by rfl) (by rfl) (Lies.new _ _ _) ?_; intro w4 hl4 hg4
             have hB4 : Below wr.heap.size wr w4 := ((Below.refl _ wr).alloc (Nat.le_refl _) _).grown hg4 (by simp) (by rintro j hj; cases hj; exact Nat.le_refl _)
             have HP4 := Lib.hid hl4
             have HR4 := Lib.hid (HI.out.below hB4 HI.out.lt)
             have HB4 := Lib.hid (HB.out.trans (hB4.mono HB.out.size))
             clear hl4 hg4 hB4)
          | (refine load_kv rfl _ rfl wr.heap.size 0 p rfl (Kvs.at HP4.out) ?_)
          | (go_at_call 102; refine (HF'.out p w4 HB4.out).mono ?_; rintro e w5 ⟨rfl, hB5⟩
             have HR5 := Lib.hid (HR4.out.below hB5 HR4.out.lt)
             have HB5 := Lib.hid (HB4.out.trans (hB5.mono HB4.out.size))
             clear hB5)
          | (refine store_rowK (by rfl) _ _ (by rfl) g rcap k _ (f p) (by rfl) (by rfl) HR5.out HLN.out ?_; intro w6 hr6 hg6))
        go_roundw
        case rel => exact ⟨k + 1, by go_num, by omega, by show RowK _ _ _ _; rw [← HS.out]; exact hr6, HB5.out.grown hg6 HB5.out.size (by rintro j hj; cases hj; exact HG.out)⟩
        case measure => simp [intOf]; omega
      · obtain rfl : k = n := by omega
        go_wp2
        go_ret
        refine ⟨_, rfl, ?_, HB.out⟩
        have h1 := HI.out
        rw [HN.out, Kv.part_all] at h1
        have h2 := h1.owns HG.out
        rw [HOUT.out]
        rw [List.length_map, ← HN.out] at h2
        exact h2

set_option maxRecDepth 4000 in
theorem plainKv_any (v : Value) (l : List Kv.Item) (w : World) (hv : ReadsK w v l) (hn : l.length ≤ 1000000) : Calls Tryz.prog 89 #[v] w (MadeK w (Kv.plain l)) := by
  have hcall := changedP_any v l w hv hn
  obtain ⟨ao, cap, rfl, _, _⟩ := ReadsK.shape hv
  obtain ⟨n, hnn⟩ : ∃ n, n = l.length := ⟨_, rfl⟩
  rw [← hnn] at hcall ⊢
  clear hv hnn hn
  go_enter Tryz.func89, Tryz.ntmps89
  go_wp2_with fail
  refine hcall.mono ?_
  rintro e w1 ⟨v1, rfl, ho1, hB1⟩
  go_wp2
  go_ret
  exact ⟨_, rfl, ho1, hB1⟩

end Go.Proofs.YtammfmmpldahhaaGreat


namespace Go.Proofs.YtammfmmpldahhaaGreat
open Go.RowKit

set_option maxRecDepth 4000 in
set_option maxHeartbeats 1600000 in
theorem isValidKv_any (p : Kv.Item) (w : World) (hk : p.key.length ≤ 140737488355328) (hs : p.val.length ≤ 140737488355328) : Calls Tryz.prog 88 #[.agg (Kv.cells p)] w (Looks w (.bool (Kv.valid p))) := by
  obtain ⟨w1, e1, hl1, hB1, hz1⟩ := box_kv w p
  obtain ⟨p0, p1, p2⟩ := Kvs.three hl1
  have HL1 := Lib.hid hl1
  have HB1 := Lib.hid hB1
  have hkey := key_any ⟨p.key.toArray⟩ w1 (by rw [str_size]; exact hk)
  have hval := fun W => val_any ⟨p.val.toArray⟩ W (by rw [str_size]; exact hs)
  obtain ⟨r, hr⟩ : ∃ r, r = Kv.valid p := ⟨_, rfl⟩
  rw [← hr]
  unfold Kv.valid at hr
  obtain ⟨t1, h1⟩ : ∃ t, Rn.key ⟨p.key.toArray⟩ = t := ⟨_, rfl⟩
  obtain ⟨t2, h2⟩ : ∃ t, Rn.val ⟨p.val.toArray⟩ = t := ⟨_, rfl⟩
  obtain ⟨t3, h3⟩ : ∃ t, (p.rev == 0) = t := ⟨_, rfl⟩
  rw [h1] at hkey hr
  rw [h2] at hval hr
  rw [h3] at hr
  have HR := Lib.hid hr
  have HVAL := Lib.hid hval
  clear hl1 hB1 hz1 hs hk hr h1 h2 hval
  cases t1 with
  | false =>
    have HZ : Hid (r = false) := by show _ = _; rw [HR.out]; rfl
    go_enter Tryz.func88, Tryz.ntmps88
    go_wp2_with (go_at_call 99; refine hkey.mono ?_; rintro e w2 ⟨rfl, hB2⟩)
    go_ret
    exact ⟨by rw [HZ.out]; rfl, HB1.out.trans (hB2.mono HB1.out.size)⟩
  | true =>
    have HZ : Hid (r = (t2 && t3)) := by show _ = _; rw [HR.out]; rfl
    cases t2 with
    | false =>
      go_enter Tryz.func88, Tryz.ntmps88
      go_wp2_with (first
        | (go_at_call 99; refine hkey.mono ?_; rintro e w2 ⟨rfl, hB2⟩; have HL2 := Lib.hid (HL1.out.below hB2 HL1.out.lt); have HB2 := Lib.hid (HB1.out.trans (hB2.mono HB1.out.size)); obtain ⟨q0, q1, q2⟩ := Kvs.three HL2.out; clear hB2)
        | (go_at_call 100; refine (HVAL.out _).mono ?_; rintro e w3 ⟨rfl, hB3⟩))
      go_ret
      exact ⟨by rw [HZ.out]; rfl, HB2.out.trans (hB3.mono HB2.out.size)⟩
    | true =>
      go_enter Tryz.func88, Tryz.ntmps88
      go_wp2_with (first
        | (go_at_call 99; refine hkey.mono ?_; rintro e w2 ⟨rfl, hB2⟩; have HL2 := Lib.hid (HL1.out.below hB2 HL1.out.lt); have HB2 := Lib.hid (HB1.out.trans (hB2.mono HB1.out.size)); obtain ⟨q0, q1, q2⟩ := Kvs.three HL2.out; clear hB2)
        | (go_at_call 100; refine (HVAL.out _).mono ?_; rintro e w3 ⟨rfl, hB3⟩; have HL3 := Lib.hid (HL2.out.below hB3 HL2.out.lt); have HB3 := Lib.hid (HB2.out.trans (hB3.mono HB2.out.size)); obtain ⟨x0, x1, x2⟩ := Kvs.three HL3.out; clear hB3))
      go_ret
      exact ⟨by rw [HZ.out]; simp, HB3.out⟩

set_option maxRecDepth 4000 in
set_option maxHeartbeats 3200000 in
theorem checkKv_any (v : Value) (l : List Kv.Item) (w : World) (hv : ReadsK w v l) (hs : ∀ s ∈ l, s.key.length ≤ 140737488355328 ∧ s.val.length ≤ 140737488355328) :
    Calls Tryz.prog 71 #[v] w (Looks w (.int .i64 (if Kv.refCheck l = true then 0 else 3))) := by
  obtain ⟨ao, cap, rfl, hc1, hc2⟩ := ReadsK.shape hv
  have HP := Lib.hid (fun h => ReadsK.places hv h)
  have HS := Lib.hid hs
  obtain ⟨n, hnn⟩ : ∃ n, n = l.length := ⟨_, rfl⟩
  rw [← hnn] at hc1 ⊢
  have HN := Lib.hid hnn
  obtain ⟨r, hr⟩ : ∃ r, r = Kv.refCheck l := ⟨_, rfl⟩
  rw [← hr]
  have HR := Lib.hid hr
  have hnb : n < 9223372036854775808 := by omega
  obtain ⟨y, hy⟩ : ∃ y : Int, y = if r = true then 0 else 3 := ⟨_, rfl⟩
  rw [← hy]
  have HY := Lib.hid hy
  clear hv hnn hr hs hy
  by_cases h64 : 64 < n
  · have HZ : Hid (y = 3) := by show _ = _; rw [HY.out, HR.out, Kv.check_long (by have := HN.out; omega)]; rfl
    have d0 : decide ((64 : Int) < (n : Int)) = true := by simp; omega
    go_enter Tryz.func71, Tryz.ntmps71
    go_wp2
    go_ret
    exact ⟨by rw [HZ.out]; rfl, Below.refl _ _⟩
  · have d0 : decide ((64 : Int) < (n : Int)) = false := by simp; omega
    have HR0 : Hid (r = Kv.check [] l) := by show _ = _; rw [HR.out, Kv.check_ref l (by have := HN.out; omega)]
    go_enter Tryz.func71, Tryz.ntmps71
    go_wp2
    go_loopw [3, 11] (fun b' i wr => ∃ (k : Nat) (b : List UInt8), b' = .string ⟨b.toArray⟩ ∧ i = .int .i64 (k : Int) ∧ k ≤ n ∧ Hid (r = Kv.check b (l.drop k)) ∧ Below w.heap.size w wr) (fun _ i _ => n - (intOf i).toNat)
    case atStart => exact ⟨0, [], rfl, rfl, by omega, HR0.out, Below.refl _ _⟩
    case round =>
      obtain ⟨k, b, rfl, rfl, hk, HI, hB⟩ := hrel
      have HB := Lib.hid hB
      clear hB
      by_cases hlt : k < n
      · obtain ⟨s, hse⟩ : ∃ s, l[k]? = some s := ⟨_, List.getElem?_eq_getElem (by have := HN.out; omega)⟩
        obtain ⟨g, off, rfl, hgl, hcell⟩ := HP.out (by have := HN.out; omega)
        have HC := Lib.hid (hcell wr HB.out k s hse)
        have HV := Lib.hid (fun W => isValidKv_any s W (HS.out s (List.mem_of_getElem? hse)).1 (HS.out s (List.mem_of_getElem? hse)).2)
        obtain ⟨t, ht⟩ : ∃ t, t = Kv.valid s := ⟨_, rfl⟩
        rw [← ht] at HV
        have HST := Lib.hid (HI.out.trans (Kv.check_step hse b))
        rw [← ht] at HST
        clear hcell hse ht
        have hle := fun W => run_leq_str W s.key b
        by_cases h1 : b < s.key
        · rw [decide_eq_true h1, Bool.not_true] at hle
          rw [if_pos h1] at HST
          cases t with
          | false =>
            have HZ : Hid (y = 3) := by show _ = _; rw [HY.out, HST.out, if_pos rfl]; rfl
            clear h1
            go_wp2_with (first
              | (refine load_kv rfl _ rfl g (off + k * 3) s rfl HC.out ?_)
              | (refine store_kv (by rfl) _ _ (by rfl) wr.heap.size Kv.zero s (by rfl) (by rfl) (Lies.new _ _ _) ?_; intro w4 hl4 hg4
                 have hB4 : Below wr.heap.size wr w4 := ((Below.refl _ wr).alloc (Nat.le_refl _) _).grown hg4 (by simp) (by rintro j hj; cases hj; exact Nat.le_refl _)
                 have HB4 := Lib.hid (HB.out.trans (hB4.mono HB.out.size))
                 obtain ⟨q0, q1, q2⟩ := Kvs.three hl4
                 clear hl4 hg4 hB4)
              | (go_at_call 88; refine (HV.out _).mono ?_; rintro e w5 ⟨rfl, hB5⟩))
            go_ret
            exact ⟨by rw [HZ.out]; rfl, HB4.out.trans (hB5.mono HB4.out.size)⟩
          | true =>
            have HZ : Hid (r = Kv.check s.key (l.drop (k + 1))) := by show _ = _; rw [HST.out, if_neg (by simp)]
            clear h1
            go_wp2_with (first
              | (refine load_kv rfl _ rfl g (off + k * 3) s rfl HC.out ?_)
              | (refine store_kv (by rfl) _ _ (by rfl) wr.heap.size Kv.zero s (by rfl) (by rfl) (Lies.new _ _ _) ?_; intro w4 hl4 hg4
                 have hB4 : Below wr.heap.size wr w4 := ((Below.refl _ wr).alloc (Nat.le_refl _) _).grown hg4 (by simp) (by rintro j hj; cases hj; exact Nat.le_refl _)
                 have HB4 := Lib.hid (HB.out.trans (hB4.mono HB.out.size))
                 have HL4 := Lib.hid hl4
                 obtain ⟨q0, q1, q2⟩ := Kvs.three hl4
                 clear hl4 hg4 hB4)
              | (go_at_call 88; refine (HV.out _).mono ?_; rintro e w5 ⟨rfl, hB5⟩; have x0 := (HL4.out.below hB5 HL4.out.lt).cell 0 _ rfl))
            go_roundw
            case rel => exact ⟨k + 1, s.key, rfl, by go_num, by omega, HZ.out, HB4.out.trans (hB5.mono HB4.out.size)⟩
            case measure => simp [intOf]; omega
        · rw [decide_eq_false h1, Bool.not_false] at hle
          have HZ : Hid (y = 3) := by show _ = _; rw [HY.out, HST.out, if_neg h1]; rfl
          clear h1
          go_wp2_with (first
            | (refine load_kv rfl _ rfl g (off + k * 3) s rfl HC.out ?_)
            | (refine store_kv (by rfl) _ _ (by rfl) wr.heap.size Kv.zero s (by rfl) (by rfl) (Lies.new _ _ _) ?_; intro w4 hl4 hg4
               have hB4 : Below wr.heap.size wr w4 := ((Below.refl _ wr).alloc (Nat.le_refl _) _).grown hg4 (by simp) (by rintro j hj; cases hj; exact Nat.le_refl _)
               have HB4 := Lib.hid (HB.out.trans (hB4.mono HB.out.size))
               obtain ⟨q0, q1, q2⟩ := Kvs.three hl4
               clear hl4 hg4 hB4))
          go_ret
          exact ⟨by rw [HZ.out]; rfl, HB4.out⟩
      · have HZ : Hid (y = 0) := by show _ = _; rw [HY.out, HI.out, List.drop_of_length_le (by have := HN.out; omega)]; rfl
        go_wp2
        go_ret
        exact ⟨by rw [HZ.out]; rfl, HB.out⟩

end Go.Proofs.YtammfmmpldahhaaGreat


namespace Go.Proofs.YtammfmmpldahhaaGreat
open Go.RowKit

set_option maxRecDepth 4000 in
set_option maxHeartbeats 1600000 in
theorem check2Kv_any (v : Value) (l : List Kv.Item) (w : World) (hv : ReadsK w v l) (hn : l.length ≤ 1000000) (hs : ∀ s ∈ l, s.key.length ≤ 140737488355328 ∧ s.val.length ≤ 140737488355328) :
    Calls Tryz.prog 72 #[v] w (Looks w (.int .i64 (if Kv.refCheck2 l = true then 0 else 3))) := by
  have HPL := Lib.hid (fun W h => plainKv_any v l W h hn)
  have HV := Lib.hid hv
  obtain ⟨ao, cap, rfl, hc1, hc2⟩ := ReadsK.shape hv
  have HP := Lib.hid (fun h => ReadsK.places hv h)
  have HSP : Hid (∀ s ∈ Kv.plain l, s.key.length ≤ 140737488355328 ∧ s.val.length ≤ 140737488355328) := fun s h => by
    unfold Kv.plain at h
    obtain ⟨e, he, rfl⟩ := List.mem_map.1 h
    exact hs e he
  have HCK := Lib.hid (fun u W h => checkKv_any u (Kv.plain l) W h HSP.out)
  have HYES := Lib.hid (fun h => Kv.inRev_yes (l := l) h)
  obtain ⟨n, hnn⟩ : ∃ n, n = l.length := ⟨_, rfl⟩
  rw [← hnn] at hc1 hn HPL HV HYES ⊢
  have HN := Lib.hid hnn
  obtain ⟨r, hr⟩ : ∃ r, r = Kv.refCheck2 l := ⟨_, rfl⟩
  rw [← hr] at HYES ⊢
  have HR := Lib.hid hr
  obtain ⟨y, hy⟩ : ∃ y : Int, y = if r = true then 0 else 3 := ⟨_, rfl⟩
  rw [← hy]
  have HY := Lib.hid hy
  clear hv hnn hr hs hy hc1 hc2
  go_enter Tryz.func72, Tryz.ntmps72
  go_wp2
  go_loopw [7] (fun i wr => ∃ k : Nat, i = .int .i64 (k : Int) ∧ k ≤ n ∧ Hid (∀ (j : Nat) (e : Kv.Item), j < k → l[j]? = some e → Kv.inRev e = true) ∧ Below w.heap.size w wr) (fun i _ => n - (intOf i).toNat)
  case atStart => exact ⟨0, rfl, by omega, fun j e hj => by omega, Below.refl _ _⟩
  case round =>
    obtain ⟨k, rfl, hk, HI, hB⟩ := hrel
    have HB := Lib.hid hB
    clear hB
    by_cases hlt : k < n
    · obtain ⟨s, hse⟩ : ∃ s, l[k]? = some s := ⟨_, List.getElem?_eq_getElem (by have := HN.out; omega)⟩
      obtain ⟨g, off, rfl, hgl, hcell⟩ := HP.out (by have := HN.out; omega)
      have HC := Lib.hid (hcell wr HB.out k s hse)
      have HS1 := Lib.hid hse
      obtain ⟨t3, ht3⟩ : ∃ t, decide (s.rev < 1) = t := ⟨_, rfl⟩
      obtain ⟨t4, ht4⟩ : ∃ t, decide (4294967296 < s.rev) = t := ⟨_, rfl⟩
      have HVA : Hid (Kv.inRev s = (!t3 && !t4)) := by
        show _ = _
        rw [← ht3, ← ht4, Kv.inRev]
        rw [show (decide (1 ≤ s.rev)) = !decide (s.rev < 1) by rw [← decide_not]; exact decide_eq_decide.2 (by omega), show (decide (s.rev ≤ 4294967296)) = !decide (4294967296 < s.rev) by rw [← decide_not]; exact decide_eq_decide.2 (by omega)]
      clear hcell hse
      cases t3 with
      | true =>
        have HZ : Hid (y = 3) := by show _ = _; rw [HY.out, HR.out, Kv.inRev_no HS1.out (by rw [HVA.out]; rfl)]; rfl
        go_wp2_with (first
          | (refine load_kv rfl _ rfl g (off + k * 3) s rfl HC.out ?_)
          | (refine store_kv (by rfl) _ _ (by rfl) wr.heap.size Kv.zero s (by rfl) (by rfl) (Lies.new _ _ _) ?_; intro w4 hl4 hg4
             have hB4 : Below wr.heap.size wr w4 := ((Below.refl _ wr).alloc (Nat.le_refl _) _).grown hg4 (by simp) (by rintro j hj; cases hj; exact Nat.le_refl _)
             have HB4 := Lib.hid (HB.out.trans (hB4.mono HB.out.size))
             obtain ⟨q0, q1, q2⟩ := Kvs.three hl4
             clear hl4 hg4 hB4))
        go_ret
        exact ⟨by rw [HZ.out]; rfl, HB4.out⟩
      | false =>
        cases t4 with
        | true =>
          have HZ : Hid (y = 3) := by show _ = _; rw [HY.out, HR.out, Kv.inRev_no HS1.out (by rw [HVA.out]; rfl)]; rfl
          go_wp2_with (first
            | (refine load_kv rfl _ rfl g (off + k * 3) s rfl HC.out ?_)
            | (refine store_kv (by rfl) _ _ (by rfl) wr.heap.size Kv.zero s (by rfl) (by rfl) (Lies.new _ _ _) ?_; intro w4 hl4 hg4
               have hB4 : Below wr.heap.size wr w4 := ((Below.refl _ wr).alloc (Nat.le_refl _) _).grown hg4 (by simp) (by rintro j hj; cases hj; exact Nat.le_refl _)
               have HB4 := Lib.hid (HB.out.trans (hB4.mono HB.out.size))
               obtain ⟨q0, q1, q2⟩ := Kvs.three hl4
               clear hl4 hg4 hB4))
          go_ret
          exact ⟨by rw [HZ.out]; rfl, HB4.out⟩
        | false =>
          have HZ : Hid (∀ (j : Nat) (e : Kv.Item), j < k + 1 → l[j]? = some e → Kv.inRev e = true) := by
            intro j d hj hd
            by_cases hjk : j = k
            · subst hjk; rw [HS1.out] at hd; cases hd; rw [HVA.out]; rfl
            · exact HI.out j d (by omega) hd
          go_wp2_with (first
            | (refine load_kv rfl _ rfl g (off + k * 3) s rfl HC.out ?_)
            | (refine store_kv (by rfl) _ _ (by rfl) wr.heap.size Kv.zero s (by rfl) (by rfl) (Lies.new _ _ _) ?_; intro w4 hl4 hg4
               have hB4 : Below wr.heap.size wr w4 := ((Below.refl _ wr).alloc (Nat.le_refl _) _).grown hg4 (by simp) (by rintro j hj; cases hj; exact Nat.le_refl _)
               have HB4 := Lib.hid (HB.out.trans (hB4.mono HB.out.size))
               obtain ⟨q0, q1, q2⟩ := Kvs.three hl4
               clear hl4 hg4 hB4))
          go_roundw
          case rel => exact ⟨k + 1, by go_num, by omega, HZ.out, HB4.out⟩
          case measure => simp [intOf]; omega
    · have HZ : Hid (y = if Kv.refCheck (Kv.plain l) = true then 0 else 3) := by
        show _ = _
        rw [HY.out, HYES.out fun j e hj he => HI.out j e (by omega) he]
      go_wp2_with fail
      refine (HPL.out wr (HV.out.below HB.out)).mono ?_
      rintro e w2 ⟨v2, rfl, ho2, hB2⟩
      have hr2 : ReadsK w2 v2 (Kv.plain l) := ho2.reads (Kv.sized _)
      have HCK2 := Lib.hid (HCK.out v2 w2 hr2)
      obtain ⟨bo, bcap, rfl, _, _⟩ := ReadsK.shape hr2
      have HB2 := Lib.hid (HB.out.trans (hB2.mono HB.out.size))
      clear hr2 ho2 hB2
      go_wp2_with fail
      refine HCK2.out.mono ?_
      rintro e w3 ⟨rfl, hB3⟩
      rw [← HZ.out]
      go_wp2
      go_ret
      exact ⟨rfl, HB2.out.trans (hB3.mono HB2.out.size)⟩

end Go.Proofs.YtammfmmpldahhaaGreat
