/- The document's own Revs: a state whose pairs all have a revision. -/
import Derived.Test.YtgcjjlkjlabneaaMgUp
import Derived.Test.YtgcjjlkjlabneaaKvCopy
namespace Go.Proofs.Ytgcjjlkjlabneaa
open Go.RowKit

/-- append(out, p) onto a row of the call's own: the element has been laid in a block ahead. -/
theorem append_kv {ops : Array Oper} {rest : List Oper} {o : Oper} {a : Act} {Q : Exit → Act → World → Prop} (hgd : o.guard = none) (s x : Operand)
    (ho : o.op = .call { callee := .builtin .append, args := #[s, x], argTypes := #[22, 22] })
    (w : World) (base : Nat) (l : List Kv.Item) (v : Value) (e : Kv.Item) (hs : a.eval s = v) (hx : a.eval x = .slice (some ⟨w.heap.size, 0, none⟩) 1 1) (hown : OwnsR w base 38 3 v (l.map Kv.cells)) (hlen : l.length ≤ 1048576)
    (w0 : World) (hb : Below base w0 w) (hbase : base ≤ w0.heap.size)
    (h : ∀ v' w', OwnsR w' base 38 3 v' ((l ++ [e]).map Kv.cells) → Below base w0 w' → wpList Try.prog ops Q rest (a.put o.dst v') w') : wpList Try.prog ops Q (o :: rest) a (w.alloc (.cells (Kv.cells e) 38)) := by
  refine append_rows hgd s x 22 38 3 40 (.agg (Kv.cells Kv.zero)) ho Try.underlying22 info_kv rfl (by decide) base (l.map Kv.cells) [Kv.cells e] v _ hs hx (hown.alloc _) (ReadsR.single (Lies.new w _ _)) (Kv.sized [e]) (by simp; omega) (by simp; omega) w0 (hb.alloc (by have := hb.size; omega) _) hbase fun v' w' h1 h2 _ => h v' w' ?_ h2
  rw [List.map_append]
  exact h1
/-- A load of a pair, its cells spelt out. -/
theorem load_lit3 {ops : Array Oper} {rest : List Oper} {op : Oper} {a : Act} {w : World} {Q : Exit → Act → World → Prop} (hgd : op.guard = none) (x : Operand) (ho : op.op = .load 38 x)
    (g o : Nat) (s : Kv.Item) (hx : a.eval x = .pointer (some ⟨g, o, none⟩)) (hl : KvAt w g o s)
    (h : wpList Try.prog ops Q rest (a.put op.dst (.agg #[.string ⟨s.key.toArray⟩, .string ⟨s.val.toArray⟩, .int .i64 s.rev])) w) : wpList Try.prog ops Q (op :: rest) a w :=
  load_kv hgd x ho g o s hx hl h
/-- The revision of a pair in a block stored anew. -/
theorem store_kvrev {ops : Array Oper} {rest : List Oper} {op : Oper} {a : Act} {w : World} {Q : Exit → Act → World → Prop} {g : Nat} (hgd : op.guard = none) (x y : Operand) (ho : op.op = .store 3 x y) (p : Kv.Item) (r : Int) (hx : a.eval x = .pointer (some ⟨g, 2, none⟩)) (hy : a.eval y = .int .i64 r) (hl : Kvs w g p)
    (h : ∀ w', Kvs w' g (Mg.rev r p) → w.grownBy w' (some g) → wpList Try.prog ops Q rest (a.put op.dst undef) w') : wpList Try.prog ops Q (op :: rest) a w :=
  store_part hgd _ x y ho g 2 38 _ (Kv.cells (Mg.rev r p)) (.int .i64 r) [.int .i64 r] hx hy rfl (by kernel_rfl) rfl hl (Nat.le_of_ble_eq_true rfl) rfl fun w' h1 h2 => h w' h1 h2
theorem Mg.rev_take (r : Int) {l : List Kv.Item} {k : Nat} {p : Kv.Item} (h : l[k]? = some p) : (l.take (k + 1)).map (Mg.rev r) = (l.take k).map (Mg.rev r) ++ [Mg.rev r p] := by
  rw [List.take_add_one, h, List.map_append]
  rfl

set_option maxRecDepth 4000 in
set_option maxHeartbeats 3200000 in
theorem revs_any (s : Mg.St) (n r : Int) (vp vs : Value) (w : World) (hr : StR w s vp vs) (hf : s.Few) :
    Calls Try.prog 13 #[.agg (Mg.cells s.schema vp vs), .int .i64 n, .int .i64 r] w (GivesSt w (Mg.revd s n r)) := by
  obtain ⟨ao, cap, rfl, hc1, hc2⟩ := ReadsK.shape hr.kv
  obtain ⟨so, sc, rfl, _, _⟩ := ReadsN.shape hr.ses
  have HP := Lib.hid (fun h => ReadsK.places hr.kv h)
  obtain ⟨w1, e1, hx1, hB1, hz1⟩ := box_st w s s.schema _ _ hr
  obtain ⟨w2, e2, hx2, hB2, hz2⟩ := box_st0 w1
  obtain ⟨w3, e3, hx3, hB3, hz3⟩ := box_st0 w2
  rw [hz1] at hx2 hz2
  rw [hz2] at hx3 hz3
  have hB23 : Below w1.heap.size w1 w3 := hB2.trans (hB3.mono hB2.size)
  have hx12 := hx1.below hB2 (by omega)
  have HX3 := Lib.hid (hx12.below hB3 (by omega))
  have HZ3 := Lib.hid (hx2.below hB3 (by omega))
  have HO3 := Lib.hid hx3
  have HB3 : Hid (Below w.heap.size w w3) := hB1.trans (hB23.mono hB1.size)
  have HN3 : Hid (w3.heap.size = w.heap.size + 1 + 1 + 1) := hz3
  have HR := Lib.hid hr
  obtain ⟨m, hm⟩ : ∃ m, m = s.pairs.length := ⟨_, rfl⟩
  have HM := Lib.hid hm
  have hmb : m ≤ 1000000 := by have := hf.len; omega
  rw [← hm] at hc1 HX3 HR e1 HP ⊢
  have c2 : w2.cell? ⟨w.heap.size, 2, none⟩ = some (.slice so s.sess.length sc) := hx12.all.2.2
  clear hx12 hx1 hx2 hx3 hB1 hB2 hB3 hB23 hz3 hr hf hm
  dsimp only [Mg.cells] at e2 e3
  go_enter Try.func13, Try.ntmps13
  go_wp2_with (first
    | (refine store_st (m := n) (up := .slice none 0 0) (us := .slice so s.sess.length sc) rfl _ _ rfl rfl HO3.out ⟨⟨_, _, _, rfl⟩, ⟨_, _, _, rfl⟩⟩ rfl ?_; intro w4 hx4 hg4; have HX4 := Lib.hid hx4; have HG4 := Lib.hid hg4; clear hx4 hg4))
  have HG2 : Hid (w.heap.size + 1 + 1 < w3.heap.size) := by show _ < _; have := HN3.out; omega
  have HX4' : Hid (StAt w4 w.heap.size s.schema (.slice ao m cap) (.slice so s.sess.length sc)) := HX3.out.kept HG4.out (by omega)
  have HZ4 : Hid (StAt w4 (w.heap.size + 1) 0 (.slice none 0 0) (.slice none 0 0)) := HZ3.out.kept HG4.out (by omega)
  have HB4 : Hid (Below w.heap.size w w4) := HB3.out.grown HG4.out HB3.out.size (by rintro j hj; cases hj; omega)
  have HL4 : Hid (w3.heap.size ≤ w4.heap.size) := HG4.out.size
  clear c2
  go_wp2
  go_loopw [8] (fun i wr => ∃ (k : Nat) (uo : Option Addr) (uc : Nat), i = .int .i64 (k : Int) ∧ k ≤ m ∧ Hid (OwnsR wr w3.heap.size 38 3 (.slice uo k uc) (((s.pairs.take k).map (Mg.rev r)).map Kv.cells)) ∧ Hid (StAt wr (w.heap.size + 1 + 1) n (.slice uo k uc) (.slice so s.sess.length sc)) ∧ Hid (StAt wr (w.heap.size + 1) 0 (.slice none 0 0) (.slice none 0 0)) ∧ Hid (StAt wr w.heap.size s.schema (.slice ao m cap) (.slice so s.sess.length sc)) ∧ Hid (w3.heap.size ≤ wr.heap.size) ∧ Below w.heap.size w wr) (fun i _ => m - (intOf i).toNat)
  case atStart => exact ⟨0, none, 0, rfl, by omega, OwnsR.empty _ _ _ _, HX4, HZ4, HX4', HL4, HB4.out⟩
  case round =>
    clear HX4 HZ4 HX4' HL4 HB4 HG4
    obtain ⟨k, uo, uc, rfl, hk, HO, HX, HZ, HY, HL, hB⟩ := hrel
    have HB := Lib.hid hB
    clear hB
    obtain ⟨_, c1, _⟩ := HY.out.all
    by_cases hlt : k < m
    · obtain ⟨p, hp⟩ : ∃ e, s.pairs[k]? = some e := ⟨_, List.getElem?_eq_getElem (by have := HM.out; omega)⟩
      obtain ⟨g, off, rfl, hgl, hcell⟩ := HP.out (by omega)
      have HC := Lib.hid (hcell wr HB.out k p hp)
      have HT := Lib.hid (Mg.rev_take r hp)
      clear hcell hp
      go_wp2_with (first
        | (refine load_kv rfl _ rfl g (off + k * 3) p rfl HC.out ?_)
        | (refine store_kv (by rfl) _ _ (by rfl) wr.heap.size Kv.zero p (by rfl) (by rfl) (Lies.new _ _ _) ?_; intro w5 hl5 hg5
           have hB5 : Below wr.heap.size wr w5 := ((Below.refl _ wr).alloc (Nat.le_refl _) _).grown hg5 (by simp) (by rintro j hj; cases hj; exact Nat.le_refl _)
           have HP5 := Lib.hid hl5
           have HB5 := Lib.hid hB5
           clear hl5 hg5 hB5)
        | (refine store_kvrev rfl _ _ rfl p r rfl rfl HP5.out ?_; intro w6 hl6 hg6
           have HP6 := Lib.hid hl6
           have HB6 : Hid (Below wr.heap.size wr w6) := HB5.out.grown hg6 HB5.out.size (by rintro j hj; cases hj; exact Nat.le_refl _)
           have d1 : w6.cell? ⟨w.heap.size + 1 + 1, 1, none⟩ = some (.slice uo k uc) := (HX.out.below HB6.out HX.out.lies.lt).all.2.1
           clear hl6 hg6)
        | (refine load_lit3 rfl _ rfl wr.heap.size 0 (Mg.rev r p) rfl (Kvs.at HP6.out) ?_)
        | (at_builtin; refine append_kv rfl _ _ rfl w6 w3.heap.size ((s.pairs.take k).map (Mg.rev r)) (.slice uo k uc) (Mg.rev r p) rfl rfl (HO.out.keep (HB6.out) (Nat.le_refl _)) (by simp; omega) wr (HB6.out.mono HL.out) HL.out ?_; intro v7 w7 ho7 hb7
           rw [← HT.out] at ho7
           have HO7 := Lib.hid ho7
           have HB7 := Lib.hid hb7
           clear ho7 hb7
           refine Hid.out ?_))
      refine Lib.hid ?_
      obtain ⟨ao7, ac7, hs7⟩ := HO7.out.shape
      rw [List.length_map, List.length_map, List.length_take, Nat.min_eq_left (by have := HM.out; omega)] at hs7
      subst hs7
      have HX7 := Lib.hid (HX.out.below HB7.out HG2.out)
      have HZ7 := Lib.hid (HZ.out.below HB7.out (by have := HG2.out; omega))
      have HY7 := Lib.hid (HY.out.below HB7.out (by have := HG2.out; omega))
      clear c1
      go_wp2_with (first
        | (refine store_pairs rfl _ _ rfl ao7 (k + 1) ac7 rfl rfl HX7.out ?_; intro w8 hx8 hg8; have HX8 := Lib.hid hx8; have HG8 := Lib.hid hg8; clear hx8 hg8))
      have hb7 : Below w.heap.size w w7 := HB.out.trans (HB7.out.mono (by have := HG2.out; omega))
      go_roundw
      case rel => exact ⟨k + 1, ao7, ac7, by go_num, by omega, HO7.out.apart HG8.out HG2.out, HX8.out, HZ7.out.kept HG8.out (by omega), HY7.out.kept HG8.out (by omega), Nat.le_trans HL.out (Nat.le_trans HB7.out.size HG8.out.size), hb7.grown HG8.out hb7.size (by rintro j hj; cases hj; omega)⟩
      case measure => simp [intOf]; omega
    · obtain rfl : k = m := by omega
      go_wp2_with (first
        | (refine load_st rfl _ rfl rfl HX.out ?_)
        | (refine store_st rfl _ _ rfl rfl HZ.out ⟨⟨_, _, _, rfl⟩, ⟨_, _, _, rfl⟩⟩ rfl ?_; intro w6 hx6 hg6; have HX6 := Lib.hid hx6; have HG6 := Lib.hid hg6; clear hx6 hg6))
      refine ret_st1 rfl rfl HX6.out rfl ?_
      have hO6 := HO.out.apart HG6.out (by have := HG2.out; omega)
      rw [List.take_of_length_le (by have := HM.out; omega)] at hO6
      have hb6 : Below w.heap.size w w6 := HB.out.grown HG6.out HB.out.size (by rintro j hj; cases hj; omega)
      exact ⟨_, _, rfl, ⟨hO6.reads (Kv.sized _), HR.out.ses.below hb6⟩, hb6⟩

end Go.Proofs.Ytgcjjlkjlabneaa
