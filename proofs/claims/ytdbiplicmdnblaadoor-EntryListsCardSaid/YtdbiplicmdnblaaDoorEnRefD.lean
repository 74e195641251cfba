/- The document's own With and Between. -/
import Derived.Test.YtdbiplicmdnblaaDoorEnCopy
import Derived.Deep.QuietTactic
import Derived.BigQuiet
namespace Go.Proofs.YtdbiplicmdnblaaDoor
open Go.RowKit

/-- append(out, e) onto a row of the call's own: the element has been laid in a block ahead. -/
theorem append_ent {ops : Array Oper} {rest : List Oper} {o : Oper} {a : Act} {Q : Exit → Act → World → Prop} (hgd : o.guard = none) (s x : Operand)
    (ho : o.op = .call { callee := .builtin .append, args := #[s, x], argTypes := #[22, 22] })
    (w : World) (base : Nat) (l : List En.Ent) (v : Value) (e : En.Ent) (hs : a.eval s = v) (hx : a.eval x = .slice (some ⟨w.heap.size, 0, none⟩) 1 1) (hown : OwnsR w base 33 10 v (l.map En.cells)) (hlen : l.length ≤ 1048576)
    (w0 : World) (hb : Below base w0 w) (hbase : base ≤ w0.heap.size)
    (h : ∀ v' w', OwnsR w' base 33 10 v' ((l ++ [e]).map En.cells) → Below base w0 w' → wpList Tryd.prog ops Q rest (a.put o.dst v') w') : wpList Tryd.prog ops Q (o :: rest) a (w.alloc (.cells (En.cells e) 33)) := by
  refine append_rows hgd s x 22 33 10 104 (.agg (En.cells En.zero)) ho Tryd.underlying22 info_ent rfl (by decide) base (l.map En.cells) [En.cells e] v _ hs hx (hown.alloc _) (ReadsR.single (Lies.new w _ _)) (En.sized [e]) (by simp; omega) (by simp; omega) w0 (hb.alloc (by have := hb.size; omega) _) hbase fun v' w' h1 h2 _ => h v' w' ?_ h2
  rw [List.map_append]
  exact h1

theorem En.between_snoc (l : List En.Ent) (e : En.Ent) (x y : Int) : En.between (l ++ [e]) x y = En.between l x y ++ (if (decide (x ≤ e.index) && decide (e.index ≤ y)) = true then [e] else []) := by
  unfold En.between
  rw [List.filter_append, List.filter_cons, List.filter_nil]

set_option maxRecDepth 4000 in
set_option maxHeartbeats 3200000 in
theorem refBetween_any (v : Value) (l : List En.Ent) (x y : Int) (w : World) (hv : ReadsE w v l) (hn : l.length ≤ 1000000) :
    Calls Tryd.prog 18 #[v, .int .i64 x, .int .i64 y] w (MadeE w (En.between l x y)) := by
  obtain ⟨ao, cap, rfl, hc1, hc2⟩ := ReadsE.shape hv
  have HP := Lib.hid (fun h => ReadsE.places hv h)
  obtain ⟨n, hnn⟩ : ∃ n, n = l.length := ⟨_, rfl⟩
  rw [← hnn] at hc1 hn ⊢
  have HN := Lib.hid hnn
  obtain ⟨Q, hQ⟩ : ∃ Q, Q = MadeE w (En.between l x y) := ⟨_, rfl⟩
  rw [← hQ]
  have HQ : Hid (∀ e w', MadeE w (En.between l x y) e w' → Q e w') := by intro e w' h; rw [hQ]; exact h
  clear hv hnn hQ
  go_enter Tryd.func18, Tryd.ntmps18
  go_wp2
  go_loopw [7, 8] (fun z i wr => ∃ (k : Nat) (m : List En.Ent), i = .int .i64 (k : Int) ∧ k ≤ n ∧ OwnsR wr w.heap.size 33 10 z (m.map En.cells) ∧ Hid (m = En.between (l.take k) x y) ∧ Below w.heap.size w wr) (fun _ i _ => n - (intOf i).toNat)
  case atStart => exact ⟨0, [], rfl, by omega, OwnsR.empty _ _ _ _, rfl, Below.refl _ _⟩
  case round =>
    obtain ⟨k, m, rfl, hk, ho, HM, hB⟩ := hrel
    have HO := Lib.hid ho
    have HB := Lib.hid hB
    obtain ⟨zo, zc, hz⟩ := ho.shape
    rw [List.length_map] at hz
    have hml : m.length ≤ k := by
      rw [HM.out]
      refine Nat.le_trans (List.length_filter_le _ _) ?_
      rw [List.length_take]; omega
    obtain ⟨ml, hmm⟩ : ∃ ml, ml = m.length := ⟨_, rfl⟩
    rw [← hmm] at hz
    have HML : Hid (m.length ≤ 1048576) := by show _ ≤ _; omega
    clear ho hB hmm
    subst hz
    by_cases hlt : k < n
    · obtain ⟨e, he⟩ : ∃ e, l[k]? = some e := ⟨_, List.getElem?_eq_getElem (by have := HN.out; omega)⟩
      obtain ⟨g, off, rfl, hgl, hcell⟩ := HP.out (by have := HN.out; omega)
      have HC := Lib.hid (hcell wr HB.out k e he)
      have c0 := HC.out.c0
      have HS : Hid (En.between (l.take (k + 1)) x y = m ++ (if (decide (x ≤ e.index) && decide (e.index ≤ y)) = true then [e] else [])) := by
        show _ = _
        rw [HM.out, List.take_add_one, he]
        exact En.between_snoc _ e x y
      clear hcell he hml
      by_cases h1 : x ≤ e.index
      · have d1 : decide (x ≤ e.index) = true := decide_eq_true h1
        rw [d1] at HS
        by_cases h2 : e.index ≤ y
        · have d2 : decide (e.index ≤ y) = true := decide_eq_true h2
          have HZ : Hid (m ++ [e] = En.between (l.take (k + 1)) x y) := by show _ = _; rw [HS.out, d2]; rfl
          clear HS d1 d2
          go_wp2_with (first | (refine load_ent rfl _ rfl g (off + k * 10) e rfl HC.out ?_; dsimp only [En.cells]) | go_loud (at_builtin; refine append_ent rfl _ _ rfl wr w.heap.size m (.slice zo ml zc) e rfl rfl HO.out HML.out w HB.out (Nat.le_refl _) ?_; intro v' w' ho' hb'))
          go_roundw
          case rel => exact ⟨k + 1, m ++ [e], by go_num, by omega, ho', HZ.out, hb'⟩
          case measure => simp [intOf]; omega
        · have HZ : Hid (m = En.between (l.take (k + 1)) x y) := by show _ = _; rw [HS.out, decide_eq_false h2]; simp
          clear HS d1
          go_wp2
          go_roundw
          case rel => exact ⟨k + 1, m, by go_num, by omega, HO.out, HZ.out, HB.out⟩
          case measure => simp [intOf]; omega
      · have HZ : Hid (m = En.between (l.take (k + 1)) x y) := by show _ = _; rw [HS.out, decide_eq_false h1]; simp
        clear HS
        go_wp2
        go_roundw
        case rel => exact ⟨k + 1, m, by go_num, by omega, HO.out, HZ.out, HB.out⟩
        case measure => simp [intOf]; omega
    · have HZ : Hid (m = En.between l x y) := by show _ = _; rw [HM.out, List.take_of_length_le (by have := HN.out; omega)]
      go_wp2
      exact HQ.out _ _ ⟨_, rfl, by rw [← HZ.out]; exact HO.out, HB.out⟩

end Go.Proofs.YtdbiplicmdnblaaDoor
