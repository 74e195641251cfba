/- The document's own With, of sessions. -/
import Derived.Test.YtibpmhogapccoaaSeRef
import Derived.Test.YtibpmhogapccoaaSeCopy
namespace Go.Proofs.Ytibpmhogapccoaa
open Go.RowKit

/-- append(out, s) onto a row of the call's own: the element has been laid in a block ahead. -/
theorem append_ses {ops : Array Oper} {rest : List Oper} {o : Oper} {a : Act} {Q : Exit → Act → World → Prop} (hgd : o.guard = none) (s x : Operand)
    (ho : o.op = .call { callee := .builtin .append, args := #[s, x], argTypes := #[22, 22] })
    (w : World) (base : Nat) (l : List Se.Ses) (v : Value) (e : Se.Ses) (hs : a.eval s = v) (hx : a.eval x = .slice (some ⟨w.heap.size, 0, none⟩) 1 1) (hown : OwnsR w base 39 8 v (l.map Se.cells)) (hlen : l.length ≤ 1048576)
    (w0 : World) (hb : Below base w0 w) (hbase : base ≤ w0.heap.size)
    (h : ∀ v' w', OwnsR w' base 39 8 v' ((l ++ [e]).map Se.cells) → Below base w0 w' → wpList Try.prog ops Q rest (a.put o.dst v') w') : wpList Try.prog ops Q (o :: rest) a (w.alloc (.cells (Se.cells e) 39)) := by
  refine append_rows hgd s x 22 39 8 72 (.agg (Se.cells Se.zero)) ho Try.underlying22 info_ses rfl (by decide) base (l.map Se.cells) [Se.cells e] v _ hs hx (hown.alloc _) (ReadsR.single (Lies.new w _ _)) (Se.sized [e]) (by simp; omega) (by simp; omega) w0 (hb.alloc (by have := hb.size; omega) _) hbase fun v' w' h1 h2 _ => h v' w' ?_ h2
  rw [List.map_append]
  exact h1

/-- A load of a session, its cells spelt out. -/
theorem load_lit8 {ops : Array Oper} {rest : List Oper} {op : Oper} {a : Act} {w : World} {Q : Exit → Act → World → Prop} (hgd : op.guard = none) (x : Operand) (ho : op.op = .load 39 x)
    (g o : Nat) (s : Se.Ses) (hx : a.eval x = .pointer (some ⟨g, o, none⟩)) (hl : SesAt w g o s)
    (h : wpList Try.prog ops Q rest (a.put op.dst (.agg #[.int .i64 s.client, .int .i64 s.seq, .int .i64 s.last.client, .int .i64 s.last.seq, .int .i64 s.last.err, .bool s.last.found, .string ⟨s.last.val.toArray⟩, .int .i64 s.last.rev])) w) : wpList Try.prog ops Q (op :: rest) a w :=
  load_ses hgd x ho g o s hx hl h

set_option maxRecDepth 4000 in
set_option maxHeartbeats 6400000 in
theorem refWithSe_any (v : Value) (l : List Se.Ses) (e : An.Ans) (w : World) (hv : ReadsN w v l) (hn : l.length ≤ 400000) :
    Calls Try.prog 17 #[v, .agg (An.cells e)] w (MadeN w (Se.refPut l e)) := by
  obtain ⟨w1, e1, hl1, hB1, hz1⟩ := box_ans w e
  obtain ⟨ao, cap, rfl, hc1, hc2⟩ := ReadsN.shape hv
  have HP := Lib.hid (fun h => ReadsN.places hv h)
  have HL1 := Lib.hid hl1; have HB1 := Lib.hid hB1
  obtain ⟨n, hnn⟩ : ∃ n, n = l.length := ⟨_, rfl⟩
  rw [← hnn] at hc1 hn ⊢
  have HN := Lib.hid hnn
  obtain ⟨Q, hQ⟩ : ∃ Q, Q = MadeN w (Se.refPut l e) := ⟨_, rfl⟩
  rw [← hQ]
  have HQ : Hid (∀ e' w', MadeN w (Se.refPut l e) e' w' → Q e' w') := by intro e' w' h; rw [hQ]; exact h
  clear hv hnn hQ hl1 hB1 hz1
  go_enter Try.func17, Try.ntmps17
  go_wp2
  go_loopw [5, 6, 7] (fun y d i wr => ∃ (k : Nat) (s : List Se.Ses) (t : Bool), d = .bool t ∧ i = .int .i64 (k : Int) ∧ k ≤ n ∧ OwnsR wr w1.heap.size 39 8 y (s.map Se.cells) ∧ Hid ((l.take k).foldl (Se.wstep e) ([], false) = (s, t)) ∧ s.length ≤ 2 * k ∧ Below w1.heap.size w1 wr) (fun _ _ i _ => n - (intOf i).toNat)
  case atStart => exact ⟨0, [], false, rfl, rfl, by omega, OwnsR.empty _ _ _ _, rfl, by simp, Below.refl _ _⟩
  case round =>
    obtain ⟨k, s, t, rfl, rfl, hk, ho, HS, hsl, hB⟩ := hrel
    have HO := Lib.hid ho
    have HB := Lib.hid hB
    obtain ⟨zo, zc, hz⟩ := ho.shape
    rw [List.length_map] at hz
    have HSL : Hid (s.length ≤ 1048570) := by show _ ≤ _; omega
    have HSK := Lib.hid hsl
    obtain ⟨zl, hzl⟩ : ∃ zl, zl = s.length := ⟨_, rfl⟩
    rw [← hzl] at hz
    clear ho hB hzl hsl
    subst hz
    by_cases hlt : k < n
    · obtain ⟨a, ha⟩ : ∃ a, l[k]? = some a := ⟨_, List.getElem?_eq_getElem (by have := HN.out; omega)⟩
      obtain ⟨g, off, rfl, hgl, hcell⟩ := HP.out (by have := HN.out; omega)
      have HCELL : Hid (∀ W, Below w1.heap.size w1 W → SesAt W g (off + k * 8) a) := fun W hW => hcell W (HB1.out.trans (hW.mono HB1.out.size)) k a ha
      have HBOX : Hid (∀ W, Below w1.heap.size w1 W → Anss W w.heap.size e) := fun W hW => HL1.out.below hW HL1.out.lt
      have HST := Lib.hid (Se.wstep_take ha e)
      clear hcell ha
      cases t with
      | true =>
        by_cases hx : a.client = e.client
        · have HZ : Hid ((l.take (k + 1)).foldl (Se.wstep e) ([], false) = (s, true)) := by show _ = _; rw [HST.out, HS.out, Se.w1 _ _ _ hx]
          have hx1 : (a.client != e.client) = false := by simpa using hx
          clear hx
          go_wp2
          have k0 := fun p' : Behind wr => (HCELL.out p'.world (HB.out.trans (p'.below.mono HB.out.size))).c0
          have k1 := fun p' : Behind wr => (Anss.every (HBOX.out p'.world (HB.out.trans (p'.below.mono HB.out.size)))).1
          refine wp_region_behind (by kernel_rfl) (by kernel_rfl) ?_
          repeat (go_big_quiet_step (fail))
          refine wpQuiet_nil ?_
          rintro w5 ⟨⟨w5, hw5⟩, rfl⟩
          (try dsimp only)
          have HBw5 := Lib.hid (HB.out.trans (hw5.mono HB.out.size))
          have HOw5 := Lib.hid (HO.out.keep hw5 (Nat.le_refl _))
          clear k0 k1 hw5
          go_wp2
          have k0 := fun p' : Behind w5 => (HCELL.out p'.world (HBw5.out.trans (p'.below.mono HBw5.out.size))).c0
          have k1 := fun p' : Behind w5 => (Anss.every (HBOX.out p'.world (HBw5.out.trans (p'.below.mono HBw5.out.size)))).1
          refine wp_region_behind (by kernel_rfl) (by kernel_rfl) ?_
          repeat (go_big_quiet_step (fail))
          refine wpQuiet_nil ?_
          rintro w7 ⟨⟨w7, hw7⟩, rfl⟩
          (try dsimp only)
          have HBw7 := Lib.hid (HBw5.out.trans (hw7.mono HBw5.out.size))
          have HOw7 := Lib.hid (HOw5.out.keep hw7 (Nat.le_refl _))
          clear k0 k1 hw7
          go_wp2
          go_roundw
          case rel => exact ⟨k + 1, s, true, rfl, by go_num, by omega, HOw7.out, HZ.out, by have := HSK.out; first | omega | (simp only [List.length_append, List.length_cons, List.length_nil]; omega), HBw7.out⟩
          case measure => simp [intOf]; omega
        · have HZ : Hid ((l.take (k + 1)).foldl (Se.wstep e) ([], false) = (s ++ [a], true)) := by show _ = _; rw [HST.out, HS.out, Se.w2 _ _ _ hx]
          have hx1 : (a.client != e.client) = true := by simpa using hx
          clear hx
          go_wp2
          have k0 := fun p' : Behind wr => (HCELL.out p'.world (HB.out.trans (p'.below.mono HB.out.size))).c0
          have k1 := fun p' : Behind wr => (Anss.every (HBOX.out p'.world (HB.out.trans (p'.below.mono HB.out.size)))).1
          refine wp_region_behind (by kernel_rfl) (by kernel_rfl) ?_
          repeat (go_big_quiet_step (fail))
          refine wpQuiet_nil ?_
          rintro w5 ⟨⟨w5, hw5⟩, rfl⟩
          (try dsimp only)
          have HBw5 := Lib.hid (HB.out.trans (hw5.mono HB.out.size))
          have HOw5 := Lib.hid (HO.out.keep hw5 (Nat.le_refl _))
          clear k0 k1 hw5
          go_wp2
          have k0 := fun p' : Behind w5 => (HCELL.out p'.world (HBw5.out.trans (p'.below.mono HBw5.out.size))).c0
          have k1 := fun p' : Behind w5 => (Anss.every (HBOX.out p'.world (HBw5.out.trans (p'.below.mono HBw5.out.size)))).1
          refine wp_region_behind (by kernel_rfl) (by kernel_rfl) ?_
          repeat (go_big_quiet_step (fail))
          refine wpQuiet_nil ?_
          rintro w7 ⟨⟨w7, hw7⟩, rfl⟩
          (try dsimp only)
          have HBw7 := Lib.hid (HBw5.out.trans (hw7.mono HBw5.out.size))
          have HOw7 := Lib.hid (HOw5.out.keep hw7 (Nat.le_refl _))
          clear k0 k1 hw7
          go_wp2_with (first | (refine load_lit8 rfl _ rfl g (off + k * 8) a rfl (HCELL.out _ HBw7.out) ?_) | (at_builtin; refine append_ses rfl _ _ rfl w7 w1.heap.size (s) (.slice zo zl zc) a rfl rfl HOw7.out (by have := HSL.out; first | omega | (simp only [List.length_append, List.length_cons, List.length_nil]; omega)) w1 HBw7.out (Nat.le_refl _) ?_; intro vw8 w8 how8 hBw8; have HOw8 := Lib.hid how8; have HBw8 := Lib.hid hBw8; clear how8 hBw8))
          go_roundw
          case rel => exact ⟨k + 1, s ++ [a], true, rfl, by go_num, by omega, HOw8.out, HZ.out, by have := HSK.out; first | omega | (simp only [List.length_append, List.length_cons, List.length_nil]; omega), HBw8.out⟩
          case measure => simp [intOf]; omega
      | false =>
        by_cases hge : e.client ≤ a.client
        · have hg1 : decide (e.client ≤ a.client) = true := decide_eq_true hge
          by_cases hx : a.client = e.client
          · have HZ : Hid ((l.take (k + 1)).foldl (Se.wstep e) ([], false) = (s ++ [Se.of e], true)) := by show _ = _; rw [HST.out, HS.out, Se.w3 _ _ _ hx]
            have hx1 : (a.client != e.client) = false := by simpa using hx
            clear hx hge
            go_wp2
            have k0 := fun p' : Behind wr => (HCELL.out p'.world (HB.out.trans (p'.below.mono HB.out.size))).c0
            have k1 := fun p' : Behind wr => (Anss.every (HBOX.out p'.world (HB.out.trans (p'.below.mono HB.out.size)))).1
            refine wp_region_behind (by kernel_rfl) (by kernel_rfl) ?_
            repeat (go_big_quiet_step (fail))
            refine wpQuiet_nil ?_
            rintro w5 ⟨⟨w5, hw5⟩, rfl⟩
            (try dsimp only)
            have HBw5 := Lib.hid (HB.out.trans (hw5.mono HB.out.size))
            have HOw5 := Lib.hid (HO.out.keep hw5 (Nat.le_refl _))
            clear k0 k1 hw5
            obtain ⟨q0, q1, q2, q3, q4, q5⟩ := Anss.every (HBOX.out _ HBw5.out)
            go_wp2_with (first | (fail) | (at_builtin; refine append_ses rfl _ _ rfl w5 w1.heap.size (s) (.slice zo zl zc) (Se.of e) rfl rfl HOw5.out (by have := HSL.out; first | omega | (simp only [List.length_append, List.length_cons, List.length_nil]; omega)) w1 HBw5.out (Nat.le_refl _) ?_; intro vw6 w6 how6 hBw6; have HOw6 := Lib.hid how6; have HBw6 := Lib.hid hBw6; clear how6 hBw6))
            go_wp2
            have k0 := fun p' : Behind w6 => (HCELL.out p'.world (HBw6.out.trans (p'.below.mono HBw6.out.size))).c0
            have k1 := fun p' : Behind w6 => (Anss.every (HBOX.out p'.world (HBw6.out.trans (p'.below.mono HBw6.out.size)))).1
            refine wp_region_behind (by kernel_rfl) (by kernel_rfl) ?_
            repeat (go_big_quiet_step (fail))
            refine wpQuiet_nil ?_
            rintro w7 ⟨⟨w7, hw7⟩, rfl⟩
            (try dsimp only)
            have HBw7 := Lib.hid (HBw6.out.trans (hw7.mono HBw6.out.size))
            have HOw7 := Lib.hid (HOw6.out.keep hw7 (Nat.le_refl _))
            clear k0 k1 hw7
            go_wp2
            go_roundw
            case rel => exact ⟨k + 1, s ++ [Se.of e], true, rfl, by go_num, by omega, HOw7.out, HZ.out, by have := HSK.out; first | omega | (simp only [List.length_append, List.length_cons, List.length_nil]; omega), HBw7.out⟩
            case measure => simp [intOf]; omega
          · have HZ : Hid ((l.take (k + 1)).foldl (Se.wstep e) ([], false) = (s ++ [Se.of e] ++ [a], true)) := by show _ = _; rw [HST.out, HS.out, Se.w4 _ _ _ hge hx]
            have hx1 : (a.client != e.client) = true := by simpa using hx
            clear hx hge
            go_wp2
            have k0 := fun p' : Behind wr => (HCELL.out p'.world (HB.out.trans (p'.below.mono HB.out.size))).c0
            have k1 := fun p' : Behind wr => (Anss.every (HBOX.out p'.world (HB.out.trans (p'.below.mono HB.out.size)))).1
            refine wp_region_behind (by kernel_rfl) (by kernel_rfl) ?_
            repeat (go_big_quiet_step (fail))
            refine wpQuiet_nil ?_
            rintro w5 ⟨⟨w5, hw5⟩, rfl⟩
            (try dsimp only)
            have HBw5 := Lib.hid (HB.out.trans (hw5.mono HB.out.size))
            have HOw5 := Lib.hid (HO.out.keep hw5 (Nat.le_refl _))
            clear k0 k1 hw5
            obtain ⟨q0, q1, q2, q3, q4, q5⟩ := Anss.every (HBOX.out _ HBw5.out)
            go_wp2_with (first | (fail) | (at_builtin; refine append_ses rfl _ _ rfl w5 w1.heap.size (s) (.slice zo zl zc) (Se.of e) rfl rfl HOw5.out (by have := HSL.out; first | omega | (simp only [List.length_append, List.length_cons, List.length_nil]; omega)) w1 HBw5.out (Nat.le_refl _) ?_; intro vw6 w6 how6 hBw6; have HOw6 := Lib.hid how6; have HBw6 := Lib.hid hBw6; clear how6 hBw6))
            go_wp2
            have k0 := fun p' : Behind w6 => (HCELL.out p'.world (HBw6.out.trans (p'.below.mono HBw6.out.size))).c0
            have k1 := fun p' : Behind w6 => (Anss.every (HBOX.out p'.world (HBw6.out.trans (p'.below.mono HBw6.out.size)))).1
            refine wp_region_behind (by kernel_rfl) (by kernel_rfl) ?_
            repeat (go_big_quiet_step (fail))
            refine wpQuiet_nil ?_
            rintro w7 ⟨⟨w7, hw7⟩, rfl⟩
            (try dsimp only)
            have HBw7 := Lib.hid (HBw6.out.trans (hw7.mono HBw6.out.size))
            have HOw7 := Lib.hid (HOw6.out.keep hw7 (Nat.le_refl _))
            clear k0 k1 hw7
            go_wp2_with (first | (refine load_lit8 rfl _ rfl g (off + k * 8) a rfl (HCELL.out _ HBw7.out) ?_) | (at_builtin; refine append_ses rfl _ _ rfl w7 w1.heap.size (s ++ [Se.of e]) vw6 a rfl rfl HOw7.out (by have := HSL.out; first | omega | (simp only [List.length_append, List.length_cons, List.length_nil]; omega)) w1 HBw7.out (Nat.le_refl _) ?_; intro vw8 w8 how8 hBw8; have HOw8 := Lib.hid how8; have HBw8 := Lib.hid hBw8; clear how8 hBw8))
            go_roundw
            case rel => exact ⟨k + 1, s ++ [Se.of e] ++ [a], true, rfl, by go_num, by omega, HOw8.out, HZ.out, by have := HSK.out; first | omega | (simp only [List.length_append, List.length_cons, List.length_nil]; omega), HBw8.out⟩
            case measure => simp [intOf]; omega
        · have hg1 : decide (e.client ≤ a.client) = false := decide_eq_false hge
          have HZ : Hid ((l.take (k + 1)).foldl (Se.wstep e) ([], false) = (s ++ [a], false)) := by show _ = _; rw [HST.out, HS.out, Se.w5 _ _ _ hge]
          have hx1 : (a.client != e.client) = true := by simp; omega
          clear hge
          go_wp2
          have k0 := fun p' : Behind wr => (HCELL.out p'.world (HB.out.trans (p'.below.mono HB.out.size))).c0
          have k1 := fun p' : Behind wr => (Anss.every (HBOX.out p'.world (HB.out.trans (p'.below.mono HB.out.size)))).1
          refine wp_region_behind (by kernel_rfl) (by kernel_rfl) ?_
          repeat (go_big_quiet_step (fail))
          refine wpQuiet_nil ?_
          rintro w5 ⟨⟨w5, hw5⟩, rfl⟩
          (try dsimp only)
          have HBw5 := Lib.hid (HB.out.trans (hw5.mono HB.out.size))
          have HOw5 := Lib.hid (HO.out.keep hw5 (Nat.le_refl _))
          clear k0 k1 hw5
          go_wp2
          have k0 := fun p' : Behind w5 => (HCELL.out p'.world (HBw5.out.trans (p'.below.mono HBw5.out.size))).c0
          have k1 := fun p' : Behind w5 => (Anss.every (HBOX.out p'.world (HBw5.out.trans (p'.below.mono HBw5.out.size)))).1
          refine wp_region_behind (by kernel_rfl) (by kernel_rfl) ?_
          repeat (go_big_quiet_step (fail))
          refine wpQuiet_nil ?_
          rintro w7 ⟨⟨w7, hw7⟩, rfl⟩
          (try dsimp only)
          have HBw7 := Lib.hid (HBw5.out.trans (hw7.mono HBw5.out.size))
          have HOw7 := Lib.hid (HOw5.out.keep hw7 (Nat.le_refl _))
          clear k0 k1 hw7
          go_wp2_with (first | (refine load_lit8 rfl _ rfl g (off + k * 8) a rfl (HCELL.out _ HBw7.out) ?_) | (at_builtin; refine append_ses rfl _ _ rfl w7 w1.heap.size (s) (.slice zo zl zc) a rfl rfl HOw7.out (by have := HSL.out; first | omega | (simp only [List.length_append, List.length_cons, List.length_nil]; omega)) w1 HBw7.out (Nat.le_refl _) ?_; intro vw8 w8 how8 hBw8; have HOw8 := Lib.hid how8; have HBw8 := Lib.hid hBw8; clear how8 hBw8))
          go_roundw
          case rel => exact ⟨k + 1, s ++ [a], false, rfl, by go_num, by omega, HOw8.out, HZ.out, by have := HSK.out; first | omega | (simp only [List.length_append, List.length_cons, List.length_nil]; omega), HBw8.out⟩
          case measure => simp [intOf]; omega
    · have HEND : Hid (Se.refPut l e = Se.wend e (s, t)) := by show _ = _; unfold Se.refPut; rw [← HS.out, List.take_of_length_le (by have := HN.out; omega)]
      have HBOX : Hid (∀ W, Below w1.heap.size w1 W → Anss W w.heap.size e) := fun W hW => HL1.out.below hW HL1.out.lt
      cases t with
      | true =>
        go_wp2
        exact HQ.out _ _ ⟨_, rfl, by rw [HEND.out]; exact HO.out.mono HB1.out.size, HB1.out.trans (HB.out.mono HB1.out.size)⟩
      | false =>
        obtain ⟨q0, q1, q2, q3, q4, q5⟩ := Anss.every (HBOX.out _ HB.out)
        go_wp2_with (first | (at_builtin; refine append_ses rfl _ _ rfl wr w1.heap.size s (.slice zo zl zc) (Se.of e) rfl rfl HO.out (by have := HSL.out; omega) w1 HB.out (Nat.le_refl _) ?_; intro vw8 w8 how8 hBw8; have HOw8 := Lib.hid how8; have HBw8 := Lib.hid hBw8; clear how8 hBw8))
        exact HQ.out _ _ ⟨_, rfl, by rw [HEND.out]; exact HOw8.out.mono HB1.out.size, HB1.out.trans (HBw8.out.mono HB1.out.size)⟩

end Go.Proofs.Ytibpmhogapccoaa
