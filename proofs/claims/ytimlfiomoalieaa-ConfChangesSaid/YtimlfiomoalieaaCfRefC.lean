/- The document's Same, Changed and Change. -/
import Derived.Test.YtimlfiomoalieaaCfDo
namespace Go.Proofs.Ytimlfiomoalieaa
open Go.RowKit

theorem Cf.ext_iff (c d : Cf.Conf) : c = d ↔ c.frm = d.frm ∧ c.mem = d.mem := by cases c; cases d; simp

set_option maxRecDepth 4000 in
set_option maxHeartbeats 1600000 in
theorem same_cf (v u : Value) (l m : List Cf.Conf) (w : World) (hv : ReadsC w v l) (hu : ReadsC w u m) : Calls Try.prog 20 #[v, u] w (Looks w (.bool (decide (l = m)))) := by
  obtain ⟨ao, cap, rfl, hc1, hc2⟩ := ReadsC.shape hv
  obtain ⟨bo, dap, rfl, hd1, hd2⟩ := ReadsC.shape hu
  by_cases hlen : l.length = m.length
  · have HP := Lib.hid (fun h => ReadsC.places hv h)
    have HQ := Lib.hid (fun h => ReadsC.places hu h)
    obtain ⟨n, hn⟩ : ∃ n, n = l.length := ⟨_, rfl⟩
    have hm : n = m.length := by omega
    rw [← hn] at hc1 HP ⊢
    rw [← hm] at hd1 HQ ⊢
    have HN := Lib.hid hn; have HM := Lib.hid hm
    have hnb : n < 9223372036854775808 := by omega
    obtain ⟨R, hR⟩ : ∃ R, R = decide (l = m) := ⟨_, rfl⟩
    rw [← hR]
    have HRR := Lib.hid hR
    clear hv hu hn hm hlen hR
    go_enter Try.func20, Try.ntmps20
    go_wp2
    go_loopw [5] (fun i wr => ∃ k : Nat, i = .int .i64 (k : Int) ∧ k ≤ n ∧ Hid (R = decide (l.drop k = m.drop k)) ∧ Below w.heap.size w wr) (fun i _ => n - (intOf i).toNat)
    case atStart => exact ⟨0, rfl, by omega, HRR.out, Below.refl _ _⟩
    case round =>
      obtain ⟨k, rfl, hk, HI, hB⟩ := hrel
      have HB := Lib.hid hB
      clear hB
      by_cases hlt : k < n
      · obtain ⟨c, hx⟩ : ∃ c, l[k]? = some c := ⟨_, List.getElem?_eq_getElem (by have := HN.out; omega)⟩
        obtain ⟨d, hy⟩ : ∃ d, m[k]? = some d := ⟨_, List.getElem?_eq_getElem (by have := HM.out; omega)⟩
        obtain ⟨g, off, rfl, _, hc⟩ := HP.out (by omega)
        obtain ⟨g', off', rfl, _, hd⟩ := HQ.out (by omega)
        obtain ⟨uo, uc, hu, hu1, hu2, hcell⟩ := hc k c hx
        obtain ⟨vo, vc, hv, hv1, hv2, hdell⟩ := hd k d hy
        have k0 := fun p : Behind wr => (hcell p.world (HB.out.trans (p.below.mono HB.out.size))).1
        have k1 := fun p : Behind wr => (hcell p.world (HB.out.trans (p.below.mono HB.out.size))).2
        have j0 := fun p : Behind wr => (hdell p.world (HB.out.trans (p.below.mono HB.out.size))).1
        have j1 := fun p : Behind wr => (hdell p.world (HB.out.trans (p.below.mono HB.out.size))).2
        have HIN := Lib.hid (fun p : Behind wr => ints_any _ _ c.mem d.mem p.world (hu.below (HB.out.trans (p.below.mono HB.out.size))) (hv.below (HB.out.trans (p.below.mono HB.out.size))))
        have HD : Hid ((l.drop k = m.drop k) ↔ ((c.frm = d.frm ∧ c.mem = d.mem) ∧ l.drop (k + 1) = m.drop (k + 1))) := by show _ ↔ _; rw [Cf.drop_at hx, Cf.drop_at hy, List.cons.injEq, Cf.ext_iff]
        obtain ⟨cl, hcl⟩ : ∃ x, x = c.mem.length := ⟨_, rfl⟩
        obtain ⟨dl, hdl⟩ : ∃ x, x = d.mem.length := ⟨_, rfl⟩
        rw [← hcl] at k1 HIN
        rw [← hdl] at j1 HIN
        obtain ⟨t, ht⟩ : ∃ t, t = decide (c.mem = d.mem) := ⟨_, rfl⟩
        rw [← ht] at HIN
        have HT := Lib.hid ht
        clear hc hd hx hy hu hv hcell hdell ht hu1 hv1 hcl hdl
        by_cases he : c.frm = d.frm
        · have he1 : (c.frm != d.frm) = false := by simpa using he
          have HE := Lib.hid he
          clear he
          go_wp2
          refine wp_region_behind (by kernel_rfl) (by kernel_rfl) ?_
          repeat (go_big_quiet_step ((go_at_call 12; exact Looks.behind (HIN.out _))))
          refine wpQuiet_nil ?_
          rintro w5 ⟨⟨w5, hB5⟩, rfl⟩
          (try dsimp only)
          have HB5 := Lib.hid (HB.out.trans (hB5.mono HB.out.size))
          clear hB5
          cases t with
          | true =>
            have hI : Hid (R = decide (l.drop (k + 1) = m.drop (k + 1))) := by
              show _ = _
              rw [HI.out]
              exact decide_eq_decide.2 (HD.out.trans ⟨fun h => h.2, fun h => ⟨⟨HE.out, by simpa using HT.out⟩, h⟩⟩)
            go_wp2
            go_roundw
            case rel => exact ⟨k + 1, by go_num, by omega, hI.out, HB5.out⟩
            case measure => simp [intOf]; omega
          | false =>
            have hI : Hid (R = false) := by
              show _ = _
              rw [HI.out]
              exact decide_eq_false (fun h => by have := (HD.out.1 h).1.2; have h2 := HT.out; rw [decide_eq_true this] at h2; cases h2)
            go_wp2
            go_ret
            exact ⟨by rw [hI.out]; rfl, HB5.out⟩
        · have he1 : (c.frm != d.frm) = true := by simpa using he
          have hI : Hid (R = false) := by
            show _ = _
            rw [HI.out]
            exact decide_eq_false (fun h => he (HD.out.1 h).1.1)
          clear he
          go_wp2
          refine wp_region_behind (by kernel_rfl) (by kernel_rfl) ?_
          repeat (go_big_quiet_step ((fail)))
          refine wpQuiet_nil ?_
          rintro w5 ⟨⟨w5, hB5⟩, rfl⟩
          (try dsimp only)
          go_wp2
          go_ret
          exact ⟨by rw [hI.out]; rfl, HB.out.trans (hB5.mono HB.out.size)⟩
      · obtain rfl : k = n := by omega
        have hI : Hid (R = true) := by
          show _ = _
          rw [HI.out, List.drop_of_length_le (by have := HN.out; omega), List.drop_of_length_le (by have := HM.out; omega)]
          simp
        go_wp2
        go_ret
        exact ⟨by rw [hI.out]; rfl, HB.out⟩
  · have h2 : ((l.length : Int) != (m.length : Int)) = true := by simp; omega
    obtain ⟨R, hR⟩ : ∃ R, R = decide (l = m) := ⟨_, rfl⟩
    have HR : Hid (R = false) := by show _ = _; rw [hR]; exact decide_eq_false (fun h => hlen (by rw [h]))
    rw [← hR]
    clear hR
    go_enter Try.func20, Try.ntmps20
    go_wp2
    go_ret
    exact ⟨by rw [HR.out]; rfl, Below.refl _ _⟩

theorem filter_one (p : Int → Bool) (x : Int) : [x].filter p = if p x = true then [x] else [] := by simp only [List.filter_cons, List.filter_nil]
theorem info_int : (Try.prog.info? 3).map (fun i => (i.zero, i.size, i.bytes)) = some (some (.int .i64 0), 1, 8) := by kernel_rfl
/-- append(out, n) onto a row of the call's own. -/
theorem append_int {ops : Array Oper} {rest : List Oper} {o : Oper} {a : Act} {Q : Exit → Act → World → Prop} (hgd : o.guard = none) (s x : Operand)
    (ho : o.op = .call { callee := .builtin .append, args := #[s, x], argTypes := #[25, 25] })
    (w : World) (base : Nat) (l : List Int) (v : Value) (y : Int) (hs : a.eval s = v) (hx : a.eval x = .slice (some ⟨w.heap.size, 0, none⟩) 1 1) (hown : w.ownsRow base 3 1 v l.length (l.map (Value.int .i64))) (hlen : l.length ≤ 1048576)
    (w0 : World) (hb : Below base w0 w) (hbase : base ≤ w0.heap.size)
    (h : ∀ v' w', w'.ownsRow base 3 1 v' (l ++ [y]).length ((l ++ [y]).map (Value.int .i64)) → Below base w0 w' → wpList Try.prog ops Q rest (a.put o.dst v') w') : wpList Try.prog ops Q (o :: rest) a (w.alloc (.cells #[.int .i64 y] 3)) := by
  obtain ⟨i, h1, h2, h3, h4⟩ := info_parts info_int
  have hsz := hb.size
  refine wpList_append_own _ hgd s x 25 ho base 3 i (.int .i64 0) 1 8 Try.underlying25 h1 h2 h3 h4 rfl (by decide) v l.length _ hs (hown.alloc _) ⟨w.heap.size, 0, none⟩ 1 1 [.int .i64 y] hx rfl (fun j u hj => ?_) (by intro u hu; simp at hu; subst hu; rfl) (by unfold maxLen; omega) (by omega) (by simp; omega) fun v' w' h5 h6 _ => ?_
  · rw [Addr.add_lit, Nat.zero_add]
    exact (Lies.new w 3 #[.int .i64 y]).cell j u (by rw [← hj]; simp)
  · refine h v' w' (by simpa using h5) ?_
    exact (hb.alloc (by omega) _).grown h6 (by simp; omega) fun j ej => by have := (hown.lt j ej).1; exact this

set_option maxRecDepth 4000 in
set_option maxHeartbeats 3200000 in
theorem refChanged_any (v : Value) (l : List Int) (kind node : Int) (w : World) (hv : ReadsI w v l) (hn : l.length ≤ 1048576) :
    Calls Try.prog 30 #[v, .int .i64 kind, .int .i64 node] w (Gives w (Cf.changed l kind node)) := by
  have HINN := Lib.hid (fun (W : World) (h : Below w.heap.size w W) (x : Int) => in_any v l x W (hv.below h))
  obtain ⟨ao, cap, rfl, hc1, hc2⟩ := ReadsI.shape hv
  have HP := Lib.hid (fun h => ReadsI.places hv h)
  obtain ⟨F, hF⟩ : ∃ F, F = l.contains node := ⟨_, rfl⟩
  have HF : Hid (F = true ↔ node ∈ l) := by show _ ↔ _; rw [hF, List.contains_iff_mem]
  have HINF := Lib.hid (fun (W : World) (h : Below w.heap.size w W) => (show Calls Try.prog 15 #[.slice ao l.length cap, .int .i64 node] W (Says W (.bool F)) by rw [hF]; exact HINN.out W h node))
  obtain ⟨n, hnn⟩ : ∃ n, n = l.length := ⟨_, rfl⟩
  rw [← hnn] at HINN HINF HP hc1 hn ⊢
  have HN := Lib.hid hnn
  have hnb : n < 9223372036854775808 := by omega
  obtain ⟨t7, e7⟩ : ∃ t, (kind == 7) = t := ⟨_, rfl⟩
  obtain ⟨t8, e8⟩ : ∃ t, (kind == 8) = t := ⟨_, rfl⟩
  obtain ⟨g1, e1⟩ : ∃ t, decide (1 ≤ node) = t := ⟨_, rfl⟩
  obtain ⟨g9, e9⟩ : ∃ t, decide (node ≤ 9) = t := ⟨_, rfl⟩
  obtain ⟨m, hm⟩ : ∃ m, m = Cf.changed l kind node := ⟨_, rfl⟩
  rw [← hm]
  have HM := Lib.hid hm
  have H7 : Hid (t7 = true ↔ kind = 7) := by show _ ↔ _; rw [← e7]; simp
  have H8 : Hid (t8 = true ↔ kind = 8) := by show _ ↔ _; rw [← e8]; simp
  have G1 : Hid (g1 = true ↔ 1 ≤ node) := by show _ ↔ _; rw [← e1]; simp
  have G9 : Hid (g9 = true ↔ node ≤ 9) := by show _ ↔ _; rw [← e9]; simp
  clear hm hv hF hnn
  have hinf := HINF.out w (Below.refl _ _)
  by_cases hA : t7 = true ∧ F = false ∧ g1 = true ∧ g9 = true
  · obtain ⟨rfl, rfl, rfl, rfl⟩ := hA
    have hnl : node ∉ l := fun h => by have := HF.out.2 h; cases this
    have HE : Hid (m = (Cf.upTo 9).filter fun x => x == node || l.contains x) := by
      show _ = _
      rw [HM.out, Cf.changed, if_pos ⟨H7.out.1 rfl, G1.out.1 rfl, G9.out.1 rfl, hnl⟩]
      rfl
    obtain rfl : t8 = false := by
      cases t8 with
      | false => rfl
      | true => have := H7.out.1 rfl; have := H8.out.1 rfl; omega
    clear hnl HINF
    go_enter Try.func30, Try.ntmps30
    go_wp2_with fail
    refine hinf.mono ?_
    rintro e w1 ⟨rfl, rfl⟩
    clear hinf
    go_wp2
    go_loopw [7, 8] (fun y i wr => ∃ k : Nat, i = .int .i64 ((k : Int) + 1) ∧ k ≤ 9 ∧ wr.ownsRow w.heap.size 3 1 y ((Cf.upTo k).filter fun x => x == node || l.contains x).length (((Cf.upTo k).filter fun x => x == node || l.contains x).map (Value.int .i64)) ∧ Below w.heap.size w wr) (fun _ i _ => 10 - (intOf i).toNat)
    case atStart => exact ⟨0, rfl, by omega, World.ownsRow_nil _ _ _ _, Below.refl _ _⟩
    case round =>
      obtain ⟨k, rfl, hk, ho, hB⟩ := hrel
      have HO := Lib.hid ho
      have HB := Lib.hid hB
      obtain ⟨ao7, cap7, hs7, _, _⟩ := ReadsI.shape (RowI.of_owns ho).reads
      have HIN2 := Lib.hid (fun (W : World) (h : Below w.heap.size w W) => HINN.out W h ((k : Int) + 1))
      obtain ⟨acc, hacc⟩ : ∃ acc, acc = (Cf.upTo k).filter fun x => x == node || l.contains x := ⟨_, rfl⟩
      have HSN : Hid ((Cf.upTo (k + 1)).filter (fun x => x == node || l.contains x) = acc ++ if ((((k : Int) + 1) == node) || l.contains ((k : Int) + 1)) = true then [(k : Int) + 1] else []) := by
        show _ = _
        rw [Cf.upTo_succ, List.filter_append, filter_one, hacc]
      have hal : acc.length ≤ k := by
        rw [hacc]
        have h1 := List.length_filter_le (fun x => x == node || l.contains x) (Cf.upTo k)
        have h2 : (Cf.upTo k).length = k := by simp [Cf.upTo]
        omega
      rw [← hacc] at HO hs7
      have HACC := Lib.hid hacc
      clear ho hB hacc
      subst hs7
      by_cases hlt : k < 9
      · have hle : (k : Int) + 1 ≤ 9 := by omega
        have dle : decide ((k : Int) + 1 ≤ 9) = true := decide_eq_true hle
        obtain ⟨y, hy⟩ : ∃ y, y = (k : Int) + 1 := ⟨_, rfl⟩
        have hyy : (k : Int) + 1 = y := hy.symm
        rw [hyy] at HSN HIN2 hle dle ⊢
        have hin := HIN2.out wr HB.out
        obtain ⟨b0, hb0⟩ : ∃ b0, (y == node) = b0 := ⟨_, rfl⟩
        obtain ⟨b1, hb1⟩ : ∃ b1, b1 = l.contains y := ⟨_, rfl⟩
        rw [← hb1] at hin HSN
        rw [hb0] at HSN
        have HY := Lib.hid hy
        have hy1 : y + 1 = ((k + 1 : Nat) : Int) + 1 := by omega
        have HY1 := Lib.hid hy1
        have hyb : 1 ≤ y := by omega
        clear hb1 hyy hy hy1
        cases b0 with
        | true =>
          have HS2 : Hid ((Cf.upTo (k + 1)).filter (fun x => x == node || l.contains x) = acc ++ [y]) := HSN.out
          clear hin
          go_wp2_with (at_builtin; refine append_int rfl _ _ rfl wr w.heap.size acc (.slice ao7 acc.length cap7) y rfl rfl HO.out (by omega) w HB.out (Nat.le_refl _) ?_; intro v' w' ho' hB')
          go_roundw
          case rel => exact ⟨k + 1, by rw [HY1.out], by omega, by rw [HS2.out]; exact ho', hB'⟩
          case measure => have := HY.out; simp [intOf]; omega
        | false =>
          cases b1 with
          | true =>
            have HS2 : Hid ((Cf.upTo (k + 1)).filter (fun x => x == node || l.contains x) = acc ++ [y]) := HSN.out
            go_wp2_with (first | (at_builtin; refine append_int rfl _ _ rfl wr w.heap.size acc (.slice ao7 acc.length cap7) y rfl rfl HO.out (by omega) w HB.out (Nat.le_refl _) ?_; intro v' w' ho' hB') | (go_at_call 15; refine hin.mono ?_; rintro e w' ⟨rfl, rfl⟩))
            go_roundw
            case rel => exact ⟨k + 1, by rw [HY1.out], by omega, by rw [HS2.out]; exact ho', hB'⟩
            case measure => have := HY.out; simp [intOf]; omega
          | false =>
            have HS2 : Hid ((Cf.upTo (k + 1)).filter (fun x => x == node || l.contains x) = acc) := by show _ = _; rw [HSN.out]; simp
            go_wp2_with (go_at_call 15; refine hin.mono ?_; rintro e w' ⟨rfl, rfl⟩)
            go_roundw
            case rel => exact ⟨k + 1, by rw [HY1.out], by omega, by rw [HS2.out]; exact HO.out, HB.out⟩
            case measure => have := HY.out; simp [intOf]; omega
      · obtain rfl : k = 9 := by omega
        have HR : Hid (ReadsI wr (.slice ao7 acc.length cap7) m) := by show ReadsI _ _ _; rw [HE.out, ← HACC.out]; exact (RowI.of_owns HO.out).reads
        clear HINN HIN2 HSN
        go_wp2
        go_ret
        exact ⟨_, rfl, HR.out, HB.out⟩
  · by_cases hBB : t8 = true ∧ F = true
    · obtain ⟨rfl, rfl⟩ := hBB
      have hk8 := H8.out.1 rfl
      obtain rfl : t7 = false := by
        cases t7 with
        | false => rfl
        | true => have := H7.out.1 rfl; omega
      have HE : Hid (m = l.filter fun x => x != node) := by
        show _ = _
        rw [HM.out, Cf.changed, if_neg (fun h => by have := h.1; omega), if_pos ⟨hk8, HF.out.1 rfl⟩]
        rfl
      clear hk8 HINN HINF hA
      go_enter Try.func30, Try.ntmps30
      go_wp2_with fail
      refine hinf.mono ?_
      rintro e w1 ⟨rfl, rfl⟩
      clear hinf
      go_wp2
      go_loopw [7, 9] (fun y i wr => ∃ k : Nat, i = .int .i64 (k : Int) ∧ k ≤ n ∧ wr.ownsRow w.heap.size 3 1 y ((l.take k).filter fun x => x != node).length (((l.take k).filter fun x => x != node).map (Value.int .i64)) ∧ Below w.heap.size w wr) (fun _ i _ => n - (intOf i).toNat)
      case atStart => exact ⟨0, rfl, by omega, World.ownsRow_nil _ _ _ _, Below.refl _ _⟩
      case round =>
        obtain ⟨k, rfl, hk, ho, hB⟩ := hrel
        have HO := Lib.hid ho
        have HB := Lib.hid hB
        obtain ⟨ao7, cap7, hs7, _, _⟩ := ReadsI.shape (RowI.of_owns ho).reads
        obtain ⟨acc, hacc⟩ : ∃ acc, acc = (l.take k).filter fun x => x != node := ⟨_, rfl⟩
        have hal : acc.length ≤ k := by
          rw [hacc]
          have h1 := List.length_filter_le (fun x => x != node) (l.take k)
          rw [List.length_take] at h1
          omega
        rw [← hacc] at HO hs7
        have HACC := Lib.hid hacc
        clear ho hB
        subst hs7
        by_cases hlt : k < n
        · obtain ⟨x, hx⟩ : ∃ x, l[k]? = some x := ⟨_, List.getElem?_eq_getElem (by have := HN.out; omega)⟩
          obtain ⟨g, off, rfl, _, hc⟩ := HP.out (by omega)
          have hc0 := hc wr HB.out k x hx
          have HSN : Hid ((l.take (k + 1)).filter (fun x => x != node) = acc ++ if (x != node) = true then [x] else []) := by
            show _ = _
            rw [List.take_add_one, hx, List.filter_append, ← hacc, show (some x).toList = [x] from rfl, filter_one]
          obtain ⟨b0, hb0⟩ : ∃ b0, (x != node) = b0 := ⟨_, rfl⟩
          rw [hb0] at HSN
          clear hc hx hacc
          cases b0 with
          | true =>
            have HS2 : Hid ((l.take (k + 1)).filter (fun x => x != node) = acc ++ [x]) := HSN.out
            go_wp2_with (at_builtin; refine append_int rfl _ _ rfl wr w.heap.size acc (.slice ao7 acc.length cap7) x rfl rfl HO.out (by omega) w HB.out (Nat.le_refl _) ?_; intro v' w' ho' hB')
            go_roundw
            case rel => exact ⟨k + 1, by go_num, by omega, by rw [HS2.out]; exact ho', hB'⟩
            case measure => simp [intOf]; omega
          | false =>
            have HS2 : Hid ((l.take (k + 1)).filter (fun x => x != node) = acc) := by show _ = _; rw [HSN.out]; simp
            go_wp2
            go_roundw
            case rel => exact ⟨k + 1, by go_num, by omega, by rw [HS2.out]; exact HO.out, HB.out⟩
            case measure => simp [intOf]; omega
        · obtain rfl : k = n := by omega
          have HR : Hid (ReadsI wr (.slice ao7 acc.length cap7) m) := by
            show ReadsI _ _ _
            rw [HE.out, show l.filter (fun x => x != node) = acc by rw [hacc, HN.out, List.take_length]]
            exact (RowI.of_owns HO.out).reads
          clear hacc
          go_wp2
          go_ret
          exact ⟨_, rfl, HR.out, HB.out⟩
    · have HE : Hid (m = []) := by
        show _ = _
        rw [HM.out, Cf.changed]
        by_cases hx : kind = 7 ∧ 1 ≤ node ∧ node ≤ 9 ∧ node ∉ l
        · exfalso
          refine hA ⟨H7.out.2 hx.1, ?_, G1.out.2 hx.2.1, G9.out.2 hx.2.2.1⟩
          cases F with
          | false => rfl
          | true => exact absurd (HF.out.1 rfl) hx.2.2.2
        · rw [if_neg hx]
          by_cases hy : kind = 8 ∧ node ∈ l
          · exact absurd ⟨H8.out.2 hy.1, HF.out.2 hy.2⟩ hBB
          · rw [if_neg hy]
      clear HINN HINF
      cases t7 <;> cases F <;> (try cases g1) <;> (try cases g9) <;> (try cases t8)
      all_goals first
        | (exact absurd ⟨rfl, rfl, rfl, rfl⟩ hA)
        | (exact absurd ⟨rfl, rfl⟩ hBB)
        | (go_enter Try.func30, Try.ntmps30
           go_wp2_with (go_at_call 15; refine hinf.mono ?_; rintro e w' ⟨rfl, rfl⟩)
           go_ret
           exact ⟨_, rfl, by rw [HE.out]; exact ReadsI.empty _, Below.refl _ _⟩)

end Go.Proofs.Ytimlfiomoalieaa
