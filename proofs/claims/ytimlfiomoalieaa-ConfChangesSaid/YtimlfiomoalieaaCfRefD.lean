/- The document's Change. -/
import Derived.Test.YtimlfiomoalieaaCfRefC
namespace Go.Proofs.Ytimlfiomoalieaa
open Go.RowKit

/-- append(out, c) onto a row of the call's own. -/
theorem append_conf {ops : Array Oper} {rest : List Oper} {o : Oper} {a : Act} {Q : Exit → Act → World → Prop} (hgd : o.guard = none) (s x : Operand)
    (ho : o.op = .call { callee := .builtin .append, args := #[s, x], argTypes := #[22, 22] })
    (w : World) (base : Nat) (us : List (Int × Value)) (v : Value) (f : Int) (u : Value) (hs : a.eval s = v) (hx : a.eval x = .slice (some ⟨w.heap.size, 0, none⟩) 1 1) (hown : w.ownsRow base 43 2 v us.length (flat us)) (hone : u.oneCell' = true) (hlen : us.length ≤ 1048576)
    (w0 : World) (hb : Below base w0 w) (hbase : base ≤ w0.heap.size)
    (h : ∀ v' w', w'.ownsRow base 43 2 v' (us ++ [(f, u)]).length (flat (us ++ [(f, u)])) → Below base w0 w' → wpList Try.prog ops Q rest (a.put o.dst v') w') : wpList Try.prog ops Q (o :: rest) a (w.alloc (.cells #[.int .i64 f, u] 43)) := by
  obtain ⟨i0, hi, hz0, hz1, hz2⟩ := info_parts info_conf
  have hsz := hb.size
  refine wpList_append_own _ hgd s x 22 ho base 43 i0 (.agg #[.int .i64 0, .slice none 0 0]) 2 32 Try.underlying22 hi hz0 hz1 hz2 rfl (by decide) v us.length _ hs (hown.alloc _) ⟨w.heap.size, 0, none⟩ 1 1 [.int .i64 f, u] hx rfl (fun j v hj => ?_) (by intro v hv; simp at hv; rcases hv with rfl | rfl; rfl; exact hone) (by unfold maxLen; omega) (by omega) (by simp; omega) fun v' w' h5 h6 _ => ?_
  · rw [Addr.add_lit, Nat.zero_add]
    exact (Lies.new w 43 #[.int .i64 f, u]).cell j v (by rw [← hj]; simp)
  · rw [flat_snoc] at h5
    refine h v' w' (by simpa using h5) ?_
    exact (hb.alloc (by omega) _).grown h6 (by simp; omega) fun j ej => by have := (hown.lt j ej).1; exact this

/-- Members of the row's elements, each as it read in a world ahead. -/
def URow (w : World) (us : List (Int × Value)) (l : List Cf.Conf) : Prop := us.length = l.length ∧ ∀ (i : Nat) (p : Int × Value) (c : Cf.Conf), us[i]? = some p → l[i]? = some c → p.1 = c.frm ∧ ReadsI w p.2 c.mem
theorem URow.snoc {w : World} {us : List (Int × Value)} {l : List Cf.Conf} (h : URow w us l) {f : Int} {u : Value} {m : List Int} (hu : ReadsI w u m) : URow w (us ++ [(f, u)]) (l ++ [⟨f, m⟩]) := by
  refine ⟨by simp [h.1], fun i p c hp hc => ?_⟩
  by_cases hlt : i < l.length
  · rw [List.getElem?_append_left (by have := h.1; omega)] at hp
    rw [List.getElem?_append_left hlt] at hc
    exact h.2 i p c hp hc
  · rw [List.getElem?_append_right (by have := h.1; omega)] at hp
    rw [List.getElem?_append_right (by omega)] at hc
    rw [h.1] at hp
    have hi0 : i - l.length = 0 := by have := (List.getElem?_eq_some_iff.1 hc).1; simp at this; omega
    rw [hi0] at hp hc
    simp at hp hc
    subst hp hc
    exact ⟨rfl, hu⟩
theorem owns_form {w : World} {base : Nat} {v : Value} {us : List (Int × Value)} (h : w.ownsRow base 43 2 v us.length (flat us)) : ∃ ao cap, v = .slice ao us.length cap := by
  rcases h.2 with ⟨rfl, h0⟩ | ⟨g, cap, cur, hv, _⟩
  · exact ⟨none, 0, by rw [h0]⟩
  · exact ⟨_, cap, hv⟩

/-- What the document's Change tells. -/
def RefChanges (w : World) (l : List Cf.Conf) (z : Cf.Conf) (i : Int) (m : List Int) (e : Ending) (w' : World) : Prop :=
  ∃ v', e = .returned (.tuple #[v', .bool (decide (m ≠ []))]) ∧ (m ≠ [] → ReadsC w' v' (Cf.change l z i m)) ∧ Below w.heap.size w w'

set_option maxRecDepth 4000 in
set_option maxHeartbeats 3200000 in
theorem refChange_any (v : Value) (l : List Cf.Conf) (z : Cf.Conf) (i kind node : Int) (w : World) (hv : ReadsC w v l) (hz : l[l.length - 1]? = some z) (hn : l.length ≤ 1000000) (hzm : z.mem.length ≤ 1048576) (i1 : 1 ≤ i) (i2 : i ≤ 4294967292) :
    Calls Try.prog 19 #[v, .int .i64 i, .int .i64 kind, .int .i64 node] w (RefChanges w l z i (Cf.changed z.mem kind node)) := by
  obtain ⟨ao, cap, rfl, hc1, hc2⟩ := ReadsC.shape hv
  have hlt0 := (List.getElem?_eq_some_iff.1 hz).1
  obtain ⟨b, off, rfl, hbl, hcc⟩ := ReadsC.places hv (by omega)
  have HCC := Lib.hid hcc
  obtain ⟨uo, uc, hu, hu1, hu2, hcell⟩ := hcc _ z hz
  obtain ⟨m, hm⟩ : ∃ m, m = Cf.changed z.mem kind node := ⟨_, rfl⟩
  have HMM := Lib.hid hm
  have HU := Lib.hid hu
  obtain ⟨Q, hQ⟩ : ∃ Q, Q = RefChanges w l z i m := ⟨_, rfl⟩
  have HQ : Hid (∀ e w', RefChanges w l z i m e w' → Q e w') := by intro e w' h; rw [hQ]; exact h
  rw [← hm, ← hQ]
  obtain ⟨n, hnn⟩ : ∃ n, n = l.length := ⟨_, rfl⟩
  obtain ⟨p, hp⟩ : ∃ p, p = l.length - 1 := ⟨_, rfl⟩
  have hpn : p < n := by omega
  have hnp : (n : Int) - 1 = (p : Int) := by omega
  rw [← hp] at hcell
  rw [← hnn] at hc1 hn ⊢
  have HN := Lib.hid hnn
  have hnb : n < 9223372036854775808 := by omega
  obtain ⟨c0, c1⟩ := hcell w (Below.refl _ _)
  obtain ⟨w2, e2, hl2, hB2, hz2⟩ := box_cnf w z.frm (.slice uo z.mem.length uc)
  obtain ⟨g0, g1⟩ := Cnf.both hl2
  have hch := refChanged_any _ z.mem kind node w2 (HU.out.below hB2) hzm
  rw [← hm] at hch
  have HL2 := Lib.hid hl2
  have HB2 := Lib.hid hB2
  obtain ⟨zm, hzmm⟩ : ∃ zm, zm = z.mem.length := ⟨_, rfl⟩
  rw [← hzmm] at c1 e2 g1 hch
  dsimp only [Cf.cells] at e2
  clear hv hz hlt0 hcc hu hcell hm hQ hnn hp hl2 hB2 hzmm hzm
  go_enter Try.func19, Try.ntmps19
  go_wp2_with fail
  refine hch.mono ?_
  rintro e w3 ⟨v3, rfl, hr3, hB3⟩
  have HB3 := Lib.hid (HB2.out.trans (hB3.mono HB2.out.size))
  have HL3 := Lib.hid (HL2.out.below hB3 HL2.out.lt)
  obtain ⟨q0, q1⟩ := Cnf.both HL3.out
  have HR3 := Lib.hid hr3
  obtain ⟨ao3, cap3, hs3, _, _⟩ := ReadsI.shape hr3
  obtain ⟨ml, hml⟩ : ∃ ml, ml = m.length := ⟨_, rfl⟩
  rw [← hml] at hs3
  have HML := Lib.hid hml
  clear hr3 hB3 hch hml
  subst hs3
  by_cases hm0 : ml = 0
  · have hm0' : ((ml : Int) == 0) = true := by simp; omega
    have HE : Hid (m = []) := List.eq_nil_of_length_eq_zero (by have := HML.out; omega)
    clear hm0
    go_wp2
    exact HQ.out _ _ ⟨.slice none 0 0, by rw [HE.out]; rfl, fun h => absurd HE.out h, HB3.out⟩
  · have hm0' : ((ml : Int) == 0) = false := by simp; omega
    have HE : Hid (m ≠ []) := by intro h; have := HML.out; rw [h] at this; simp at this; omega
    obtain ⟨F, hF⟩ : ∃ F, F = Cf.from' z i := ⟨_, rfl⟩
    have HF := Lib.hid hF
    clear hm0
    by_cases hgt : i + 4 < z.frm
    · have hFz : Hid (F = z.frm) := by show _ = _; rw [hF, Cf.from']; omega
      have dgt : decide (i + 4 < z.frm) = true := decide_eq_true hgt
      clear hF hgt
      have hzF : z.frm = F := hFz.out.symm
      have dgt' : decide (i + 4 < F) = true := by rw [← hzF]; exact dgt
      clear dgt
      go_wp2
      go_loopw [13, 14] (fun y j wr => ∃ (k : Nat) (us : List (Int × Value)), j = .int .i64 (k : Int) ∧ k ≤ n ∧ wr.ownsRow w3.heap.size 43 2 y us.length (flat us) ∧ Hid (URow w3 us ((l.take k).filter fun c => decide (c.frm < F))) ∧ Below w3.heap.size w3 wr) (fun _ j _ => n - (intOf j).toNat)
      case atStart => exact ⟨0, [], rfl, by omega, World.ownsRow_nil _ _ _ _, ⟨rfl, fun i p c h => by simp at h⟩, Below.refl _ _⟩
      case round =>
        obtain ⟨k, us, rfl, hk, ho, HUR, hB⟩ := hrel
        have HO := Lib.hid ho
        have HB := Lib.hid hB
        have HB0 := Lib.hid (HB3.out.trans (hB.mono HB3.out.size))
        obtain ⟨ao13, cap13, hs13⟩ := owns_form ho
        have hul : us.length ≤ k := by
          have h1 := HUR.out.1
          have h2 := List.length_filter_le (fun c : Cf.Conf => decide (c.frm < F)) (l.take k)
          rw [List.length_take] at h2
          omega
        obtain ⟨ul, hull⟩ : ∃ ul, ul = us.length := ⟨_, rfl⟩
        rw [← hull] at hs13 hul
        have HULL := Lib.hid hull
        clear ho hB hull
        subst hs13
        by_cases hlt : k < n
        · obtain ⟨c, hcl⟩ : ∃ c, l[k]? = some c := ⟨_, List.getElem?_eq_getElem (by have := HN.out; omega)⟩
          obtain ⟨wo, wc, hw, _, _, hwell⟩ := HCC.out k c hcl
          obtain ⟨d0, d1⟩ := hwell wr HB0.out
          have HSN : Hid ((l.take (k + 1)).filter (fun c => decide (c.frm < F)) = (l.take k).filter (fun c => decide (c.frm < F)) ++ if c.frm < F then [c] else []) := by
            show _ = _
            rw [List.take_add_one, hcl, List.filter_append, show (some c).toList = [c] from rfl]
            congr 1
            by_cases h : c.frm < F
            · rw [if_pos h, List.filter_cons_of_pos (by simpa using h)]; rfl
            · rw [if_neg h, List.filter_cons_of_neg (by simpa using h)]; rfl
          have HW := Lib.hid (hw.below HB3.out)
          by_cases hlF : c.frm < F
          · have HS2 : Hid ((l.take (k + 1)).filter (fun c => decide (c.frm < F)) = (l.take k).filter (fun c => decide (c.frm < F)) ++ [⟨c.frm, c.mem⟩]) := by show _ = _; rw [HSN.out, if_pos hlF]
            have dlF : decide (c.frm < F) = true := decide_eq_true hlF
            obtain ⟨cm, hcm⟩ : ∃ cm, cm = c.mem.length := ⟨_, rfl⟩
            rw [← hcm] at d1 HW
            clear hwell hw hcl hlF hcm
            go_wp2_with (at_builtin; refine append_conf rfl _ _ rfl wr w3.heap.size us (.slice ao13 ul cap13) c.frm (.slice wo cm wc) rfl rfl HO.out rfl (by have := HULL.out; omega) w3 HB.out (Nat.le_refl _) ?_; intro v' w' ho' hB')
            go_roundw
            case rel => exact ⟨k + 1, _, by go_num, by omega, ho', by rw [HS2.out]; exact HUR.out.snoc HW.out, hB'⟩
            case measure => simp [intOf]; omega
          · have HS2 : Hid ((l.take (k + 1)).filter (fun c => decide (c.frm < F)) = (l.take k).filter (fun c => decide (c.frm < F))) := by show _ = _; rw [HSN.out, if_neg hlF, List.append_nil]
            have dlF : decide (c.frm < F) = false := decide_eq_false hlF
            clear hwell hw hcl hlF
            go_wp2
            go_roundw
            case rel => exact ⟨k + 1, us, by go_num, by omega, by rw [← HULL.out]; exact HULL.out ▸ HO.out, by rw [HS2.out]; exact HUR.out, HB.out⟩
            case measure => simp [intOf]; omega
        · obtain rfl : k = n := by omega
          have HUR2 : Hid (URow w3 (us ++ [(F, .slice ao3 ml cap3)]) (Cf.change l z i m)) := by
            show URow _ _ _
            have h1 := HUR.out
            rw [show l.take k = l by rw [HN.out, List.take_length]] at h1
            rw [Cf.change, ← HF.out]
            exact h1.snoc HR3.out
          go_wp2_with (at_builtin; refine append_conf rfl _ _ rfl wr w3.heap.size us (.slice ao13 ul cap13) F (.slice ao3 ml cap3) rfl rfl HO.out rfl (by have := HULL.out; omega) w3 HB.out (Nat.le_refl _) ?_; intro v' w' ho' hB')
          obtain ⟨gq, capq, rfl, _, hrow⟩ := CRow.of_owns ho' (by simp)
          have hrd := hrow.reads_of HUR2.out.1 (fun i p c hp hc => by obtain ⟨a, b⟩ := HUR2.out.2 i p c hp hc; exact ⟨a, b.below hB'⟩)
          rw [← HUR2.out.1] at hrd
          obtain ⟨ql, hql⟩ : ∃ ql, ql = (us ++ [(F, Value.slice ao3 ml cap3)]).length := ⟨_, rfl⟩
          rw [← hql] at hrd ⊢
          have HRD := Lib.hid hrd
          have HB9 := Lib.hid (HB3.out.trans (hB'.mono HB3.out.size))
          clear hrd hrow ho' hB' hql
          go_wp2
          exact HQ.out _ _ ⟨_, by rw [decide_eq_true HE.out]; rfl, fun _ => HRD.out, HB9.out⟩
    · have hFz : Hid (F = i + 4) := by show _ = _; rw [hF, Cf.from']; omega
      have dgt : decide (i + 4 < z.frm) = false := decide_eq_false hgt
      clear hF hgt
      have hiF : i + 4 = F := hFz.out.symm
      rw [hiF] at dgt
      go_wp2
      go_loopw [13, 14] (fun y j wr => ∃ (k : Nat) (us : List (Int × Value)), j = .int .i64 (k : Int) ∧ k ≤ n ∧ wr.ownsRow w3.heap.size 43 2 y us.length (flat us) ∧ Hid (URow w3 us ((l.take k).filter fun c => decide (c.frm < F))) ∧ Below w3.heap.size w3 wr) (fun _ j _ => n - (intOf j).toNat)
      case atStart => exact ⟨0, [], rfl, by omega, World.ownsRow_nil _ _ _ _, ⟨rfl, fun i p c h => by simp at h⟩, Below.refl _ _⟩
      case round =>
        obtain ⟨k, us, rfl, hk, ho, HUR, hB⟩ := hrel
        have HO := Lib.hid ho
        have HB := Lib.hid hB
        have HB0 := Lib.hid (HB3.out.trans (hB.mono HB3.out.size))
        obtain ⟨ao13, cap13, hs13⟩ := owns_form ho
        have hul : us.length ≤ k := by
          have h1 := HUR.out.1
          have h2 := List.length_filter_le (fun c : Cf.Conf => decide (c.frm < F)) (l.take k)
          rw [List.length_take] at h2
          omega
        obtain ⟨ul, hull⟩ : ∃ ul, ul = us.length := ⟨_, rfl⟩
        rw [← hull] at hs13 hul
        have HULL := Lib.hid hull
        clear ho hB hull
        subst hs13
        by_cases hlt : k < n
        · obtain ⟨c, hcl⟩ : ∃ c, l[k]? = some c := ⟨_, List.getElem?_eq_getElem (by have := HN.out; omega)⟩
          obtain ⟨wo, wc, hw, _, _, hwell⟩ := HCC.out k c hcl
          obtain ⟨d0, d1⟩ := hwell wr HB0.out
          have HSN : Hid ((l.take (k + 1)).filter (fun c => decide (c.frm < F)) = (l.take k).filter (fun c => decide (c.frm < F)) ++ if c.frm < F then [c] else []) := by
            show _ = _
            rw [List.take_add_one, hcl, List.filter_append, show (some c).toList = [c] from rfl]
            congr 1
            by_cases h : c.frm < F
            · rw [if_pos h, List.filter_cons_of_pos (by simpa using h)]; rfl
            · rw [if_neg h, List.filter_cons_of_neg (by simpa using h)]; rfl
          have HW := Lib.hid (hw.below HB3.out)
          by_cases hlF : c.frm < F
          · have HS2 : Hid ((l.take (k + 1)).filter (fun c => decide (c.frm < F)) = (l.take k).filter (fun c => decide (c.frm < F)) ++ [⟨c.frm, c.mem⟩]) := by show _ = _; rw [HSN.out, if_pos hlF]
            have dlF : decide (c.frm < F) = true := decide_eq_true hlF
            obtain ⟨cm, hcm⟩ : ∃ cm, cm = c.mem.length := ⟨_, rfl⟩
            rw [← hcm] at d1 HW
            clear hwell hw hcl hlF hcm
            go_wp2_with (at_builtin; refine append_conf rfl _ _ rfl wr w3.heap.size us (.slice ao13 ul cap13) c.frm (.slice wo cm wc) rfl rfl HO.out rfl (by have := HULL.out; omega) w3 HB.out (Nat.le_refl _) ?_; intro v' w' ho' hB')
            go_roundw
            case rel => exact ⟨k + 1, _, by go_num, by omega, ho', by rw [HS2.out]; exact HUR.out.snoc HW.out, hB'⟩
            case measure => simp [intOf]; omega
          · have HS2 : Hid ((l.take (k + 1)).filter (fun c => decide (c.frm < F)) = (l.take k).filter (fun c => decide (c.frm < F))) := by show _ = _; rw [HSN.out, if_neg hlF, List.append_nil]
            have dlF : decide (c.frm < F) = false := decide_eq_false hlF
            clear hwell hw hcl hlF
            go_wp2
            go_roundw
            case rel => exact ⟨k + 1, us, by go_num, by omega, by rw [← HULL.out]; exact HULL.out ▸ HO.out, by rw [HS2.out]; exact HUR.out, HB.out⟩
            case measure => simp [intOf]; omega
        · obtain rfl : k = n := by omega
          have HUR2 : Hid (URow w3 (us ++ [(F, .slice ao3 ml cap3)]) (Cf.change l z i m)) := by
            show URow _ _ _
            have h1 := HUR.out
            rw [show l.take k = l by rw [HN.out, List.take_length]] at h1
            rw [Cf.change, ← HF.out]
            exact h1.snoc HR3.out
          go_wp2_with (at_builtin; refine append_conf rfl _ _ rfl wr w3.heap.size us (.slice ao13 ul cap13) F (.slice ao3 ml cap3) rfl rfl HO.out rfl (by have := HULL.out; omega) w3 HB.out (Nat.le_refl _) ?_; intro v' w' ho' hB')
          obtain ⟨gq, capq, rfl, _, hrow⟩ := CRow.of_owns ho' (by simp)
          have hrd := hrow.reads_of HUR2.out.1 (fun i p c hp hc => by obtain ⟨a, b⟩ := HUR2.out.2 i p c hp hc; exact ⟨a, b.below hB'⟩)
          rw [← HUR2.out.1] at hrd
          obtain ⟨ql, hql⟩ : ∃ ql, ql = (us ++ [(F, Value.slice ao3 ml cap3)]).length := ⟨_, rfl⟩
          rw [← hql] at hrd ⊢
          have HRD := Lib.hid hrd
          have HB9 := Lib.hid (HB3.out.trans (hB'.mono HB3.out.size))
          clear hrd hrow ho' hB' hql
          go_wp2
          exact HQ.out _ _ ⟨_, by rw [decide_eq_true HE.out]; rfl, fun _ => HRD.out, HB9.out⟩

end Go.Proofs.Ytimlfiomoalieaa
