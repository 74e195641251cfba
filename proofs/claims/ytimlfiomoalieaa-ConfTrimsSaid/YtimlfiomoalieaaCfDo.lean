/- Change: the program's. -/
import Derived.Test.YtimlfiomoalieaaCfChange
import Derived.Deep.RegionLaw
import Derived.Deep.RegionLawGrows
import Derived.Lib.SliceRun
namespace Go.Proofs.Ytimlfiomoalieaa
open Go.RowKit

theorem flat_snoc (us : List (Int × Value)) (f : Int) (u : Value) : flat us ++ [.int .i64 f, u] = flat (us ++ [(f, u)]) := by simp [flat, List.flatMap_append]
/-- The row reads as these configurations: by its cells, wherever the members lie. -/
theorem CRow.reads_of {w : World} {g cap : Nat} {us : List (Int × Value)} {l : List Cf.Conf} (h : CRow w g cap us) (hl : us.length = l.length) (hm : ∀ (i : Nat) (p : Int × Value) (c : Cf.Conf), us[i]? = some p → l[i]? = some c → p.1 = c.frm ∧ ReadsI w p.2 c.mem) :
    ReadsC w (.slice (some ⟨g, 0, none⟩) l.length cap) l := by
  obtain ⟨cur, h1, h2, h3, h4⟩ := h
  refine ⟨us.map fun p => Cf.cells p.1 p.2, ⟨_, _, by rw [List.length_map, hl], by rw [List.length_map]; exact h2, by unfold maxLen; exact h3, (fun h => by cases h), fun x hx i r hr j v hv => ?_⟩, by rw [List.length_map, hl], fun i r c hr hc => ?_⟩
  · cases hx
    rw [List.getElem?_map, Option.map_eq_some_iff] at hr
    obtain ⟨⟨f, u⟩, hp, rfl⟩ := hr
    obtain ⟨e1, e2⟩ := h4 i f u hp
    rw [Addr.add_lit, Nat.zero_add]
    obtain ⟨hj, _⟩ := Array.getElem?_eq_some_iff.1 hv
    have hj2 : j = 0 ∨ j = 1 := by simp [Cf.cells] at hj; omega
    rcases hj2 with rfl | rfl
    · simp [Cf.cells] at hv; subst hv; exact h1.cell _ _ e1
    · simp [Cf.cells] at hv; subst hv; exact h1.cell _ _ e2
  · rw [List.getElem?_map, Option.map_eq_some_iff] at hr
    obtain ⟨p, hp, rfl⟩ := hr
    obtain ⟨a, b⟩ := hm i p c hp hc
    exact ⟨p.2, by rw [a], b⟩
/-- What a slice of configurations holds, one or none. -/
theorem ReadsC.olds {w : World} {ao : Option Addr} {n cap : Nat} {l : List Cf.Conf} (h : ReadsC w (.slice ao n cap) l) :
    ∃ us : List (Int × Value), us.length = l.length ∧ (∀ (i : Nat) (p : Int × Value) (c : Cf.Conf), us[i]? = some p → l[i]? = some c → p.1 = c.frm ∧ ReadsI w p.2 c.mem) ∧ ∀ b, ao = some b → ∀ j v, (flat us)[j]? = some v → w.cell? (b.add j) = some v := by
  by_cases h0 : 0 < l.length
  · obtain ⟨b, off, rfl, _, _⟩ := ReadsC.places h h0
    obtain ⟨us, h1, h2, h3⟩ := h.held
    exact ⟨us, h1, h2, fun x hx j v hj => by cases hx; rw [Addr.add_lit]; exact (h3 j v hj).1⟩
  · obtain rfl : l = [] := List.eq_nil_of_length_eq_zero (by omega)
    exact ⟨[], rfl, fun i p c hp => by simp at hp, fun b _ j v hj => by simp [flat] at hj⟩
theorem ReadsC.nil_cap {w : World} {ao : Option Addr} {n cap : Nat} {l : List Cf.Conf} (h : ReadsC w (.slice ao n cap) l) (h0 : ao = none) : n = 0 ∧ cap = 0 := by
  obtain ⟨rs, ⟨ao', cap', hv, h1, h2, h3, h4⟩, _⟩ := h
  simp only [Value.slice.injEq] at hv
  obtain ⟨rfl, rfl, rfl⟩ := hv
  have := h3 h0
  omega

/-- append(cut, next), where there is no room. -/
theorem step_append_conf {ops : Array Oper} {o : Oper} {a : Act} {W : World} {K : Act → World → Prop} {Q : Exit → Act → World → Prop} {Z : Prop} (hgd : o.guard = none) (s x : Operand)
    (hop : o.op = Op.call { callee := Callee.builtin Builtin.append, args := #[s, x], argTypes := #[22, 22] })
    (w6 : World) (ao : Option Addr) (n : Nat) (l : List Cf.Conf) (f : Int) (u : Value) (m : List Int) (H : Nat) (hs : a.eval s = .slice ao n n) (hx : a.eval x = .slice (some ⟨H, 0, none⟩) 1 1)
    (hblk : W.heap[H]? = some (.cells (Cf.cells f u) 43 (0, 0))) (hb : Below w6.heap.size w6 W) (hr : ReadsC w6 (.slice ao n n) l) (hu : ReadsI w6 u m) (hn : n ≤ 1048576)
    (h : ∀ g cap w', ReadsC w' (.slice (some ⟨g, 0, none⟩) (n + 1) cap) (l ++ [⟨f, m⟩]) → Below w6.heap.size w6 w' → K (a.put o.dst (.slice (some ⟨g, 0, none⟩) (n + 1) cap)) w') :
    if Region.wanted o (yielded ops a.tmps) = true then Oper.wp Try.prog o a W K Q else Z := by
  obtain ⟨i0, hi, hz0, hz1, hz2⟩ := info_parts info_conf
  have hlen : l.length = n := by obtain ⟨ao', cap', e, _, _⟩ := ReadsC.shape hr; cases e; rfl
  have hrW := hr.below hb
  have huW := hu.below hb
  obtain ⟨us, hul, hum, hold⟩ := hrW.olds
  have hone : ∀ v ∈ ([.int .i64 f, u] : List Value), v.oneCell' = true := by
    obtain ⟨uo, uc, e, _⟩ := ReadsI.shape hu
    intro v hv
    simp at hv
    rcases hv with rfl | rfl
    · rfl
    · rw [e]; rfl
  refine step_append_grows hgd s x 22 hop 43 i0 (.agg #[.int .i64 0, .slice none 0 0]) 2 32 Try.underlying22 hi hz0 hz1 hz2 rfl (by decide) ao n n (flat us) hs hr.nil_cap (by rw [flat_len]; omega) hold ⟨H, 0, none⟩ 1 1 [.int .i64 f, u] hx rfl (fun j v hj => ?_) hone (by omega) (by unfold maxLen; omega) (by omega) fun v' w' hown hgrow => ?_
  · rw [Addr.add_lit, Nat.zero_add]
    exact Lies.cell (show Lies W H 43 (Cf.cells f u) from hblk) j v (by rw [← hj]; simp [Cf.cells])
  · have hbw : Below W.heap.size W w' := ⟨hgrow.os, hgrow.tape, hgrow.output, hgrow.size, fun k hk => hgrow.block k hk (by simp)⟩
    rw [flat_snoc] at hown
    have hown' : w'.ownsRow W.heap.size 43 2 v' (us ++ [(f, u)]).length (flat (us ++ [(f, u)])) := by rw [show (us ++ [(f, u)]).length = n + 1 by simp; omega]; exact hown
    obtain ⟨g, cap, rfl, _, hrow⟩ := CRow.of_owns hown' (by simp)
    have hrd := hrow.reads_of (l := l ++ [⟨f, m⟩]) (by simp [hul]) (fun i p c hp hc => by
      by_cases hlt : i < l.length
      · rw [List.getElem?_append_left (by omega)] at hp hc
        obtain ⟨e1, e2⟩ := hum i p c hp hc
        exact ⟨e1, e2.below hbw⟩
      · rw [List.getElem?_append_right (by omega)] at hp hc
        rw [hul] at hp
        have hi0 : i - l.length = 0 := by have := (List.getElem?_eq_some_iff.1 hc).1; simp at this; omega
        rw [hi0] at hp hc
        simp at hp hc
        subst hp hc
        exact ⟨rfl, huW.below hbw⟩)
    rw [show (l ++ [(⟨f, m⟩ : Cf.Conf)]).length = n + 1 by simp [hlen]] at hrd
    rw [show (us ++ [(f, u)]).length = n + 1 by simp; omega]
    exact h g cap w' hrd (hb.trans (hbw.mono hb.size))

/-- What Change tells. -/
def Cf.changeOf (l : List Cf.Conf) (i kind node : Int) : List Cf.Conf × Int :=
  if Cf.check l = false then ([], 3) else if i < 1 ∨ 4294967292 < i then ([], 6) else
    match l[l.length - 1]? with
    | none => ([], 3)
    | some z => if Cf.changed z.mem kind node = [] then ([], 16) else (Cf.change l z i (Cf.changed z.mem kind node), 0)
def Changes (w : World) (l : List Cf.Conf) (i kind node : Int) (e : Ending) (w' : World) : Prop := ∃ v', e = .returned (.tuple #[v', .int .i64 (Cf.changeOf l i kind node).2]) ∧ ReadsC w' v' (Cf.changeOf l i kind node).1 ∧ Below w.heap.size w w'

set_option maxRecDepth 4000 in
set_option maxHeartbeats 3200000 in
theorem change_any (v : Value) (l : List Cf.Conf) (i kind node : Int) (w : World) (hv : ReadsC w v l) (hn : l.length ≤ 1000000) :
    Calls Try.prog 18 #[v, .int .i64 i, .int .i64 kind, .int .i64 node] w (Changes w l i kind node) := by
  have q25 : ∀ (w : World) (a : Option Addr) (n c n' c' : Nat), (binOp .eql 25 (.slice a n c) (.slice none n' c')).run Try.prog w = .ok (.bool a.isNone) w := fun w a n c n' c' => Lib.run_eql_slice_nil w _ _ a n c n' c' Try.underlying25
  have HCK := Lib.hid (check_cf v l w hv)
  obtain ⟨ao, cap, rfl, hc1, hc2⟩ := ReadsC.shape hv
  have HV := Lib.hid hv
  obtain ⟨X, hX⟩ : ∃ X, X = Cf.changeOf l i kind node := ⟨_, rfl⟩
  obtain ⟨Q, hQ⟩ : ∃ Q, Q = Changes w l i kind node := ⟨_, rfl⟩
  have HQ : Hid (∀ e w', (∃ v', e = .returned (.tuple #[v', .int .i64 X.2]) ∧ ReadsC w' v' X.1 ∧ Below w.heap.size w w') → Q e w') := by
    intro e w' h
    rw [hQ, Changes, ← hX]
    exact h
  rw [← hQ]
  obtain ⟨t, ht⟩ : ∃ t, t = Cf.check l := ⟨_, rfl⟩
  rw [← ht] at HCK
  clear hv hQ
  cases t with
  | false =>
    have HX : Hid (X = ([], 3)) := by show _ = _; rw [hX, Cf.changeOf, if_pos ht.symm]
    have hck := HCK.out
    rw [show Cf.err false = 3 from rfl] at hck
    clear ht hX
    go_enter Try.func18, Try.ntmps18
    go_wp2_with fail
    refine hck.mono ?_
    rintro e w1 ⟨rfl, hB1⟩
    go_wp2
    refine HQ.out _ _ ⟨.slice none 0 0, by rw [HX.out]; rfl, by rw [HX.out]; exact ReadsC.empty _, hB1⟩
  | true =>
    have hck := HCK.out
    rw [show Cf.err true = 0 from rfl] at hck
    have HVAL := Lib.hid ((Cf.check_iff l).1 ht.symm)
    by_cases h1 : i < 1
    · have HX : Hid (X = ([], 6)) := by show _ = _; rw [hX, Cf.changeOf, if_neg (by rw [← ht]; simp), if_pos (.inl h1)]
      have d1 : decide (i < 1) = true := decide_eq_true h1
      clear ht hX h1
      go_enter Try.func18, Try.ntmps18
      go_wp2_with fail
      refine hck.mono ?_
      rintro e w1 ⟨rfl, hB1⟩
      go_wp2
      refine HQ.out _ _ ⟨.slice none 0 0, by rw [HX.out]; rfl, by rw [HX.out]; exact ReadsC.empty _, hB1⟩
    · have d1 : decide (i < 1) = false := decide_eq_false h1
      by_cases h2 : 4294967292 < i
      · have HX : Hid (X = ([], 6)) := by show _ = _; rw [hX, Cf.changeOf, if_neg (by rw [← ht]; simp), if_pos (.inr h2)]
        have d2 : decide (4294967292 < i) = true := decide_eq_true h2
        clear ht hX h1 h2
        go_enter Try.func18, Try.ntmps18
        go_wp2_with fail
        refine hck.mono ?_
        rintro e w1 ⟨rfl, hB1⟩
        go_wp2
        refine HQ.out _ _ ⟨.slice none 0 0, by rw [HX.out]; rfl, by rw [HX.out]; exact ReadsC.empty _, hB1⟩
      · have d2 : decide (4294967292 < i) = false := decide_eq_false h2
        have h0 : 0 < l.length := by obtain ⟨c, r, rfl, _⟩ := HVAL.out.first; simp
        obtain ⟨z, hz⟩ : ∃ z, l[l.length - 1]? = some z := ⟨_, List.getElem?_eq_getElem (by omega)⟩
        have hzl := List.mem_of_getElem? hz
        have HXX : Hid (X = if Cf.changed z.mem kind node = [] then ([], 16) else (Cf.change l z i (Cf.changed z.mem kind node), 0)) := by
          show _ = _
          rw [hX, Cf.changeOf, if_neg (by rw [← ht]; simp), if_neg (by omega), hz]
        have HCUT := Lib.hid (Cf.cut_eq HVAL.out hz i)
        obtain ⟨b, off, rfl, hbl, hcc⟩ := ReadsC.places HV.out h0
        obtain ⟨uo, uc, hu, hu1, hu2, hcell⟩ := hcc _ z hz
        have HCE := Lib.hid hcell
        have HU := Lib.hid hu
        have HMZ := Lib.hid (HVAL.out.mems z hzl)
        have hzf := HVAL.out.high z hzl
        have hzp := HVAL.out.frm_pos z hzl
        obtain ⟨n, hnn⟩ : ∃ n, n = l.length := ⟨_, rfl⟩
        obtain ⟨p, hp⟩ : ∃ p, p = l.length - 1 := ⟨_, rfl⟩
        rw [← hp] at HCE HCUT
        have hnp : (n : Int) - 1 = (p : Int) := by omega
        have hpn : p < n := by omega
        rw [← hnn] at hck hc1 hn h0 HV HCUT ⊢
        have HNN := Lib.hid hnn; have HPP := Lib.hid hp
        obtain ⟨m, hm⟩ : ∃ m, m = Cf.changed z.mem kind node := ⟨_, rfl⟩
        rw [← hm] at HXX
        have HMM := Lib.hid hm
        have i1 : 1 ≤ i := by omega
        have i2 : i ≤ 4294967292 := by omega
        obtain ⟨zm, hzm⟩ : ∃ zm, zm = z.mem.length := ⟨_, rfl⟩
        rw [← hzm] at HCE HU hu1
        obtain ⟨zf, hzf'⟩ : ∃ zf, zf = z.frm := ⟨_, rfl⟩
        rw [← hzf'] at HCE hzf hzp
        have HZF := Lib.hid hzf'
        clear ht hX h1 h2 hz hzl hcc hu hcell hnn hp hm hzm hzf'
        go_enter Try.func18, Try.ntmps18
        go_wp2_with fail
        refine hck.mono ?_
        rintro e w1 ⟨rfl, hB1⟩
        have HB1 := Lib.hid hB1
        obtain ⟨c0, c1⟩ := HCE.out w1 hB1
        obtain ⟨w2, e2, hl2, hB2, hz2⟩ := box_cnf w1 zf (.slice uo zm uc)
        obtain ⟨g0, g1⟩ := Cnf.both hl2
        have HB2 := Lib.hid (HB1.out.trans (hB2.mono HB1.out.size))
        have hch := changed_any _ z.mem kind node w2 (HU.out.below HB2.out) HMZ.out
        rw [← HMM.out] at hch
        have HL2 := Lib.hid hl2
        dsimp only [Cf.cells] at e2
        clear hck hB1 hl2 hB2
        go_wp2_with fail
        refine hch.mono ?_
        rintro e w3 ⟨v3, rfl, hr3, hB3, hnil⟩
        have HB3 := Lib.hid (HB2.out.trans (hB3.mono HB2.out.size))
        have HL3 := Lib.hid (HL2.out.below hB3 HL2.out.lt)
        by_cases hm0 : m = []
        · obtain rfl := hnil hm0
          have HX : Hid (X = ([], 16)) := by show _ = _; rw [HXX.out, if_pos hm0]
          clear hr3 hB3 hnil hch g0 g1 c0 c1 hm0
          go_wp2
          refine HQ.out _ _ ⟨.slice none 0 0, by rw [HX.out]; rfl, by rw [HX.out]; exact ReadsC.empty _, HB3.out⟩
        · have HX : Hid (X = (Cf.change l z i m, 0)) := by show _ = _; rw [HXX.out, if_neg hm0]
          have HR3 := Lib.hid hr3.reads
          rcases hr3 with ⟨_, h⟩ | ⟨g3, cap3, hs3, _⟩
          · exact absurd h hm0
          have HMV : Hid (Cf.Mems m) := by show Cf.Mems m; rw [HMM.out]; exact (HMZ.out.changed kind node) (by rw [← HMM.out]; exact hm0)
          obtain ⟨ml, hml⟩ : ∃ ml, ml = m.length := ⟨_, rfl⟩
          rw [← hml] at hs3
          obtain ⟨F, hF⟩ : ∃ F, max (i + 4) zf = F := ⟨_, rfl⟩
          have HFF : Hid (F = Cf.from' z i) := by show _ = _; rw [← hF, Cf.from', HZF.out]
          obtain ⟨w4, e4, hl4, hB4, hz4⟩ := box_cnf w3 F (.slice (some ⟨g3, 0, none⟩) ml cap3)
          have hl34 := HL3.out.below hB4 HL3.out.lt
          obtain ⟨q0, q1⟩ := Cnf.both HL3.out
          obtain ⟨g0, g1⟩ := Cnf.both hl34
          obtain ⟨k0, k1⟩ := Cnf.both hl4
          have HB4 := Lib.hid (HB3.out.trans (hB4.mono HB3.out.size))
          have HR4 := Lib.hid (HR3.out.below hB4)
          have HL4 := Lib.hid hl4
          dsimp only [Cf.cells] at e4
          subst hs3
          clear hB3 hnil hch c0 c1 hm0 hl34 hl4 hB4 hml hz4
          by_cases hFz : F = zf
          · have hb1 : (F == zf) = true := by simpa using hFz
            obtain ⟨q, hq⟩ : ∃ q, q = p := ⟨_, rfl⟩
            have hqe : (if Cf.from' z i = z.frm then p else n) = q := by rw [if_pos (by rw [← HFF.out, ← HZF.out]; exact hFz), hq]
            have hqn : q ≤ n := by omega
            have hnq : (n : Int) - 1 = (q : Int) := by omega
            have hcutq := HCUT.out
            rw [hqe] at hcutq
            rw [← HFF.out] at hcutq
            obtain ⟨ao2, hr2, hcut⟩ := cut_any _ n cap l 0 q w HV.out (by omega) hqn
            rw [Nat.sub_zero] at hr2 hcut
            rw [List.drop_zero] at hr2
            have HRC := Lib.hid (hr2.below HB4.out)
            have HRES : Hid (Cf.change l z i m = l.take q ++ [⟨F, m⟩]) := by show _ = _; rw [Cf.change, ← HFF.out, hcutq]
            have HQ6 : Hid (q ≤ 1048576) := by show _ ≤ _; omega
            have hlq : (l.take q).length = q := by rw [List.length_take]; have := HNN.out; omega
            have HCP : Hid (∀ (W : World) (v : Value), ReadsC W v (l.take q ++ [⟨F, m⟩]) → Calls Try.prog 28 #[v] W (Copied W (l.take q ++ [⟨F, m⟩]))) := by
              intro W v hr
              refine copied_any v _ W hr (by simp) (by simp [hlq]; omega) (fun c hc => ?_)
              rcases List.mem_append.1 hc with hc | hc
              · have hcm := HVAL.out.mems c (List.mem_of_mem_take hc)
                exact ⟨hcm.some, by have := Cf.mems_len hcm; omega⟩
              · simp at hc
                subst hc
                exact ⟨HMV.out.some, by have := Cf.mems_len HMV.out; show m.length ≤ _; omega⟩
            have hlast : (l.take q ++ [(⟨F, m⟩ : Cf.Conf)]).length = q + 1 := by simp [hlq]
            have HLS := Lib.hid hlast
            clear hr2 hqe hlq hlast hcutq
            clear hnp hq hFz
            go_wp2
            go_region_law (first
                | (refine step_append_conf (by rfl) _ _ (by rfl) w4 ao2 q (l.take q) F (.slice (some ⟨g3, 0, none⟩) ml cap3) m w4.heap.size (by rfl) (by rfl) (World.alloc_heap_new w4 _) (by first | exact ((Below.refl w4.heap.size w4).alloc (Nat.le_refl _) _).trans ((drawn (w4.alloc _) 1).mono (by simp)) | exact (drawn w4 1).trans ((Below.refl w4.heap.size (w4.drewN 1)).alloc (Nat.le_refl _) _)) HRC.out HR4.out HQ6.out ?_; intro g7 cap7 w7 hr7 hB7)
                | (rw [if_pos (by rfl)]; go_simp; go_at_call 29; refine (hcut _).mono ?_; rintro e' w' ⟨rfl, rfl⟩; dsimp only)
                | (rw [if_pos (by rfl)]; go_simp; go_at_call 28; refine (HCP.out _ _ hr7).mono ?_; rintro e' w8 ⟨g8, c8, us8, rfl, hg8, hrow8, hm8, hB8⟩
                   have hrd8 := hrow8.reads hm8
                   rw [HLS.out] at hrd8 ⊢
                   have hbb8 := hB7.trans (hB8.mono hB7.size)
                   dsimp only))
            all_goals
              simp only [Act.put, List.getElem_toArray, List.getElem_cons_succ, List.getElem_cons_zero, List.setIfInBounds_toArray, List.set_cons_succ, List.set_cons_zero]
              go_wp2
              refine HQ.out _ _ ⟨_, by rw [HX.out]; rfl, by rw [HX.out, HRES.out]; exact hrd8, HB4.out.trans (hbb8.mono HB4.out.size)⟩
          · have hb1 : (F == zf) = false := by simpa using hFz
            obtain ⟨q, hq⟩ : ∃ q, q = n := ⟨_, rfl⟩
            have hqe : (if Cf.from' z i = z.frm then p else n) = q := by rw [if_neg (by rw [← HFF.out, ← HZF.out]; exact hFz), hq]
            have hqn : q ≤ n := by omega
            have hcutq := HCUT.out
            rw [hqe] at hcutq
            rw [← HFF.out] at hcutq
            obtain ⟨ao2, hr2, hcut⟩ := cut_any _ n cap l 0 q w HV.out (by omega) hqn
            rw [Nat.sub_zero] at hr2 hcut
            rw [List.drop_zero] at hr2
            have HRC := Lib.hid (hr2.below HB4.out)
            have HRES : Hid (Cf.change l z i m = l.take q ++ [⟨F, m⟩]) := by show _ = _; rw [Cf.change, ← HFF.out, hcutq]
            have HQ6 : Hid (q ≤ 1048576) := by show _ ≤ _; omega
            have hlq : (l.take q).length = q := by rw [List.length_take]; have := HNN.out; omega
            have HCP : Hid (∀ (W : World) (v : Value), ReadsC W v (l.take q ++ [⟨F, m⟩]) → Calls Try.prog 28 #[v] W (Copied W (l.take q ++ [⟨F, m⟩]))) := by
              intro W v hr
              refine copied_any v _ W hr (by simp) (by simp [hlq]; omega) (fun c hc => ?_)
              rcases List.mem_append.1 hc with hc | hc
              · have hcm := HVAL.out.mems c (List.mem_of_mem_take hc)
                exact ⟨hcm.some, by have := Cf.mems_len hcm; omega⟩
              · simp at hc
                subst hc
                exact ⟨HMV.out.some, by have := Cf.mems_len HMV.out; show m.length ≤ _; omega⟩
            have hlast : (l.take q ++ [(⟨F, m⟩ : Cf.Conf)]).length = q + 1 := by simp [hlq]
            have HLS := Lib.hid hlast
            clear hr2 hqe hlq hlast hcutq
            subst hq
            clear hFz
            go_wp2
            go_region_law (first
                | (refine step_append_conf (by rfl) _ _ (by rfl) w4 ao2 q (l.take q) F (.slice (some ⟨g3, 0, none⟩) ml cap3) m w4.heap.size (by rfl) (by rfl) (World.alloc_heap_new w4 _) (by first | exact ((Below.refl w4.heap.size w4).alloc (Nat.le_refl _) _).trans ((drawn (w4.alloc _) 1).mono (by simp)) | exact (drawn w4 1).trans ((Below.refl w4.heap.size (w4.drewN 1)).alloc (Nat.le_refl _) _)) HRC.out HR4.out HQ6.out ?_; intro g7 cap7 w7 hr7 hB7)
                | (rw [if_pos (by rfl)]; go_simp; go_at_call 29; refine (hcut _).mono ?_; rintro e' w' ⟨rfl, rfl⟩; dsimp only)
                | (rw [if_pos (by rfl)]; go_simp; go_at_call 28; refine (HCP.out _ _ hr7).mono ?_; rintro e' w8 ⟨g8, c8, us8, rfl, hg8, hrow8, hm8, hB8⟩
                   have hrd8 := hrow8.reads hm8
                   rw [HLS.out] at hrd8 ⊢
                   have hbb8 := hB7.trans (hB8.mono hB7.size)
                   dsimp only))
            all_goals
              simp only [Act.put, List.getElem_toArray, List.getElem_cons_succ, List.getElem_cons_zero, List.setIfInBounds_toArray, List.set_cons_succ, List.set_cons_zero]
              go_wp2
              refine HQ.out _ _ ⟨_, by rw [HX.out]; rfl, by rw [HX.out, HRES.out]; exact hrd8, HB4.out.trans (hbb8.mono HB4.out.size)⟩

end Go.Proofs.Ytimlfiomoalieaa
