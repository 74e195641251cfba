/- Configurations copied, with their members; cut. -/
import Derived.Test.YtimlfiomoalieaaCfAt
import Derived.Lib.SliceRun
import Derived.ArgAppend
namespace Go.Proofs.Ytimlfiomoalieaa
open Go.RowKit

theorem info_conf : (Try.prog.info? 43).map (fun i => (i.zero, i.size, i.bytes)) = some (some (.agg #[.int .i64 0, .slice none 0 0]), 2, 32) := by kernel_rfl

/-- A block of configurations' cells: the indexes, and the slices of members. -/
def CRow (w : World) (g cap : Nat) (us : List (Int × Value)) : Prop :=
  ∃ cur, Lies w g 43 cur ∧ us.length ≤ cap ∧ cap ≤ 9223372036854775807 ∧ ∀ (i : Nat) (f : Int) (u : Value), us[i]? = some (f, u) → cur[i * 2]? = some (.int .i64 f) ∧ cur[i * 2 + 1]? = some u
/-- Their members read as these configurations', and lie elsewhere. -/
def MRow (w : World) (g : Nat) (us : List (Int × Value)) (l : List Cf.Conf) : Prop :=
  us.length = l.length ∧ ∀ (i : Nat) (p : Int × Value) (c : Cf.Conf), us[i]? = some p → l[i]? = some c → p.1 = c.frm ∧ ReadsI w p.2 c.mem ∧ ∀ a n k, p.2 = .slice (some a) n k → a.block ≠ g

theorem CRow.cells {w : World} {g cap : Nat} {us : List (Int × Value)} (h : CRow w g cap us) {i : Nat} {f : Int} {u : Value} (hi : us[i]? = some (f, u)) :
    w.cell? ⟨g, i * 2, none⟩ = some (.int .i64 f) ∧ w.cell? ⟨g, i * 2 + 1, none⟩ = some u := by
  obtain ⟨cur, h1, _, _, h4⟩ := h
  exact ⟨h1.cell _ _ (h4 i f u hi).1, h1.cell _ _ (h4 i f u hi).2⟩
theorem CRow.free {w : World} {g cap : Nat} {us : List (Int × Value)} (h : CRow w g cap us) (j : Nat) : w.frozen? ⟨g, j, none⟩ = false := by
  obtain ⟨cur, h1, _⟩ := h
  exact h1.free j
theorem CRow.lt {w : World} {g cap : Nat} {us : List (Int × Value)} (h : CRow w g cap us) : g < w.heap.size := by
  obtain ⟨cur, h1, _⟩ := h
  exact h1.lt
theorem CRow.below {w w' : World} {B g cap : Nat} {us : List (Int × Value)} (h : CRow w g cap us) (hb : Below B w w') (hg : g < B) : CRow w' g cap us := by
  obtain ⟨cur, h1, h2⟩ := h
  exact ⟨cur, h1.below hb hg, h2⟩
theorem MRow.below {w w' : World} {g : Nat} {us : List (Int × Value)} {l : List Cf.Conf} (h : MRow w g us l) (hb : Below w.heap.size w w') : MRow w' g us l :=
  ⟨h.1, fun i p c h1 h2 => by obtain ⟨a, b, d⟩ := h.2 i p c h1 h2; exact ⟨a, b.below hb, d⟩⟩
/-- The row reads as these configurations. -/
theorem CRow.reads {w : World} {g cap : Nat} {us : List (Int × Value)} {l : List Cf.Conf} (h : CRow w g cap us) (hm : MRow w g us l) : ReadsC w (.slice (some ⟨g, 0, none⟩) l.length cap) l := by
  obtain ⟨cur, h1, h2, h3, h4⟩ := h
  refine ⟨us.map fun p => Cf.cells p.1 p.2, ⟨_, _, by rw [List.length_map, hm.1], by rw [List.length_map]; exact h2, by unfold maxLen; exact h3, (fun h => by cases h), fun x hx i r hr j v hv => ?_⟩, by rw [List.length_map, hm.1], fun i r c hr hc => ?_⟩
  · cases hx
    rw [List.getElem?_map, Option.map_eq_some_iff] at hr
    obtain ⟨⟨f, u⟩, hp, rfl⟩ := hr
    obtain ⟨e1, e2⟩ := h4 i f u hp
    rw [Addr.add_lit, Nat.zero_add]
    obtain ⟨hj, _⟩ := Array.getElem?_eq_some_iff.1 hv
    have hj2 : j = 0 ∨ j = 1 := by simp [Cf.cells] at hj; omega
    rcases hj2 with rfl | rfl
    · simp [Cf.cells] at hv; subst hv; exact h1.cell _ _ e1
    · simp [Cf.cells] at hv; subst hv; exact h1.cell _ _ e2
  · rw [List.getElem?_map, Option.map_eq_some_iff] at hr
    obtain ⟨p, hp, rfl⟩ := hr
    obtain ⟨a, b, _⟩ := hm.2 i p c hp hc
    exact ⟨p.2, by rw [a], b⟩
/-- One of the slices of members stored anew. -/
theorem CRow.store {w : World} {g cap : Nat} {us : List (Int × Value)} {l : List Cf.Conf} (h : CRow w g cap us) (hm : MRow w g us l) {k : Nat} {f : Int} {u v : Value} {c : Cf.Conf} (hk : us[k]? = some (f, u)) (hc : l[k]? = some c)
    (hv : ReadsI w v c.mem) (hvg : ∀ a n k, v = .slice (some a) n k → a.block ≠ g) : CRow (w.setCell ⟨g, k * 2 + 1, none⟩ v) g cap (us.set k (f, v)) ∧ MRow (w.setCell ⟨g, k * 2 + 1, none⟩ v) g (us.set k (f, v)) l := by
  have hgr := grown_set w g (k * 2 + 1) v
  constructor
  · obtain ⟨cur, h1, h2, h3, h4⟩ := h
    refine ⟨_, h1.set (k * 2 + 1) v, by rw [List.length_set]; exact h2, h3, fun i f' u' hi => ?_⟩
    rw [List.getElem?_set] at hi
    obtain ⟨e1, e2⟩ := h4 k f u hk
    obtain ⟨q2, _⟩ := Array.getElem?_eq_some_iff.1 e2
    split at hi
    · rename_i hik
      subst hik
      split at hi
      · cases hi
        refine ⟨?_, ?_⟩
        · rw [Array.getElem?_setIfInBounds, if_neg (by omega)]; exact e1
        · rw [Array.getElem?_setIfInBounds, if_pos rfl, if_pos q2]
      · cases hi
    · rename_i hik
      obtain ⟨d1, d2⟩ := h4 i f' u' hi
      refine ⟨?_, ?_⟩
      · rw [Array.getElem?_setIfInBounds, if_neg (by omega)]; exact d1
      · rw [Array.getElem?_setIfInBounds, if_neg (by omega)]; exact d2
  · refine ⟨by rw [List.length_set]; exact hm.1, fun i p d hi hd => ?_⟩
    rw [List.getElem?_set] at hi
    split at hi
    · rename_i hik
      subst hik
      rw [hc] at hd
      cases hd
      split at hi
      · cases hi
        obtain ⟨a, _, _⟩ := hm.2 k (f, u) c hk hc
        exact ⟨a, hv.kept hgr (fun a n k e h => hvg a n k e (by cases h; rfl)), hvg⟩
      · cases hi
    · obtain ⟨a, b, e⟩ := hm.2 i p d hi hd
      exact ⟨a, b.kept hgr (fun a n k e' h => e a n k e' (by cases h; rfl)), e⟩
/-- The first one's index stored anew. -/
theorem CRow.first {w : World} {g cap : Nat} {us : List (Int × Value)} {c : Cf.Conf} {r : List Cf.Conf} (h : CRow w g cap us) (hm : MRow w g us (c :: r)) (x : Int) :
    ∃ us', CRow (w.setCell ⟨g, 0, none⟩ (.int .i64 x)) g cap us' ∧ MRow (w.setCell ⟨g, 0, none⟩ (.int .i64 x)) g us' (⟨x, c.mem⟩ :: r) := by
  have hgr := grown_set w g 0 (.int .i64 x)
  obtain ⟨p, us, rfl⟩ : ∃ p q, us = p :: q := by
    cases us with
    | nil => have := hm.1; simp at this
    | cons p q => exact ⟨p, q, rfl⟩
  obtain ⟨f, u⟩ := p
  refine ⟨(x, u) :: us, ?_, ?_⟩
  · obtain ⟨cur, h1, h2, h3, h4⟩ := h
    refine ⟨_, h1.set 0 _, h2, h3, fun i f' u' hi => ?_⟩
    cases i with
    | zero =>
      simp at hi
      obtain ⟨rfl, rfl⟩ := hi
      obtain ⟨e1, e2⟩ := h4 0 f u rfl
      obtain ⟨q1, _⟩ := Array.getElem?_eq_some_iff.1 e1
      refine ⟨?_, ?_⟩
      · rw [Array.getElem?_setIfInBounds, if_pos (by omega), if_pos (by omega)]
      · rw [Array.getElem?_setIfInBounds, if_neg (by omega)]; exact e2
    | succ i =>
      obtain ⟨d1, d2⟩ := h4 (i + 1) f' u' hi
      refine ⟨?_, ?_⟩
      · rw [Array.getElem?_setIfInBounds, if_neg (by omega)]; exact d1
      · rw [Array.getElem?_setIfInBounds, if_neg (by omega)]; exact d2
  · refine ⟨hm.1, fun i q d hi hd => ?_⟩
    cases i with
    | zero =>
      simp at hi hd
      subst hi hd
      obtain ⟨_, b, e⟩ := hm.2 0 (f, u) c rfl rfl
      exact ⟨rfl, b.kept hgr (fun a n k e' h => e a n k e' (by cases h; rfl)), e⟩
    | succ i =>
      obtain ⟨a, b, e⟩ := hm.2 (i + 1) q d hi hd
      exact ⟨a, b.kept hgr (fun a n k e' h => e a n k e' (by cases h; rfl)), e⟩

/-- The cells of a row of configurations, one behind the other. -/
def flat (us : List (Int × Value)) : List Value := us.flatMap fun p => [.int .i64 p.1, p.2]
theorem flat_len (us : List (Int × Value)) : (flat us).length = us.length * 2 := by
  unfold flat
  induction us with
  | nil => rfl
  | cons p r ih => rw [List.flatMap_cons, List.length_append, ih]; simp; omega
theorem flat_at : ∀ (us : List (Int × Value)) (i : Nat) (f : Int) (u : Value), us[i]? = some (f, u) → (flat us)[i * 2]? = some (.int .i64 f) ∧ (flat us)[i * 2 + 1]? = some u
  | [], i, f, u, h => by simp at h
  | p :: r, 0, f, u, h => by simp at h; subst h; exact ⟨rfl, rfl⟩
  | p :: r, i + 1, f, u, h => by
    have ih := flat_at r i f u (by simpa using h)
    have e : flat (p :: r) = .int .i64 p.1 :: p.2 :: flat r := rfl
    rw [e, show (i + 1) * 2 = i * 2 + 1 + 1 by omega, List.getElem?_cons_succ, List.getElem?_cons_succ, List.getElem?_cons_succ, List.getElem?_cons_succ]
    exact ih
theorem flat_back : ∀ (us : List (Int × Value)) (j : Nat) (v : Value), (flat us)[j]? = some v → ∃ i f u, us[i]? = some (f, u) ∧ ((j = i * 2 ∧ v = .int .i64 f) ∨ (j = i * 2 + 1 ∧ v = u))
  | [], j, v, h => by simp [flat] at h
  | p :: r, 0, v, h => by
    have e : flat (p :: r) = .int .i64 p.1 :: p.2 :: flat r := rfl
    rw [e] at h
    cases h
    exact ⟨0, p.1, p.2, rfl, .inl ⟨rfl, rfl⟩⟩
  | p :: r, 1, v, h => by
    have e : flat (p :: r) = .int .i64 p.1 :: p.2 :: flat r := rfl
    rw [e] at h
    cases h
    exact ⟨0, p.1, p.2, rfl, .inr ⟨rfl, rfl⟩⟩
  | p :: r, j + 2, v, h => by
    have e : flat (p :: r) = .int .i64 p.1 :: p.2 :: flat r := rfl
    rw [e, List.getElem?_cons_succ, List.getElem?_cons_succ] at h
    obtain ⟨i, f, u, h1, h2⟩ := flat_back r j v h
    exact ⟨i + 1, f, u, by simpa using h1, by rcases h2 with ⟨a, b⟩ | ⟨a, b⟩; exact .inl ⟨by omega, b⟩; exact .inr ⟨by omega, b⟩⟩
/-- What a slice of configurations holds. -/
theorem ReadsC.held {w : World} {b off n cap : Nat} {l : List Cf.Conf} (h : ReadsC w (.slice (some ⟨b, off, none⟩) n cap) l) :
    ∃ us : List (Int × Value), us.length = l.length ∧ (∀ (i : Nat) (p : Int × Value) (c : Cf.Conf), us[i]? = some p → l[i]? = some c → p.1 = c.frm ∧ ReadsI w p.2 c.mem) ∧ ∀ j v, (flat us)[j]? = some v → w.cell? ⟨b, off + j, none⟩ = some v ∧ v.oneCell' = true := by
  obtain ⟨rs, ⟨ao, cap', hv, h1, h2, h3, h4⟩, h5, h6⟩ := h
  simp only [Value.slice.injEq] at hv
  obtain ⟨rfl, _, rfl⟩ := hv
  obtain ⟨us, hul, hus⟩ := pick (fun i (p : Int × Value) => ∃ c, l[i]? = some c ∧ rs[i]? = some (Cf.cells p.1 p.2) ∧ p.1 = c.frm ∧ ReadsI w p.2 c.mem) l.length (fun i hi => by
    obtain ⟨c, hc⟩ : ∃ c, l[i]? = some c := ⟨_, List.getElem?_eq_getElem hi⟩
    obtain ⟨r, hr⟩ : ∃ r, rs[i]? = some r := ⟨_, List.getElem?_eq_getElem (by omega)⟩
    obtain ⟨u, e, hu⟩ := h6 i r c hr hc
    exact ⟨(c.frm, u), c, hc, by rw [hr, e], rfl, hu⟩)
  refine ⟨us, hul, fun i p c hp hc => ?_, fun j v hj => ?_⟩
  · obtain ⟨c', hc', _, a, b⟩ := hus i p hp
    rw [hc] at hc'; cases hc'
    exact ⟨a, b⟩
  · obtain ⟨i, f, u, hi, hcase⟩ := flat_back us j v hj
    obtain ⟨c, hc, hr, _, hu⟩ := hus i (f, u) hi
    obtain ⟨uo, uc, hue, _⟩ := ReadsI.shape hu
    rcases hcase with ⟨rfl, rfl⟩ | ⟨rfl, rfl⟩
    · have := h4 _ rfl i _ hr 0 _ rfl
      rw [Addr.add_lit, Nat.add_zero] at this
      exact ⟨this, rfl⟩
    · have := h4 _ rfl i _ hr 1 _ rfl
      rw [Addr.add_lit] at this
      exact ⟨this, by simp at hue; rw [hue]; rfl⟩
/-- A row of the call's own, as a block. -/
theorem CRow.of_owns {w : World} {base : Nat} {v : Value} {us : List (Int × Value)} (h : w.ownsRow base 43 2 v us.length (flat us)) (h0 : 0 < us.length) :
    ∃ g cap, v = .slice (some ⟨g, 0, none⟩) us.length cap ∧ base ≤ g ∧ CRow w g cap us := by
  rcases h.2 with ⟨_, h'⟩ | ⟨g, cap, cur, hv, hb, hg, hc, hm, hs, ht⟩
  · omega
  · refine ⟨g, cap, hv, hb, cur, hg, hc, by unfold maxLen at hm; exact hm, fun i f u hi => ?_⟩
    have hlt := (List.getElem?_eq_some_iff.1 hi).1
    obtain ⟨e1, e2⟩ := flat_at us i f u hi
    rw [← ht, List.getElem?_take, if_pos (by omega), Array.getElem?_toList] at e1
    rw [← ht, List.getElem?_take, if_pos (by omega), Array.getElem?_toList] at e2
    exact ⟨e1, e2⟩

set_option maxRecDepth 4000 in
theorem clone_confs (b off n cap : Nat) (us : List (Int × Value)) (w : World) (hn : us.length = n) (hn1 : n ≤ 1048576) (h0 : 0 < n) (hc : ∀ j v, (flat us)[j]? = some v → w.cell? ⟨b, off + j, none⟩ = some v ∧ v.oneCell' = true) :
    Calls Try.prog 39 #[.slice (some ⟨b, off, none⟩) n cap] w fun e w' => ∃ g c, e = .returned (.slice (some ⟨g, 0, none⟩) n c) ∧ w.heap.size ≤ g ∧ CRow w' g c us ∧ Below w.heap.size w w' := by
  obtain ⟨i0, hi, hz0, hz1, hz2⟩ := info_parts info_conf
  have q22 : ∀ (w : World) (a : Option Addr) (n c n' c' : Nat), (binOp .eql 22 (.slice a n c) (.slice none n' c')).run Try.prog w = .ok (.bool a.isNone) w := fun w a n c n' c' => Lib.run_eql_slice_nil w _ _ a n c n' c' Try.underlying22
  have HC := Lib.hid hc
  have hfl := flat_len us
  rw [hn] at hfl
  have HN := Lib.hid hn
  have HFL := Lib.hid hfl
  clear hc hn hfl
  go_enter Try.func39, Try.ntmps39
  go_wp2_with (at_builtin; refine wpList_append_own _ rfl _ _ 22 rfl w.heap.size 43 i0 (.agg #[.int .i64 0, .slice none 0 0]) 2 32 Try.underlying22 hi hz0 hz1 hz2 rfl (by decide) _ _ _ rfl (World.ownsRow_made w #[] 0 (Nat.le_refl _) (Nat.zero_le _) (by simp)) ⟨b, off, none⟩ n cap (flat us) rfl ?qc1 ?qc2 ?qc3 ?qc4 ?qc5 ?qc6 ?_)
  case qc1 => exact HFL.out
  case qc2 =>
    intro j u hj
    rw [Addr.add_lit]
    exact Lib.cell?_alloc_some _ (HC.out j u hj).1
  case qc3 =>
    intro u hu
    obtain ⟨j, hj⟩ := List.getElem?_of_mem hu
    exact (HC.out j u hj).2
  case qc4 => unfold maxLen; omega
  case qc5 => omega
  case qc6 => simp
  intro v' w1 hown hgrow hnil
  have hown' : w1.ownsRow w.heap.size 43 2 v' us.length (flat us) := by rw [HN.out]; simpa using hown
  have hb : Below w.heap.size w w1 := ((Below.refl _ w).alloc (Nat.le_refl _) _).grown hgrow (by simp) (by intro k hk; simp [Value.ownBlock] at hk; omega)
  obtain ⟨g, c, rfl, hg, hrow⟩ := CRow.of_owns hown' (by rw [HN.out]; exact h0)
  rw [HN.out]
  clear hown hown' hgrow hnil
  go_wp2
  go_ret
  exact ⟨g, c, rfl, hg, hrow, hb⟩

/-- What copied leaves: a block of its own. -/
def Copied (w : World) (l : List Cf.Conf) (e : Ending) (w' : World) : Prop := ∃ g c us, e = .returned (.slice (some ⟨g, 0, none⟩) l.length c) ∧ w.heap.size ≤ g ∧ CRow w' g c us ∧ MRow w' g us l ∧ Below w.heap.size w w'

set_option maxRecDepth 4000 in
set_option maxHeartbeats 1600000 in
theorem copied_any (v : Value) (l : List Cf.Conf) (w : World) (hv : ReadsC w v l) (hl : 0 < l.length) (hn : l.length ≤ 1048576) (hm : ∀ c ∈ l, c.mem ≠ [] ∧ c.mem.length ≤ 1048576) : Calls Try.prog 28 #[v] w (Copied w l) := by
  obtain ⟨ao, cap, rfl, hc1, hc2⟩ := ReadsC.shape hv
  obtain ⟨b, off, rfl, hgl, _⟩ := ReadsC.places hv hl
  obtain ⟨us, hul, hus, hfl⟩ := hv.held
  have hclone := clone_confs b off l.length cap us w hul hn hl hfl
  have HM := Lib.hid hm
  have HOLD : Hid (∀ (i : Nat) (p : Int × Value) (c : Cf.Conf), us[i]? = some p → l[i]? = some c → p.1 = c.frm ∧ ReadsI w p.2 c.mem ∧ ∀ a n k, p.2 = .slice (some a) n k → a.block < w.heap.size) := by
    intro i p c hp hc
    obtain ⟨a, hb⟩ := hus i p c hp hc
    refine ⟨a, hb, fun x n k e => ?_⟩
    obtain ⟨uo, uc, he, _⟩ := ReadsI.shape hb
    rw [e] at he
    cases he
    rw [e] at hb
    obtain ⟨g, o, e2, hlt, _⟩ := ReadsI.places hb (List.length_pos_iff.2 (hm c (List.mem_of_getElem? hc)).1)
    cases e2
    exact hlt
  obtain ⟨n, hnn⟩ : ∃ n, n = l.length := ⟨_, rfl⟩
  rw [← hnn] at hclone hc1 hn hul
  have HN := Lib.hid hnn
  have HUL := Lib.hid hul
  have hnb : n < 9223372036854775808 := by omega
  obtain ⟨Q, hQ⟩ : ∃ Q, Q = Copied w l := ⟨_, rfl⟩
  rw [← hQ, ← hnn]
  have HQ := Lib.hid hQ
  clear hv hus hfl hm hnn hul hQ hl
  go_enter Try.func28, Try.ntmps28
  go_wp2_with fail
  refine hclone.mono ?_
  rintro e w1 ⟨g, c, rfl, hg, hrow, hB1⟩
  have HB1 := Lib.hid hB1
  have HG := Lib.hid hg
  have hcb : c ≤ 9223372036854775807 := by obtain ⟨_, _, _, h, _⟩ := hrow; exact h
  have hnc : n ≤ c := by obtain ⟨_, _, h, _⟩ := hrow; rw [HUL.out] at h; exact h
  have HROW := Lib.hid hrow
  have HMR : Hid (MRow w1 g us l) := ⟨by rw [HUL.out, HN.out], fun i p d hp hd => by
    obtain ⟨a, b, e⟩ := HOLD.out i p d hp hd
    exact ⟨a, b.below hB1, fun x n k h => by have := e x n k h; omega⟩⟩
  clear hclone hrow hB1 hg
  go_wp2
  go_loopw [9] (fun i wr => ∃ (k : Nat) (us : List (Int × Value)), i = .int .i64 (k : Int) ∧ k ≤ n ∧ CRow wr g c us ∧ MRow wr g us l ∧ Below w.heap.size w wr) (fun i _ => n - (intOf i).toNat)
  case atStart => exact ⟨0, us, rfl, by omega, HROW.out, HMR.out, HB1.out⟩
  case round =>
    obtain ⟨k, us, rfl, hk, hR, hMR, hB⟩ := hrel
    have HR := Lib.hid hR; have HMR := Lib.hid hMR; have HB := Lib.hid hB
    clear hR hMR hB
    by_cases hlt : k < n
    · obtain ⟨d, hd⟩ : ∃ d, l[k]? = some d := ⟨_, List.getElem?_eq_getElem (by have := HN.out; omega)⟩
      obtain ⟨⟨f, u⟩, hp⟩ : ∃ p, us[k]? = some p := ⟨_, List.getElem?_eq_getElem (by have := HN.out; have := HMR.out.1; omega)⟩
      obtain ⟨c0, c1⟩ := HR.out.cells hp
      obtain ⟨hf, hru, hug⟩ := HMR.out.2 k (f, u) d hp hd
      obtain ⟨uo, uc, hue, _, _⟩ := ReadsI.shape hru
      dsimp only at hf hue hru
      subst hue
      have hdl := (HM.out d (List.mem_of_getElem? hd)).2
      obtain ⟨m, hmm⟩ : ∃ m, m = d.mem.length := ⟨_, rfl⟩
      rw [← hmm] at c1 hp hru
      obtain ⟨w3, e3, hl3, hB3, hz3⟩ := box_cnf wr f (.slice uo m uc)
      obtain ⟨g0, g1⟩ := Cnf.both hl3
      have hcl := clone_ints _ d.mem w3 (hru.below hB3) hdl
      have HR3 := Lib.hid (HR.out.below hB3 HR.out.lt)
      have HMR3 := Lib.hid (HMR.out.below hB3)
      have HB3 := Lib.hid (HB.out.trans (hB3.mono HB.out.size))
      have HP := Lib.hid hp; have HD := Lib.hid hd
      dsimp only [Cf.cells] at e3
      clear hd hp hf hru hug hmm hl3 hB3 hz3 hdl
      go_wp2_with fail
      refine hcl.mono ?_
      rintro e w4 ⟨v4, rfl, ho, hB4⟩
      have hr4 := RowI.of_owns ho
      have HR4 := Lib.hid (HR3.out.below hB4 HR3.out.lt)
      have HMR4 := Lib.hid (HMR3.out.below hB4)
      have HB4 := Lib.hid (HB3.out.trans (hB4.mono HB3.out.size))
      have HV4 := Lib.hid hr4.reads
      have HVG : Hid (∀ a n k, v4 = .slice (some a) n k → a.block ≠ g) := by
        intro a n k e
        have h1 := (hr4.block a n k e).1
        have h2 := HR3.out.lt
        omega
      obtain ⟨ao4, cap4, hs4, _, _⟩ := ReadsI.shape hr4.reads
      obtain ⟨d0, d1⟩ := HR4.out.cells HP.out
      have fr := HR4.out.free (k * 2 + 1)
      clear ho hr4 hB4 hcl g0 g1 c0 c1 d0
      subst hs4
      go_wp2
      have hst := HR4.out.store HMR4.out HP.out HD.out HV4.out HVG.out
      have hb5 : Below w.heap.size w4 (w4.setCell ⟨g, k * 2 + 1, none⟩ (.slice ao4 d.mem.length cap4)) := by
        have := grown_set w4 g (k * 2 + 1) (.slice ao4 d.mem.length cap4)
        exact ⟨this.os, this.tape, this.output, this.size, fun j hj => Below.heap_setCell _ _ _ j (by show j ≠ g; have := HG.out; omega)⟩
      go_roundw
      case rel => exact ⟨k + 1, _, by go_num, by omega, hst.1, hst.2, HB4.out.trans hb5⟩
      case measure => simp [intOf]; omega
    · obtain rfl : k = n := by omega
      go_wp2
      rw [HQ.out]
      exact ⟨g, c, us, by rw [← HN.out]; rfl, HG.out, HR.out, HMR.out, HB.out⟩

/-- A part of the configurations, without room behind it. -/
theorem ReadsC.part {w : World} {ao : Option Addr} {n cap : Nat} {l : List Cf.Conf} (h : ReadsC w (.slice ao n cap) l) (a b : Nat) (hab : a ≤ b) (hb : b ≤ n) :
    ∃ ao2, sliced ao a b b 2 = .slice ao2 (b - a) (b - a) ∧ ReadsC w (.slice ao2 (b - a) (b - a)) ((l.take b).drop a) := by
  obtain ⟨rs, ⟨ao', cap', hv, h1, h2, h3, h4⟩, h5, h6⟩ := h
  simp only [Value.slice.injEq] at hv
  obtain ⟨rfl, hn, rfl⟩ := hv
  have hlen : ((rs.take b).drop a).length = b - a := by rw [List.length_drop, List.length_take]; omega
  refine ⟨_, rfl, (rs.take b).drop a, ⟨_, _, by rw [hlen], by rw [hlen]; omega, by omega, ?_, ?_⟩, by simp [h5], ?_⟩
  · intro h0
    split at h0
    · omega
    · cases ao with
      | none => have := h3 rfl; omega
      | some x => simp at h0
  · intro x hx i r hr j u hu
    have hlt := (List.getElem?_eq_some_iff.1 hr).1
    rw [hlen] at hlt
    rw [if_neg (by omega)] at hx
    cases ao with
    | none => simp at hx
    | some y =>
      simp only [Option.map_some, Option.some.injEq] at hx
      subst hx
      rw [List.getElem?_drop, List.getElem?_take] at hr
      split at hr
      · have := h4 y rfl _ r hr j u hu
        rw [Deep.add_add, ← Nat.add_assoc, ← Nat.add_mul]
        exact this
      · cases hr
  · intro i r c hr hc
    rw [List.getElem?_drop, List.getElem?_take] at hr hc
    split at hr
    · rename_i hlt
      rw [if_pos hlt] at hc
      exact h6 _ r c hr hc
    · cases hr
theorem cut_any (ao : Option Addr) (n cap : Nat) (l : List Cf.Conf) (a b : Nat) (w : World) (hv : ReadsC w (.slice ao n cap) l) (hab : a ≤ b) (hb : b ≤ n) :
    ∃ ao2, ReadsC w (.slice ao2 (b - a) (b - a)) ((l.take b).drop a) ∧ ∀ W, Calls Try.prog 29 #[.slice ao n cap, .int .i64 a, .int .i64 b] W (Says W (.slice ao2 (b - a) (b - a))) := by
  obtain ⟨ao2, hs, hr⟩ := hv.part a b hab hb
  have hcap : n ≤ cap := by obtain ⟨ao', cap', e, h1, _⟩ := ReadsC.shape hv; cases e; exact h1
  refine ⟨ao2, hr, fun W => ?_⟩
  have hslice : ∀ W : World, (Instr.slice 22 (.slice ao n cap) (some (.int .i64 (a : Int))) (some (.int .i64 (b : Int))) (some (.int .i64 (b : Int)))).run Try.prog W = .ok (.slice ao2 (b - a) (b - a)) W := by
    intro W
    have he : Try.prog.elem 22 = 43 := by kernel_rfl
    have hi : (Try.prog.info? 43).isSome = true := by kernel_rfl
    obtain ⟨i, hi⟩ := Option.isSome_iff_exists.1 hi
    have hrun := run_slice_lhm (P := Try.prog) (w := W) 22 ao n cap (by rw [he]; exact Try.underlying22) .i64 .i64 .i64 (a : Int) (b : Int) (b : Int) (by omega) (by omega) (by omega) (by omega)
    rw [he] at hrun
    refine hrun.trans ?_
    rw [run_sizeOf _ hi, show Try.prog.cellsOf 43 = 2 by kernel_rfl]
    simp only [Result.andThen, Int.toNat_natCast, hs]
  obtain ⟨k, hk⟩ : ∃ k, k = b - a := ⟨_, rfl⟩
  rw [← hk] at hslice ⊢
  clear hv hs hr hk
  go_enter Try.func29, Try.ntmps29
  go_wp2
  go_ret
  exact ⟨rfl, rfl⟩

end Go.Proofs.Ytimlfiomoalieaa
