/- Messages in V2 by their elements, plain: which there are, in their order; their bytes; how they are read one behind the other. No program is spoken of. -/
import Derived.Test.YtodpdmlgjmgajaaGreatDoorMtMath
import Derived.Test.YtodpdmlgjmgajaaGreatDoorGMg
namespace Go.Proofs.YtodpdmlgjmgajaaGreatDoor
namespace Mt

/-- An element: a number (the message's cell), its entries, its image, the one entry of an accept. -/
inductive El where
  | num (k : Nat)
  | list
  | img
  | prop
def head : List El := [.num 0, .num 1, .num 2]
def elems (k : Int) : List El :=
  if k = 1 ∨ k = 2 then [.num 7]
  else if k = 3 ∨ k = 6 then [.num 3, .num 4, .num 5]
  else if k = 4 then [.num 3, .num 4, .num 5, .num 6, .list]
  else if k = 5 then [.num 3, .num 4, .prop]
  else if k = 7 then [.num 3, .num 4]
  else if k = 8 then [.num 3, .num 4, .num 6]
  else if k = 9 then [.num 5]
  else if k = 10 then [.num 6, .list]
  else if k = 11 then [.img] else []
def El.ok : El → Prop
  | .num k => k < 8
  | _ => True
theorem elems_no {k : Int} (h : k < 1 ∨ 11 < k) : elems k = [] := by
  unfold elems
  rw [if_neg (by omega), if_neg (by omega), if_neg (by omega), if_neg (by omega), if_neg (by omega), if_neg (by omega), if_neg (by omega), if_neg (by omega), if_neg (by omega)]
theorem elems_len (k : Int) : (elems k).length ≤ 5 ∧ ((elems k).length = 0 ↔ Ms.known k = false) := by
  rcases Ms.kinds k with rfl | rfl | rfl | rfl | rfl | rfl | rfl | rfl | rfl | rfl | rfl | h
  rotate_right
  · rw [elems_no h, (Ms.has_no h).2.2.2.2.2.2]; simp
  all_goals decide
theorem all_ok (k : Int) : ∀ e ∈ head ++ elems k, e.ok := by
  intro e he
  rcases List.mem_append.1 he with he | he
  · simp only [head, List.mem_cons, List.not_mem_nil, or_false] at he
    rcases he with rfl | rfl | rfl <;> simp [El.ok]
  · rcases Ms.kinds k with rfl | rfl | rfl | rfl | rfl | rfl | rfl | rfl | rfl | rfl | rfl | h
    rotate_right
    · rw [elems_no h] at he; simp at he
    all_goals
      simp [elems] at he
      first
        | (rcases he with rfl | rfl | rfl | rfl | rfl <;> simp [El.ok])
        | (rcases he with rfl | rfl | rfl | rfl <;> simp [El.ok])
        | (rcases he with rfl | rfl | rfl <;> simp [El.ok])
        | (rcases he with rfl | rfl <;> simp [El.ok])
        | (subst he; simp [El.ok])

/-- The numbers of a message, each by its cell. -/
def val (m : Ms.Msg) (k : Nat) : Int := Ms.nth [m.kind, m.frm, m.dst, m.bal.round, m.bal.node, m.index, m.commit, m.version] k
def setN (m : Ms.Msg) (n : Int) : Nat → Ms.Msg
  | 0 => {m with kind := n}
  | 1 => {m with frm := n}
  | 2 => {m with dst := n}
  | 3 => {m with bal := ⟨n, m.bal.node⟩}
  | 4 => {m with bal := ⟨m.bal.round, n⟩}
  | 5 => {m with index := n}
  | 6 => {m with commit := n}
  | 7 => {m with version := n}
  | _ => m
theorem eight {k : Nat} (h : k < 8) : k = 0 ∨ k = 1 ∨ k = 2 ∨ k = 3 ∨ k = 4 ∨ k = 5 ∨ k = 6 ∨ k = 7 := by omega
theorem cells_val (m : Ms.Msg) (ve vi : Value) {k : Nat} (h : k < 8) : (Ms.cells m ve vi)[k]? = some (.int .i64 (val m k)) := by
  rcases eight h with rfl | rfl | rfl | rfl | rfl | rfl | rfl | rfl <;> rfl
theorem cells_set (m : Ms.Msg) (n : Int) (ve vi : Value) {k : Nat} (h : k < 8) : (Ms.cells (setN m n k) ve vi).toList = (Ms.cells m ve vi).toList.take k ++ [.int .i64 n] ++ (Ms.cells m ve vi).toList.drop (k + 1) := by
  rcases eight h with rfl | rfl | rfl | rfl | rfl | rfl | rfl | rfl <;> rfl
theorem setN_ents (m : Ms.Msg) (n : Int) (k : Nat) : (setN m n k).ents = m.ents ∧ (setN m n k).img = m.img := by
  match k with
  | 0 | 1 | 2 | 3 | 4 | 5 | 6 | 7 => exact ⟨rfl, rfl⟩
  | k + 8 => exact ⟨rfl, rfl⟩

/-! Bytes. -/
def ebytes (m : Ms.Msg) : El → List UInt8
  | .num k => enc (val m k).toNat
  | .list => En.bytes 2 m.ents
  | .img => Pk.text m.img
  | .prop => m.ents.flatMap one
theorem bytes_elems (m : Ms.Msg) : bytes m = (head ++ elems m.kind).flatMap (ebytes m) := by
  have hh : head.flatMap (ebytes m) = Ms.nbytes [m.kind, m.frm, m.dst] := by
    simp [head, ebytes, val, Ms.nth, Ms.nbytes]
  rw [List.flatMap_append, hh]
  unfold bytes ents
  generalize Ms.nbytes [m.kind, m.frm, m.dst] = H
  obtain ⟨k, f, d, ⟨r, n⟩, i, c, v, es, g⟩ := m
  dsimp only
  rcases Ms.kinds k with rfl | rfl | rfl | rfl | rfl | rfl | rfl | rfl | rfl | rfl | rfl | h
  rotate_right
  · obtain ⟨h1, h2, h3, h4, h5, h6, _⟩ := Ms.has_no h
    rw [elems_no h, h1, h2, h3, h4, h5, h6, if_neg (by omega)]
    simp [part]
  all_goals simp [elems, ebytes, part, Ms.hb, Ms.hi, Ms.hc, Ms.hv, Ms.he, Ms.hm, val, Ms.nth]

/-! How they are read. -/
def gstep (b : List UInt8) (t : Ms.Msg × Nat × Int) : El → Ms.Msg × Nat × Int
  | .num k => (setN t.1 (Cm.rnum b t.2.1 t.2.2).1 k, (Cm.rnum b t.2.1 t.2.2).2.1.toNat, (Cm.rnum b t.2.1 t.2.2).2.2)
  | .list => ({t.1 with ents := (En.get 2 b t.2.1 t.2.2).1}, (En.get 2 b t.2.1 t.2.2).2)
  | .img => ({t.1 with img := (Ms.raw b t.2.1 t.2.2).1}, (Ms.raw b t.2.1 t.2.2).2.1.toNat, (Ms.raw b t.2.1 t.2.2).2.2)
  | .prop => ({t.1 with ents := [⟨(Cm.rnum b t.2.1 t.2.2).1, t.1.bal, (Cm.get 2 b (Cm.rnum b t.2.1 t.2.2).2.1.toNat (Cm.rnum b t.2.1 t.2.2).2.2).1⟩]}, (Cm.get 2 b (Cm.rnum b t.2.1 t.2.2).2.1.toNat (Cm.rnum b t.2.1 t.2.2).2.2).2)
def start (b : List UInt8) : Ms.Msg × Nat × Int := (Ms.ofNums (Ms.rnums b 3).1, (Ms.rnums b 3).2)
def all (b : List UInt8) : Ms.Msg × Nat × Int := (elems (kindOf b)).foldl (gstep b) (start b)
theorem head_fold (b : List UInt8) : head.foldl (gstep b) (Ms.zero, 0, 0) = start b := rfl

/-- An error stays, and so does the place. -/
theorem rnum_err (b : List UInt8) (p : Nat) (er : Int) (h : er ≠ 0) : Cm.rnum b p er = (0, (p : Int), er) := if_neg h
theorem cfold_err (b : List UInt8) : ∀ (fs : List Cm.F) (t : Cm.Cmd × Nat × Int), t.2.2 ≠ 0 → (fs.foldl (Cm.gstep b) t).2 = t.2
  | [], _, _ => rfl
  | f :: fs, t, h => by
    have hs : (Cm.gstep b t f).2 = t.2 := by
      unfold Cm.gstep
      split
      · rw [rnum_err b _ _ h]; simp
      · rw [show Cm.rtxt b t.2.1 t.2.2 = ([], (t.2.1 : Int), t.2.2) from if_neg h]; simp
    rw [List.foldl_cons, cfold_err b fs _ (by rw [hs]; exact h), hs]
theorem cget_err (v : Int) (b : List UInt8) (p : Nat) (er : Int) (h : er ≠ 0) : (Cm.get v b p er).2 = (p, er) := by
  unfold Cm.get
  rw [rnum_err b p er h]
  exact cfold_err b _ _ h
theorem eget_err (v : Int) (b : List UInt8) (p : Nat) (er : Int) (h : er ≠ 0) : (En.get v b p er).2 = (p, er) := by
  unfold En.get En.count
  rw [if_neg h]
  rfl
theorem raw_err (b : List UInt8) (p : Nat) (er : Int) (h : er ≠ 0) : Ms.raw b p er = ([], (p : Int), er) := if_neg h
theorem gstep_err (b : List UInt8) (t : Ms.Msg × Nat × Int) (e : El) (h : t.2.2 ≠ 0) : (gstep b t e).2 = t.2 := by
  cases e with
  | num k => unfold gstep; rw [rnum_err b _ _ h]; simp
  | list => exact eget_err 2 b _ _ h
  | img => unfold gstep; rw [raw_err b _ _ h]; simp
  | prop =>
    show (Cm.get 2 b (Cm.rnum b t.2.1 t.2.2).2.1.toNat (Cm.rnum b t.2.1 t.2.2).2.2).2 = _
    rw [rnum_err b _ _ h]
    simp only [Int.toNat_natCast]
    exact cget_err 2 b _ _ h
theorem fold_err (b : List UInt8) : ∀ (l : List El) (t : Ms.Msg × Nat × Int), t.2.2 ≠ 0 → (l.foldl (gstep b) t).2 = t.2
  | [], _, _ => rfl
  | e :: l, t, h => by
    have hs := gstep_err b t e h
    rw [List.foldl_cons, fold_err b l _ (by rw [hs]; exact h), hs]
/-- Where the kind exists, all is as it was said. -/
theorem all_got (b : List UInt8) (h : Ms.known (kindOf b) = true) : all b = (gotM b, (r7 b).2) := by
  unfold all gotM r7 r6 r5 r4 r3 r2 r1
  have h0 : kindOf b = Ms.nth (Ms.rnums b 3).1 0 := rfl
  have hst : start b = (⟨kindOf b, Ms.nth (Ms.rnums b 3).1 1, Ms.nth (Ms.rnums b 3).1 2, ⟨0, 0⟩, 0, 0, 0, [], []⟩, (Ms.rnums b 3).2) := by
    have hl := Ms.rnums_len b 3
    unfold start kindOf
    match (Ms.rnums b 3).1, hl with
    | [a, c, d], _ => rfl
  rw [hst]
  generalize kindOf b = k at h ⊢
  generalize (Ms.rnums b 3).2 = s
  generalize Ms.nth (Ms.rnums b 3).1 1 = x1
  generalize Ms.nth (Ms.rnums b 3).1 2 = x2
  obtain ⟨p, er⟩ := s
  rcases Ms.kinds k with rfl | rfl | rfl | rfl | rfl | rfl | rfl | rfl | rfl | rfl | rfl | q
  rotate_right
  · rw [(Ms.has_no q).2.2.2.2.2.2] at h; cases h
  all_goals rfl

/-- What the reading tells: the message, and what is wrong. -/
def got (b : List UInt8) : Ms.Msg × Int := if (Ms.rnums b 3).2.2 = 0 ∧ Ms.known (kindOf b) = false then ((start b).1, 3) else ((all b).1, Cm.done b (all b).2.1 (all b).2.2)
theorem decode_got (b : List UInt8) : decode b = if (got b).2 ≠ 0 then (Ms.zero, (got b).2) else if Ms.check (got b).1 ≠ 0 then (Ms.zero, Ms.check (got b).1) else ((got b).1, 0) := by
  unfold decode
  by_cases h1 : (Ms.rnums b 3).2.2 = 0
  · rw [if_neg (by simpa using h1)]
    cases hk : Ms.known (kindOf b) with
    | false =>
      have hg : got b = ((start b).1, 3) := if_pos ⟨h1, hk⟩
      rw [hg, if_pos rfl, if_pos (by simp)]
    | true =>
      have hg : got b = ((all b).1, Cm.done b (all b).2.1 (all b).2.2) := if_neg fun h => by rw [hk] at h; cases h.2
      rw [hg, all_got b hk, if_neg (by simp)]
  · have hg : got b = ((all b).1, Cm.done b (all b).2.1 (all b).2.2) := if_neg fun h => h1 h.1
    have hz : (all b).2 = (start b).2 := fold_err b _ _ h1
    have hd : Cm.done b (start b).2.1 (start b).2.2 = (Ms.rnums b 3).2.2 := if_pos h1
    rw [hg, hz, hd, if_pos h1, if_pos h1]

/-! What is read is small. -/
def Inv (b : List UInt8) (t : Ms.Msg × Nat × Int) : Prop := (∀ k, k < 8 → -9223372036854775808 ≤ val t.1 k ∧ val t.1 k ≤ 9223372036854775807) ∧ (∀ e ∈ t.1.ents, e.cmd.Short b.length ∧ e.Fits) ∧ t.1.ents.length ≤ 256 ∧ t.1.img.length ≤ b.length ∧ t.2.1 ≤ b.length
theorem val_setN (m : Ms.Msg) (n : Int) (k j : Nat) (hj : j < 8) : val (setN m n k) j = if j = k then n else val m j := by
  match k with
  | 0 | 1 | 2 | 3 | 4 | 5 | 6 | 7 => rcases eight hj with rfl | rfl | rfl | rfl | rfl | rfl | rfl | rfl <;> rfl
  | k + 8 => rw [if_neg (by omega)]; rfl
theorem Inv.step {b : List UInt8} {t : Ms.Msg × Nat × Int} (h : Inv b t) (e : El) : Inv b (gstep b t e) := by
  obtain ⟨h1, h2, h3, h4, h5⟩ := h
  have hn := Ms.rnum_num b t.2.1 t.2.2
  have hl := Cm.rnum_le b t.2.1 t.2.2 h5
  cases e with
  | num k =>
    refine ⟨fun j hj => ?_, ?_, ?_, ?_, hl⟩
    · show _ ≤ val (setN t.1 _ k) j ∧ val (setN t.1 _ k) j ≤ _
      rw [val_setN _ _ _ _ hj]
      split
      · omega
      · exact h1 j hj
    · show ∀ e ∈ (setN t.1 _ k).ents, _
      rw [(setN_ents _ _ _).1]; exact h2
    · show (setN t.1 _ k).ents.length ≤ _
      rw [(setN_ents _ _ _).1]; exact h3
    · show (setN t.1 _ k).img.length ≤ _
      rw [(setN_ents _ _ _).2]; exact h4
  | list =>
    obtain ⟨g1, g2⟩ := En.get_inv 2 b t.2.1 t.2.2 h5
    exact ⟨h1, g1, g2, h4, En.get_le 2 b _ _ h5⟩
  | img =>
    rcases Ms.raw_cases b t.2.1 t.2.2 h5 with ⟨e, q, _, hq, hr⟩ | ⟨s, q, _, hq, hs, hr, _⟩
    · refine ⟨h1, h2, h3, ?_, ?_⟩
      · show (Ms.raw b _ _).1.length ≤ _; rw [hr]; simp
      · show (Ms.raw b _ _).2.1.toNat ≤ _; rw [hr]; simpa using hq
    · refine ⟨h1, h2, h3, ?_, ?_⟩
      · show (Ms.raw b _ _).1.length ≤ _; rw [hr]; exact hs
      · show (Ms.raw b _ _).2.1.toNat ≤ _; rw [hr]; simpa using hq
  | prop =>
    obtain ⟨g1, g2, g3⟩ := Cm.get_inv_at 2 b _ (Cm.rnum b t.2.1 t.2.2).2.2 hl
    have a3 := h1 3 (by omega); have a4 := h1 4 (by omega)
    refine ⟨h1, fun e he => ?_, by show 1 ≤ 256; omega, h4, g1⟩
    obtain rfl := List.mem_singleton.1 he
    exact ⟨g2, ⟨by dsimp only; omega, by dsimp only; omega, ⟨a3.1, a3.2, a4.1, a4.2⟩, g3⟩⟩
theorem Inv.fold {b : List UInt8} : ∀ (l : List El) {t : Ms.Msg × Nat × Int}, Inv b t → Inv b (l.foldl (gstep b) t)
  | [], _, h => h
  | e :: l, _, h => Inv.fold l (h.step e)
theorem Inv.zero (b : List UInt8) : Inv b (Ms.zero, 0, 0) := by
  refine ⟨fun k hk => ?_, fun e he => by simp [Ms.zero] at he, by simp [Ms.zero], by simp [Ms.zero], by simp⟩
  rcases eight hk with rfl | rfl | rfl | rfl | rfl | rfl | rfl | rfl <;> decide
theorem start_inv (b : List UInt8) : Inv b (start b) := Inv.fold head (Inv.zero b)
theorem all_inv (b : List UInt8) : Inv b (all b) := Inv.fold _ (start_inv b)
theorem got_inv (b : List UInt8) : (got b).1.Fits ∧ (∀ e ∈ (got b).1.ents, e.cmd.Short b.length) ∧ (got b).1.ents.length ≤ 256 ∧ (got b).1.img.length ≤ b.length := by
  have key : ∀ t : Ms.Msg × Nat × Int, Inv b t → t.1.Fits ∧ (∀ e ∈ t.1.ents, e.cmd.Short b.length) ∧ t.1.ents.length ≤ 256 ∧ t.1.img.length ≤ b.length := fun t ⟨h1, h2, h3, h4, _⟩ => by
    refine ⟨⟨fun x hx => ?_, fun e he => (h2 e he).2⟩, fun e he => (h2 e he).1, h3, h4⟩
    have a0 := h1 0 (by omega); have a1 := h1 1 (by omega); have a2 := h1 2 (by omega); have a3 := h1 3 (by omega); have a4 := h1 4 (by omega); have a5 := h1 5 (by omega); have a6 := h1 6 (by omega)
    simp only [Ms.nums, List.mem_cons, List.not_mem_nil, or_false] at hx
    rcases hx with rfl | rfl | rfl | rfl | rfl | rfl | rfl
    · exact a0
    · exact a1
    · exact a2
    · exact a3
    · exact a4
    · exact a5
    · exact a6
  unfold got
  split
  · exact key _ (start_inv b)
  · exact key _ (all_inv b)

/-- The numbers of a valid message. -/
theorem val_good {m : Ms.Msg} (h : Ms.check m = 0) (k : Nat) (hk : k < 8) : 0 ≤ val m k ∧ val m k ≤ 9223372036854775807 := by
  have hg := Ms.check_good h
  have hpos := Ms.good_pos hg
  rcases eight hk with rfl | rfl | rfl | rfl | rfl | rfl | rfl | rfl
  rotate_right
  · show 0 ≤ m.version ∧ m.version ≤ _
    by_cases hv : Ms.hv m.kind = true
    · have hr := hg.ranged
      unfold Ms.ranged at hr
      rw [hv] at hr
      simp only [Bool.true_and, Bool.and_eq_true, Bool.not_eq_true', Bool.not_eq_false'] at hr
      rcases Vs.may_or m.version with ⟨_, h1 | h1⟩ | ⟨h1, _, _⟩
      · omega
      · omega
      · rw [h1] at hr; simp at hr
    · have := congrArg Ms.Msg.version hg.own
      rw [show (Ms.own m).version = if Ms.hv m.kind = true then m.version else 0 from rfl, if_neg hv] at this
      omega
  · exact hpos m.kind (by simp [Ms.nums])
  · exact hpos m.frm (by simp [Ms.nums])
  · exact hpos m.dst (by simp [Ms.nums])
  · exact hpos m.bal.round (by simp [Ms.nums])
  · exact hpos m.bal.node (by simp [Ms.nums])
  · exact hpos m.index (by simp [Ms.nums])
  · exact hpos m.commit (by simp [Ms.nums])
/-- An accept has one entry. -/
theorem good_sole {m : Ms.Msg} (h : Ms.check m = 0) (h5 : m.kind = 5) : ∃ e, m.ents = [e] ∧ e.bal = m.bal := by
  have hw := (Ms.check_good h).whole
  unfold Ms.whole at hw
  rw [if_pos h5] at hw
  unfold Ms.sole at hw
  match hm : m.ents, hw with
  | [e], hw => exact ⟨e, rfl, of_decide_eq_true hw⟩
theorem prop_five {k : Int} (h : El.prop ∈ head ++ elems k) : k = 5 := by
  rcases List.mem_append.1 h with h | h
  · simp [head] at h
  · rcases Ms.kinds k with rfl | rfl | rfl | rfl | rfl | rfl | rfl | rfl | rfl | rfl | rfl | q
    rotate_right
    · rw [elems_no q] at h; simp at h
    all_goals first
      | rfl
      | (simp [elems] at h)
end Mt
end Go.Proofs.YtodpdmlgjmgajaaGreatDoor
