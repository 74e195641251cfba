/- A command done in schema 2: put, swap, Do. Written by a program. -/
import Derived.Test.YtiakpedioemmiaaKwCh
import Derived.Test.YtiakpedioemmiaaKvDo3
namespace Go.Proofs.Ytiakpedioemmiaa
open Go.RowKit

/-- A command's kind stored. -/
theorem set_kind {w : World} {g : Nat} {c : Cm.Cmd} (h : Cmds w g c) : ∃ w', w.setCell ⟨g, 0, none⟩ (.int .i64 2) = w' ∧ Cmds w' g (Kv.asPut c) ∧ w.grownBy w' (some g) :=
  ⟨_, rfl, h.set 0 _, grown_set w g 0 _⟩
/-- An answer's revision stored. -/
theorem set_arev {w : World} {g : Nat} {a : An.Ans} (r : Int) (h : Anss w g a) : ∃ w', w.setCell ⟨g, 5, none⟩ (.int .i64 r) = w' ∧ Anss w' g { a with rev := r } ∧ w.grownBy w' (some g) :=
  ⟨_, rfl, h.set 5 _, grown_set w g 5 _⟩

/-- What a swap's refusal reads: of the command, of the pair. -/
theorem reads_cas {W : World} {g1 gp : Nat} {c : Cm.Cmd} {X : Kv.Item} (h1 : Cmds W g1 c) (h2 : Kvs W gp X) :
    W.cell? ⟨g1, 1, none⟩ = some (.int .i64 c.client) ∧ W.cell? ⟨g1, 2, none⟩ = some (.int .i64 c.seq) ∧ W.cell? ⟨gp, 1, none⟩ = some (.string ⟨X.val.toArray⟩) ∧ W.cell? ⟨gp, 2, none⟩ = some (.int .i64 X.rev) :=
  ⟨h1.cell 1 _ rfl, h1.cell 2 _ rfl, h2.cell 1 _ rfl, h2.cell 2 _ rfl⟩

set_option maxRecDepth 4000 in
set_option maxHeartbeats 3200000 in
theorem put_kv (v : Value) (l : List Kv.Item) (c : Cm.Cmd) (w : World) (hv : ReadsK w v l) (hp : Kv.Asc l) (hn : l.length ≤ 100000) :
    Calls Try.prog 22 #[v, .agg (Cm.cells c)] w (DoneK w (Kv.put2 l c) (Kv.ans l c)) := by
  obtain ⟨w1, e1, hl1, hB1, hz1⟩ := box_cmd w c
  obtain ⟨w2, e2, hl2, hB2, hz2⟩ := box_ans w1 An.zero
  dsimp only [An.cells, An.zero] at e2
  rw [hz1] at hl2
  have HC2 := Lib.hid (hl1.below hB2 hl1.lt)
  have HA2 := Lib.hid hl2
  have HB2 := Lib.hid (hB1.trans (hB2.mono hB1.size))
  have HV := Lib.hid hv
  have hfind := find_kv v l c.key w2 (hv.below HB2.out) hp (by omega)
  have HDO : Hid (∀ (W : World), Below w.heap.size w W → Calls Try.prog 14 #[v, .agg (Cm.cells c)] W (DoneK W (Kv.pairs l c) (Kv.ans l c))) :=
    fun W hb => do_kv v l c W (HV.out.below hb) hp (by omega)
  have HLN : Hid ((Kv.pairs l c).length ≤ 1000000) := by show _ ≤ _; have := Kv.pairs_len l c; omega
  obtain ⟨p0, p1, p2, p3, p4, p5, p6⟩ := Cmds.all HC2.out
  obtain ⟨ao, cap, rfl, _, _⟩ := ReadsK.shape hv
  have HZ2 : Hid (w2.heap.size = w.heap.size + 2) := by show _ = _; omega
  unfold Kv.put2
  obtain ⟨T, hT⟩ : ∃ T, T = Kv.ans l c := ⟨_, rfl⟩
  obtain ⟨M, hM⟩ : ∃ M, M = Kv.pairs l c := ⟨_, rfl⟩
  rw [← hM] at HLN
  rw [← hM, ← hT] at HDO ⊢
  obtain ⟨F, hF⟩ : ∃ F, F = Kv.found l c.key := ⟨_, rfl⟩
  obtain ⟨P, hP⟩ : ∃ P, P = Kv.find l c.key := ⟨_, rfl⟩
  rw [← hF, ← hP] at hfind
  rw [← hP]
  obtain ⟨n, hnn⟩ : ∃ n, n = l.length := ⟨_, rfl⟩
  rw [← hnn] at hfind HDO ⊢
  clear hv hp hn hl1 hB1 hl2 hB2 hnn hz2 hF hP HV hM hT
  go_enter Try.func22, Try.ntmps22
  go_wp2_with fail
  refine hfind.mono ?_
  rintro e w3 ⟨rfl, hB3⟩
  have HC3 := Lib.hid (HC2.out.below hB3 HC2.out.lt)
  have HA3 := Lib.hid (HA2.out.below hB3 HA2.out.lt)
  have HZ3 : Hid (w.heap.size + 2 ≤ w3.heap.size) := by show _ ≤ _; have := hB3.size; have := HZ2.out; omega
  have HB3 := Lib.hid (HB2.out.trans (hB3.mono HB2.out.size))
  clear hfind hB3 p0 p1 p2 p3 p4 p5 p6
  go_wp2_with (first
    | (refine store_kv (by rfl) _ _ (by rfl) w3.heap.size Kv.zero P (by rfl) (by rfl) (Lies.new _ _ _) ?_; intro w4 hl4 hg4
       have hB4 : Below w3.heap.size w3 w4 := ((Below.refl _ w3).alloc (Nat.le_refl _) _).grown hg4 (by simp) (by rintro j hj; cases hj; exact Nat.le_refl _)
       have HC4 := Lib.hid (HC3.out.below hB4 HC3.out.lt)
       have HA4 := Lib.hid (HA3.out.below hB4 HA3.out.lt)
       have HB4 := Lib.hid (HB3.out.trans (hB4.mono HB3.out.size))
       have HP4 := Lib.hid hl4
       clear hl4 hg4 hB4)
    | (refine load_cmd rfl _ rfl w.heap.size c rfl HC4.out ?_)
    | (go_at_call 14; refine (HDO.out w4 HB4.out).mono ?_; rintro e w5 ⟨v5, rfl, ho5, hB5⟩
       have HC5 := Lib.hid (HC4.out.below hB5 HC4.out.lt)
       have HA5 := Lib.hid (HA4.out.below hB5 HA4.out.lt)
       have HP5 := Lib.hid (HP4.out.below hB5 HP4.out.lt)
       have HB5 := Lib.hid (HB4.out.trans (hB5.mono HB4.out.size))
       have HR5 : Hid (ReadsK w5 v5 M) := ho5.reads (Kv.sized _)
       clear hB5 ho5)
    | (refine store_ans (by rfl) _ _ (by rfl) w5.heap.size An.zero T (by rfl) (by rfl) (Lies.new _ _ _) ?_; intro w6 hl6 hg6
       have hB6 : Below w5.heap.size w5 w6 := ((Below.refl _ w5).alloc (Nat.le_refl _) _).grown hg6 (by simp) (by rintro j hj; cases hj; exact Nat.le_refl _)
       have HC6 := Lib.hid (HC5.out.below hB6 HC5.out.lt)
       have HA6 := Lib.hid (HA5.out.below hB6 HA5.out.lt)
       have HP6 := Lib.hid (HP5.out.below hB6 HP5.out.lt)
       have HB6 := Lib.hid (HB5.out.trans (hB6.mono HB5.out.size))
       have HR6 : Hid (ReadsK w6 v5 M) := HR5.out.below hB6
       have HY6 := Lib.hid hl6
       clear hl6 hg6 hB6))
  have hd6 : Below w6.heap.size w6 w6.drew := (Below.refl _ _).drew
  have HA7 := Lib.hid (HA6.out.below hd6 HA6.out.lt)
  have HY7 := Lib.hid (HY6.out.below hd6 HY6.out.lt)
  have HB7 := Lib.hid HB6.out.drew
  have HCL := Lib.hid (changedR_any v5 M c P w.heap.size w3.heap.size w6.drew (HR6.out.below hd6) HLN.out (HC6.out.below hd6 HC6.out.lt) (HP6.out.below hd6 HP6.out.lt))
  obtain ⟨vo, vcap, rfl, _, _⟩ := ReadsK.shape HR6.out
  have K5 := Anss.every HY6.out
  have K6 := Anss.every HY7.out
  clear hd6
  go_region_held3 (fun w' => w'.cell? ⟨w5.heap.size, 0, none⟩ = some (.int .i64 T.client) ∧ w'.cell? ⟨w5.heap.size, 1, none⟩ = some (.int .i64 T.seq) ∧ w'.cell? ⟨w5.heap.size, 2, none⟩ = some (.int .i64 T.err) ∧ w'.cell? ⟨w5.heap.size, 3, none⟩ = some (.bool T.found) ∧ w'.cell? ⟨w5.heap.size, 4, none⟩ = some (.string ⟨T.val.toArray⟩) ∧ w'.cell? ⟨w5.heap.size, 5, none⟩ = some (.int .i64 T.rev))
    (first | go_keep | exact K5 | exact K6 | exact K8 | exact K9) (first
    | (go_at_call 19
       refine HCL.out.mono ?_
       rintro e w8 ⟨v8, rfl, ho8, hB8⟩
       have HA8 := Lib.hid (HA7.out.below hB8 HA7.out.lt)
       have HY8 := Lib.hid (HY7.out.below hB8 HY7.out.lt)
       have HOB := Lib.hid ho8
       have HB8 := Lib.hid (HB7.out.trans (hB8.mono HB7.out.size))
       have K8 := Anss.every HY8.out
       clear hB8 ho8
       obtain ⟨z0, z1, z2, z3, z4, z5⟩ := Anss.every HA8.out
       dsimp only [An.zero] at z0 z1 z2 z3 z4 z5
       have f0 := HA8.out.free 0; have f1 := HA8.out.free 1; have f2 := HA8.out.free 2; have f3 := HA8.out.free 3; have f4 := HA8.out.free 4; have f5 := HA8.out.free 5
       obtain ⟨w9, e9, hl9, hg9⟩ := set_ansK T HA8.out
       have hne3 : some w5.heap.size ≠ some (w.heap.size + 1) := by have := HZ3.out; have := HP5.out.lt; simp; omega
       have HY9 := Lib.hid (HY8.out.kept hg9 hne3)
       have K9 := Anss.every HY9.out))
  all_goals
    go_wp2
    refine ret_val_ans rfl rfl hl9 rfl ?_
    exact ⟨_, rfl, (HOB.out.besides hg9 HA7.out.lt).mono HB7.out.size, HB8.out.grown hg9 HB8.out.size (by rintro j hj; cases hj; omega)⟩

set_option maxRecDepth 4000 in
set_option maxHeartbeats 3200000 in
theorem swapNone_kv (v : Value) (l : List Kv.Item) (c : Cm.Cmd) (w : World) (hv : ReadsK w v l) (hp : Kv.Asc l) (hn : l.length ≤ 100000) (hf : Kv.found l c.key = false) :
    Calls Try.prog 23 #[v, .agg (Cm.cells c)] w (DoneK w (l) (Kv.none2 c)) := by
  obtain ⟨w1, e1, hl1, hB1, hz1⟩ := box_cmd w c
  obtain ⟨w2, e2, hl2, hB2, hz2⟩ := box_ans w1 An.zero
  dsimp only [An.cells, An.zero] at e2
  rw [hz1] at hl2
  have HC2 := Lib.hid (hl1.below hB2 hl1.lt)
  have HA2 := Lib.hid hl2
  have HB2 := Lib.hid (hB1.trans (hB2.mono hB1.size))
  have HV := Lib.hid hv
  have hfind := find_kv v l c.key w2 (hv.below HB2.out) hp (by omega)
  have HRP : Hid (∀ (W : World), Below w.heap.size w W → Calls Try.prog 27 #[v] W (MadeK W l)) :=
    fun W hb => cloneKv_any v l W (HV.out.below hb) (by omega)
  obtain ⟨p0, p1, p2, p3, p4, p5, p6⟩ := Cmds.all HC2.out
  obtain ⟨ao, cap, rfl, _, _⟩ := ReadsK.shape hv
  have HZ2 : Hid (w2.heap.size = w.heap.size + 2) := by show _ = _; omega
  rw [hf, Kv.find_no hf] at hfind
  unfold Kv.none2
  obtain ⟨n, hnn⟩ : ∃ n, n = l.length := ⟨_, rfl⟩
  rw [← hnn] at hfind HRP ⊢
  clear hv hp hn hl1 hB1 hl2 hB2 hnn hz2 HV hf
  go_enter Try.func23, Try.ntmps23
  go_wp2_with fail
  refine hfind.mono ?_
  rintro e w3 ⟨rfl, hB3⟩
  have HC3 := Lib.hid (HC2.out.below hB3 HC2.out.lt)
  have HA3 := Lib.hid (HA2.out.below hB3 HA2.out.lt)
  have HZ3 : Hid (w.heap.size + 2 ≤ w3.heap.size) := by show _ ≤ _; have := hB3.size; have := HZ2.out; omega
  have HB3 := Lib.hid (HB2.out.trans (hB3.mono HB2.out.size))
  clear hfind hB3 p0 p1 p2 p3 p4 p5 p6
  go_wp2_with (first
    | (refine store_kv (by rfl) _ _ (by rfl) w3.heap.size Kv.zero Kv.zero (by rfl) (by rfl) (Lies.new _ _ _) ?_; intro w4 hl4 hg4
       have hB4 : Below w3.heap.size w3 w4 := ((Below.refl _ w3).alloc (Nat.le_refl _) _).grown hg4 (by simp) (by rintro j hj; cases hj; exact Nat.le_refl _)
       have HC4 := Lib.hid (HC3.out.below hB4 HC3.out.lt)
       have HA4 := Lib.hid (HA3.out.below hB4 HA3.out.lt)
       have HB4 := Lib.hid (HB3.out.trans (hB4.mono HB3.out.size))
       have HP4 := Lib.hid hl4
       obtain ⟨p0, p1, p2, p3, p4, p5, p6⟩ := Cmds.all HC4.out
       obtain ⟨q0, q1, q2⟩ := Kvs.three hl4
       clear hl4 hg4 hB4))
  have hd4 : Below w4.heap.size w4 w4.drew := (Below.refl _ _).drew
  have HC6 := Lib.hid (HC4.out.below hd4 HC4.out.lt)
  have HA6 := Lib.hid (HA4.out.below hd4 HA4.out.lt)
  have HP6 := Lib.hid (HP4.out.below hd4 HP4.out.lt)
  have HB6 := Lib.hid HB4.out.drew
  have HCL := Lib.hid (HRP.out w4.drew HB6.out)
  have K4 := reads_cas HC4.out HP4.out
  have K6 := reads_cas HC6.out HP6.out
  clear hd4 p0 p1 p2 p3 p4 p5 p6 q0 q1 q2
  go_region_held3 (fun w' => w'.cell? ⟨w.heap.size, 1, none⟩ = some (.int .i64 c.client) ∧ w'.cell? ⟨w.heap.size, 2, none⟩ = some (.int .i64 c.seq) ∧ w'.cell? ⟨w3.heap.size, 1, none⟩ = some (.string ⟨Kv.zero.val.toArray⟩) ∧ w'.cell? ⟨w3.heap.size, 2, none⟩ = some (.int .i64 Kv.zero.rev))
    (first | go_keep | exact K4 | exact K6 | exact K8 | exact K9) (first
    | (go_at_call 27
       refine HCL.out.mono ?_
       rintro e w8 ⟨v8, rfl, ho8, hB8⟩
       have HC8 := Lib.hid (HC6.out.below hB8 HC6.out.lt)
       have HA8 := Lib.hid (HA6.out.below hB8 HA6.out.lt)
       have HP8 := Lib.hid (HP6.out.below hB8 HP6.out.lt)
       have HB8 := Lib.hid (HB6.out.trans (hB8.mono HB6.out.size))
       have HO8 := Lib.hid ho8
       have K8 := reads_cas HC8.out HP8.out
       clear hB8 ho8
       obtain ⟨z0, z1, z2, z3, z4, z5⟩ := Anss.every HA8.out
       dsimp only [An.zero] at z0 z1 z2 z3 z4 z5
       have f0 := HA8.out.free 0; have f1 := HA8.out.free 1; have f2 := HA8.out.free 2; have f3 := HA8.out.free 3; have f4 := HA8.out.free 4; have f5 := HA8.out.free 5
       obtain ⟨w9, e9, hl9, hg9⟩ := set_ansK ⟨c.client, c.seq, 10, false, [], 0⟩ HA8.out
       dsimp only at e9
       have hne1 : some w.heap.size ≠ some (w.heap.size + 1) := by simp
       have hne3 : some w3.heap.size ≠ some (w.heap.size + 1) := by have := HZ3.out; simp; omega
       have K9 := reads_cas (HC8.out.kept hg9 hne1) (HP8.out.kept hg9 hne3)))
  all_goals
    go_wp2
    refine ret_val_ans rfl rfl hl9 rfl ?_
    
    exact ⟨_, rfl, (HO8.out.besides hg9 HA6.out.lt).mono HB6.out.size, HB8.out.grown hg9 HB8.out.size (by rintro j hj; cases hj; omega)⟩

set_option maxRecDepth 4000 in
set_option maxHeartbeats 3200000 in
theorem swapStale_kv (v : Value) (l : List Kv.Item) (c : Cm.Cmd) (w : World) (hv : ReadsK w v l) (hp : Kv.Asc l) (hn : l.length ≤ 100000) (hf : Kv.found l c.key = true) (hx : (Kv.find l c.key).val ≠ c.old) :
    Calls Try.prog 23 #[v, .agg (Cm.cells c)] w (DoneK w (l) (Kv.stale2 l c)) := by
  obtain ⟨w1, e1, hl1, hB1, hz1⟩ := box_cmd w c
  obtain ⟨w2, e2, hl2, hB2, hz2⟩ := box_ans w1 An.zero
  dsimp only [An.cells, An.zero] at e2
  rw [hz1] at hl2
  have HC2 := Lib.hid (hl1.below hB2 hl1.lt)
  have HA2 := Lib.hid hl2
  have HB2 := Lib.hid (hB1.trans (hB2.mono hB1.size))
  have HV := Lib.hid hv
  have hfind := find_kv v l c.key w2 (hv.below HB2.out) hp (by omega)
  have HRP : Hid (∀ (W : World), Below w.heap.size w W → Calls Try.prog 27 #[v] W (MadeK W l)) :=
    fun W hb => cloneKv_any v l W (HV.out.below hb) (by omega)
  obtain ⟨p0, p1, p2, p3, p4, p5, p6⟩ := Cmds.all HC2.out
  obtain ⟨ao, cap, rfl, _, _⟩ := ReadsK.shape hv
  have HZ2 : Hid (w2.heap.size = w.heap.size + 2) := by show _ = _; omega
  rw [hf] at hfind
  unfold Kv.stale2
  obtain ⟨P, hP⟩ : ∃ P, P = Kv.find l c.key := ⟨_, rfl⟩
  rw [← hP] at hfind hx ⊢
  have hneq := fun W => run_neq_str W P.val c.old
  have hnb : (P.val == c.old) = false := by simpa using hx
  rw [decide_eq_false hx, Bool.not_false] at hneq
  obtain ⟨n, hnn⟩ : ∃ n, n = l.length := ⟨_, rfl⟩
  rw [← hnn] at hfind HRP ⊢
  clear hv hp hn hl1 hB1 hl2 hB2 hnn hz2 HV hf hx hP
  go_enter Try.func23, Try.ntmps23
  go_wp2_with fail
  refine hfind.mono ?_
  rintro e w3 ⟨rfl, hB3⟩
  have HC3 := Lib.hid (HC2.out.below hB3 HC2.out.lt)
  have HA3 := Lib.hid (HA2.out.below hB3 HA2.out.lt)
  have HZ3 : Hid (w.heap.size + 2 ≤ w3.heap.size) := by show _ ≤ _; have := hB3.size; have := HZ2.out; omega
  have HB3 := Lib.hid (HB2.out.trans (hB3.mono HB2.out.size))
  clear hfind hB3 p0 p1 p2 p3 p4 p5 p6
  go_wp2_with (first
    | (refine store_kv (by rfl) _ _ (by rfl) w3.heap.size Kv.zero P (by rfl) (by rfl) (Lies.new _ _ _) ?_; intro w4 hl4 hg4
       have hB4 : Below w3.heap.size w3 w4 := ((Below.refl _ w3).alloc (Nat.le_refl _) _).grown hg4 (by simp) (by rintro j hj; cases hj; exact Nat.le_refl _)
       have HC4 := Lib.hid (HC3.out.below hB4 HC3.out.lt)
       have HA4 := Lib.hid (HA3.out.below hB4 HA3.out.lt)
       have HB4 := Lib.hid (HB3.out.trans (hB4.mono HB3.out.size))
       have HP4 := Lib.hid hl4
       obtain ⟨p0, p1, p2, p3, p4, p5, p6⟩ := Cmds.all HC4.out
       obtain ⟨q0, q1, q2⟩ := Kvs.three hl4
       clear hl4 hg4 hB4))
  have hd4 : Below w4.heap.size w4 w4.drew := (Below.refl _ _).drew
  have HC6 := Lib.hid (HC4.out.below hd4 HC4.out.lt)
  have HA6 := Lib.hid (HA4.out.below hd4 HA4.out.lt)
  have HP6 := Lib.hid (HP4.out.below hd4 HP4.out.lt)
  have HB6 := Lib.hid HB4.out.drew
  have HCL := Lib.hid (HRP.out w4.drew HB6.out)
  have K4 := reads_cas HC4.out HP4.out
  have K6 := reads_cas HC6.out HP6.out
  clear hd4 p0 p1 p2 p3 p4 p5 p6 q0 q1 q2
  go_region_held3 (fun w' => w'.cell? ⟨w.heap.size, 1, none⟩ = some (.int .i64 c.client) ∧ w'.cell? ⟨w.heap.size, 2, none⟩ = some (.int .i64 c.seq) ∧ w'.cell? ⟨w3.heap.size, 1, none⟩ = some (.string ⟨P.val.toArray⟩) ∧ w'.cell? ⟨w3.heap.size, 2, none⟩ = some (.int .i64 P.rev))
    (first | go_keep | exact K4 | exact K6 | exact K8 | exact K9) (first
    | (go_at_call 27
       refine HCL.out.mono ?_
       rintro e w8 ⟨v8, rfl, ho8, hB8⟩
       have HC8 := Lib.hid (HC6.out.below hB8 HC6.out.lt)
       have HA8 := Lib.hid (HA6.out.below hB8 HA6.out.lt)
       have HP8 := Lib.hid (HP6.out.below hB8 HP6.out.lt)
       have HB8 := Lib.hid (HB6.out.trans (hB8.mono HB6.out.size))
       have HO8 := Lib.hid ho8
       have K8 := reads_cas HC8.out HP8.out
       clear hB8 ho8
       obtain ⟨z0, z1, z2, z3, z4, z5⟩ := Anss.every HA8.out
       dsimp only [An.zero] at z0 z1 z2 z3 z4 z5
       have f0 := HA8.out.free 0; have f1 := HA8.out.free 1; have f2 := HA8.out.free 2; have f3 := HA8.out.free 3; have f4 := HA8.out.free 4; have f5 := HA8.out.free 5
       obtain ⟨w9, e9, hl9, hg9⟩ := set_ansK ⟨c.client, c.seq, 15, true, P.val, P.rev⟩ HA8.out
       dsimp only at e9
       have hne1 : some w.heap.size ≠ some (w.heap.size + 1) := by simp
       have hne3 : some w3.heap.size ≠ some (w.heap.size + 1) := by have := HZ3.out; simp; omega
       have K9 := reads_cas (HC8.out.kept hg9 hne1) (HP8.out.kept hg9 hne3)))
  all_goals
    go_wp2
    refine ret_val_ans rfl rfl hl9 rfl ?_
    
    exact ⟨_, rfl, (HO8.out.besides hg9 HA6.out.lt).mono HB6.out.size, HB8.out.grown hg9 HB8.out.size (by rintro j hj; cases hj; omega)⟩

set_option maxRecDepth 4000 in
set_option maxHeartbeats 3200000 in
theorem swapHit_kv (v : Value) (l : List Kv.Item) (c : Cm.Cmd) (w : World) (hv : ReadsK w v l) (hp : Kv.Asc l) (hn : l.length ≤ 100000) (hf : Kv.found l c.key = true) (hx : (Kv.find l c.key).val = c.old) :
    Calls Try.prog 23 #[v, .agg (Cm.cells c)] w (DoneK w (Kv.put2 l (Kv.asPut c)) (Kv.cas2 l c)) := by
  obtain ⟨w1, e1, hl1, hB1, hz1⟩ := box_cmd w c
  obtain ⟨w2, e2, hl2, hB2, hz2⟩ := box_ans w1 An.zero
  dsimp only [An.cells, An.zero] at e2
  rw [hz1] at hl2
  have HC2 := Lib.hid (hl1.below hB2 hl1.lt)
  have HA2 := Lib.hid hl2
  have HB2 := Lib.hid (hB1.trans (hB2.mono hB1.size))
  have HV := Lib.hid hv
  have hfind := find_kv v l c.key w2 (hv.below HB2.out) hp (by omega)
  have HRP : Hid (∀ (W : World), Below w.heap.size w W → Calls Try.prog 22 #[v, .agg (Cm.cells (Kv.asPut c))] W (DoneK W (Kv.put2 l (Kv.asPut c)) (Kv.ans l (Kv.asPut c)))) :=
    fun W hb => put_kv v l (Kv.asPut c) W (HV.out.below hb) hp hn
  obtain ⟨p0, p1, p2, p3, p4, p5, p6⟩ := Cmds.all HC2.out
  obtain ⟨ao, cap, rfl, _, _⟩ := ReadsK.shape hv
  have HZ2 : Hid (w2.heap.size = w.heap.size + 2) := by show _ = _; omega
  rw [Kv.ans_hit hf] at HRP
  rw [hf] at hfind
  unfold Kv.cas2
  obtain ⟨P, hP⟩ : ∃ P, P = Kv.find l c.key := ⟨_, rfl⟩
  rw [← hP] at hfind hx HRP ⊢
  obtain ⟨M, hM⟩ : ∃ M, M = Kv.put2 l (Kv.asPut c) := ⟨_, rfl⟩
  rw [← hM] at HRP ⊢
  have hneq := fun W => run_neq_str W P.val c.old
  have hnb : (P.val == c.old) = true := by simpa using hx
  rw [decide_eq_true hx, Bool.not_true] at hneq
  have HNX := Lib.hid (fun W => next_kv P.rev W)
  obtain ⟨R, hR⟩ : ∃ R, R = Kv.nxt P.rev := ⟨_, rfl⟩
  rw [← hR] at HNX ⊢
  obtain ⟨D, hD⟩ : ∃ D, D = Kv.asPut c := ⟨_, rfl⟩
  rw [← hD] at HRP
  have HD := Lib.hid hD
  obtain ⟨U, hU⟩ : ∃ U : An.Ans, U = ⟨c.client, c.seq, 0, true, P.val, 0⟩ := ⟨_, rfl⟩
  rw [← hU] at HRP
  have HU := Lib.hid hU
  obtain ⟨n, hnn⟩ : ∃ n, n = l.length := ⟨_, rfl⟩
  rw [← hnn] at hfind HRP ⊢
  clear hv hp hn hl1 hB1 hl2 hB2 hnn hz2 HV hf hx hP hM hR hD hU
  go_enter Try.func23, Try.ntmps23
  go_wp2_with fail
  refine hfind.mono ?_
  rintro e w3 ⟨rfl, hB3⟩
  have HC3 := Lib.hid (HC2.out.below hB3 HC2.out.lt)
  have HA3 := Lib.hid (HA2.out.below hB3 HA2.out.lt)
  have HZ3 : Hid (w.heap.size + 2 ≤ w3.heap.size) := by show _ ≤ _; have := hB3.size; have := HZ2.out; omega
  have HB3 := Lib.hid (HB2.out.trans (hB3.mono HB2.out.size))
  clear hfind hB3 p0 p1 p2 p3 p4 p5 p6
  go_wp2_with (first
    | (refine store_kv (by rfl) _ _ (by rfl) w3.heap.size Kv.zero P (by rfl) (by rfl) (Lies.new _ _ _) ?_; intro w4 hl4 hg4
       have hB4 : Below w3.heap.size w3 w4 := ((Below.refl _ w3).alloc (Nat.le_refl _) _).grown hg4 (by simp) (by rintro j hj; cases hj; exact Nat.le_refl _)
       have HC4 := Lib.hid (HC3.out.below hB4 HC3.out.lt)
       have HA4 := Lib.hid (HA3.out.below hB4 HA3.out.lt)
       have HB4 := Lib.hid (HB3.out.trans (hB4.mono HB3.out.size))
       have HP4 := Lib.hid hl4
       obtain ⟨p0, p1, p2, p3, p4, p5, p6⟩ := Cmds.all HC4.out
       obtain ⟨q0, q1, q2⟩ := Kvs.three hl4
       clear hl4 hg4 hB4
       have f0 := HC4.out.free 0
       obtain ⟨w5, e5, hl5, hg5⟩ := set_kind HC4.out
       rw [← HD.out] at hl5
       have HC5 := Lib.hid hl5
       have hne1 : some (w.heap.size + 1) ≠ some w.heap.size := by simp
       have hne2 : some w3.heap.size ≠ some w.heap.size := by have := HZ3.out; simp; omega
       have HA5 := Lib.hid (HA4.out.kept hg5 hne1)
       have HP5 := Lib.hid (HP4.out.kept hg5 hne2)
       have HB5 := Lib.hid (HB4.out.grown hg5 HB4.out.size (by rintro j hj; cases hj; exact Nat.le_refl _))
       have HZ5 : Hid (w.heap.size + 2 ≤ w5.heap.size) := by show _ ≤ _; have := HP5.out.lt; have := HZ3.out; omega
       clear hl5 hg5 hne1 hne2)
    | (refine load_cmd rfl _ rfl w.heap.size D rfl HC5.out ?_)
    | (go_at_call 22; refine (HRP.out w5 HB5.out).mono ?_; rintro e w6 ⟨v6, rfl, ho6, hB6⟩
       have HA6 := Lib.hid (HA5.out.below hB6 HA5.out.lt)
       have HP6 := Lib.hid (HP5.out.below hB6 HP5.out.lt)
       have HB6 := Lib.hid (HB5.out.trans (hB6.mono HB5.out.size))
       have HO6 := Lib.hid ho6
       have HZ6 : Hid (w.heap.size + 2 ≤ w6.heap.size) := by show _ ≤ _; have := hB6.size; have := HZ5.out; omega
       have HPL : Hid (w3.heap.size < w6.heap.size) := by show _ < _; exact HP6.out.lt
       clear hB6 ho6)
    | (refine store_ans (by rfl) _ _ (by rfl) w6.heap.size An.zero U (by rfl) (by rfl) (Lies.new _ _ _) ?_; intro w7 hl7 hg7
       have hB7 : Below w6.heap.size w6 w7 := ((Below.refl _ w6).alloc (Nat.le_refl _) _).grown hg7 (by simp) (by rintro j hj; cases hj; exact Nat.le_refl _)
       have HA7 := Lib.hid (HA6.out.below hB7 HA6.out.lt)
       have HP7 := Lib.hid (HP6.out.below hB7 HP6.out.lt)
       have HB7 := Lib.hid (HB6.out.trans (hB7.mono HB6.out.size))
       have y2 := HP7.out.cell 2 _ rfl
       have f5 := hl7.free 5
       have u5 := hl7.cell 5 _ rfl
       obtain ⟨w8, e8, hl8, hg8⟩ := set_arev R hl7
       have hne1 : some (w.heap.size + 1) ≠ some w6.heap.size := by have := HZ6.out; simp; omega
       have HA8 := Lib.hid (HA7.out.kept hg8 hne1)
       have HB8 := Lib.hid (HB7.out.grown hg8 HB7.out.size (by rintro j hj; cases hj; exact HB6.out.size))
       have HY8 := Lib.hid hl8
       have HO8 := Lib.hid (HO6.out.keep (hB7.grown hg8 hB7.size (by rintro j hj; cases hj; exact Nat.le_refl _)) (Nat.le_refl _))
       clear hl7 hg7 hB7 hl8 hg8 hne1)
    | (go_at_call 33; refine (HNX.out _).mono ?_; rintro e w' ⟨rfl, rfl⟩))
  have HT8 : Hid (Anss w8 w6.heap.size ⟨c.client, c.seq, 0, true, P.val, R⟩) := by
    show Anss _ _ _
    have h := HY8.out
    rw [HU.out] at h
    exact h
  clear p0 p1 p2 p3 p4 p5 p6 q0 q1 q2 f0 f5 y2 u5 e8 e5
  obtain ⟨y0, y1, y2, y3, y4, y5⟩ := Anss.every HT8.out
  obtain ⟨z0, z1, z2, z3, z4, z5⟩ := Anss.every HA8.out
  dsimp only [An.zero] at z0 z1 z2 z3 z4 z5
  have f0 := HA8.out.free 0; have f1 := HA8.out.free 1; have f2 := HA8.out.free 2; have f3 := HA8.out.free 3; have f4 := HA8.out.free 4; have f5 := HA8.out.free 5
  obtain ⟨w9, e9, hl9, hg9⟩ := set_ansK ⟨c.client, c.seq, 0, true, P.val, R⟩ HA8.out
  dsimp only at e9
  have hne3 : some w6.heap.size ≠ some (w.heap.size + 1) := by have := HZ6.out; simp; omega
  have ho9 := HO8.out.besides hg9 (by have := HZ5.out; omega)
  have hb9 := HB8.out.grown hg9 HB8.out.size (by rintro j hj; cases hj; omega)
  have hd9 : Below w9.heap.size w9 w9.drew := (Below.refl _ _).drew
  have HL9 := Lib.hid (hl9.below hd9 hl9.lt)
  have HO9 := Lib.hid ((ho9.keep hd9 (Nat.le_refl _)).mono HB5.out.size)
  have HB9 := Lib.hid hb9.drew
  clear hl9 hg9 hne3 ho9 hb9 hd9
  go_region
  go_wp2
  refine ret_val_ans rfl rfl HL9.out rfl ?_
  exact ⟨_, rfl, HO9.out, HB9.out⟩

set_option maxRecDepth 4000 in
theorem swap_kv (v : Value) (l : List Kv.Item) (c : Cm.Cmd) (w : World) (hv : ReadsK w v l) (hp : Kv.Asc l) (hn : l.length ≤ 100000) :
    Calls Try.prog 23 #[v, .agg (Cm.cells c)] w (DoneK w (if Kv.hit l c = true then Kv.put2 l (Kv.asPut c) else l) (if Kv.found l c.key = false then Kv.none2 c else if Kv.hit l c = true then Kv.cas2 l c else Kv.stale2 l c)) := by
  by_cases hf : Kv.found l c.key = false
  · have hh : Kv.hit l c = false := by unfold Kv.hit; rw [hf]; rfl
    rw [hh, if_pos hf, if_neg (by simp)]
    exact swapNone_kv v l c w hv hp hn hf
  · rw [if_neg hf]
    have hf' : Kv.found l c.key = true := by simpa using hf
    by_cases hx : (Kv.find l c.key).val = c.old
    · have hh : Kv.hit l c = true := by unfold Kv.hit; rw [hf', decide_eq_true hx]; rfl
      rw [if_pos hh, if_pos hh]
      exact swapHit_kv v l c w hv hp hn hf' hx
    · have hh : Kv.hit l c = false := by unfold Kv.hit; rw [decide_eq_false hx, Bool.and_false]
      rw [hh, if_neg (by simp), if_neg (by simp)]
      exact swapStale_kv v l c w hv hp hn hf' hx

set_option maxRecDepth 4000 in
set_option maxHeartbeats 1600000 in
theorem do2Put_kv (v : Value) (l m : List Kv.Item) (c : Cm.Cmd) (T : An.Ans) (w : World) (hv : ReadsK w v l) (hk : c.kind = 2)
    (hcall : ∀ (W : World), Below w.heap.size w W → Calls Try.prog 22 #[v, .agg (Cm.cells c)] W (DoneK W m T)) :
    Calls Try.prog 13 #[v, .agg (Cm.cells c)] w (DoneK w m T) := by
  obtain ⟨w1, e1, hl1, hB1, hz1⟩ := box_cmd w c
  obtain ⟨w2, e2, hl2, hB2, hz2⟩ := box_ans w1 An.zero
  dsimp only [An.cells, An.zero] at e2
  rw [hz1] at hl2
  have HC2 := Lib.hid (hl1.below hB2 hl1.lt)
  have HA2 := Lib.hid hl2
  have HB2 := Lib.hid (hB1.trans (hB2.mono hB1.size))
  have HCL := Lib.hid hcall
  obtain ⟨p0, p1, p2, p3, p4, p5, p6⟩ := Cmds.all HC2.out
  obtain ⟨ao, cap, rfl, _, _⟩ := ReadsK.shape hv
  have hk2 : (c.kind == 2) = true := by simpa using hk
  obtain ⟨n, hnn⟩ : ∃ n, n = l.length := ⟨_, rfl⟩
  rw [← hnn] at HCL ⊢
  clear hv hl1 hB1 hl2 hB2 hnn hz2 hcall hk
  go_enter Try.func13, Try.ntmps13
  go_wp2_with (first
    | (refine load_cmd rfl _ rfl w.heap.size c rfl HC2.out ?_)
    | (go_at_call 22; refine (HCL.out w2 HB2.out).mono ?_; rintro e w3 ⟨v3, rfl, ho3, hB3⟩
       have HA3 := Lib.hid (HA2.out.below hB3 HA2.out.lt)
       have HB3 := Lib.hid (HB2.out.trans (hB3.mono HB2.out.size))
       have HO3 := Lib.hid ho3
       clear hB3 ho3)
    | (refine store_ans (by rfl) _ _ (by rfl) (w.heap.size + 1) An.zero T (by rfl) (by rfl) HA3.out ?_; intro w4 hl4 hg4))
  refine ret_val_ans rfl rfl hl4 rfl ?_
  exact ⟨_, rfl, (HO3.out.besides hg4 HA2.out.lt).mono HB2.out.size, HB3.out.grown hg4 HB3.out.size (by rintro j hj; cases hj; omega)⟩

set_option maxRecDepth 4000 in
set_option maxHeartbeats 1600000 in
theorem do2Cas_kv (v : Value) (l m : List Kv.Item) (c : Cm.Cmd) (T : An.Ans) (w : World) (hv : ReadsK w v l) (hk : c.kind = 5)
    (hcall : ∀ (W : World), Below w.heap.size w W → Calls Try.prog 23 #[v, .agg (Cm.cells c)] W (DoneK W m T)) :
    Calls Try.prog 13 #[v, .agg (Cm.cells c)] w (DoneK w m T) := by
  obtain ⟨w1, e1, hl1, hB1, hz1⟩ := box_cmd w c
  obtain ⟨w2, e2, hl2, hB2, hz2⟩ := box_ans w1 An.zero
  dsimp only [An.cells, An.zero] at e2
  rw [hz1] at hl2
  have HC2 := Lib.hid (hl1.below hB2 hl1.lt)
  have HA2 := Lib.hid hl2
  have HB2 := Lib.hid (hB1.trans (hB2.mono hB1.size))
  have HCL := Lib.hid hcall
  obtain ⟨p0, p1, p2, p3, p4, p5, p6⟩ := Cmds.all HC2.out
  obtain ⟨ao, cap, rfl, _, _⟩ := ReadsK.shape hv
  have hk2 : (c.kind == 2) = false := by simp; omega
  have hk5 : (c.kind == 5) = true := by simpa using hk
  obtain ⟨n, hnn⟩ : ∃ n, n = l.length := ⟨_, rfl⟩
  rw [← hnn] at HCL ⊢
  clear hv hl1 hB1 hl2 hB2 hnn hz2 hcall hk
  go_enter Try.func13, Try.ntmps13
  go_wp2_with (first
    | (refine load_cmd rfl _ rfl w.heap.size c rfl HC2.out ?_)
    | (go_at_call 23; refine (HCL.out w2 HB2.out).mono ?_; rintro e w3 ⟨v3, rfl, ho3, hB3⟩
       have HA3 := Lib.hid (HA2.out.below hB3 HA2.out.lt)
       have HB3 := Lib.hid (HB2.out.trans (hB3.mono HB2.out.size))
       have HO3 := Lib.hid ho3
       clear hB3 ho3)
    | (refine store_ans (by rfl) _ _ (by rfl) (w.heap.size + 1) An.zero T (by rfl) (by rfl) HA3.out ?_; intro w4 hl4 hg4))
  refine ret_val_ans rfl rfl hl4 rfl ?_
  exact ⟨_, rfl, (HO3.out.besides hg4 HA2.out.lt).mono HB2.out.size, HB3.out.grown hg4 HB3.out.size (by rintro j hj; cases hj; omega)⟩

set_option maxRecDepth 4000 in
set_option maxHeartbeats 1600000 in
theorem do2Else_kv (v : Value) (l m : List Kv.Item) (c : Cm.Cmd) (T : An.Ans) (w : World) (hv : ReadsK w v l) (hk : c.kind ≠ 2) (hq : c.kind ≠ 5)
    (hcall : ∀ (W : World), Below w.heap.size w W → Calls Try.prog 14 #[v, .agg (Cm.cells c)] W (DoneK W m T)) :
    Calls Try.prog 13 #[v, .agg (Cm.cells c)] w (DoneK w m T) := by
  obtain ⟨w1, e1, hl1, hB1, hz1⟩ := box_cmd w c
  obtain ⟨w2, e2, hl2, hB2, hz2⟩ := box_ans w1 An.zero
  dsimp only [An.cells, An.zero] at e2
  rw [hz1] at hl2
  have HC2 := Lib.hid (hl1.below hB2 hl1.lt)
  have HA2 := Lib.hid hl2
  have HB2 := Lib.hid (hB1.trans (hB2.mono hB1.size))
  have HCL := Lib.hid hcall
  obtain ⟨p0, p1, p2, p3, p4, p5, p6⟩ := Cmds.all HC2.out
  obtain ⟨ao, cap, rfl, _, _⟩ := ReadsK.shape hv
  have hk2 : (c.kind == 2) = false := by simpa using hk
  have hk5 : (c.kind == 5) = false := by simpa using hq
  obtain ⟨n, hnn⟩ : ∃ n, n = l.length := ⟨_, rfl⟩
  rw [← hnn] at HCL ⊢
  clear hv hl1 hB1 hl2 hB2 hnn hz2 hcall hk hq
  go_enter Try.func13, Try.ntmps13
  go_wp2_with (first
    | (refine load_cmd rfl _ rfl w.heap.size c rfl HC2.out ?_)
    | (go_at_call 14; refine (HCL.out w2 HB2.out).mono ?_; rintro e w3 ⟨v3, rfl, ho3, hB3⟩
       have HA3 := Lib.hid (HA2.out.below hB3 HA2.out.lt)
       have HB3 := Lib.hid (HB2.out.trans (hB3.mono HB2.out.size))
       have HO3 := Lib.hid ho3
       clear hB3 ho3)
    | (refine store_ans (by rfl) _ _ (by rfl) (w.heap.size + 1) An.zero T (by rfl) (by rfl) HA3.out ?_; intro w4 hl4 hg4))
  refine ret_val_ans rfl rfl hl4 rfl ?_
  exact ⟨_, rfl, (HO3.out.besides hg4 HA2.out.lt).mono HB2.out.size, HB3.out.grown hg4 HB3.out.size (by rintro j hj; cases hj; omega)⟩

/-- Do: every command. -/
theorem do2_kv (v : Value) (l : List Kv.Item) (c : Cm.Cmd) (w : World) (hv : ReadsK w v l) (hp : Kv.Asc l) (hn : l.length ≤ 100000) :
    Calls Try.prog 13 #[v, .agg (Cm.cells c)] w (DoneK w (Kv.pairs2 l c) (Kv.ans2 l c)) := by
  unfold Kv.pairs2 Kv.ans2
  by_cases h2 : c.kind = 2
  · rw [if_pos h2, if_neg (by omega)]
    exact do2Put_kv v l _ c _ w hv h2 fun W hb => put_kv v l c W (hv.below hb) hp hn
  · rw [if_neg h2]
    by_cases h5 : c.kind = 5
    · rw [if_pos h5, if_pos h5]
      exact do2Cas_kv v l _ c _ w hv h5 fun W hb => swap_kv v l c W (hv.below hb) hp hn
    · rw [if_neg h5, if_neg h5]
      exact do2Else_kv v l _ c _ w hv h2 h5 fun W hb => do_kv v l c W (hv.below hb) hp (by omega)

end Go.Proofs.Ytiakpedioemmiaa
