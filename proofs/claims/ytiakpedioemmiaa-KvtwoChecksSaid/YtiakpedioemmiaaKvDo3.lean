/- Do: a get, a del, what is refused; all commands. Written by a program. -/
import Derived.Test.YtiakpedioemmiaaKvDo2
namespace Go.Proofs.Ytiakpedioemmiaa
open Go.RowKit

/-- What a del's last step reads: the key, the answer. -/
theorem reads_told {W : World} {g1 ga : Nat} {c : Cm.Cmd} {T : An.Ans} (h1 : Cmds W g1 c) (h3 : Anss W ga T) :
    W.cell? ⟨g1, 3, none⟩ = some (.string ⟨c.key.toArray⟩) ∧ W.cell? ⟨ga, 0, none⟩ = some (.int .i64 T.client) ∧ W.cell? ⟨ga, 1, none⟩ = some (.int .i64 T.seq) ∧ W.cell? ⟨ga, 2, none⟩ = some (.int .i64 T.err) ∧ W.cell? ⟨ga, 3, none⟩ = some (.bool T.found) ∧ W.cell? ⟨ga, 4, none⟩ = some (.string ⟨T.val.toArray⟩) ∧ W.cell? ⟨ga, 5, none⟩ = some (.int .i64 T.rev) :=
  ⟨h1.cell 3 _ rfl, h3.cell 0 _ rfl, h3.cell 1 _ rfl, h3.cell 2 _ rfl, h3.cell 3 _ rfl, h3.cell 4 _ rfl, h3.cell 5 _ rfl⟩

set_option maxRecDepth 4000 in
set_option maxHeartbeats 1600000 in
theorem doGet_kv (v : Value) (l : List Kv.Item) (c : Cm.Cmd) (w : World) (hv : ReadsK w v l) (hp : Kv.Asc l) (hn : l.length ≤ 1000000) (hk : c.kind = 3) :
    Calls Try.prog 14 #[v, .agg (Cm.cells c)] w (DoneK w l (Kv.told l c)) := by
  obtain ⟨w1, e1, hl1, hB1, hz1⟩ := box_cmd w c
  obtain ⟨w2, e2, hl2, hB2, hz2⟩ := box_ans w1 An.zero
  dsimp only [An.cells, An.zero] at e2
  rw [hz1] at hl2
  have HC2 := Lib.hid (hl1.below hB2 hl1.lt)
  have HA2 := Lib.hid hl2
  have HB2 := Lib.hid (hB1.trans (hB2.mono hB1.size))
  have HV := Lib.hid hv
  have hfind := find_kv v l c.key w2 (hv.below HB2.out) hp (by omega)
  have HRP : Hid (∀ (W : World), Below w.heap.size w W → Calls Try.prog 27 #[v] W (MadeK W l)) :=
    fun W hb => cloneKv_any v l W (HV.out.below hb) (by omega)
  obtain ⟨p0, p1, p2, p3, p4, p5, p6⟩ := Cmds.all HC2.out
  obtain ⟨ao, cap, rfl, _, _⟩ := ReadsK.shape hv
  have HZ2 : Hid (w2.heap.size = w.heap.size + 2) := by show _ = _; omega
  have HT : Hid (Kv.told l c = ⟨c.client, c.seq, 0, Kv.found l c.key, (Kv.find l c.key).val, 0⟩) := rfl
  obtain ⟨T, hT⟩ : ∃ T, T = Kv.told l c := ⟨_, rfl⟩
  rw [← hT]
  obtain ⟨F, hF⟩ : ∃ F, F = Kv.found l c.key := ⟨_, rfl⟩
  obtain ⟨P, hP⟩ : ∃ P, P = Kv.find l c.key := ⟨_, rfl⟩
  rw [← hT] at HT
  rw [← hF] at hfind HT
  rw [← hP] at hfind HT
  obtain ⟨n, hnn⟩ : ∃ n, n = l.length := ⟨_, rfl⟩
  rw [← hnn] at hfind HRP ⊢
  have hk2 : (c.kind == 2) = false := by simp; omega
  have hk3 : (c.kind == 3) = true := by simpa using hk
  clear hv hp hn hl1 hB1 hl2 hB2 hnn hz2 hF hP HV hT hk
  go_enter Try.func14, Try.ntmps14
  go_wp2_with fail
  refine hfind.mono ?_
  rintro e w3 ⟨rfl, hB3⟩
  have HC3 := Lib.hid (HC2.out.below hB3 HC2.out.lt)
  have HA3 := Lib.hid (HA2.out.below hB3 HA2.out.lt)
  have HZ3 : Hid (w.heap.size + 2 ≤ w3.heap.size) := by show _ ≤ _; have := hB3.size; have := HZ2.out; omega
  have HB3 := Lib.hid (HB2.out.trans (hB3.mono HB2.out.size))
  clear hfind hB3 p0 p1 p2 p3 p4 p5 p6
  go_wp2_with (first
    | (refine store_kv (by rfl) _ _ (by rfl) w3.heap.size Kv.zero P (by rfl) (by rfl) (Lies.new _ _ _) ?_; intro w4 hl4 hg4
       have hB4 : Below w3.heap.size w3 w4 := ((Below.refl _ w3).alloc (Nat.le_refl _) _).grown hg4 (by simp) (by rintro j hj; cases hj; exact Nat.le_refl _)
       have HC4 := Lib.hid (HC3.out.below hB4 HC3.out.lt)
       have HA4 := Lib.hid (HA3.out.below hB4 HA3.out.lt)
       have HB4 := Lib.hid (HB3.out.trans (hB4.mono HB3.out.size))
       have HP4 := Lib.hid hl4
       obtain ⟨p0, p1, p2, p3, p4, p5, p6⟩ := Cmds.all HC4.out
       obtain ⟨q0, q1, q2⟩ := Kvs.three hl4
       clear hl4 hg4 hB4)
    | (refine store_ans (by rfl) _ _ (by rfl) w4.heap.size An.zero ⟨c.client, c.seq, 0, _, P.val, 0⟩ (by rfl) (by rfl) (Lies.new _ _ _) ?_; intro w5 hl5 hg5
       have hB5 : Below w4.heap.size w4 w5 := ((Below.refl _ w4).alloc (Nat.le_refl _) _).grown hg5 (by simp) (by rintro j hj; cases hj; exact Nat.le_refl _)
       have HC5 := Lib.hid (HC4.out.below hB5 HC4.out.lt)
       have HA5 := Lib.hid (HA4.out.below hB5 HA4.out.lt)
       have HP5 := Lib.hid (HP4.out.below hB5 HP4.out.lt)
       have HB5 := Lib.hid (HB4.out.trans (hB5.mono HB4.out.size))
       have HY5 := Lib.hid hl5
       clear p0 p1 p2 p3 p4 p5 p6 q0 q1 q2
       obtain ⟨p0, p1, p2, p3, p4, p5, p6⟩ := Cmds.all HC5.out
       obtain ⟨q0, q1, q2⟩ := Kvs.three HP5.out
       clear hl5 hg5 hB5))
  have hd5 : Below w5.heap.size w5 w5.drew := (Below.refl _ _).drew
  rw [← HT.out] at HY5
  have HC6 := Lib.hid (HC5.out.below hd5 HC5.out.lt)
  have HA6 := Lib.hid (HA5.out.below hd5 HA5.out.lt)
  have HY6 := Lib.hid (HY5.out.below hd5 HY5.out.lt)
  have HB6 := Lib.hid HB5.out.drew
  have HCL := Lib.hid (HRP.out w5.drew HB6.out)
  have K5 := Anss.every HY5.out
  have K6 := Anss.every HY6.out
  clear hd5 p0 p1 p2 p3 p4 p5 p6 q0 q1 q2
  go_region_held3 (fun w' => w'.cell? ⟨w4.heap.size, 0, none⟩ = some (.int .i64 T.client) ∧ w'.cell? ⟨w4.heap.size, 1, none⟩ = some (.int .i64 T.seq) ∧ w'.cell? ⟨w4.heap.size, 2, none⟩ = some (.int .i64 T.err) ∧ w'.cell? ⟨w4.heap.size, 3, none⟩ = some (.bool T.found) ∧ w'.cell? ⟨w4.heap.size, 4, none⟩ = some (.string ⟨T.val.toArray⟩) ∧ w'.cell? ⟨w4.heap.size, 5, none⟩ = some (.int .i64 T.rev))
    (first | go_keep | exact K5 | exact K6 | exact K8 | exact K9) (first
    | (go_at_call 27
       refine HCL.out.mono ?_
       rintro e w8 ⟨v8, rfl, ho8, hB8⟩
       have HA8 := Lib.hid (HA6.out.below hB8 HA6.out.lt)
       have HY8 := Lib.hid (HY6.out.below hB8 HY6.out.lt)
       have HC8 := Lib.hid (HC6.out.below hB8 HC6.out.lt)
       have HOB := Lib.hid ho8
       have HB8 := Lib.hid (HB6.out.trans (hB8.mono HB6.out.size))
       have K8 := Anss.every HY8.out
       clear hB8 ho8
       obtain ⟨z0, z1, z2, z3, z4, z5⟩ := Anss.every HA8.out
       dsimp only [An.zero] at z0 z1 z2 z3 z4 z5
       have f0 := HA8.out.free 0; have f1 := HA8.out.free 1; have f2 := HA8.out.free 2; have f3 := HA8.out.free 3; have f4 := HA8.out.free 4; have f5 := HA8.out.free 5
       obtain ⟨w9, e9, hl9, hg9⟩ := set_ansK T HA8.out
       have hne1 : some w.heap.size ≠ some (w.heap.size + 1) := by simp
       have hne3 : some w4.heap.size ≠ some (w.heap.size + 1) := by have := HZ3.out; have := HP4.out.lt; simp; omega
       have HY9 := Lib.hid (HY8.out.kept hg9 hne3)
       have HC9 := Lib.hid (HC8.out.kept hg9 hne1)
       have K9 := Anss.every HY9.out))
  all_goals
    go_wp2
    refine ret_val_ans rfl rfl hl9 rfl ?_
    exact ⟨_, rfl, (HOB.out.besides hg9 HA6.out.lt).mono HB6.out.size, HB8.out.grown hg9 HB8.out.size (by rintro j hj; cases hj; omega)⟩

set_option maxRecDepth 4000 in
set_option maxHeartbeats 1600000 in
theorem doDel_kv (v : Value) (l : List Kv.Item) (c : Cm.Cmd) (w : World) (hv : ReadsK w v l) (hp : Kv.Asc l) (hn : l.length ≤ 1000000) (hk : c.kind = 4) :
    Calls Try.prog 14 #[v, .agg (Cm.cells c)] w (DoneK w (Kv.swap [] l c.key) (Kv.told l c)) := by
  obtain ⟨w1, e1, hl1, hB1, hz1⟩ := box_cmd w c
  obtain ⟨w2, e2, hl2, hB2, hz2⟩ := box_ans w1 An.zero
  dsimp only [An.cells, An.zero] at e2
  rw [hz1] at hl2
  have HC2 := Lib.hid (hl1.below hB2 hl1.lt)
  have HA2 := Lib.hid hl2
  have HB2 := Lib.hid (hB1.trans (hB2.mono hB1.size))
  have HV := Lib.hid hv
  have hfind := find_kv v l c.key w2 (hv.below HB2.out) hp (by omega)
  have HRP : Hid (∀ (W : World), Below w.heap.size w W → Calls Try.prog 26 #[v, .string ⟨c.key.toArray⟩, .slice none 0 0] W (MadeK W (Kv.swap [] l c.key))) :=
    fun W hb => replace_kv v _ l [] c.key W (HV.out.below hb) (ReadsR.empty W 3) hp hn (by simp)
  obtain ⟨p0, p1, p2, p3, p4, p5, p6⟩ := Cmds.all HC2.out
  obtain ⟨ao, cap, rfl, _, _⟩ := ReadsK.shape hv
  have HZ2 : Hid (w2.heap.size = w.heap.size + 2) := by show _ = _; omega
  have HT : Hid (Kv.told l c = ⟨c.client, c.seq, 0, Kv.found l c.key, (Kv.find l c.key).val, 0⟩) := rfl
  obtain ⟨T, hT⟩ : ∃ T, T = Kv.told l c := ⟨_, rfl⟩
  obtain ⟨M, hM⟩ : ∃ M, M = Kv.swap [] l c.key := ⟨_, rfl⟩
  rw [← hM] at HRP
  rw [← hM, ← hT]
  obtain ⟨F, hF⟩ : ∃ F, F = Kv.found l c.key := ⟨_, rfl⟩
  obtain ⟨P, hP⟩ : ∃ P, P = Kv.find l c.key := ⟨_, rfl⟩
  rw [← hT] at HT
  rw [← hF] at hfind HT
  rw [← hP] at hfind HT
  obtain ⟨n, hnn⟩ : ∃ n, n = l.length := ⟨_, rfl⟩
  rw [← hnn] at hfind HRP ⊢
  have hk2 : (c.kind == 2) = false := by simp; omega
  have hk3 : (c.kind == 3) = false := by simp; omega
  have hk4 : (c.kind == 4) = true := by simpa using hk
  clear hv hp hn hl1 hB1 hl2 hB2 hnn hz2 hF hP HV hM hT hk
  go_enter Try.func14, Try.ntmps14
  go_wp2_with fail
  refine hfind.mono ?_
  rintro e w3 ⟨rfl, hB3⟩
  have HC3 := Lib.hid (HC2.out.below hB3 HC2.out.lt)
  have HA3 := Lib.hid (HA2.out.below hB3 HA2.out.lt)
  have HZ3 : Hid (w.heap.size + 2 ≤ w3.heap.size) := by show _ ≤ _; have := hB3.size; have := HZ2.out; omega
  have HB3 := Lib.hid (HB2.out.trans (hB3.mono HB2.out.size))
  clear hfind hB3 p0 p1 p2 p3 p4 p5 p6
  go_wp2_with (first
    | (refine store_kv (by rfl) _ _ (by rfl) w3.heap.size Kv.zero P (by rfl) (by rfl) (Lies.new _ _ _) ?_; intro w4 hl4 hg4
       have hB4 : Below w3.heap.size w3 w4 := ((Below.refl _ w3).alloc (Nat.le_refl _) _).grown hg4 (by simp) (by rintro j hj; cases hj; exact Nat.le_refl _)
       have HC4 := Lib.hid (HC3.out.below hB4 HC3.out.lt)
       have HA4 := Lib.hid (HA3.out.below hB4 HA3.out.lt)
       have HB4 := Lib.hid (HB3.out.trans (hB4.mono HB3.out.size))
       have HP4 := Lib.hid hl4
       obtain ⟨p0, p1, p2, p3, p4, p5, p6⟩ := Cmds.all HC4.out
       obtain ⟨q0, q1, q2⟩ := Kvs.three hl4
       clear hl4 hg4 hB4)
    | (refine store_ans (by rfl) _ _ (by rfl) w4.heap.size An.zero ⟨c.client, c.seq, 0, _, P.val, 0⟩ (by rfl) (by rfl) (Lies.new _ _ _) ?_; intro w5 hl5 hg5
       have hB5 : Below w4.heap.size w4 w5 := ((Below.refl _ w4).alloc (Nat.le_refl _) _).grown hg5 (by simp) (by rintro j hj; cases hj; exact Nat.le_refl _)
       have HC5 := Lib.hid (HC4.out.below hB5 HC4.out.lt)
       have HA5 := Lib.hid (HA4.out.below hB5 HA4.out.lt)
       have HP5 := Lib.hid (HP4.out.below hB5 HP4.out.lt)
       have HB5 := Lib.hid (HB4.out.trans (hB5.mono HB4.out.size))
       have HY5 := Lib.hid hl5
       clear p0 p1 p2 p3 p4 p5 p6 q0 q1 q2
       obtain ⟨p0, p1, p2, p3, p4, p5, p6⟩ := Cmds.all HC5.out
       obtain ⟨q0, q1, q2⟩ := Kvs.three HP5.out
       clear hl5 hg5 hB5))
  have hd5 : Below w5.heap.size w5 w5.drew := (Below.refl _ _).drew
  rw [← HT.out] at HY5
  have HC6 := Lib.hid (HC5.out.below hd5 HC5.out.lt)
  have HA6 := Lib.hid (HA5.out.below hd5 HA5.out.lt)
  have HY6 := Lib.hid (HY5.out.below hd5 HY5.out.lt)
  have HB6 := Lib.hid HB5.out.drew
  have HCL := Lib.hid (HRP.out w5.drew HB6.out)
  have K5 := reads_told HC5.out HY5.out
  have K6 := reads_told HC6.out HY6.out
  clear hd5 p0 p1 p2 p3 p4 p5 p6 q0 q1 q2
  go_region_held3 (fun w' => w'.cell? ⟨w.heap.size, 3, none⟩ = some (.string ⟨c.key.toArray⟩) ∧ w'.cell? ⟨w4.heap.size, 0, none⟩ = some (.int .i64 T.client) ∧ w'.cell? ⟨w4.heap.size, 1, none⟩ = some (.int .i64 T.seq) ∧ w'.cell? ⟨w4.heap.size, 2, none⟩ = some (.int .i64 T.err) ∧ w'.cell? ⟨w4.heap.size, 3, none⟩ = some (.bool T.found) ∧ w'.cell? ⟨w4.heap.size, 4, none⟩ = some (.string ⟨T.val.toArray⟩) ∧ w'.cell? ⟨w4.heap.size, 5, none⟩ = some (.int .i64 T.rev))
    (first | go_keep | exact K5 | exact K6 | exact K8 | exact K9) (first
    | (go_at_call 26
       refine HCL.out.mono ?_
       rintro e w8 ⟨v8, rfl, ho8, hB8⟩
       have HA8 := Lib.hid (HA6.out.below hB8 HA6.out.lt)
       have HY8 := Lib.hid (HY6.out.below hB8 HY6.out.lt)
       have HC8 := Lib.hid (HC6.out.below hB8 HC6.out.lt)
       have HOB := Lib.hid ho8
       have HB8 := Lib.hid (HB6.out.trans (hB8.mono HB6.out.size))
       have K8 := reads_told HC8.out HY8.out
       clear hB8 ho8
       obtain ⟨z0, z1, z2, z3, z4, z5⟩ := Anss.every HA8.out
       dsimp only [An.zero] at z0 z1 z2 z3 z4 z5
       have f0 := HA8.out.free 0; have f1 := HA8.out.free 1; have f2 := HA8.out.free 2; have f3 := HA8.out.free 3; have f4 := HA8.out.free 4; have f5 := HA8.out.free 5
       obtain ⟨w9, e9, hl9, hg9⟩ := set_ansK T HA8.out
       have hne1 : some w.heap.size ≠ some (w.heap.size + 1) := by simp
       have hne3 : some w4.heap.size ≠ some (w.heap.size + 1) := by have := HZ3.out; have := HP4.out.lt; simp; omega
       have HY9 := Lib.hid (HY8.out.kept hg9 hne3)
       have HC9 := Lib.hid (HC8.out.kept hg9 hne1)
       have K9 := reads_told HC9.out HY9.out))
  all_goals
    go_wp2
    refine ret_val_ans rfl rfl hl9 rfl ?_
    exact ⟨_, rfl, (HOB.out.besides hg9 HA6.out.lt).mono HB6.out.size, HB8.out.grown hg9 HB8.out.size (by rintro j hj; cases hj; omega)⟩

set_option maxRecDepth 4000 in
set_option maxHeartbeats 1600000 in
theorem doFull_kv (v : Value) (l : List Kv.Item) (c : Cm.Cmd) (w : World) (hv : ReadsK w v l) (hp : Kv.Asc l) (hn : l.length ≤ 1000000) (hk : c.kind = 2) (hf : Kv.full l c = true) :
    Calls Try.prog 14 #[v, .agg (Cm.cells c)] w (DoneK w l (Kv.refused c 11)) := by
  obtain ⟨w1, e1, hl1, hB1, hz1⟩ := box_cmd w c
  obtain ⟨w2, e2, hl2, hB2, hz2⟩ := box_ans w1 An.zero
  dsimp only [An.cells, An.zero] at e2
  rw [hz1] at hl2
  have HC2 := Lib.hid (hl1.below hB2 hl1.lt)
  have HA2 := Lib.hid hl2
  have HB2 := Lib.hid (hB1.trans (hB2.mono hB1.size))
  have HV := Lib.hid hv
  have hfind := find_kv v l c.key w2 (hv.below HB2.out) hp (by omega)
  have HRP : Hid (∀ (W : World), Below w.heap.size w W → Calls Try.prog 25 #[v, .agg (Cm.cells c), .int .i64 11] W (DoneK W l (Kv.refused c 11))) :=
    fun W hb => refuse_kv v l c 11 W (HV.out.below hb) (by omega)
  obtain ⟨p0, p1, p2, p3, p4, p5, p6⟩ := Cmds.all HC2.out
  obtain ⟨ao, cap, rfl, _, _⟩ := ReadsK.shape hv
  have HZ2 : Hid (w2.heap.size = w.heap.size + 2) := by show _ = _; omega
  have HT : Hid (Kv.told l c = ⟨c.client, c.seq, 0, Kv.found l c.key, (Kv.find l c.key).val, 0⟩) := rfl
  obtain ⟨T, hT⟩ : ∃ T, T = Kv.told l c := ⟨_, rfl⟩
  unfold Kv.full at hf
  obtain ⟨F, hF⟩ : ∃ F, F = Kv.found l c.key := ⟨_, rfl⟩
  obtain ⟨P, hP⟩ : ∃ P, P = Kv.find l c.key := ⟨_, rfl⟩
  rw [← hT] at HT
  rw [← hF] at hfind HT
  rw [← hP] at hfind HT
  rw [← hF] at hf
  obtain ⟨n, hnn⟩ : ∃ n, n = l.length := ⟨_, rfl⟩
  rw [← hnn] at hf hfind HRP ⊢
  have hk2 : (c.kind == 2) = true := by simpa using hk
  simp only [Bool.and_eq_true, Bool.not_eq_true', decide_eq_true_eq] at hf
  obtain ⟨hf1, hf2⟩ := hf
  subst hf1
  have d2 : decide ((64 : Int) ≤ (n : Int)) = true := by simp; omega
  clear hv hp hn hl1 hB1 hl2 hB2 hnn hz2 hF hP HV hT hk hf2
  go_enter Try.func14, Try.ntmps14
  go_wp2_with fail
  refine hfind.mono ?_
  rintro e w3 ⟨rfl, hB3⟩
  have HC3 := Lib.hid (HC2.out.below hB3 HC2.out.lt)
  have HA3 := Lib.hid (HA2.out.below hB3 HA2.out.lt)
  have HZ3 : Hid (w.heap.size + 2 ≤ w3.heap.size) := by show _ ≤ _; have := hB3.size; have := HZ2.out; omega
  have HB3 := Lib.hid (HB2.out.trans (hB3.mono HB2.out.size))
  clear hfind hB3 p0 p1 p2 p3 p4 p5 p6
  go_wp2_with (first
    | (refine store_kv (by rfl) _ _ (by rfl) w3.heap.size Kv.zero P (by rfl) (by rfl) (Lies.new _ _ _) ?_; intro w4 hl4 hg4
       have hB4 : Below w3.heap.size w3 w4 := ((Below.refl _ w3).alloc (Nat.le_refl _) _).grown hg4 (by simp) (by rintro j hj; cases hj; exact Nat.le_refl _)
       have HC4 := Lib.hid (HC3.out.below hB4 HC3.out.lt)
       have HA4 := Lib.hid (HA3.out.below hB4 HA3.out.lt)
       have HB4 := Lib.hid (HB3.out.trans (hB4.mono HB3.out.size))
       have HP4 := Lib.hid hl4
       obtain ⟨p0, p1, p2, p3, p4, p5, p6⟩ := Cmds.all HC4.out
       obtain ⟨q0, q1, q2⟩ := Kvs.three hl4
       clear hl4 hg4 hB4)
    | (refine store_ans (by rfl) _ _ (by rfl) w4.heap.size An.zero ⟨c.client, c.seq, 0, _, P.val, 0⟩ (by rfl) (by rfl) (Lies.new _ _ _) ?_; intro w5 hl5 hg5
       have hB5 : Below w4.heap.size w4 w5 := ((Below.refl _ w4).alloc (Nat.le_refl _) _).grown hg5 (by simp) (by rintro j hj; cases hj; exact Nat.le_refl _)
       have HC5 := Lib.hid (HC4.out.below hB5 HC4.out.lt)
       have HA5 := Lib.hid (HA4.out.below hB5 HA4.out.lt)
       have HP5 := Lib.hid (HP4.out.below hB5 HP4.out.lt)
       have HB5 := Lib.hid (HB4.out.trans (hB5.mono HB4.out.size))
       have HY5 := Lib.hid hl5
       clear p0 p1 p2 p3 p4 p5 p6 q0 q1 q2
       obtain ⟨p0, p1, p2, p3, p4, p5, p6⟩ := Cmds.all HC5.out
       obtain ⟨q0, q1, q2⟩ := Kvs.three HP5.out
       clear hl5 hg5 hB5)
    | (go_at_call 25
       refine (HRP.out w5 HB5.out).mono ?_
       rintro e w6 ⟨v6, rfl, ho6, hB6⟩
       have HA6 := Lib.hid (HA5.out.below hB6 HA5.out.lt)
       have HO6 := Lib.hid ho6
       have HB6 := Lib.hid (HB5.out.trans (hB6.mono HB5.out.size))
       clear ho6 hB6)
    | (refine store_ans (by rfl) _ _ (by rfl) (w.heap.size + 1) An.zero (Kv.refused c 11) (by rfl) (by rfl) HA6.out ?_; intro w7 hl7 hg7))
  refine ret_val_ans rfl rfl hl7 rfl ?_
  exact ⟨_, rfl, (HO6.out.besides hg7 HA5.out.lt).mono HB5.out.size, HB6.out.grown hg7 HB6.out.size (by rintro j hj; cases hj; omega)⟩

set_option maxRecDepth 4000 in
set_option maxHeartbeats 1600000 in
theorem doElse_kv (v : Value) (l : List Kv.Item) (c : Cm.Cmd) (w : World) (hv : ReadsK w v l) (hp : Kv.Asc l) (hn : l.length ≤ 1000000) (h2 : c.kind ≠ 2) (h3 : c.kind ≠ 3) (h4 : c.kind ≠ 4) :
    Calls Try.prog 14 #[v, .agg (Cm.cells c)] w (DoneK w l (Kv.refused c 8)) := by
  obtain ⟨w1, e1, hl1, hB1, hz1⟩ := box_cmd w c
  obtain ⟨w2, e2, hl2, hB2, hz2⟩ := box_ans w1 An.zero
  dsimp only [An.cells, An.zero] at e2
  rw [hz1] at hl2
  have HC2 := Lib.hid (hl1.below hB2 hl1.lt)
  have HA2 := Lib.hid hl2
  have HB2 := Lib.hid (hB1.trans (hB2.mono hB1.size))
  have HV := Lib.hid hv
  have hfind := find_kv v l c.key w2 (hv.below HB2.out) hp (by omega)
  have HRP : Hid (∀ (W : World), Below w.heap.size w W → Calls Try.prog 25 #[v, .agg (Cm.cells c), .int .i64 8] W (DoneK W l (Kv.refused c 8))) :=
    fun W hb => refuse_kv v l c 8 W (HV.out.below hb) (by omega)
  obtain ⟨p0, p1, p2, p3, p4, p5, p6⟩ := Cmds.all HC2.out
  obtain ⟨ao, cap, rfl, _, _⟩ := ReadsK.shape hv
  have HZ2 : Hid (w2.heap.size = w.heap.size + 2) := by show _ = _; omega
  have HT : Hid (Kv.told l c = ⟨c.client, c.seq, 0, Kv.found l c.key, (Kv.find l c.key).val, 0⟩) := rfl
  obtain ⟨T, hT⟩ : ∃ T, T = Kv.told l c := ⟨_, rfl⟩
  obtain ⟨F, hF⟩ : ∃ F, F = Kv.found l c.key := ⟨_, rfl⟩
  obtain ⟨P, hP⟩ : ∃ P, P = Kv.find l c.key := ⟨_, rfl⟩
  rw [← hT] at HT
  rw [← hF] at hfind HT
  rw [← hP] at hfind HT
  obtain ⟨n, hnn⟩ : ∃ n, n = l.length := ⟨_, rfl⟩
  rw [← hnn] at hfind HRP ⊢
  have hk2 : (c.kind == 2) = false := by simpa using h2
  have hk3 : (c.kind == 3) = false := by simpa using h3
  have hk4 : (c.kind == 4) = false := by simpa using h4
  clear hv hp hn hl1 hB1 hl2 hB2 hnn hz2 hF hP HV hT h2 h3 h4
  go_enter Try.func14, Try.ntmps14
  go_wp2_with fail
  refine hfind.mono ?_
  rintro e w3 ⟨rfl, hB3⟩
  have HC3 := Lib.hid (HC2.out.below hB3 HC2.out.lt)
  have HA3 := Lib.hid (HA2.out.below hB3 HA2.out.lt)
  have HZ3 : Hid (w.heap.size + 2 ≤ w3.heap.size) := by show _ ≤ _; have := hB3.size; have := HZ2.out; omega
  have HB3 := Lib.hid (HB2.out.trans (hB3.mono HB2.out.size))
  clear hfind hB3 p0 p1 p2 p3 p4 p5 p6
  go_wp2_with (first
    | (refine store_kv (by rfl) _ _ (by rfl) w3.heap.size Kv.zero P (by rfl) (by rfl) (Lies.new _ _ _) ?_; intro w4 hl4 hg4
       have hB4 : Below w3.heap.size w3 w4 := ((Below.refl _ w3).alloc (Nat.le_refl _) _).grown hg4 (by simp) (by rintro j hj; cases hj; exact Nat.le_refl _)
       have HC4 := Lib.hid (HC3.out.below hB4 HC3.out.lt)
       have HA4 := Lib.hid (HA3.out.below hB4 HA3.out.lt)
       have HB4 := Lib.hid (HB3.out.trans (hB4.mono HB3.out.size))
       have HP4 := Lib.hid hl4
       obtain ⟨p0, p1, p2, p3, p4, p5, p6⟩ := Cmds.all HC4.out
       obtain ⟨q0, q1, q2⟩ := Kvs.three hl4
       clear hl4 hg4 hB4)
    | (refine store_ans (by rfl) _ _ (by rfl) w4.heap.size An.zero ⟨c.client, c.seq, 0, _, P.val, 0⟩ (by rfl) (by rfl) (Lies.new _ _ _) ?_; intro w5 hl5 hg5
       have hB5 : Below w4.heap.size w4 w5 := ((Below.refl _ w4).alloc (Nat.le_refl _) _).grown hg5 (by simp) (by rintro j hj; cases hj; exact Nat.le_refl _)
       have HC5 := Lib.hid (HC4.out.below hB5 HC4.out.lt)
       have HA5 := Lib.hid (HA4.out.below hB5 HA4.out.lt)
       have HP5 := Lib.hid (HP4.out.below hB5 HP4.out.lt)
       have HB5 := Lib.hid (HB4.out.trans (hB5.mono HB4.out.size))
       have HY5 := Lib.hid hl5
       clear p0 p1 p2 p3 p4 p5 p6 q0 q1 q2
       obtain ⟨p0, p1, p2, p3, p4, p5, p6⟩ := Cmds.all HC5.out
       obtain ⟨q0, q1, q2⟩ := Kvs.three HP5.out
       clear hl5 hg5 hB5)
    | (go_at_call 25
       refine (HRP.out w5 HB5.out).mono ?_
       rintro e w6 ⟨v6, rfl, ho6, hB6⟩
       have HA6 := Lib.hid (HA5.out.below hB6 HA5.out.lt)
       have HO6 := Lib.hid ho6
       have HB6 := Lib.hid (HB5.out.trans (hB6.mono HB5.out.size))
       clear ho6 hB6)
    | (refine store_ans (by rfl) _ _ (by rfl) (w.heap.size + 1) An.zero (Kv.refused c 8) (by rfl) (by rfl) HA6.out ?_; intro w7 hl7 hg7))
  refine ret_val_ans rfl rfl hl7 rfl ?_
  exact ⟨_, rfl, (HO6.out.besides hg7 HA5.out.lt).mono HB5.out.size, HB6.out.grown hg7 HB6.out.size (by rintro j hj; cases hj; omega)⟩

/-- Do: every command. -/
theorem do_kv (v : Value) (l : List Kv.Item) (c : Cm.Cmd) (w : World) (hv : ReadsK w v l) (hp : Kv.Asc l) (hn : l.length ≤ 1000000) :
    Calls Try.prog 14 #[v, .agg (Cm.cells c)] w (DoneK w (Kv.pairs l c) (Kv.ans l c)) := by
  unfold Kv.pairs Kv.ans
  by_cases h2 : c.kind = 2
  · rw [if_pos h2, if_pos h2]
    by_cases hf : Kv.full l c = true
    · rw [if_pos hf, if_pos hf]; exact doFull_kv v l c w hv hp hn h2 hf
    · rw [if_neg hf, if_neg hf]; exact doPut_kv v l c w hv hp hn h2 (by simpa using hf)
  · rw [if_neg h2, if_neg h2]
    by_cases h4 : c.kind = 4
    · rw [if_pos h4, if_neg (by omega), if_pos h4]; exact doDel_kv v l c w hv hp hn h4
    · rw [if_neg h4]
      by_cases h3 : c.kind = 3
      · rw [if_pos h3]; exact doGet_kv v l c w hv hp hn h3
      · rw [if_neg h3, if_neg h4]; exact doElse_kv v l c w hv hp hn h2 h3 h4

end Go.Proofs.Ytiakpedioemmiaa
