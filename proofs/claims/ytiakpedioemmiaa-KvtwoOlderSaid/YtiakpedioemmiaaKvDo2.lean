/- Do: a command done. -/
import Derived.Test.YtiakpedioemmiaaKvDo
import Derived.Deep.RegionHeld3
namespace Go.Proofs.Ytiakpedioemmiaa
open Go.RowKit

/-- A pair's key and value, stored one behind the other. -/
theorem set_kv {w : World} {g : Nat} {p0 : Kv.Item} (p : Kv.Item) (hr : p.rev = p0.rev) (h : Kvs w g p0) : ∃ w', (w.setCell ⟨g, 0, none⟩ (.string ⟨p.key.toArray⟩)).setCell ⟨g, 1, none⟩ (.string ⟨p.val.toArray⟩) = w' ∧ Kvs w' g p ∧ w.grownBy w' (some g) := by
  refine ⟨_, rfl, ?_, grown_on (grown_set w g 0 _) (grown_set _ g 1 _)⟩
  have h2 := (h.set 0 (.string ⟨p.key.toArray⟩)).set 1 (.string ⟨p.val.toArray⟩)
  rw [show ((Kv.cells p0).setIfInBounds 0 (.string ⟨p.key.toArray⟩)).setIfInBounds 1 (.string ⟨p.val.toArray⟩) = Kv.cells p by simp [Kv.cells, hr]] at h2
  exact h2

/-- What a put's last step reads: the key, the pair, the answer. -/
theorem reads_put {W : World} {g1 gp ga : Nat} {c : Cm.Cmd} {X : Kv.Item} {T : An.Ans} (h1 : Cmds W g1 c) (h2 : Kvs W gp X) (h3 : Anss W ga T) :
    W.cell? ⟨g1, 3, none⟩ = some (.string ⟨c.key.toArray⟩) ∧ W.cell? ⟨gp, 0, none⟩ = some (.string ⟨X.key.toArray⟩) ∧ W.cell? ⟨gp, 1, none⟩ = some (.string ⟨X.val.toArray⟩) ∧ W.cell? ⟨gp, 2, none⟩ = some (.int .i64 X.rev) ∧
    W.cell? ⟨ga, 0, none⟩ = some (.int .i64 T.client) ∧ W.cell? ⟨ga, 1, none⟩ = some (.int .i64 T.seq) ∧ W.cell? ⟨ga, 2, none⟩ = some (.int .i64 T.err) ∧ W.cell? ⟨ga, 3, none⟩ = some (.bool T.found) ∧ W.cell? ⟨ga, 4, none⟩ = some (.string ⟨T.val.toArray⟩) ∧ W.cell? ⟨ga, 5, none⟩ = some (.int .i64 T.rev) :=
  ⟨h1.cell 3 _ rfl, h2.cell 0 _ rfl, h2.cell 1 _ rfl, h2.cell 2 _ rfl, h3.cell 0 _ rfl, h3.cell 1 _ rfl, h3.cell 2 _ rfl, h3.cell 3 _ rfl, h3.cell 4 _ rfl, h3.cell 5 _ rfl⟩

set_option maxRecDepth 4000 in
set_option maxHeartbeats 1600000 in
theorem doPut_kv (v : Value) (l : List Kv.Item) (c : Cm.Cmd) (w : World) (hv : ReadsK w v l) (hp : Kv.Asc l) (hn : l.length ≤ 1000000) (hk : c.kind = 2) (hf : Kv.full l c = false) :
    Calls Try.prog 14 #[v, .agg (Cm.cells c)] w (DoneK w (Kv.swap [Kv.next l c] l c.key) (Kv.told l c)) := by
  obtain ⟨w1, e1, hl1, hB1, hz1⟩ := box_cmd w c
  obtain ⟨w2, e2, hl2, hB2, hz2⟩ := box_ans w1 An.zero
  dsimp only [An.cells, An.zero] at e2
  rw [hz1] at hl2
  have HC2 := Lib.hid (hl1.below hB2 hl1.lt)
  have HA2 := Lib.hid hl2
  have HB2 := Lib.hid (hB1.trans (hB2.mono hB1.size))
  have HV := Lib.hid hv
  have hfind := find_kv v l c.key w2 (hv.below HB2.out) hp (by omega)
  have HRP : Hid (∀ (W : World) (g : Nat), Below w.heap.size w W → Kvs W g (Kv.next l c) → Calls Try.prog 26 #[v, .string ⟨c.key.toArray⟩, .slice (some ⟨g, 0, none⟩) 1 1] W (MadeK W (Kv.swap [Kv.next l c] l c.key))) :=
    fun W g hb hg => replace_kv v _ l [Kv.next l c] c.key W (HV.out.below hb) (ReadsR.single hg) hp hn (by simp)
  obtain ⟨p0, p1, p2, p3, p4, p5, p6⟩ := Cmds.all HC2.out
  obtain ⟨ao, cap, rfl, _, _⟩ := ReadsK.shape hv
  have HZ2 : Hid (w2.heap.size = w.heap.size + 2) := by show _ = _; omega
  have HT : Hid (Kv.told l c = ⟨c.client, c.seq, 0, Kv.found l c.key, (Kv.find l c.key).val, 0⟩) := rfl
  have HN : Hid (Kv.next l c = ⟨c.key, c.val, (Kv.find l c.key).rev⟩) := rfl
  obtain ⟨T, hT⟩ : ∃ T, T = Kv.told l c := ⟨_, rfl⟩
  obtain ⟨M, hM⟩ : ∃ M, M = Kv.swap [Kv.next l c] l c.key := ⟨_, rfl⟩
  obtain ⟨X, hX⟩ : ∃ X, X = Kv.next l c := ⟨_, rfl⟩
  unfold Kv.full at hf
  obtain ⟨F, hF⟩ : ∃ F, F = Kv.found l c.key := ⟨_, rfl⟩
  obtain ⟨P, hP⟩ : ∃ P, P = Kv.find l c.key := ⟨_, rfl⟩
  rw [← hM] at HRP
  rw [← hX] at HRP HN
  rw [← hT] at HT
  rw [← hM, ← hT]
  rw [← hF] at hf hfind HT
  rw [← hP] at hfind HT HN
  obtain ⟨n, hnn⟩ : ∃ n, n = l.length := ⟨_, rfl⟩
  rw [← hnn] at hf hfind HRP ⊢
  have HN9 : Hid (n ≤ 1000000) := by show _ ≤ _; omega
  have hk2 : (c.kind == 2) = true := by simpa using hk
  clear hv hp hn hl1 hB1 hl2 hB2 hnn hz2 hF hP hM hX hT HV hk
  go_enter Try.func14, Try.ntmps14
  go_wp2_with fail
  refine hfind.mono ?_
  rintro e w3 ⟨rfl, hB3⟩
  have HC3 := Lib.hid (HC2.out.below hB3 HC2.out.lt)
  have HA3 := Lib.hid (HA2.out.below hB3 HA2.out.lt)
  have HZ3 : Hid (w.heap.size + 2 ≤ w3.heap.size) := by show _ ≤ _; have := hB3.size; have := HZ2.out; omega
  have HB3 := Lib.hid (HB2.out.trans (hB3.mono HB2.out.size))
  clear hfind hB3 p0 p1 p2 p3 p4 p5 p6
  have d1 : F = true ∨ (F = false ∧ decide ((64 : Int) ≤ (n : Int)) = false) := by
    cases F with
    | true => exact .inl rfl
    | false => refine .inr ⟨rfl, ?_⟩; simp at hf; simp; omega
  clear hf
  rcases d1 with rfl | ⟨rfl, d2⟩ <;> go_wp2_with (first
    | (refine store_kv (by rfl) _ _ (by rfl) w3.heap.size Kv.zero P (by rfl) (by rfl) (Lies.new _ _ _) ?_; intro w4 hl4 hg4
       have hB4 : Below w3.heap.size w3 w4 := ((Below.refl _ w3).alloc (Nat.le_refl _) _).grown hg4 (by simp) (by rintro j hj; cases hj; exact Nat.le_refl _)
       have HC4 := Lib.hid (HC3.out.below hB4 HC3.out.lt)
       have HA4 := Lib.hid (HA3.out.below hB4 HA3.out.lt)
       have HB4 := Lib.hid (HB3.out.trans (hB4.mono HB3.out.size))
       have HP4 := Lib.hid hl4
       obtain ⟨p0, p1, p2, p3, p4, p5, p6⟩ := Cmds.all HC4.out
       obtain ⟨q0, q1, q2⟩ := Kvs.three hl4
       clear hl4 hg4 hB4)
    | (refine store_ans (by rfl) _ _ (by rfl) w4.heap.size An.zero ⟨c.client, c.seq, 0, _, P.val, 0⟩ (by rfl) (by rfl) (Lies.new _ _ _) ?_; intro w5 hl5 hg5
       have hB5 : Below w4.heap.size w4 w5 := ((Below.refl _ w4).alloc (Nat.le_refl _) _).grown hg5 (by simp) (by rintro j hj; cases hj; exact Nat.le_refl _)
       have HC5 := Lib.hid (HC4.out.below hB5 HC4.out.lt)
       have HA5 := Lib.hid (HA4.out.below hB5 HA4.out.lt)
       have HP5 := Lib.hid (HP4.out.below hB5 HP4.out.lt)
       have HB5 := Lib.hid (HB4.out.trans (hB5.mono HB4.out.size))
       have HY5 := Lib.hid hl5
       clear p0 p1 p2 p3 p4 p5 p6 q0 q1 q2
       obtain ⟨p0, p1, p2, p3, p4, p5, p6⟩ := Cmds.all HC5.out
       obtain ⟨q0, q1, q2⟩ := Kvs.three HP5.out
       clear hl5 hg5 hB5))
  all_goals
    obtain ⟨w6, e6, hl6, hg6⟩ := set_kv (p0 := P) ⟨c.key, c.val, P.rev⟩ rfl HP5.out
    dsimp only at e6
    rw [← HN.out] at hl6
    have g0 := HP5.out.free 0; have g1 := HP5.out.free 1
    have hd6 : Below w6.heap.size w6 w6.drew := (Below.refl _ _).drew
    have hne1 : some w.heap.size ≠ some w3.heap.size := by have := HZ3.out; simp; omega
    have hne2 : some (w.heap.size + 1) ≠ some w3.heap.size := by have := HZ3.out; simp; omega
    have HC6 : Hid (Cmds w6.drew w.heap.size c) := (HC5.out.kept hg6 hne1).below hd6 (HC5.out.kept hg6 hne1).lt
    have HA6 : Hid (Anss w6.drew (w.heap.size + 1) An.zero) := (HA5.out.kept hg6 hne2).below hd6 (HA5.out.kept hg6 hne2).lt
    have hne3 : some w4.heap.size ≠ some w3.heap.size := by have := HP4.out.lt; simp; omega
    have hy5 := HY5.out
    rw [← HT.out] at hy5
    have HY6 : Hid (Anss w6.drew w4.heap.size T) := (hy5.kept hg6 hne3).below hd6 (hy5.kept hg6 hne3).lt
    clear hy5
    have HP6 : Hid (Kvs w6.drew w3.heap.size X) := hl6.below hd6 hl6.lt
    have HB6 : Hid (Below w.heap.size w w6.drew) := (HB5.out.grown hg6 HB5.out.size (by rintro j hj; cases hj; have := HZ3.out; omega)).drew
    go_region
    clear p0 p1 p2 p3 p4 p5 p6 q0 q1 q2 g0 g1 hd6 hne1 hne2 hne3 hg6 hl6 e6
    obtain ⟨w7, hw7⟩ : ∃ w7, w7 = w6.drew := ⟨_, rfl⟩
    rw [← hw7] at HC6 HA6 HY6 HP6 HB6 ⊢
    clear hw7
    have K7 := reads_put HC6.out HP6.out HY6.out
    obtain ⟨wY, eY⟩ : ∃ wY, w7.alloc (.cells #[.string ⟨X.key.toArray⟩, .string ⟨X.val.toArray⟩, .int .i64 X.rev] 29) = wY := ⟨_, rfl⟩
    have hbb : Below w7.heap.size w7 wY.drew := by rw [← eY]; exact below_oneK w7 _
    have hlY : Lies wY.drew w7.heap.size 29 #[.string ⟨X.key.toArray⟩, .string ⟨X.val.toArray⟩, .int .i64 X.rev] := by rw [← eY]; exact lies_oneK w7 _ _
    have HBX := Lib.hid (HB6.out.trans (hbb.mono HB6.out.size))
    have HAX := Lib.hid (HA6.out.below hbb HA6.out.lt)
    have HYX := Lib.hid (HY6.out.below hbb HY6.out.lt)
    have HCX := Lib.hid (HC6.out.below hbb HC6.out.lt)
    have HXX := Lib.hid (HP6.out.below hbb HP6.out.lt)
    have HCL := Lib.hid (HRP.out wY.drew w7.heap.size HBX.out hlY)
    have KY := reads_put HCX.out HXX.out HYX.out
    clear hlY hbb
    go_wp2_with fail
    go_region_held3 (fun w' => w'.cell? ⟨w.heap.size, 3, none⟩ = some (.string ⟨c.key.toArray⟩) ∧ w'.cell? ⟨w3.heap.size, 0, none⟩ = some (.string ⟨X.key.toArray⟩) ∧ w'.cell? ⟨w3.heap.size, 1, none⟩ = some (.string ⟨X.val.toArray⟩) ∧ w'.cell? ⟨w3.heap.size, 2, none⟩ = some (.int .i64 X.rev) ∧
      w'.cell? ⟨w4.heap.size, 0, none⟩ = some (.int .i64 T.client) ∧ w'.cell? ⟨w4.heap.size, 1, none⟩ = some (.int .i64 T.seq) ∧ w'.cell? ⟨w4.heap.size, 2, none⟩ = some (.int .i64 T.err) ∧ w'.cell? ⟨w4.heap.size, 3, none⟩ = some (.bool T.found) ∧ w'.cell? ⟨w4.heap.size, 4, none⟩ = some (.string ⟨T.val.toArray⟩) ∧ w'.cell? ⟨w4.heap.size, 5, none⟩ = some (.int .i64 T.rev))
      (first | go_keep | exact K7 | exact KY | exact K8 | exact K9) (first
      | (go_at_call 26
         refine HCL.out.mono ?_
         rintro e w8 ⟨v8, rfl, ho8, hB8⟩
         have HA8 := Lib.hid (HAX.out.below hB8 HAX.out.lt)
         have HY8 := Lib.hid (HYX.out.below hB8 HYX.out.lt)
         have HC8 := Lib.hid (HCX.out.below hB8 HCX.out.lt)
         have HX8 := Lib.hid (HXX.out.below hB8 HXX.out.lt)
         have HOB := Lib.hid ho8
         have HB8 := Lib.hid (HBX.out.trans (hB8.mono HBX.out.size))
         have K8 := reads_put HC8.out HX8.out HY8.out
         clear hB8 ho8
         obtain ⟨z0, z1, z2, z3, z4, z5⟩ := Anss.every HA8.out
         dsimp only [An.zero] at z0 z1 z2 z3 z4 z5
         have f0 := HA8.out.free 0; have f1 := HA8.out.free 1; have f2 := HA8.out.free 2; have f3 := HA8.out.free 3; have f4 := HA8.out.free 4; have f5 := HA8.out.free 5
         obtain ⟨w9, e9, hl9, hg9⟩ := set_ansK T HA8.out
         have hne1 : some w.heap.size ≠ some (w.heap.size + 1) := by simp
         have hne2 : some w3.heap.size ≠ some (w.heap.size + 1) := by have := HZ3.out; simp; omega
         have hne3 : some w4.heap.size ≠ some (w.heap.size + 1) := by have := HZ3.out; have := HP4.out.lt; simp; omega
         have K9 := reads_put (HC8.out.kept hg9 hne1) (HX8.out.kept hg9 hne2) (HY8.out.kept hg9 hne3)))
    all_goals
      go_wp2
      refine ret_val_ans rfl rfl hl9 rfl ?_
      exact ⟨_, rfl, (HOB.out.besides hg9 HAX.out.lt).mono HBX.out.size, HB8.out.grown hg9 HB8.out.size (by rintro j hj; cases hj; omega)⟩

end Go.Proofs.Ytiakpedioemmiaa
