/- Put, Get, Encode, Decode of a command. -/
import Derived.Test.YteaebmgnofmemaaDoorCmdPack
import Derived.Test.YteaebmgnofmemaaDoorCmdChk
namespace Go.Proofs.YteaebmgnofmemaaDoor
open Go.RowKit

theorem Cmds.all {w : World} {b : Nat} {c : Cm.Cmd} (h : Cmds w b c) : w.cell? ⟨b, 0, none⟩ = some (.int .i64 c.kind) ∧ w.cell? ⟨b, 1, none⟩ = some (.int .i64 c.client) ∧ w.cell? ⟨b, 2, none⟩ = some (.int .i64 c.seq) ∧ w.cell? ⟨b, 3, none⟩ = some (.string ⟨c.key.toArray⟩) ∧
    w.cell? ⟨b, 4, none⟩ = some (.string ⟨c.val.toArray⟩) ∧ w.cell? ⟨b, 5, none⟩ = some (.string ⟨c.old.toArray⟩) ∧ w.cell? ⟨b, 6, none⟩ = some (.int .i64 c.node) :=
  ⟨h.cell 0 _ rfl, h.cell 1 _ rfl, h.cell 2 _ rfl, h.cell 3 _ rfl, h.cell 4 _ rfl, h.cell 5 _ rfl, h.cell 6 _ rfl⟩

theorem Wr.fresh (T E : TypeId) (w : World) (B : Nat) (hB : B ≤ w.heap.size) : Wr T E (w.alloc (.cells #[.slice none 0 0] T)) B w.heap.size (.slice none 0 0) [] :=
  ⟨hB, Lies.new _ _ _, Owns.empty _ _ _⟩
theorem Cm.fenc_len (c : Cm.Cmd) (hf : c.Fits) (hs : c.Short 1000) (f : Cm.F) : (Cm.fenc c f).length ≤ 1009 := by
  unfold Cm.fenc
  split
  · have := (hf.n f).2
    have := enc_nine (n := (c.n f).toNat) (by omega)
    omega
  · have := hs.s f
    have h9 := enc_nine (n := (c.s f).length) (by omega)
    simp [Pk.text]; omega
theorem Cm.flat_len (c : Cm.Cmd) (hf : c.Fits) (hs : c.Short 1000) : ∀ fs : List Cm.F, (fs.flatMap (Cm.fenc c)).length ≤ 1009 * fs.length := by
  intro fs
  induction fs with
  | nil => simp
  | cons f fs ih => rw [List.flatMap_cons, List.length_append, List.length_cons]; have := Cm.fenc_len c hf hs f; omega

set_option maxRecDepth 4000 in
set_option maxHeartbeats 1600000 in
theorem cput_any (v : Int) (c : Cm.Cmd) (w : World) (B o : Nat) (u : Value) (hm : Vs.may v = true) (hw : Wrt w B o u []) (hB : B ≤ w.heap.size) (hf : c.Fits) (hs : c.Short 1000) :
    Calls Tryd.prog 19 #[.pointer (some ⟨o, 0, none⟩), .int .i64 v, .agg (Cm.cells c)] w (PutGot w B o (Cm.bytes v c)) := by
  have ho := hw.lies.lt
  have hs2 : c.Short 1048576 := ⟨by have := hs.1; omega, by have := hs.2.1; omega, by have := hs.2.2; omega⟩
  obtain ⟨w1, e1, hl1, hB1, hz1⟩ := box_cmd w c
  have hk : w1.cell? ⟨w.heap.size, 0, none⟩ = some (.int .i64 c.kind) := hl1.cell 0 _ rfl
  have HL1 := Lib.hid hl1; have HB1 := Lib.hid hB1; have HZ1 := Lib.hid hz1
  have HW1 := Lib.hid (hw.grown hB1)
  clear hl1 hB1 hz1 hw
  go_enter Tryd.func19, Tryd.ntmps19
  go_wp2_with fail
  refine (may_any v _).mono ?_
  rintro e w2 ⟨rfl, rfl⟩
  rw [hm]
  go_wp2_with fail
  refine (wnum_any c.kind _ B o u [] HW1.out (Nat.le_trans hB HB1.out.size) (by simp) hf.k0 hf.k1).mono ?_
  rintro e w2 ⟨rfl, u2, hw2, hg2⟩
  have hp2 := Spares.of_grew HW1.out hg2
  have hb2 := HW1.out.below hg2 (Nat.le_trans hB HB1.out.size)
  have hl2 : Cmds w2 w.heap.size c := hp2 _ _ _ (by omega) (by decide) HL1.out
  have hk2 : w2.cell? ⟨w.heap.size, 0, none⟩ = some (.int .i64 c.kind) := hl2.cell 0 _ rfl
  rw [List.nil_append] at hw2
  have HB2 := Lib.hid ((HB1.out.mono hB).trans hb2)
  have HP2 := Lib.hid ((Spares.of_below (o := o) HB1.out).trans hp2)
  have HW2 := Lib.hid hw2
  have HL2 := Lib.hid hl2
  have hz2 : w.heap.size + 1 ≤ w2.heap.size := by have := hb2.size; have := HZ1.out; omega
  clear hp2 hb2 hl2 hw2 hg2
  go_wp2_with fail
  refine (encoded_any v w.heap.size c.kind _ hk2).mono ?_
  rintro e w3 ⟨r, rfl, hr, hB3⟩
  obtain ⟨ao, rfl⟩ := hr.shape
  have hn := Cm.encoded_len v c.kind
  have HBY : Hid (Cm.bytes v c = enc c.kind.toNat ++ (Cm.encoded v c.kind).flatMap (Cm.fenc c)) := rfl
  obtain ⟨fs, hfs⟩ : ∃ fs, fs = Cm.encoded v c.kind := ⟨_, rfl⟩
  rw [← hfs] at hr hn ⊢
  have HFS := Lib.hid hfs
  have HR := Lib.hid hr
  have HL3 := Lib.hid (HL2.out.below hB3 HL2.out.lt)
  have HW3 := Lib.hid (HW2.out.grown hB3)
  have HB3 := Lib.hid (HB2.out.trans (hB3.mono (Nat.le_trans hB HB2.out.size)))
  have HP3 := Lib.hid (HP2.out.trans (Spares.of_below (o := o) hB3))
  have H9 := Lib.hid (enc_nine (n := c.kind.toNat) (by have := hf.k1; omega))
  have HFL := Lib.hid (Cm.flat_len c hf hs)
  clear hr hfs hB3 hk hk2
  go_wp2
  go_loopw [7, 18] (fun _ i wr => ∃ (k : Nat) (u' : Value), i = .int .i64 (k : Int) ∧ k ≤ fs.length ∧ Hid (Below B w wr) ∧ Hid (Wrt wr B o u' (enc c.kind.toNat ++ (fs.take k).flatMap (Cm.fenc c))) ∧ Hid (Cmds wr w.heap.size c) ∧ Hid (FRow wr w2.heap.size (.slice ao fs.length fs.length) w.heap.size fs) ∧ Hid (Spares o w wr)) (fun _ i _ => fs.length - (intOf i).toNat)
  case atStart =>
    refine ⟨0, u2, rfl, by omega, HB3, ?_, HL3, HR, HP3⟩
    show Wrt _ _ _ _ _
    rw [List.take_zero, List.flatMap_nil, List.append_nil]
    exact HW3.out
  case round =>
    obtain ⟨k, u', rfl, hk, HB, HW, HL, HF, HP⟩ := hrel
    by_cases hlt : k < fs.length
    · have hlt' : (k : Int) < (fs.length : Int) := by omega
      obtain ⟨f, hff⟩ : ∃ f, fs[k]? = some f := ⟨_, List.getElem?_eq_getElem hlt⟩
      obtain ⟨g, rfl, hcell⟩ := HF.out.cell hff
      have HFK := Lib.hid hff
      have hlen : (enc c.kind.toNat ++ (fs.take k).flatMap (Cm.fenc c)).length ≤ 70368744177664 := by
        have := HFL.out (fs.take k)
        have := H9.out
        rw [List.length_append]
        rw [List.length_take] at *
        omega
      clear hff
      go_wp2_with fail
      refine (fput_any w.heap.size c f _ B o u' _ HW.out (Nat.le_trans hB HB.out.size) hlen HL.out hf hs2).mono ?_
      rintro e w4 ⟨rfl, u4, hw4, hp4, hb4⟩
      have HL4 := Lib.hid (hp4 _ _ _ (by omega) (by decide) HL.out)
      have HF4 := Lib.hid (HF.out.spares hp4 (by omega))
      have HP4 := Lib.hid (HP.out.trans hp4)
      have HB4 := Lib.hid (HB.out.trans hb4)
      have HW4 := Lib.hid hw4
      clear hw4 hp4 hb4 hlen
      go_wp2
      go_roundw
      case rel =>
        refine ⟨k + 1, u4, by go_num, by omega, HB4, ?_, HL4, HF4, HP4⟩
        show Wrt _ _ _ _ _
        have := HW4.out
        rw [List.take_add_one, HFK.out, List.flatMap_append, Option.toList_some, List.flatMap_singleton, ← List.append_assoc]
        exact this
      case measure => simp [intOf]; omega
    · have hlt' : ¬ (k : Int) < (fs.length : Int) := by omega
      have hw5 := HW.out
      rw [List.take_of_length_le (by omega), HFS.out, ← HBY.out] at hw5
      have HW5 := Lib.hid hw5
      clear hw5
      go_wp2
      go_end0
      exact ⟨rfl, u', HW5.out, HP.out, HB.out⟩

/-! A command that lies in a block, read and stored whole. -/
theorem run_command (w : World) (g : Nat) (c : Cm.Cmd) (h : Cmds w g c) : (loadVar 23 ⟨g, 0, none⟩).run Tryd.prog w = .ok (.agg (Cm.cells c)) w :=
  run_loadVar_row w g _ _ (Cm.cells c) (0, 0) _ h Tryd.underlying23 rfl (by kernel_rfl)
theorem results_one {fn : Func} {p : Tmp} {ty : TypeId} (h : fn.results = #[.cell p ty]) (tmps : Array Value) (P : Program) (w : World) :
    (results fn tmps).run P w = ((asAddr (tmps.getD p undef)).run P w).andThen fun a w₁ => (loadVar ty a).run P w₁ := by
  simp only [results, h]
  simp [Sem.run_bind, Result.andThen]
theorem results_two {fn : Func} {p u : Tmp} {ty : TypeId} (h : fn.results = #[.cell p ty, .tmp u]) (tmps : Array Value) (P : Program) (w : World) :
    (results fn tmps).run P w = ((asAddr (tmps.getD p undef)).run P w).andThen fun a w₁ => ((loadVar ty a).run P w₁).andThen fun v w₂ => .ok (.tuple #[v, tmps.getD u undef]) w₂ := by
  simp only [results, h]
  simp [Sem.run_bind, Result.andThen]
theorem ret_cmd1 {fn : Func} {R : Ending → World → Prop} {a : Act} {w : World} {p : Tmp} {g : Nat} {c : Cm.Cmd} (h : fn.results = #[.cell p 23]) (hp : a.tmps.getD p undef = .pointer (some ⟨g, 0, none⟩))
    (hl : Cmds w g c) (hd : a.defers = []) (hR : R (.returned (.agg (Cm.cells c))) w) : bodyPost Tryd.prog fn R .ret a w := by
  refine bodyPost_ret ?_ hd hR
  rw [results_one h, hp]
  simp [asAddr, Result.andThen, run_command w g c hl]
theorem ret_cmd2 {fn : Func} {R : Ending → World → Prop} {a : Act} {w : World} {p u : Tmp} {g : Nat} {c : Cm.Cmd} (h : fn.results = #[.cell p 23, .tmp u]) (hp : a.tmps.getD p undef = .pointer (some ⟨g, 0, none⟩))
    (hl : Cmds w g c) (hd : a.defers = []) (hR : R (.returned (.tuple #[.agg (Cm.cells c), a.tmps.getD u undef])) w) : bodyPost Tryd.prog fn R .ret a w := by
  refine bodyPost_ret ?_ hd hR
  rw [results_two h, hp]
  simp [asAddr, Result.andThen, run_command w g c hl]

theorem Cm.cells_one (c : Cm.Cmd) : (Cm.cells c).all (·.oneCell') = true := by simp [Cm.cells, Value.oneCell']
theorem Cm.cells_at (c : Cm.Cmd) (j : Nat) (hj : j < 7) : ∃ v, (Cm.cells c)[j]? = some v := ⟨_, Array.getElem?_eq_getElem (show j < (Cm.cells c).size from hj)⟩
set_option maxHeartbeats 1600000 in
theorem store_cmd {ops : Array Oper} {rest : List Oper} {op : Oper} {a : Act} {w : World} {Q : Exit → Act → World → Prop} (hgd : op.guard = none) (x y : Operand) (ho : op.op = .store 23 x y)
    (g : Nat) (c0 c : Cm.Cmd) (hx : a.eval x = .pointer (some ⟨g, 0, none⟩)) (hy : a.eval y = .agg (Cm.cells c)) (hl : Cmds w g c0)
    (h : ∀ w', Cmds w' g c → w.grownBy w' (some g) → wpList Tryd.prog ops Q rest (a.put op.dst undef) w') : wpList Tryd.prog ops Q (op :: rest) a w := by
  have h0 : ∀ j, j < 7 → (w.cell? ⟨g, j, none⟩).isSome = true := by
    intro j hj
    obtain ⟨v, hv⟩ := Cm.cells_at c0 j hj
    rw [hl.cell j v hv]; rfl
  have hone := Cm.cells_one c
  have hL : Cmds (((((((w.setCell ⟨g, 0, none⟩ (.int .i64 c.kind)).setCell ⟨g, 1, none⟩ (.int .i64 c.client)).setCell ⟨g, 2, none⟩ (.int .i64 c.seq)).setCell ⟨g, 3, none⟩ (.string ⟨c.key.toArray⟩)).setCell ⟨g, 4, none⟩ (.string ⟨c.val.toArray⟩)).setCell ⟨g, 5, none⟩ (.string ⟨c.old.toArray⟩)).setCell ⟨g, 6, none⟩ (.int .i64 c.node)) g c :=
    ((((((hl.set 0 _).set 1 _).set 2 _).set 3 _).set 4 _).set 5 _).set 6 _
  have hG : w.grownBy (((((((w.setCell ⟨g, 0, none⟩ (.int .i64 c.kind)).setCell ⟨g, 1, none⟩ (.int .i64 c.client)).setCell ⟨g, 2, none⟩ (.int .i64 c.seq)).setCell ⟨g, 3, none⟩ (.string ⟨c.key.toArray⟩)).setCell ⟨g, 4, none⟩ (.string ⟨c.val.toArray⟩)).setCell ⟨g, 5, none⟩ (.string ⟨c.old.toArray⟩)).setCell ⟨g, 6, none⟩ (.int .i64 c.node)) (some g) :=
    grown_on (grown_on (grown_on (grown_on (grown_on (grown_on (grown_set w g 0 _) (grown_set _ g 1 _)) (grown_set _ g 2 _)) (grown_set _ g 3 _)) (grown_set _ g 4 _)) (grown_set _ g 5 _)) (grown_set _ g 6 _)
  have hf := hl.free
  refine wpList_store_mid hgd _ x y ho g 0 (Cm.cells c) hx hy (fun j hj => ?_) (by kernel_rfl) hone (h _ hL hG)
  rw [Nat.zero_add]
  exact ⟨h0 j hj, hf j⟩
theorem load_cmd {ops : Array Oper} {rest : List Oper} {op : Oper} {a : Act} {w : World} {Q : Exit → Act → World → Prop} (hgd : op.guard = none) (x : Operand) (ho : op.op = .load 23 x)
    (g : Nat) (c : Cm.Cmd) (hx : a.eval x = .pointer (some ⟨g, 0, none⟩)) (hl : Cmds w g c)
    (h : wpList Tryd.prog ops Q rest (a.put op.dst (.agg (Cm.cells c))) w) : wpList Tryd.prog ops Q (op :: rest) a w :=
  wpList_load_mid hgd _ x ho g 0 hx (Cm.cells c).toList _ (fun j v hv => by rw [Nat.zero_add]; exact hl.cell j v (by simpa using hv)) Tryd.underlying23 rfl (by kernel_rfl) h

/-- What a Get gives. -/
def CGot (w : World) (B o : Nat) (u : Value) (s : List UInt8) (t : Cm.Cmd × Nat × Int) (e : Ending) (w' : World) : Prop :=
  e = .returned (.agg (Cm.cells t.1)) ∧ Rdr w' B o u s t.2.1 t.2.2 ∧ Below B w w'

set_option maxRecDepth 4000 in
set_option maxHeartbeats 1600000 in
theorem cget_any (v : Int) (w : World) (B o : Nat) (u : Value) (s : List UInt8) (p : Nat) (er : Int) (hm : Vs.may v = true) (hr : Rdr w B o u s p er) (hB : B ≤ w.heap.size) :
    Calls Tryd.prog 20 #[.pointer (some ⟨o, 0, none⟩), .int .i64 v] w (CGot w B o u s (Cm.get v s p er)) := by
  have ho := hr.lies.lt
  obtain ⟨n, q, e, hq, hx, hn0, hn1⟩ := Cm.rnum_res s p er
  have HQ := Lib.hid hq
  obtain ⟨w1, e1, hl1, hB1, hz1⟩ := box_cmd w Cm.zero
  have HG : Hid (Cm.get v s p er = (Cm.encoded v n).foldl (Cm.gstep s) (Cm.bareOf n, q, e)) := by
    show _ = _
    unfold Cm.get
    rw [hq]
    simp
  dsimp only [Cm.cells, Cm.zero, Cm.bareOf] at e1
  have HL1 := Lib.hid hl1; have HB1 := Lib.hid (hB1.mono hB); have HZ1 := Lib.hid hz1
  have HR1 := Lib.hid (hr.kept hB1)
  clear hl1 hB1 hz1 hr hq
  go_enter Tryd.func20, Tryd.ntmps20
  go_wp2_with fail
  refine (may_any v _).mono ?_
  rintro e w2 ⟨rfl, rfl⟩
  rw [hm]
  go_wp2_with fail
  refine (rnumber_any _ B o u s p er n q e HR1.out hx HQ).mono ?_
  rintro e2 w2 ⟨rfl, hr2, hg2⟩
  have hb2 := HB1.out.grown hg2 (Nat.le_trans hB HB1.out.size) (by rintro k hk; cases hk; exact hr2.base)
  have hl2 : Cmds w2 w.heap.size Cm.zero := HL1.out.kept hg2 (by simp; omega)
  have hz2 : w.heap.size + 1 ≤ w2.heap.size := by have := hg2.size; have := HZ1.out; omega
  have HB2 := Lib.hid hb2; have HL2 := Lib.hid hl2; have HR2 := Lib.hid hr2
  clear hr2 hg2 hb2 hl2
  go_wp2_with (refine store_cmd (by rfl) _ _ (by rfl) w2.heap.size Cm.zero (Cm.bareOf n) (by rfl) (by rfl) (Lies.new _ _ _) ?_; intro w3 hl3 hg3)
  have hB3 : Below w2.heap.size w2 w3 := ((Below.refl _ w2).alloc (Nat.le_refl _) _).grown hg3 (by simp) (by rintro j hj; cases hj; exact Nat.le_refl _)
  have hk3 : w3.cell? ⟨w2.heap.size, 0, none⟩ = some (.int .i64 n) := hl3.cell 0 _ rfl
  have hz4 : w2.heap.size < w3.heap.size := hl3.lt
  have HL3 := Lib.hid hl3; have HB3 := Lib.hid (HB2.out.trans (hB3.mono (Nat.le_trans hB HB2.out.size)))
  have HR3 := Lib.hid (HR2.out.kept hB3)
  have HK3 := Lib.hid (HL2.out.below hB3 HL2.out.lt)
  clear hl3 hB3 hg3
  go_wp2_with fail
  refine (encoded_any v w2.heap.size n _ hk3).mono ?_
  rintro e4 w4 ⟨r, rfl, hr, hB4⟩
  obtain ⟨ao, rfl⟩ := hr.shape
  have hn := Cm.encoded_len v n
  obtain ⟨fs, hfs⟩ : ∃ fs, fs = Cm.encoded v n := ⟨_, rfl⟩
  rw [← hfs] at hr hn ⊢
  have HFS := Lib.hid hfs
  have HF4 := Lib.hid hr
  have HL4 := Lib.hid (HL3.out.below hB4 HL3.out.lt)
  have HR4 := Lib.hid (HR3.out.kept hB4)
  have HK4 := Lib.hid (HK3.out.below hB4 HK3.out.lt)
  have HB4 := Lib.hid (HB3.out.trans (hB4.mono (Nat.le_trans hB HB3.out.size)))
  clear hr hfs hB4 hk3
  go_wp2
  go_loopw [7, 18] (fun _ i wr => ∃ (k : Nat) (t : Cm.Cmd × Nat × Int), i = .int .i64 (k : Int) ∧ k ≤ fs.length ∧ Hid (Below B w wr) ∧ Hid (t = (fs.take k).foldl (Cm.gstep s) (Cm.bareOf n, q, e)) ∧ Hid (Rdr wr B o u s t.2.1 t.2.2) ∧ Hid (Cmds wr w2.heap.size t.1) ∧ Hid (FRow wr w3.heap.size (.slice ao fs.length fs.length) w2.heap.size fs) ∧ Hid (Cmds wr w.heap.size Cm.zero)) (fun _ i _ => fs.length - (intOf i).toNat)
  case atStart => exact ⟨0, (Cm.bareOf n, q, e), rfl, by omega, HB4, rfl, HR4, HL4, HF4, HK4⟩
  case round =>
    obtain ⟨k, t, rfl, hk, HB, HT, HR, HL, HF, HK⟩ := hrel
    by_cases hlt : k < fs.length
    · have hlt' : (k : Int) < (fs.length : Int) := by omega
      obtain ⟨f, hff⟩ : ∃ f, fs[k]? = some f := ⟨_, List.getElem?_eq_getElem hlt⟩
      obtain ⟨g, rfl, hcell⟩ := HF.out.cell hff
      have HFK := Lib.hid hff
      clear hff
      go_wp2_with fail
      refine (fget_any w2.heap.size t f _ B o u s HR.out HL.out (by omega) (by omega)).mono ?_
      rintro e5 w5 ⟨rfl, hl5, hr5, hs5, hb5⟩
      have HL5 := Lib.hid hl5
      have HR5 := Lib.hid hr5
      have HF5 := Lib.hid (HF.out.saves hs5 (by omega) (by omega))
      have HK5 := Lib.hid (hs5 _ _ _ (by omega) (by omega) HK.out)
      have HB5 := Lib.hid (HB.out.trans hb5)
      clear hl5 hr5 hs5 hb5
      go_wp2
      go_roundw
      case rel =>
        refine ⟨k + 1, Cm.gstep s t f, by go_num, by omega, HB5, ?_, HR5, HL5, HF5, HK5⟩
        show _ = _
        rw [List.take_add_one, HFK.out, List.foldl_append, ← HT.out]
        rfl
      case measure => simp [intOf]; omega
    · have hlt' : ¬ (k : Int) < (fs.length : Int) := by omega
      have ht := HT.out
      rw [List.take_of_length_le (by omega), HFS.out, ← HG.out] at ht
      have HT2 := Lib.hid ht
      clear ht
      have p0 : wr.cell? ⟨w2.heap.size, 0, none⟩ = some (.int .i64 t.1.kind) := HL.out.cell 0 _ rfl
      have p1 : wr.cell? ⟨w2.heap.size, 1, none⟩ = some (.int .i64 t.1.client) := HL.out.cell 1 _ rfl
      have p2 : wr.cell? ⟨w2.heap.size, 2, none⟩ = some (.int .i64 t.1.seq) := HL.out.cell 2 _ rfl
      have p3 : wr.cell? ⟨w2.heap.size, 3, none⟩ = some (.string ⟨t.1.key.toArray⟩) := HL.out.cell 3 _ rfl
      have p4 : wr.cell? ⟨w2.heap.size, 4, none⟩ = some (.string ⟨t.1.val.toArray⟩) := HL.out.cell 4 _ rfl
      have p5 : wr.cell? ⟨w2.heap.size, 5, none⟩ = some (.string ⟨t.1.old.toArray⟩) := HL.out.cell 5 _ rfl
      have p6 : wr.cell? ⟨w2.heap.size, 6, none⟩ = some (.int .i64 t.1.node) := HL.out.cell 6 _ rfl
      go_wp2_with (first
        | (refine store_cmd (by rfl) _ _ (by rfl) w.heap.size Cm.zero t.1 (by rfl) (by rfl) HK.out ?_; intro w6 hl6 hg6))
      refine ret_cmd1 rfl rfl hl6 rfl ?_
      rw [← HT2.out]
      exact ⟨rfl, HR.out.beside' hg6 (by omega) (fun h => HK.out.not_row (by decide) HR.out.owns h.symm), HB.out.grown hg6 (Nat.le_trans hB HB.out.size) (by rintro j hj; cases hj; exact hB)⟩

theorem Cm.checkIn_may {v : Int} {c : Cm.Cmd} (h : Cm.checkIn v c = 0) : Vs.may v = true := by
  unfold Cm.checkIn at h
  cases hm : Vs.may v with
  | true => rfl
  | false => rw [if_pos hm] at h; omega
theorem Cm.bytes_len (v : Int) (c : Cm.Cmd) (hf : c.Fits) (hs : c.Short 1000) : (Cm.bytes v c).length ≤ 6000 := by
  have h1 := enc_nine (n := c.kind.toNat) (by have := hf.k1; omega)
  have h2 := Cm.flat_len c hf hs (Cm.encoded v c.kind)
  have h3 := Cm.encoded_len v c.kind
  unfold Cm.bytes
  rw [List.length_append]
  omega

/-- What an encoding gives. -/
def Encd (w : World) (v : Int) (c : Cm.Cmd) (e : Ending) (w' : World) : Prop :=
  Below w.heap.size w w' ∧ ∃ u, e = .returned (.tuple #[u, .int .i64 (Cm.checkIn v c)]) ∧ Reads w' u (if Cm.checkIn v c = 0 then Cm.bytes v c else [])

set_option maxRecDepth 4000 in
set_option maxHeartbeats 1600000 in
theorem encode_any (v : Int) (c : Cm.Cmd) (w : World) (hv : WordsIn w) (hf : c.Fits) (hs : c.Short 1000) :
    Calls Tryd.prog 13 #[.int .i64 v, .agg (Cm.cells c)] w (Encd w v c) := by
  have hs2 : c.Short 140737488355328 := ⟨by have := hs.1; omega, by have := hs.2.1; omega, by have := hs.2.2; omega⟩
  obtain ⟨w1, e1, hl1, hB1, hz1⟩ := box_cmd w c
  have p0 : w1.cell? ⟨w.heap.size, 0, none⟩ = some (.int .i64 c.kind) := hl1.cell 0 _ rfl
  have p1 : w1.cell? ⟨w.heap.size, 1, none⟩ = some (.int .i64 c.client) := hl1.cell 1 _ rfl
  have p2 : w1.cell? ⟨w.heap.size, 2, none⟩ = some (.int .i64 c.seq) := hl1.cell 2 _ rfl
  have p3 : w1.cell? ⟨w.heap.size, 3, none⟩ = some (.string ⟨c.key.toArray⟩) := hl1.cell 3 _ rfl
  have p4 : w1.cell? ⟨w.heap.size, 4, none⟩ = some (.string ⟨c.val.toArray⟩) := hl1.cell 4 _ rfl
  have p5 : w1.cell? ⟨w.heap.size, 5, none⟩ = some (.string ⟨c.old.toArray⟩) := hl1.cell 5 _ rfl
  have p6 : w1.cell? ⟨w.heap.size, 6, none⟩ = some (.int .i64 c.node) := hl1.cell 6 _ rfl
  have HL1 := Lib.hid hl1; have HB1 := Lib.hid hB1
  have HV1 := Lib.hid (hv.below hB1)
  clear hl1 hB1 hz1 hv
  obtain ⟨z, hz⟩ : ∃ z, z = Cm.checkIn v c := ⟨_, rfl⟩
  have HZ := Lib.hid hz
  unfold Encd
  rw [← hz]
  clear hz
  go_enter Tryd.func13, Tryd.ntmps13
  go_wp2_with fail
  refine (checkIn_any v c _ HV1.out hs2).mono ?_
  rintro e w3 ⟨rfl, hB3⟩
  rw [← HZ.out]
  have hl3 := HL1.out.below hB3 HL1.out.lt
  have HB3 := Lib.hid (HB1.out.trans (hB3.mono HB1.out.size))
  by_cases h0 : z = 0
  · subst h0
    have hm := Cm.checkIn_may HZ.out.symm
    have HLEN := Lib.hid (Cm.bytes_len v c hf hs)
    obtain ⟨w4, e4, hw4, hB4⟩ : ∃ w4, w3.alloc (.cells #[.slice none 0 0] 42) = w4 ∧ Wrt w4 w.heap.size w3.heap.size (.slice none 0 0) [] ∧ Below w3.heap.size w3 w4 :=
      ⟨_, rfl, Wr.fresh _ _ _ _ HB3.out.size, (Below.refl _ _).alloc (Nat.le_refl _) _⟩
    have hl4 := hl3.below hB4 hl3.lt
    have q0 : w4.cell? ⟨w.heap.size, 0, none⟩ = some (.int .i64 c.kind) := hl4.cell 0 _ rfl
    have q1 : w4.cell? ⟨w.heap.size, 1, none⟩ = some (.int .i64 c.client) := hl4.cell 1 _ rfl
    have q2 : w4.cell? ⟨w.heap.size, 2, none⟩ = some (.int .i64 c.seq) := hl4.cell 2 _ rfl
    have q3 : w4.cell? ⟨w.heap.size, 3, none⟩ = some (.string ⟨c.key.toArray⟩) := hl4.cell 3 _ rfl
    have q4 : w4.cell? ⟨w.heap.size, 4, none⟩ = some (.string ⟨c.val.toArray⟩) := hl4.cell 4 _ rfl
    have q5 : w4.cell? ⟨w.heap.size, 5, none⟩ = some (.string ⟨c.old.toArray⟩) := hl4.cell 5 _ rfl
    have q6 : w4.cell? ⟨w.heap.size, 6, none⟩ = some (.int .i64 c.node) := hl4.cell 6 _ rfl
    have HW4 := Lib.hid hw4
    have HB4 := Lib.hid (HB3.out.trans (hB4.mono HB3.out.size))
    clear hl3 hB3 hw4 hB4 hl4
    go_wp2_with fail
    refine (cput_any v c _ w.heap.size w3.heap.size _ hm HW4.out HB4.out.size hf hs).mono ?_
    rintro e5 w5 ⟨rfl, u5, hw5, _, hb5⟩
    have HB5 := Lib.hid (HB4.out.trans hb5)
    have HW5 := Lib.hid hw5
    clear hw5 hb5
    go_wp2_with fail
    refine (wbytes_any _ w.heap.size w3.heap.size u5 _ HW5.out (by have := HLEN.out; omega)).mono ?_
    rintro e6 w6 ⟨u6, rfl, ho6, hb6⟩
    go_wp2
    go_ret2
    exact ⟨HB5.out.trans (hb6.mono HB5.out.size), u6, rfl, ho6.reads⟩
  · have hne : (z != 0) = true := by simpa using h0
    clear hl3 hB3
    go_wp2
    go_ret2
    exact ⟨HB3.out, _, rfl, Reads.empty _⟩

theorem Cm.gstep_inv (b : List UInt8) (t : Cm.Cmd × Nat × Int) (f : Cm.F) (hp : t.2.1 ≤ b.length) (hs : t.1.Short b.length) (hf : t.1.Fits) : (Cm.gstep b t f).2.1 ≤ b.length ∧ (Cm.gstep b t f).1.Short b.length ∧ (Cm.gstep b t f).1.Fits := by
  obtain ⟨c, p, er⟩ := t
  dsimp only at hp hs hf
  unfold Cm.gstep
  cases h : f.num with
  | true =>
    rw [if_pos rfl]
    dsimp only
    rcases Cm.rnum_cases b p er with ⟨e, _, hn⟩ | ⟨n, q, _, _, hq, hb, hn, _⟩
    · rw [hn]; exact ⟨by simpa using hp, hs.setN f _, hf.setN f (by omega) (by omega)⟩
    · rw [hn]; exact ⟨by simpa using hq, hs.setN f _, hf.setN f (by simp only; omega) (by simp only; omega)⟩
  | false =>
    rw [if_neg (by simp)]
    dsimp only
    rcases Cm.rtxt_cases b p er hp with ⟨e, q, _, hq, hn⟩ | ⟨s, q, _, _, hq, hl, hn, _⟩
    · rw [hn]; exact ⟨by simpa using hq, hs.setS f (by simp), hf.setS f _⟩
    · rw [hn]; exact ⟨by simpa using hq, hs.setS f hl, hf.setS f _⟩
theorem Cm.fold_inv (b : List UInt8) : ∀ (fs : List Cm.F) (t : Cm.Cmd × Nat × Int), t.2.1 ≤ b.length → t.1.Short b.length → t.1.Fits → (fs.foldl (Cm.gstep b) t).2.1 ≤ b.length ∧ (fs.foldl (Cm.gstep b) t).1.Short b.length ∧ (fs.foldl (Cm.gstep b) t).1.Fits := by
  intro fs
  induction fs with
  | nil => intro t h1 h2 h3; exact ⟨h1, h2, h3⟩
  | cons f fs ih =>
    intro t h1 h2 h3
    obtain ⟨h4, h5, h6⟩ := Cm.gstep_inv b t f h1 h2 h3
    exact ih _ h4 h5 h6
theorem Cm.get_inv (v : Int) (b : List UInt8) : (Cm.get v b 0 0).2.1 ≤ b.length ∧ (Cm.get v b 0 0).1.Short b.length ∧ (Cm.get v b 0 0).1.Fits := by
  unfold Cm.get
  have hS : ∀ n, (Cm.bareOf n).Short b.length := fun n => ⟨by simp [Cm.bareOf], by simp [Cm.bareOf], by simp [Cm.bareOf]⟩
  rcases Cm.rnum_cases b 0 0 with ⟨e, _, hn⟩ | ⟨n, q, _, _, hq, hb, hn, _⟩
  · rw [hn]
    exact Cm.fold_inv b _ _ (by simp) (hS _) (by constructor <;> simp [Cm.bareOf])
  · rw [hn]
    exact Cm.fold_inv b _ _ (by simpa using hq) (hS _) (by constructor <;> simp [Cm.bareOf] <;> omega)

/-- What a decoding gives. -/
def Decd (w : World) (r : Cm.Cmd × Int) (e : Ending) (w' : World) : Prop := e = .returned (.tuple #[.agg (Cm.cells r.1), .int .i64 r.2]) ∧ Below w.heap.size w w'

set_option maxRecDepth 4000 in
set_option maxHeartbeats 1600000 in
theorem decode_any (v : Int) (u : Value) (s : List UInt8) (w : World) (hv : WordsIn w) (hu : Reads w u s) (hb : s.length ≤ 100000) :
    Calls Tryd.prog 15 #[.int .i64 v, u] w (Decd w (Cm.decode v s)) := by
  obtain ⟨w1, e1, hl1, hB1, hz1⟩ := box_cmd w Cm.zero
  dsimp only [Cm.cells, Cm.zero, Cm.bareOf] at e1
  have HL1 := Lib.hid hl1; have HB1 := Lib.hid hB1
  have HV0 := Lib.hid hv
  have HU1 := Lib.hid (hu.below hB1)
  have hz1' : w.heap.size + 1 = w1.heap.size := hz1.symm
  clear hl1 hB1 hz1 hv hu
  obtain ⟨r, hr⟩ : ∃ r, r = Cm.decode v s := ⟨_, rfl⟩
  rw [← hr]
  unfold Cm.decode at hr
  have HRES := Lib.hid hr
  clear hr
  go_enter Tryd.func15, Tryd.ntmps15
  go_wp2_with fail
  refine (may_any v _).mono ?_
  rintro e w2 ⟨rfl, rfl⟩
  cases hm : Vs.may v with
  | false =>
    have HZ : Hid (r = (Cm.zero, 8)) := by show _ = _; rw [HRES.out, if_pos hm]
    go_wp2_with (refine store_cmd (by rfl) _ _ (by rfl) w.heap.size Cm.zero Cm.zero (by rfl) (by rfl) HL1.out ?_; intro w6 hl6 hg6)
    refine ret_cmd2 rfl rfl hl6 rfl ?_
    rw [HZ.out]
    exact ⟨rfl, HB1.out.grown hg6 (by omega) (by rintro j hj; cases hj; exact Nat.le_refl _)⟩
  | true =>
    have HRES1 := Lib.hid (HRES.out.trans (if_neg (by rw [hm]; simp)))
    go_wp2_with fail
    refine (newreader_any u s _ w1.heap.size (Nat.le_refl _) HU1.out (by omega)).mono ?_
    rintro e2 w2 ⟨o, rv, rfl, ho, hr2, hB2⟩
    have HL2 := Lib.hid (HL1.out.below hB2 HL1.out.lt)
    have HB2 := Lib.hid (HB1.out.trans (hB2.mono HB1.out.size))
    have HR2 := Lib.hid hr2
    have hz2 : w1.heap.size ≤ w2.heap.size := hB2.size
    clear hr2 hB2
    go_wp2_with fail
    refine (cget_any v _ w1.heap.size o rv s 0 0 hm HR2.out hz2).mono ?_
    rintro e3 w3 ⟨rfl, hr3, hB3⟩
    have hinv := Cm.get_inv v s
    obtain ⟨t, ht⟩ : ∃ t, t = Cm.get v s 0 0 := ⟨_, rfl⟩
    rw [← ht] at hr3 hinv ⊢
    have HRES2 : Hid (r = if Cm.done s t.2.1 t.2.2 ≠ 0 then (Cm.zero, Cm.done s t.2.1 t.2.2) else if Cm.checkIn v t.1 ≠ 0 then (Cm.zero, Cm.checkIn v t.1) else (t.1, 0)) := by
      show _ = _
      rw [ht]; exact HRES1.out
    have HL3 := Lib.hid (HL2.out.below hB3 (by omega))
    have HR3 := Lib.hid hr3
    have hz3 : w2.heap.size ≤ w3.heap.size := hB3.size
    have HB3 := Lib.hid (HB2.out.trans (hB3.mono (by omega)))
    clear hr3 hB3 ht
    have hz3' : w.heap.size ≤ w3.heap.size := HB3.out.size
    go_wp2_with (refine store_cmd (by rfl) _ _ (by rfl) w3.heap.size Cm.zero t.1 (by rfl) (by rfl) (Lies.new _ _ _) ?_; intro w4 hl4 hg4)
    have hB4 : Below w3.heap.size w3 w4 := ((Below.refl _ w3).alloc (Nat.le_refl _) _).grown hg4 (by simp) (by rintro j hj; cases hj; exact Nat.le_refl _)
    have HR4 := Lib.hid (HR3.out.kept hB4)
    have HL4 := Lib.hid (HL3.out.below hB4 HL3.out.lt)
    have HB4 := Lib.hid (HB3.out.trans (hB4.mono (by omega)))
    have HC4 := Lib.hid hl4
    clear hl4 hg4 hB4
    go_wp2_with fail
    refine (rdone_any _ w1.heap.size o rv s t.2.1 t.2.2 HR4.out).mono ?_
    rintro e5 w5 ⟨rfl, q5, hq5⟩
    have hB5 : Below w4.heap.size w4 w5 := by rw [hq5]; exact drawn _ _
    have hl5 := HC4.out.below hB5 HC4.out.lt
    have p0 : w5.cell? ⟨w3.heap.size, 0, none⟩ = some (.int .i64 t.1.kind) := hl5.cell 0 _ rfl
    have p1 : w5.cell? ⟨w3.heap.size, 1, none⟩ = some (.int .i64 t.1.client) := hl5.cell 1 _ rfl
    have p2 : w5.cell? ⟨w3.heap.size, 2, none⟩ = some (.int .i64 t.1.seq) := hl5.cell 2 _ rfl
    have p3 : w5.cell? ⟨w3.heap.size, 3, none⟩ = some (.string ⟨t.1.key.toArray⟩) := hl5.cell 3 _ rfl
    have p4 : w5.cell? ⟨w3.heap.size, 4, none⟩ = some (.string ⟨t.1.val.toArray⟩) := hl5.cell 4 _ rfl
    have p5 : w5.cell? ⟨w3.heap.size, 5, none⟩ = some (.string ⟨t.1.old.toArray⟩) := hl5.cell 5 _ rfl
    have p6 : w5.cell? ⟨w3.heap.size, 6, none⟩ = some (.int .i64 t.1.node) := hl5.cell 6 _ rfl
    have HL5 := Lib.hid (HL4.out.below hB5 HL4.out.lt)
    have HB5 := Lib.hid (HB4.out.trans (hB5.mono HB4.out.size))
    have HC5 := Lib.hid hl5
    clear hB5 hq5 hl5
    obtain ⟨z, hz⟩ : ∃ z, z = Cm.done s t.2.1 t.2.2 := ⟨_, rfl⟩
    rw [show Pk.done s t.2.1 t.2.2 = z from hz.symm]
    have HRES3 : Hid (r = if z ≠ 0 then (Cm.zero, z) else if Cm.checkIn v t.1 ≠ 0 then (Cm.zero, Cm.checkIn v t.1) else (t.1, 0)) := by show _ = _; rw [hz]; exact HRES2.out
    clear hz
    by_cases h0 : z = 0
    · subst h0
      have HRES4 := Lib.hid (HRES3.out.trans (if_neg (by simp)))
      have hsh : t.1.Short 140737488355328 := by
        obtain ⟨_, ⟨h1, h2, h3⟩, _⟩ := hinv
        exact ⟨by omega, by omega, by omega⟩
      go_wp2_with fail
      refine (checkIn_any v t.1 _ (HV0.out.below HB5.out) hsh).mono ?_
      rintro e6 w6 ⟨rfl, hB6⟩
      have HL6 := Lib.hid (HL5.out.below hB6 HL5.out.lt)
      have HB6 := Lib.hid (HB5.out.trans (hB6.mono HB5.out.size))
      have hl6 := HC5.out.below hB6 HC5.out.lt
      have q0 : w6.cell? ⟨w3.heap.size, 0, none⟩ = some (.int .i64 t.1.kind) := hl6.cell 0 _ rfl
      have q1 : w6.cell? ⟨w3.heap.size, 1, none⟩ = some (.int .i64 t.1.client) := hl6.cell 1 _ rfl
      have q2 : w6.cell? ⟨w3.heap.size, 2, none⟩ = some (.int .i64 t.1.seq) := hl6.cell 2 _ rfl
      have q3 : w6.cell? ⟨w3.heap.size, 3, none⟩ = some (.string ⟨t.1.key.toArray⟩) := hl6.cell 3 _ rfl
      have q4 : w6.cell? ⟨w3.heap.size, 4, none⟩ = some (.string ⟨t.1.val.toArray⟩) := hl6.cell 4 _ rfl
      have q5 : w6.cell? ⟨w3.heap.size, 5, none⟩ = some (.string ⟨t.1.old.toArray⟩) := hl6.cell 5 _ rfl
      have q6 : w6.cell? ⟨w3.heap.size, 6, none⟩ = some (.int .i64 t.1.node) := hl6.cell 6 _ rfl
      clear hB6 hl6
      obtain ⟨y, hy⟩ : ∃ y, y = Cm.checkIn v t.1 := ⟨_, rfl⟩
      rw [← hy]
      have HRES5 : Hid (r = if y ≠ 0 then (Cm.zero, y) else (t.1, 0)) := by show _ = _; rw [hy]; exact HRES4.out
      clear hy
      by_cases hy0 : y = 0
      · subst hy0
        have HZ : Hid (r = (t.1, 0)) := by show _ = _; rw [HRES5.out, if_neg (by simp)]
        go_wp2_with (refine store_cmd (by rfl) _ _ (by rfl) w.heap.size Cm.zero t.1 (by rfl) (by rfl) HL6.out ?_; intro w7 hl7 hg7)
        refine ret_cmd2 rfl rfl hl7 rfl ?_
        rw [HZ.out]
        exact ⟨rfl, HB6.out.grown hg7 HB6.out.size (by rintro j hj; cases hj; exact Nat.le_refl _)⟩
      · have hne : (y != 0) = true := by simpa using hy0
        have HZ : Hid (r = (Cm.zero, y)) := by show _ = _; rw [HRES5.out, if_pos hy0]
        go_wp2_with (refine store_cmd (by rfl) _ _ (by rfl) w.heap.size Cm.zero Cm.zero (by rfl) (by rfl) HL6.out ?_; intro w7 hl7 hg7)
        refine ret_cmd2 rfl rfl hl7 rfl ?_
        rw [HZ.out]
        exact ⟨rfl, HB6.out.grown hg7 HB6.out.size (by rintro j hj; cases hj; exact Nat.le_refl _)⟩
    · have hne : (z != 0) = true := by simpa using h0
      have heq : (z == 0) = false := by simpa using h0
      have HZ : Hid (r = (Cm.zero, z)) := by show _ = _; rw [HRES3.out, if_pos h0]
      go_wp2_with (refine store_cmd (by rfl) _ _ (by rfl) w.heap.size Cm.zero Cm.zero (by rfl) (by rfl) HL5.out ?_; intro w7 hl7 hg7)
      refine ret_cmd2 rfl rfl hl7 rfl ?_
      rw [HZ.out]
      exact ⟨rfl, HB5.out.grown hg7 HB5.out.size (by rintro j hj; cases hj; exact Nat.le_refl _)⟩

end Go.Proofs.YteaebmgnofmemaaDoor
