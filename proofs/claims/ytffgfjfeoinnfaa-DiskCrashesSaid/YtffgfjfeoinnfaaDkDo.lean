/- The document's disk: a step. Written by a program. -/
import Derived.Test.YtffgfjfeoinnfaaDkAll
import Derived.Test.YtffgfjfeoinnfaaDkCrash
namespace Go.Proofs.Ytffgfjfeoinnfaa
open Go.RowKit

/-- The document's disk in block x, in blocks of which A speaks; base: where the law's own blocks begin. -/
structure RefP (A : Nat → Prop) (base : Nat) (w : World) (x : Nat) (fv bv : Value) (F : Dk.Files) (B : List Dk.Op) : Prop where
  lies : Lies w x 31 #[fv, bv]
  here : A x ∧ base ≤ x
  old : ∀ k, k < base → A k
  files : FilesP (fun k t => A k ∧ t ≠ 53 ∧ t ≠ 31) w fv F
  ops : OpsO (fun k _ => k < base) w base bv B
  row : ∀ g, bv.ownBlock = some g → A g
def RefAt (A : Nat → Prop) (base : Nat) (w : World) (x : Nat) (F : Dk.Files) (B : List Dk.Op) : Prop := ∃ fv bv, RefP A base w x fv bv F B
section
variable {A A' : Nat → Prop} {base : Nat} {w w' : World} {x : Nat} {fv bv : Value} {F : Dk.Files} {B : List Dk.Op}
theorem RefP.keep (h : RefP A base w x fv bv F B) (hk : Kp (fun k _ => A k) w w') : RefP A base w' x fv bv F B := by
  refine ⟨hk.lies h.lies fun _ => h.here.1, h.here, h.old, h.files.keep (hk.keep fun _ _ _ _ _ hp => hp.1), h.ops.stays (fun g e => ?_) (hk.keep fun k _ _ _ _ hp => h.old k hp), h.row⟩
  obtain ⟨cs, hc, _⟩ := h.ops.blocks e
  exact hk.block (lt_of_obj hc) fun _ => h.row g e
theorem RefP.imp (h : RefP A base w x fv bv F B) (hb : base ≤ w.heap.size) (ha : ∀ k, k < w.heap.size → A k → A' k) : RefP A' base w x fv bv F B := by
  refine ⟨h.lies, ⟨ha _ h.lies.lt h.here.1, h.here.2⟩, fun k hk => ha k (by omega) (h.old k hk), h.files.imp fun k _ _ _ e hp => ⟨ha k (lt_of_obj e) hp.1, hp.2⟩, h.ops, fun g e => ?_⟩
  obtain ⟨cs, hc, _⟩ := h.ops.blocks e
  exact ha g (lt_of_obj hc) (h.row g e)
theorem RefP.reads (h : RefP A base w x fv bv F B) : OpsP (fun k _ => A k) w bv B :=
  ListO.reads (ListO.imp h.ops fun k _ _ _ _ hp => h.old k hp) Dk.cellO_ok fun g e => h.row g e
theorem RefAt.keep (h : RefAt A base w x F B) (hk : Kp (fun k _ => A k) w w') : RefAt A base w' x F B := by obtain ⟨fv, bv, h⟩ := h; exact ⟨fv, bv, h.keep hk⟩
theorem RefAt.imp (h : RefAt A base w x F B) (hb : base ≤ w.heap.size) (ha : ∀ k, k < w.heap.size → A k → A' k) : RefAt A' base w x F B := by obtain ⟨fv, bv, h⟩ := h; exact ⟨fv, bv, h.imp hb ha⟩
end
/-- What a step leaves. -/
def Did (A : Nat → Prop) (base : Nat) (w : World) (x : Nat) (Y : Dk.Files × List Dk.Op) (e : Ending) (w' : World) : Prop :=
  e = .returned (.tuple #[]) ∧ RefAt (fun k => A k ∨ w.heap.size ≤ k) base w' x Y.1 Y.2 ∧ Kp (fun k _ => ¬ A k ∨ k < base) w w'
set_option maxRecDepth 8000 in
set_option maxHeartbeats 3200000 in
theorem do_none {A : Nat → Prop} {base : Nat} {w : World} {x : Nat} {fv bv : Value} {F : Dk.Files} {B : List Dk.Op} (h : RefP A base w x fv bv F B) (hbase : base ≤ w.heap.size) (k : Int) (n z : Int) (dv : Value) (data : List UInt8) (hd : ReadsP (fun k _ => k < base) w dv data) (h4 : k ≠ 4) (h5 : k ≠ 5) (hk : ¬ (1 ≤ k ∧ k ≤ 3 ∧ 1 ≤ n ∧ n ≤ 4294967296)) : Calls Try.prog 10 #[.pointer (some ⟨x, 0, none⟩), .agg #[.int .i64 k, .int .i64 n, .int .i64 z, dv]] w (Did A base w x (F, B)) := by
  obtain ⟨so, sc, rfl⟩ := hd.1.shape
  obtain ⟨w1, hw1⟩ : ∃ w1, w.alloc (.cells #[.int .i64 k, .int .i64 n, .int .i64 z, .slice so data.length sc] 35) = w1 := ⟨_, rfl⟩
  have hb1 : Below w.heap.size w w1 := by rw [← hw1]; exact (Below.refl _ w).alloc (Nat.le_refl _) _
  have hL1 : Lies w1 w.heap.size 35 #[.int .i64 k, .int .i64 n, .int .i64 z, .slice so data.length sc] := by rw [← hw1]; exact Lies.new w _ _
  have h1 := h.keep (Kp.all hb1)
  have hs1 : w1.heap.size = w.heap.size + 1 := by rw [← hw1]; simp
  have c0 : w1.cell? ⟨w.heap.size, 0, none⟩ = some (.int .i64 k) := hL1.cell 0 _ rfl
  have c1 : w1.cell? ⟨w.heap.size, 1, none⟩ = some (.int .i64 n) := hL1.cell 1 _ rfl
  have c2 : w1.cell? ⟨w.heap.size, 2, none⟩ = some (.int .i64 z) := hL1.cell 2 _ rfl
  have c3 : w1.cell? ⟨w.heap.size, 3, none⟩ = some (.slice so data.length sc) := hL1.cell 3 _ rfl
  have HE : Hid (Did A base w x (F, B) (.returned (.tuple #[])) w1) := ⟨rfl, ⟨fv, bv, h1.imp (by omega) fun k _ hk => .inl hk⟩, Kp.all hb1⟩
  have hb4 : (k == 4) = false := by simpa using h4
  have hb5 : (k != 5) = true := by simpa using h5
  clear hL1 h1 hb1 hs1 h hd h4 h5
  by_cases g1 : 1 ≤ k
  · by_cases g2 : k ≤ 3
    · by_cases g3 : 1 ≤ n
      · have g4 : ¬ n ≤ 4294967296 := fun e => hk ⟨g1, g2, g3, e⟩
        clear hk
        go_enter Try.func10, Try.ntmps10
        go_wp2
        go_end0
        exact HE.out
      · clear hk
        go_enter Try.func10, Try.ntmps10
        go_wp2
        go_end0
        exact HE.out
    · clear hk
      go_enter Try.func10, Try.ntmps10
      go_wp2
      go_end0
      exact HE.out
  · clear hk
    go_enter Try.func10, Try.ntmps10
    go_wp2
    go_end0
    exact HE.out

/-- One more is buffered. w2: the operation is laid in a block of its own; w5: appended; w6: stored. -/
theorem RefP.held {A : Nat → Prop} {base : Nat} {w w4 w5 w6 : World} {x : Nat} {fv bv bv' : Value} {F : Dk.Files} {B : List Dk.Op} (h : RefP A base w x fv bv F B) (o : Dk.Op) (hb4 : Below w.heap.size w w4)
    (ho5 : OpsO (fun k _ => k < base) w5 base bv' (B ++ [o])) (hg5 : w4.grownBy w5 bv.ownBlock) (ha5 : bv'.ownBlock = bv.ownBlock ∨ bv'.ownBlock = some w4.heap.size) (hl6 : Lies w6 x 31 #[fv, bv']) (hg6 : w5.grownBy w6 (some x)) :
    RefAt (fun k => A k ∨ w.heap.size ≤ k) base w6 x F (B ++ [o]) ∧ Kp (fun k _ => ¬ A k ∨ k < base) w w6 := by
  have hs4 := hb4.size
  have hrow : ∀ g, bv.ownBlock = some g → ∃ cs, w.heap[g]? = some (.cells cs 53 (0, 0)) ∧ base ≤ g := fun g e => h.ops.blocks e
  have hk : Kp (fun k _ => k ≠ x ∧ bv.ownBlock ≠ some k) w w6 := (Kp.all hb4).trans ((Kp.of_grown hg5 fun j _ e _ hq => hq.2 e).trans (Kp.of_grown hg6 fun j _ e _ hq => hq.1 (by simpa using e.symm)))
  have hx5 : ∀ g, bv'.ownBlock = some g → g ≠ x := fun g e e' => by
    subst e'
    obtain ⟨cs, hc, _⟩ := ho5.blocks e
    have hl := h.lies
    have h4 : w4.heap[g]? = some (.cells #[fv, bv] 31 (0, 0)) := (hb4.block g hl.lt).trans hl
    have hne : some g ≠ bv.ownBlock := fun e2 => by
      obtain ⟨cs', hc', _⟩ := hrow g e2.symm
      rw [show w.heap[g]? = _ from hl] at hc'
      cases hc'
    have h5 := (hg5.block g (lt_of_obj h4) hne).trans h4
    rw [h5] at hc
    cases hc
  refine ⟨⟨fv, bv', hl6, ⟨.inl h.here.1, h.here.2⟩, fun k hk => .inl (h.old k hk), ?_, ho5.stays (fun g e => ?_) (Keep.of_grown hg6 fun g cs t fr e _ hp => ?_), fun g e => ?_⟩, hk.imp fun j o' hj hq => ⟨fun e => ?_, fun e => ?_⟩⟩
  · refine (h.files.keep (hk.keep fun k cs t fr e hp => ⟨fun e' => ?_, fun e' => ?_⟩)).imp fun k _ t _ _ hp => ⟨.inl hp.1, hp.2⟩
    · subst e'
      rw [show w.heap[k]? = _ from h.lies] at e
      cases e
      exact hp.2.2 rfl
    · obtain ⟨cs', hc', _⟩ := hrow k e'
      rw [e] at hc'
      cases hc'
      exact hp.2.1 rfl
  · obtain ⟨cs, hc, _⟩ := ho5.blocks e
    exact hg6.block g (lt_of_obj hc) fun e' => hx5 g e (by simpa using e')
  · simp only [Option.some.injEq] at e
    subst e
    have := h.here.2
    omega
  · rcases ha5 with e' | e'
    · exact .inl (h.row g (e' ▸ e))
    · rw [e'] at e
      simp only [Option.some.injEq] at e
      right; omega
  · subst e
    rcases hq with hq | hq
    · exact hq h.here.1
    · have := h.here.2; omega
  · rcases hq with hq | hq
    · exact hq (h.row j e)
    · obtain ⟨_, _, hb⟩ := hrow j e; omega
theorem ListO.row {α : Type} {k : Nat} {cells : α → Value → Array Value} {bytes : α → List UInt8} {p : Nat → TypeId → Prop} {w : World} {base : Nat} {E : TypeId} {v : Value} {l : List α} (h : ListO k cells bytes p w base E v l) : ∃ (n : Nat) (xs : List Value), w.ownsRow base E k v n xs := by
  obtain ⟨ps, _, h1, _⟩ := h
  exact ⟨_, _, h1⟩
theorem Lies.not_ops {w : World} {o : Nat} {vs : Array Value} {t e : TypeId} (h : Lies w o t vs) (hte : t ≠ e) {α : Type} {k : Nat} {cells : α → Value → Array Value} {bytes : α → List UInt8} {p : Nat → TypeId → Prop} {base : Nat} {v : Value} {l : List α} (hr : ListO k cells bytes p w base e v l) : some o ≠ v.ownBlock := by
  obtain ⟨n, xs, h1⟩ := hr.row
  exact h.not_row hte h1
set_option maxRecDepth 8000 in
set_option maxHeartbeats 3200000 in
theorem do_take1 {A : Nat → Prop} {base : Nat} {w : World} {x : Nat} {fv bv : Value} {F : Dk.Files} {B : List Dk.Op} (h : RefP A base w x fv bv F B) (hbase : base ≤ w.heap.size) (n z : Int) (dv : Value) (data : List UInt8) (hd : ReadsP (fun k _ => k < base) w dv data) (hn : 1 ≤ n) (hn2 : n ≤ 4294967296) (hl : B.length ≤ 1099511627776) : Calls Try.prog 10 #[.pointer (some ⟨x, 0, none⟩), .agg #[.int .i64 1, .int .i64 n, .int .i64 z, dv]] w (Did A base w x (F, B ++ [⟨1, n, []⟩])) := by
  have hdn : ReadsP (fun k _ => k < base) w (.slice none 0 0) [] := ReadsP.none _ _
  obtain ⟨so, sc, rfl⟩ := hd.1.shape
  obtain ⟨w1, hw1⟩ : ∃ w1, w.alloc (.cells #[.int .i64 1, .int .i64 n, .int .i64 z, .slice so data.length sc] 35) = w1 := ⟨_, rfl⟩
  have hb1 : Below w.heap.size w w1 := by rw [← hw1]; exact (Below.refl _ w).alloc (Nat.le_refl _) _
  have hL1 : Lies w1 w.heap.size 35 #[.int .i64 1, .int .i64 n, .int .i64 z, .slice so data.length sc] := by rw [← hw1]; exact Lies.new w _ _
  have h1 := h.keep (Kp.all hb1)
  have hs1 : w1.heap.size = w.heap.size + 1 := by rw [← hw1]; simp
  have c0 : w1.cell? ⟨w.heap.size, 0, none⟩ = some (.int .i64 1) := hL1.cell 0 _ rfl
  have c1 : w1.cell? ⟨w.heap.size, 1, none⟩ = some (.int .i64 n) := hL1.cell 1 _ rfl
  have c2 : w1.cell? ⟨w.heap.size, 2, none⟩ = some (.int .i64 z) := hL1.cell 2 _ rfl
  have c3 : w1.cell? ⟨w.heap.size, 3, none⟩ = some (.slice so data.length sc) := hL1.cell 3 _ rfl
  obtain ⟨bo, bc, rfl⟩ : ∃ ao cap, bv = .slice ao B.length cap := by obtain ⟨a, c, e, _⟩ := h.reads.shape; exact ⟨a, c, e⟩
  obtain ⟨m, hm⟩ : ∃ m, m = B.length := ⟨_, rfl⟩
  have H := Lib.hid h; have HB1 := Lib.hid hb1; have HL1 := Lib.hid hL1; have H1 := Lib.hid h1; have HS1 := Lib.hid hs1; have HD := Lib.hid hdn; have HL := Lib.hid hl; have HBS := Lib.hid hbase; have HM := Lib.hid hm
  rw [← hm] at H H1
  clear h hb1 hL1 h1 hs1 hd hm hl hbase hdn
  go_enter Try.func10, Try.ntmps10
  go_wp2_with (refine store_part rfl 53 _ _ rfl w1.heap.size 0 53 #[.int .i64 0, .int .i64 0, .slice none 0 0] #[.int .i64 1, .int .i64 n, .slice none 0 0] (.agg #[.int .i64 1, .int .i64 n, .slice none 0 0]) [.int .i64 1, .int .i64 n, .slice none 0 0] rfl rfl rfl (by kernel_rfl) rfl (Lies.new w1 53 #[.int .i64 0, .int .i64 0, .slice none 0 0]) (Nat.le_of_ble_eq_true rfl) rfl ?_; intro w2 hl2 hg2; have HB2 := Lib.hid (fresh_below hg2); have HL2 := Lib.hid hl2; have d0 : w2.cell? ⟨w.heap.size, 0, none⟩ = some (.int .i64 1) := (HL1.out.below HB2.out HL1.out.lt).cell 0 _ rfl; have d3 : w2.cell? ⟨w.heap.size, 3, none⟩ = some (.slice so data.length sc) := (HL1.out.below HB2.out HL1.out.lt).cell 3 _ rfl; clear hl2 hg2)
  obtain ⟨w3, hw3⟩ : ∃ w3, w3 = w2 := ⟨_, rfl⟩
  rw [← hw3] at HL2 HB2 d0 d3 ⊢
  have HL3 := HL2; have HB3 := HB2
  clear hw3 HL2 HB2
  have HW3 : Hid (Below w.heap.size w w3) := HB1.out.trans (HB3.out.mono HB1.out.size)
  have H3 : Hid (RefP A base w3 x fv (.slice bo m bc) F B) := H1.out.keep (Kp.all HB3.out)
  have HNE : Hid (∀ g, (Value.slice bo m bc).ownBlock = some g → g < w.heap.size) := fun g e => by obtain ⟨cs, hc, _⟩ := H.out.ops.blocks e; exact lt_of_obj hc
  have l0 : w3.cell? ⟨w1.heap.size, 0, none⟩ = some (.int .i64 1) := HL3.out.cell 0 _ rfl
  have l1 : w3.cell? ⟨w1.heap.size, 1, none⟩ = some (.int .i64 n) := HL3.out.cell 1 _ rfl
  have l2 : w3.cell? ⟨w1.heap.size, 2, none⟩ = some (.slice none 0 0) := HL3.out.cell 2 _ rfl
  have x1 : w3.cell? ⟨x, 1, none⟩ = some (.slice bo m bc) := H3.out.lies.cell 1 _ rfl
  refine wp_region_held_drew (S := fun W => W.cell? ⟨w1.heap.size, 0, none⟩ = some (.int .i64 1) ∧ W.cell? ⟨w1.heap.size, 1, none⟩ = some (.int .i64 n) ∧ W.cell? ⟨w1.heap.size, 2, none⟩ = some (.slice none 0 0)) (by kernel_rfl) (⟨l0, l1, l2⟩) (fun hHeld => ?_)
  refine wpAnyH_take (i := 0) (v := ?v0) rfl (by kernel_rfl) (by kernel_rfl) (by kernel_rfl) (fun _ _ _ h => h) (Or.inl ⟨by rfl, ?hy0⟩) hHeld ?rest0
  case hy0 => (intro W hSw; obtain ⟨s1, s2, s3⟩ := hSw; go_simp; (try with_reducible rfl))
  refine wpAnyH_take (i := 1) (v := ?v1) rfl (by kernel_rfl) (by kernel_rfl) (by kernel_rfl) (fun _ _ _ h => h) (Or.inl ⟨by rfl, ?hy1⟩) hHeld ?rest1
  case hy1 => (intro W hSw; obtain ⟨s1, s2, s3⟩ := hSw; go_simp; (try with_reducible rfl))
  refine wpAnyH_take (i := 2) (v := ?v2) rfl (by kernel_rfl) (by kernel_rfl) (by kernel_rfl) (fun _ _ _ h => h) (Or.inl ⟨by rfl, ?hy2⟩) hHeld ?rest2
  case hy2 => (intro W hSw; obtain ⟨s1, s2, s3⟩ := hSw; go_simp; (try with_reducible rfl))
  refine wpAnyH_take (i := 3) (v := ?v3) rfl (by kernel_rfl) (by kernel_rfl) (by kernel_rfl) (fun _ _ _ h => h) (Or.inl ⟨by rfl, ?hy3⟩) hHeld ?rest3
  case hy3 => (intro W hSw; obtain ⟨s1, s2, s3⟩ := hSw; go_simp; (try with_reducible rfl))
  refine wpAnyH_take (i := 5) (v := ?v5) rfl (by kernel_rfl) (by kernel_rfl) (by kernel_rfl) (fun _ _ _ h => h) (Or.inl ⟨by rfl, ?hy5⟩) hHeld ?rest5
  case hy5 => (intro W hSw; obtain ⟨s1, s2, s3⟩ := hSw; go_simp; (try with_reducible rfl))
  refine wpAnyH_ready (rs := [4, 6]) (by kernel_rfl) (by simp) ?_
  refine AllReadyH.cons rfl (fun K hK => ?_) (AllReadyH.cons rfl (fun K hK => ?_) AllReadyH.nil)
  · rw [if_pos (by rfl)]
    go_simp
    refine hK.out _ _ ⟨l0, l1, l2⟩ (fun hHeld => ?_)
    clear hK K
    have HL4 : Hid (Lies (w3.drew.alloc (.cells (Dk.cellO ⟨1, n, []⟩ (.slice none 0 0)) 53)) w1.heap.size 53 #[.int .i64 1, .int .i64 n, (.slice none 0 0)]) := (HL3.out.below (drawn w3 1) HL3.out.lt).alloc _
    have HB4 : Hid (Below w.heap.size w (w3.drew.alloc (.cells (Dk.cellO ⟨1, n, []⟩ (.slice none 0 0)) 53))) := (HW3.out.trans ((drawn w3 1).mono HW3.out.size)).alloc HW3.out.size _
    refine wpAnyH_ready (rs := [6]) (by kernel_rfl) (by simp) ?_
    refine AllReadyH.cons rfl (fun K hK => ?_) AllReadyH.nil
    rw [if_pos (by rfl)]
    go_simp
    refine hK.out _ _ ⟨HL4.out.cell 0 _ rfl, HL4.out.cell 1 _ rfl, HL4.out.cell 2 _ rfl⟩ (fun hHeld => ?_)
    clear hK K
    obtain ⟨v5, w5, hrun, ho5, hg5, ha5⟩ := ListO.snoc (P := Try.prog) (t := 29) 29 (ListO.below H.out.ops HB4.out) Dk.cellO_ok Try.underlying29 info_op rfl (by decide) (Nat.le_trans HBS.out HB4.out.size) ⟨1, n, []⟩ (.slice none 0 0) (Lies.new w3.drew 53 (Dk.cellO ⟨1, n, []⟩ (.slice none 0 0))) (HD.out.keep (Keep.of_below HB4.out)) (by have := HL.out; omega) (by have := HL.out; omega) (fun g hb hp => by omega)
    obtain ⟨o5, n5, c5, rfl⟩ : ∃ a l c, v5 = .slice a l c := by obtain ⟨ps, _, h1, _⟩ := ho5; obtain ⟨a, c, e⟩ := OwnsR.shape h1; exact ⟨a, _, c, e⟩
    have HL5 := Lib.hid (HL4.out.kept hg5 (fun e => by have h1 := HNE.out _ e.symm; have h2 := HB1.out.size; omega))
    have hx4 : Lies (w3.drew.alloc (.cells (Dk.cellO ⟨1, n, []⟩ (.slice none 0 0)) 53)) x 31 #[fv, .slice bo m bc] := H.out.lies.below HB4.out H.out.lies.lt
    have HX5 := Lib.hid (hx4.kept hg5 (hx4.not_ops (by decide) (ListO.below H.out.ops HB4.out)))
    have HS4 : Hid (Lies (w3.drew.alloc (.cells (Dk.cellO ⟨1, n, []⟩ (.slice none 0 0)) 53)) w.heap.size 35 #[.int .i64 1, .int .i64 n, .int .i64 z, .slice so data.length sc]) := (((HL1.out.below HB3.out HL1.out.lt).below (drawn w3 1) (HL1.out.below HB3.out HL1.out.lt).lt).alloc _)
    have HS5 := Lib.hid (HS4.out.kept hg5 (fun e => by have h1 := HNE.out _ e.symm; omega))
    have HO5 := Lib.hid ho5; have HG5 := Lib.hid hg5; have HA5 := Lib.hid ha5; have HRUN := Lib.hid hrun
    clear hrun ho5 hg5 ha5 hx4
    refine wpAnyH_ready (rs := [7]) (by kernel_rfl) (by simp) ?_
    refine ready_append 7 (.tmp 41) (.tmp 43) 29 rfl rfl rfl (.slice bo m bc) (.slice (some ⟨w3.heap.size, 0, none⟩) 1 1) (.slice o5 n5 c5) w5 ?s7a ?x7a HRUN.out ⟨⟨HL5.out.cell 0 _ rfl, HL5.out.cell 1 _ rfl, HL5.out.cell 2 _ rfl⟩, fun hHeld => ?_⟩
    case s7a => kernel_rfl
    case x7a => kernel_rfl
    refine wpAnyH_take (i := 8) (v := ?v8a) rfl (by kernel_rfl) (by kernel_rfl) (by kernel_rfl) (fun _ _ _ h => h) (Or.inl ⟨by rfl, ?hy8a⟩) hHeld ?rest8a
    case hy8a => (intro W hSw; go_simp; (try with_reducible rfl))
    refine wpAnyH_take (i := 9) (v := ?v9a) rfl (by kernel_rfl) (by kernel_rfl) (by kernel_rfl) (fun _ _ _ h => h) (Or.inl ⟨by rfl, ?hy9a⟩) hHeld ?rest9a
    case hy9a => (intro W hSw; go_simp; (try with_reducible rfl))
    refine wpAnyH_ready (rs := [10]) (by kernel_rfl) (by simp) ?_
    refine ready_store 10 29 (.tmp 46) (.tmp 44) rfl rfl rfl x 1 31 #[fv, .slice bo m bc] #[fv, .slice o5 n5 c5] (.slice o5 n5 c5) [.slice o5 n5 c5] ?x10a ?y10a rfl (by kernel_rfl) rfl HX5.out (Nat.le_of_ble_eq_true rfl) rfl ?k10a
    case x10a => kernel_rfl
    case y10a => kernel_rfl
    intro w6 hl6 hg6
    have HL6 := Lib.hid (HL5.out.kept hg6 (fun e => by have h1 := H.out.lies.lt; have h2 := HB1.out.size; simp only [Option.some.injEq] at e; omega))
    have HX6 := Lib.hid hl6; have HG6 := Lib.hid hg6
    have z0 : w6.cell? ⟨w.heap.size, 0, none⟩ = some (.int .i64 1) := (HS5.out.kept hg6 (fun e => by have h1 := H.out.lies.lt; simp only [Option.some.injEq] at e; omega)).cell 0 _ rfl
    clear hl6 hg6
    refine ⟨⟨HL6.out.cell 0 _ rfl, HL6.out.cell 1 _ rfl, HL6.out.cell 2 _ rfl⟩, fun hHeld => ?_⟩
    refine wpAnyH_done (by kernel_rfl) ?_ _
    clear hHeld d0 d3 l0 l1 l2 x1 c0 c1 c2 c3
    go_wp2
    go_end0
    exact ⟨rfl, H.out.held _ HB4.out HO5.out HG5.out HA5.out HX6.out HG6.out⟩
  · rw [if_pos (by rfl)]
    go_simp
    have HL4 : Hid (Lies (w3.drew.alloc (.cells (Dk.cellO ⟨1, n, []⟩ (.slice none 0 0)) 53)) w1.heap.size 53 #[.int .i64 1, .int .i64 n, (.slice none 0 0)]) := (HL3.out.below (drawn w3 1) HL3.out.lt).alloc _
    have HB4 : Hid (Below w.heap.size w (w3.drew.alloc (.cells (Dk.cellO ⟨1, n, []⟩ (.slice none 0 0)) 53))) := (HW3.out.trans ((drawn w3 1).mono HW3.out.size)).alloc HW3.out.size _
    refine hK.out _ _ ⟨HL4.out.cell 0 _ rfl, HL4.out.cell 1 _ rfl, HL4.out.cell 2 _ rfl⟩ (fun hHeld => ?_)
    clear hK K
    have q4 : (w3.alloc (.cells #[.int .i64 1, .int .i64 n, (.slice none 0 0)] 53)).cell? ⟨x, 1, none⟩ = some (.slice bo m bc) := (H.out.lies.below (HW3.out.alloc HW3.out.size _) H.out.lies.lt).cell 1 _ rfl
    refine wpAnyH_ready (rs := [4]) (by kernel_rfl) (by simp) ?_
    refine AllReadyH.cons rfl (fun K hK => ?_) AllReadyH.nil
    rw [if_pos (by rfl)]
    go_simp
    refine hK.out _ _ ⟨HL4.out.cell 0 _ rfl, HL4.out.cell 1 _ rfl, HL4.out.cell 2 _ rfl⟩ (fun hHeld => ?_)
    clear hK K
    clear q4
    obtain ⟨v5, w5, hrun, ho5, hg5, ha5⟩ := ListO.snoc (P := Try.prog) (t := 29) 29 (ListO.below H.out.ops HB4.out) Dk.cellO_ok Try.underlying29 info_op rfl (by decide) (Nat.le_trans HBS.out HB4.out.size) ⟨1, n, []⟩ (.slice none 0 0) (Lies.new w3.drew 53 (Dk.cellO ⟨1, n, []⟩ (.slice none 0 0))) (HD.out.keep (Keep.of_below HB4.out)) (by have := HL.out; omega) (by have := HL.out; omega) (fun g hb hp => by omega)
    obtain ⟨o5, n5, c5, rfl⟩ : ∃ a l c, v5 = .slice a l c := by obtain ⟨ps, _, h1, _⟩ := ho5; obtain ⟨a, c, e⟩ := OwnsR.shape h1; exact ⟨a, _, c, e⟩
    have HL5 := Lib.hid (HL4.out.kept hg5 (fun e => by have h1 := HNE.out _ e.symm; have h2 := HB1.out.size; omega))
    have hx4 : Lies (w3.drew.alloc (.cells (Dk.cellO ⟨1, n, []⟩ (.slice none 0 0)) 53)) x 31 #[fv, .slice bo m bc] := H.out.lies.below HB4.out H.out.lies.lt
    have HX5 := Lib.hid (hx4.kept hg5 (hx4.not_ops (by decide) (ListO.below H.out.ops HB4.out)))
    have HS4 : Hid (Lies (w3.drew.alloc (.cells (Dk.cellO ⟨1, n, []⟩ (.slice none 0 0)) 53)) w.heap.size 35 #[.int .i64 1, .int .i64 n, .int .i64 z, .slice so data.length sc]) := (((HL1.out.below HB3.out HL1.out.lt).below (drawn w3 1) (HL1.out.below HB3.out HL1.out.lt).lt).alloc _)
    have HS5 := Lib.hid (HS4.out.kept hg5 (fun e => by have h1 := HNE.out _ e.symm; omega))
    have HO5 := Lib.hid ho5; have HG5 := Lib.hid hg5; have HA5 := Lib.hid ha5; have HRUN := Lib.hid hrun
    clear hrun ho5 hg5 ha5 hx4
    refine wpAnyH_ready (rs := [7]) (by kernel_rfl) (by simp) ?_
    refine ready_append 7 (.tmp 41) (.tmp 43) 29 rfl rfl rfl (.slice bo m bc) (.slice (some ⟨w3.heap.size, 0, none⟩) 1 1) (.slice o5 n5 c5) w5 ?s7b ?x7b HRUN.out ⟨⟨HL5.out.cell 0 _ rfl, HL5.out.cell 1 _ rfl, HL5.out.cell 2 _ rfl⟩, fun hHeld => ?_⟩
    case s7b => kernel_rfl
    case x7b => kernel_rfl
    refine wpAnyH_take (i := 8) (v := ?v8b) rfl (by kernel_rfl) (by kernel_rfl) (by kernel_rfl) (fun _ _ _ h => h) (Or.inl ⟨by rfl, ?hy8b⟩) hHeld ?rest8b
    case hy8b => (intro W hSw; go_simp; (try with_reducible rfl))
    refine wpAnyH_take (i := 9) (v := ?v9b) rfl (by kernel_rfl) (by kernel_rfl) (by kernel_rfl) (fun _ _ _ h => h) (Or.inl ⟨by rfl, ?hy9b⟩) hHeld ?rest9b
    case hy9b => (intro W hSw; go_simp; (try with_reducible rfl))
    refine wpAnyH_ready (rs := [10]) (by kernel_rfl) (by simp) ?_
    refine ready_store 10 29 (.tmp 46) (.tmp 44) rfl rfl rfl x 1 31 #[fv, .slice bo m bc] #[fv, .slice o5 n5 c5] (.slice o5 n5 c5) [.slice o5 n5 c5] ?x10b ?y10b rfl (by kernel_rfl) rfl HX5.out (Nat.le_of_ble_eq_true rfl) rfl ?k10b
    case x10b => kernel_rfl
    case y10b => kernel_rfl
    intro w6 hl6 hg6
    have HL6 := Lib.hid (HL5.out.kept hg6 (fun e => by have h1 := H.out.lies.lt; have h2 := HB1.out.size; simp only [Option.some.injEq] at e; omega))
    have HX6 := Lib.hid hl6; have HG6 := Lib.hid hg6
    have z0 : w6.cell? ⟨w.heap.size, 0, none⟩ = some (.int .i64 1) := (HS5.out.kept hg6 (fun e => by have h1 := H.out.lies.lt; simp only [Option.some.injEq] at e; omega)).cell 0 _ rfl
    clear hl6 hg6
    refine ⟨⟨HL6.out.cell 0 _ rfl, HL6.out.cell 1 _ rfl, HL6.out.cell 2 _ rfl⟩, fun hHeld => ?_⟩
    refine wpAnyH_done (by kernel_rfl) ?_ _
    clear hHeld d0 d3 l0 l1 l2 x1 c0 c1 c2 c3
    go_wp2
    go_end0
    exact ⟨rfl, H.out.held _ HB4.out HO5.out HG5.out HA5.out HX6.out HG6.out⟩
set_option maxRecDepth 8000 in
set_option maxHeartbeats 3200000 in
theorem do_take2 {A : Nat → Prop} {base : Nat} {w : World} {x : Nat} {fv bv : Value} {F : Dk.Files} {B : List Dk.Op} (h : RefP A base w x fv bv F B) (hbase : base ≤ w.heap.size) (n z : Int) (dv : Value) (data : List UInt8) (hd : ReadsP (fun k _ => k < base) w dv data) (hn : 1 ≤ n) (hn2 : n ≤ 4294967296) (hl : B.length ≤ 1099511627776) : Calls Try.prog 10 #[.pointer (some ⟨x, 0, none⟩), .agg #[.int .i64 2, .int .i64 n, .int .i64 z, dv]] w (Did A base w x (F, B ++ [⟨2, n, data⟩])) := by
  obtain ⟨so, sc, rfl⟩ := hd.1.shape
  obtain ⟨w1, hw1⟩ : ∃ w1, w.alloc (.cells #[.int .i64 2, .int .i64 n, .int .i64 z, .slice so data.length sc] 35) = w1 := ⟨_, rfl⟩
  have hb1 : Below w.heap.size w w1 := by rw [← hw1]; exact (Below.refl _ w).alloc (Nat.le_refl _) _
  have hL1 : Lies w1 w.heap.size 35 #[.int .i64 2, .int .i64 n, .int .i64 z, .slice so data.length sc] := by rw [← hw1]; exact Lies.new w _ _
  have h1 := h.keep (Kp.all hb1)
  have hs1 : w1.heap.size = w.heap.size + 1 := by rw [← hw1]; simp
  have c0 : w1.cell? ⟨w.heap.size, 0, none⟩ = some (.int .i64 2) := hL1.cell 0 _ rfl
  have c1 : w1.cell? ⟨w.heap.size, 1, none⟩ = some (.int .i64 n) := hL1.cell 1 _ rfl
  have c2 : w1.cell? ⟨w.heap.size, 2, none⟩ = some (.int .i64 z) := hL1.cell 2 _ rfl
  have c3 : w1.cell? ⟨w.heap.size, 3, none⟩ = some (.slice so data.length sc) := hL1.cell 3 _ rfl
  obtain ⟨bo, bc, rfl⟩ : ∃ ao cap, bv = .slice ao B.length cap := by obtain ⟨a, c, e, _⟩ := h.reads.shape; exact ⟨a, c, e⟩
  obtain ⟨m, hm⟩ : ∃ m, m = B.length := ⟨_, rfl⟩
  have H := Lib.hid h; have HB1 := Lib.hid hb1; have HL1 := Lib.hid hL1; have H1 := Lib.hid h1; have HS1 := Lib.hid hs1; have HD := Lib.hid hd; have HL := Lib.hid hl; have HBS := Lib.hid hbase; have HM := Lib.hid hm
  rw [← hm] at H H1
  clear h hb1 hL1 h1 hs1 hd hm hl hbase 
  go_enter Try.func10, Try.ntmps10
  go_wp2_with (first
    | (refine store_part rfl 53 _ _ rfl w1.heap.size 0 53 #[.int .i64 0, .int .i64 0, .slice none 0 0] #[.int .i64 2, .int .i64 n, .slice none 0 0] (.agg #[.int .i64 2, .int .i64 n, .slice none 0 0]) [.int .i64 2, .int .i64 n, .slice none 0 0] rfl rfl rfl (by kernel_rfl) rfl (Lies.new w1 53 #[.int .i64 0, .int .i64 0, .slice none 0 0]) (Nat.le_of_ble_eq_true rfl) rfl ?_; intro w2 hl2 hg2; have HB2 := Lib.hid (fresh_below hg2); have HL2 := Lib.hid hl2; have d0 : w2.cell? ⟨w.heap.size, 0, none⟩ = some (.int .i64 2) := (HL1.out.below HB2.out HL1.out.lt).cell 0 _ rfl; have d3 : w2.cell? ⟨w.heap.size, 3, none⟩ = some (.slice so data.length sc) := (HL1.out.below HB2.out HL1.out.lt).cell 3 _ rfl; clear hl2 hg2)
    | (refine store_part rfl 33 _ _ rfl w1.heap.size 2 53 _ #[.int .i64 2, .int .i64 n, (.slice so data.length sc)] (.slice so data.length sc) [(.slice so data.length sc)] rfl rfl rfl (by kernel_rfl) rfl HL2.out (Nat.le_of_ble_eq_true rfl) rfl ?_; intro w3 hl3 hg3; have HL3 := Lib.hid hl3; have HB3 : Hid (Below w1.heap.size w1 w3) := HB2.out.grown hg3 HB2.out.size (fun j e => by cases e; exact Nat.le_refl _); clear hl3 hg3))
  have HW3 : Hid (Below w.heap.size w w3) := HB1.out.trans (HB3.out.mono HB1.out.size)
  have H3 : Hid (RefP A base w3 x fv (.slice bo m bc) F B) := H1.out.keep (Kp.all HB3.out)
  have HNE : Hid (∀ g, (Value.slice bo m bc).ownBlock = some g → g < w.heap.size) := fun g e => by obtain ⟨cs, hc, _⟩ := H.out.ops.blocks e; exact lt_of_obj hc
  have l0 : w3.cell? ⟨w1.heap.size, 0, none⟩ = some (.int .i64 2) := HL3.out.cell 0 _ rfl
  have l1 : w3.cell? ⟨w1.heap.size, 1, none⟩ = some (.int .i64 n) := HL3.out.cell 1 _ rfl
  have l2 : w3.cell? ⟨w1.heap.size, 2, none⟩ = some (.slice so data.length sc) := HL3.out.cell 2 _ rfl
  have x1 : w3.cell? ⟨x, 1, none⟩ = some (.slice bo m bc) := H3.out.lies.cell 1 _ rfl
  refine wp_region_held_drew (S := fun W => W.cell? ⟨w1.heap.size, 0, none⟩ = some (.int .i64 2) ∧ W.cell? ⟨w1.heap.size, 1, none⟩ = some (.int .i64 n) ∧ W.cell? ⟨w1.heap.size, 2, none⟩ = some (.slice so data.length sc)) (by kernel_rfl) (⟨l0, l1, l2⟩) (fun hHeld => ?_)
  refine wpAnyH_take (i := 0) (v := ?v0) rfl (by kernel_rfl) (by kernel_rfl) (by kernel_rfl) (fun _ _ _ h => h) (Or.inl ⟨by rfl, ?hy0⟩) hHeld ?rest0
  case hy0 => (intro W hSw; obtain ⟨s1, s2, s3⟩ := hSw; go_simp; (try with_reducible rfl))
  refine wpAnyH_take (i := 1) (v := ?v1) rfl (by kernel_rfl) (by kernel_rfl) (by kernel_rfl) (fun _ _ _ h => h) (Or.inl ⟨by rfl, ?hy1⟩) hHeld ?rest1
  case hy1 => (intro W hSw; obtain ⟨s1, s2, s3⟩ := hSw; go_simp; (try with_reducible rfl))
  refine wpAnyH_take (i := 2) (v := ?v2) rfl (by kernel_rfl) (by kernel_rfl) (by kernel_rfl) (fun _ _ _ h => h) (Or.inl ⟨by rfl, ?hy2⟩) hHeld ?rest2
  case hy2 => (intro W hSw; obtain ⟨s1, s2, s3⟩ := hSw; go_simp; (try with_reducible rfl))
  refine wpAnyH_take (i := 3) (v := ?v3) rfl (by kernel_rfl) (by kernel_rfl) (by kernel_rfl) (fun _ _ _ h => h) (Or.inl ⟨by rfl, ?hy3⟩) hHeld ?rest3
  case hy3 => (intro W hSw; obtain ⟨s1, s2, s3⟩ := hSw; go_simp; (try with_reducible rfl))
  refine wpAnyH_take (i := 5) (v := ?v5) rfl (by kernel_rfl) (by kernel_rfl) (by kernel_rfl) (fun _ _ _ h => h) (Or.inl ⟨by rfl, ?hy5⟩) hHeld ?rest5
  case hy5 => (intro W hSw; obtain ⟨s1, s2, s3⟩ := hSw; go_simp; (try with_reducible rfl))
  refine wpAnyH_ready (rs := [4, 6]) (by kernel_rfl) (by simp) ?_
  refine AllReadyH.cons rfl (fun K hK => ?_) (AllReadyH.cons rfl (fun K hK => ?_) AllReadyH.nil)
  · rw [if_pos (by rfl)]
    go_simp
    refine hK.out _ _ ⟨l0, l1, l2⟩ (fun hHeld => ?_)
    clear hK K
    have HL4 : Hid (Lies (w3.drew.alloc (.cells (Dk.cellO ⟨2, n, data⟩ (.slice so data.length sc)) 53)) w1.heap.size 53 #[.int .i64 2, .int .i64 n, (.slice so data.length sc)]) := (HL3.out.below (drawn w3 1) HL3.out.lt).alloc _
    have HB4 : Hid (Below w.heap.size w (w3.drew.alloc (.cells (Dk.cellO ⟨2, n, data⟩ (.slice so data.length sc)) 53))) := (HW3.out.trans ((drawn w3 1).mono HW3.out.size)).alloc HW3.out.size _
    refine wpAnyH_ready (rs := [6]) (by kernel_rfl) (by simp) ?_
    refine AllReadyH.cons rfl (fun K hK => ?_) AllReadyH.nil
    rw [if_pos (by rfl)]
    go_simp
    refine hK.out _ _ ⟨HL4.out.cell 0 _ rfl, HL4.out.cell 1 _ rfl, HL4.out.cell 2 _ rfl⟩ (fun hHeld => ?_)
    clear hK K
    obtain ⟨v5, w5, hrun, ho5, hg5, ha5⟩ := ListO.snoc (P := Try.prog) (t := 29) 29 (ListO.below H.out.ops HB4.out) Dk.cellO_ok Try.underlying29 info_op rfl (by decide) (Nat.le_trans HBS.out HB4.out.size) ⟨2, n, data⟩ (.slice so data.length sc) (Lies.new w3.drew 53 (Dk.cellO ⟨2, n, data⟩ (.slice so data.length sc))) (HD.out.keep (Keep.of_below HB4.out)) (by have := HL.out; omega) (by have := HL.out; omega) (fun g hb hp => by omega)
    obtain ⟨o5, n5, c5, rfl⟩ : ∃ a l c, v5 = .slice a l c := by obtain ⟨ps, _, h1, _⟩ := ho5; obtain ⟨a, c, e⟩ := OwnsR.shape h1; exact ⟨a, _, c, e⟩
    have HL5 := Lib.hid (HL4.out.kept hg5 (fun e => by have h1 := HNE.out _ e.symm; have h2 := HB1.out.size; omega))
    have hx4 : Lies (w3.drew.alloc (.cells (Dk.cellO ⟨2, n, data⟩ (.slice so data.length sc)) 53)) x 31 #[fv, .slice bo m bc] := H.out.lies.below HB4.out H.out.lies.lt
    have HX5 := Lib.hid (hx4.kept hg5 (hx4.not_ops (by decide) (ListO.below H.out.ops HB4.out)))
    have HS4 : Hid (Lies (w3.drew.alloc (.cells (Dk.cellO ⟨2, n, data⟩ (.slice so data.length sc)) 53)) w.heap.size 35 #[.int .i64 2, .int .i64 n, .int .i64 z, .slice so data.length sc]) := (((HL1.out.below HB3.out HL1.out.lt).below (drawn w3 1) (HL1.out.below HB3.out HL1.out.lt).lt).alloc _)
    have HS5 := Lib.hid (HS4.out.kept hg5 (fun e => by have h1 := HNE.out _ e.symm; omega))
    have HO5 := Lib.hid ho5; have HG5 := Lib.hid hg5; have HA5 := Lib.hid ha5; have HRUN := Lib.hid hrun
    clear hrun ho5 hg5 ha5 hx4
    refine wpAnyH_ready (rs := [7]) (by kernel_rfl) (by simp) ?_
    refine ready_append 7 (.tmp 41) (.tmp 43) 29 rfl rfl rfl (.slice bo m bc) (.slice (some ⟨w3.heap.size, 0, none⟩) 1 1) (.slice o5 n5 c5) w5 ?s7a ?x7a HRUN.out ⟨⟨HL5.out.cell 0 _ rfl, HL5.out.cell 1 _ rfl, HL5.out.cell 2 _ rfl⟩, fun hHeld => ?_⟩
    case s7a => kernel_rfl
    case x7a => kernel_rfl
    refine wpAnyH_take (i := 8) (v := ?v8a) rfl (by kernel_rfl) (by kernel_rfl) (by kernel_rfl) (fun _ _ _ h => h) (Or.inl ⟨by rfl, ?hy8a⟩) hHeld ?rest8a
    case hy8a => (intro W hSw; go_simp; (try with_reducible rfl))
    refine wpAnyH_take (i := 9) (v := ?v9a) rfl (by kernel_rfl) (by kernel_rfl) (by kernel_rfl) (fun _ _ _ h => h) (Or.inl ⟨by rfl, ?hy9a⟩) hHeld ?rest9a
    case hy9a => (intro W hSw; go_simp; (try with_reducible rfl))
    refine wpAnyH_ready (rs := [10]) (by kernel_rfl) (by simp) ?_
    refine ready_store 10 29 (.tmp 46) (.tmp 44) rfl rfl rfl x 1 31 #[fv, .slice bo m bc] #[fv, .slice o5 n5 c5] (.slice o5 n5 c5) [.slice o5 n5 c5] ?x10a ?y10a rfl (by kernel_rfl) rfl HX5.out (Nat.le_of_ble_eq_true rfl) rfl ?k10a
    case x10a => kernel_rfl
    case y10a => kernel_rfl
    intro w6 hl6 hg6
    have HL6 := Lib.hid (HL5.out.kept hg6 (fun e => by have h1 := H.out.lies.lt; have h2 := HB1.out.size; simp only [Option.some.injEq] at e; omega))
    have HX6 := Lib.hid hl6; have HG6 := Lib.hid hg6
    have z0 : w6.cell? ⟨w.heap.size, 0, none⟩ = some (.int .i64 2) := (HS5.out.kept hg6 (fun e => by have h1 := H.out.lies.lt; simp only [Option.some.injEq] at e; omega)).cell 0 _ rfl
    clear hl6 hg6
    refine ⟨⟨HL6.out.cell 0 _ rfl, HL6.out.cell 1 _ rfl, HL6.out.cell 2 _ rfl⟩, fun hHeld => ?_⟩
    refine wpAnyH_done (by kernel_rfl) ?_ _
    clear hHeld d0 d3 l0 l1 l2 x1 c0 c1 c2 c3
    go_wp2
    go_end0
    exact ⟨rfl, H.out.held _ HB4.out HO5.out HG5.out HA5.out HX6.out HG6.out⟩
  · rw [if_pos (by rfl)]
    go_simp
    have HL4 : Hid (Lies (w3.drew.alloc (.cells (Dk.cellO ⟨2, n, data⟩ (.slice so data.length sc)) 53)) w1.heap.size 53 #[.int .i64 2, .int .i64 n, (.slice so data.length sc)]) := (HL3.out.below (drawn w3 1) HL3.out.lt).alloc _
    have HB4 : Hid (Below w.heap.size w (w3.drew.alloc (.cells (Dk.cellO ⟨2, n, data⟩ (.slice so data.length sc)) 53))) := (HW3.out.trans ((drawn w3 1).mono HW3.out.size)).alloc HW3.out.size _
    refine hK.out _ _ ⟨HL4.out.cell 0 _ rfl, HL4.out.cell 1 _ rfl, HL4.out.cell 2 _ rfl⟩ (fun hHeld => ?_)
    clear hK K
    have q4 : (w3.alloc (.cells #[.int .i64 2, .int .i64 n, (.slice so data.length sc)] 53)).cell? ⟨x, 1, none⟩ = some (.slice bo m bc) := (H.out.lies.below (HW3.out.alloc HW3.out.size _) H.out.lies.lt).cell 1 _ rfl
    refine wpAnyH_ready (rs := [4]) (by kernel_rfl) (by simp) ?_
    refine AllReadyH.cons rfl (fun K hK => ?_) AllReadyH.nil
    rw [if_pos (by rfl)]
    go_simp
    refine hK.out _ _ ⟨HL4.out.cell 0 _ rfl, HL4.out.cell 1 _ rfl, HL4.out.cell 2 _ rfl⟩ (fun hHeld => ?_)
    clear hK K
    clear q4
    obtain ⟨v5, w5, hrun, ho5, hg5, ha5⟩ := ListO.snoc (P := Try.prog) (t := 29) 29 (ListO.below H.out.ops HB4.out) Dk.cellO_ok Try.underlying29 info_op rfl (by decide) (Nat.le_trans HBS.out HB4.out.size) ⟨2, n, data⟩ (.slice so data.length sc) (Lies.new w3.drew 53 (Dk.cellO ⟨2, n, data⟩ (.slice so data.length sc))) (HD.out.keep (Keep.of_below HB4.out)) (by have := HL.out; omega) (by have := HL.out; omega) (fun g hb hp => by omega)
    obtain ⟨o5, n5, c5, rfl⟩ : ∃ a l c, v5 = .slice a l c := by obtain ⟨ps, _, h1, _⟩ := ho5; obtain ⟨a, c, e⟩ := OwnsR.shape h1; exact ⟨a, _, c, e⟩
    have HL5 := Lib.hid (HL4.out.kept hg5 (fun e => by have h1 := HNE.out _ e.symm; have h2 := HB1.out.size; omega))
    have hx4 : Lies (w3.drew.alloc (.cells (Dk.cellO ⟨2, n, data⟩ (.slice so data.length sc)) 53)) x 31 #[fv, .slice bo m bc] := H.out.lies.below HB4.out H.out.lies.lt
    have HX5 := Lib.hid (hx4.kept hg5 (hx4.not_ops (by decide) (ListO.below H.out.ops HB4.out)))
    have HS4 : Hid (Lies (w3.drew.alloc (.cells (Dk.cellO ⟨2, n, data⟩ (.slice so data.length sc)) 53)) w.heap.size 35 #[.int .i64 2, .int .i64 n, .int .i64 z, .slice so data.length sc]) := (((HL1.out.below HB3.out HL1.out.lt).below (drawn w3 1) (HL1.out.below HB3.out HL1.out.lt).lt).alloc _)
    have HS5 := Lib.hid (HS4.out.kept hg5 (fun e => by have h1 := HNE.out _ e.symm; omega))
    have HO5 := Lib.hid ho5; have HG5 := Lib.hid hg5; have HA5 := Lib.hid ha5; have HRUN := Lib.hid hrun
    clear hrun ho5 hg5 ha5 hx4
    refine wpAnyH_ready (rs := [7]) (by kernel_rfl) (by simp) ?_
    refine ready_append 7 (.tmp 41) (.tmp 43) 29 rfl rfl rfl (.slice bo m bc) (.slice (some ⟨w3.heap.size, 0, none⟩) 1 1) (.slice o5 n5 c5) w5 ?s7b ?x7b HRUN.out ⟨⟨HL5.out.cell 0 _ rfl, HL5.out.cell 1 _ rfl, HL5.out.cell 2 _ rfl⟩, fun hHeld => ?_⟩
    case s7b => kernel_rfl
    case x7b => kernel_rfl
    refine wpAnyH_take (i := 8) (v := ?v8b) rfl (by kernel_rfl) (by kernel_rfl) (by kernel_rfl) (fun _ _ _ h => h) (Or.inl ⟨by rfl, ?hy8b⟩) hHeld ?rest8b
    case hy8b => (intro W hSw; go_simp; (try with_reducible rfl))
    refine wpAnyH_take (i := 9) (v := ?v9b) rfl (by kernel_rfl) (by kernel_rfl) (by kernel_rfl) (fun _ _ _ h => h) (Or.inl ⟨by rfl, ?hy9b⟩) hHeld ?rest9b
    case hy9b => (intro W hSw; go_simp; (try with_reducible rfl))
    refine wpAnyH_ready (rs := [10]) (by kernel_rfl) (by simp) ?_
    refine ready_store 10 29 (.tmp 46) (.tmp 44) rfl rfl rfl x 1 31 #[fv, .slice bo m bc] #[fv, .slice o5 n5 c5] (.slice o5 n5 c5) [.slice o5 n5 c5] ?x10b ?y10b rfl (by kernel_rfl) rfl HX5.out (Nat.le_of_ble_eq_true rfl) rfl ?k10b
    case x10b => kernel_rfl
    case y10b => kernel_rfl
    intro w6 hl6 hg6
    have HL6 := Lib.hid (HL5.out.kept hg6 (fun e => by have h1 := H.out.lies.lt; have h2 := HB1.out.size; simp only [Option.some.injEq] at e; omega))
    have HX6 := Lib.hid hl6; have HG6 := Lib.hid hg6
    have z0 : w6.cell? ⟨w.heap.size, 0, none⟩ = some (.int .i64 2) := (HS5.out.kept hg6 (fun e => by have h1 := H.out.lies.lt; simp only [Option.some.injEq] at e; omega)).cell 0 _ rfl
    clear hl6 hg6
    refine ⟨⟨HL6.out.cell 0 _ rfl, HL6.out.cell 1 _ rfl, HL6.out.cell 2 _ rfl⟩, fun hHeld => ?_⟩
    refine wpAnyH_done (by kernel_rfl) ?_ _
    clear hHeld d0 d3 l0 l1 l2 x1 c0 c1 c2 c3
    go_wp2
    go_end0
    exact ⟨rfl, H.out.held _ HB4.out HO5.out HG5.out HA5.out HX6.out HG6.out⟩
set_option maxRecDepth 8000 in
set_option maxHeartbeats 3200000 in
theorem do_take3 {A : Nat → Prop} {base : Nat} {w : World} {x : Nat} {fv bv : Value} {F : Dk.Files} {B : List Dk.Op} (h : RefP A base w x fv bv F B) (hbase : base ≤ w.heap.size) (n z : Int) (dv : Value) (data : List UInt8) (hd : ReadsP (fun k _ => k < base) w dv data) (hn : 1 ≤ n) (hn2 : n ≤ 4294967296) (hl : B.length ≤ 1099511627776) : Calls Try.prog 10 #[.pointer (some ⟨x, 0, none⟩), .agg #[.int .i64 3, .int .i64 n, .int .i64 z, dv]] w (Did A base w x (F, B ++ [⟨3, n, []⟩])) := by
  have hdn : ReadsP (fun k _ => k < base) w (.slice none 0 0) [] := ReadsP.none _ _
  obtain ⟨so, sc, rfl⟩ := hd.1.shape
  obtain ⟨w1, hw1⟩ : ∃ w1, w.alloc (.cells #[.int .i64 3, .int .i64 n, .int .i64 z, .slice so data.length sc] 35) = w1 := ⟨_, rfl⟩
  have hb1 : Below w.heap.size w w1 := by rw [← hw1]; exact (Below.refl _ w).alloc (Nat.le_refl _) _
  have hL1 : Lies w1 w.heap.size 35 #[.int .i64 3, .int .i64 n, .int .i64 z, .slice so data.length sc] := by rw [← hw1]; exact Lies.new w _ _
  have h1 := h.keep (Kp.all hb1)
  have hs1 : w1.heap.size = w.heap.size + 1 := by rw [← hw1]; simp
  have c0 : w1.cell? ⟨w.heap.size, 0, none⟩ = some (.int .i64 3) := hL1.cell 0 _ rfl
  have c1 : w1.cell? ⟨w.heap.size, 1, none⟩ = some (.int .i64 n) := hL1.cell 1 _ rfl
  have c2 : w1.cell? ⟨w.heap.size, 2, none⟩ = some (.int .i64 z) := hL1.cell 2 _ rfl
  have c3 : w1.cell? ⟨w.heap.size, 3, none⟩ = some (.slice so data.length sc) := hL1.cell 3 _ rfl
  obtain ⟨bo, bc, rfl⟩ : ∃ ao cap, bv = .slice ao B.length cap := by obtain ⟨a, c, e, _⟩ := h.reads.shape; exact ⟨a, c, e⟩
  obtain ⟨m, hm⟩ : ∃ m, m = B.length := ⟨_, rfl⟩
  have H := Lib.hid h; have HB1 := Lib.hid hb1; have HL1 := Lib.hid hL1; have H1 := Lib.hid h1; have HS1 := Lib.hid hs1; have HD := Lib.hid hdn; have HL := Lib.hid hl; have HBS := Lib.hid hbase; have HM := Lib.hid hm
  rw [← hm] at H H1
  clear h hb1 hL1 h1 hs1 hd hm hl hbase hdn
  go_enter Try.func10, Try.ntmps10
  go_wp2_with (refine store_part rfl 53 _ _ rfl w1.heap.size 0 53 #[.int .i64 0, .int .i64 0, .slice none 0 0] #[.int .i64 3, .int .i64 n, .slice none 0 0] (.agg #[.int .i64 3, .int .i64 n, .slice none 0 0]) [.int .i64 3, .int .i64 n, .slice none 0 0] rfl rfl rfl (by kernel_rfl) rfl (Lies.new w1 53 #[.int .i64 0, .int .i64 0, .slice none 0 0]) (Nat.le_of_ble_eq_true rfl) rfl ?_; intro w2 hl2 hg2; have HB2 := Lib.hid (fresh_below hg2); have HL2 := Lib.hid hl2; have d0 : w2.cell? ⟨w.heap.size, 0, none⟩ = some (.int .i64 3) := (HL1.out.below HB2.out HL1.out.lt).cell 0 _ rfl; have d3 : w2.cell? ⟨w.heap.size, 3, none⟩ = some (.slice so data.length sc) := (HL1.out.below HB2.out HL1.out.lt).cell 3 _ rfl; clear hl2 hg2)
  obtain ⟨w3, hw3⟩ : ∃ w3, w3 = w2 := ⟨_, rfl⟩
  rw [← hw3] at HL2 HB2 d0 d3 ⊢
  have HL3 := HL2; have HB3 := HB2
  clear hw3 HL2 HB2
  have HW3 : Hid (Below w.heap.size w w3) := HB1.out.trans (HB3.out.mono HB1.out.size)
  have H3 : Hid (RefP A base w3 x fv (.slice bo m bc) F B) := H1.out.keep (Kp.all HB3.out)
  have HNE : Hid (∀ g, (Value.slice bo m bc).ownBlock = some g → g < w.heap.size) := fun g e => by obtain ⟨cs, hc, _⟩ := H.out.ops.blocks e; exact lt_of_obj hc
  have l0 : w3.cell? ⟨w1.heap.size, 0, none⟩ = some (.int .i64 3) := HL3.out.cell 0 _ rfl
  have l1 : w3.cell? ⟨w1.heap.size, 1, none⟩ = some (.int .i64 n) := HL3.out.cell 1 _ rfl
  have l2 : w3.cell? ⟨w1.heap.size, 2, none⟩ = some (.slice none 0 0) := HL3.out.cell 2 _ rfl
  have x1 : w3.cell? ⟨x, 1, none⟩ = some (.slice bo m bc) := H3.out.lies.cell 1 _ rfl
  refine wp_region_held_drew (S := fun W => W.cell? ⟨w1.heap.size, 0, none⟩ = some (.int .i64 3) ∧ W.cell? ⟨w1.heap.size, 1, none⟩ = some (.int .i64 n) ∧ W.cell? ⟨w1.heap.size, 2, none⟩ = some (.slice none 0 0)) (by kernel_rfl) (⟨l0, l1, l2⟩) (fun hHeld => ?_)
  refine wpAnyH_take (i := 0) (v := ?v0) rfl (by kernel_rfl) (by kernel_rfl) (by kernel_rfl) (fun _ _ _ h => h) (Or.inl ⟨by rfl, ?hy0⟩) hHeld ?rest0
  case hy0 => (intro W hSw; obtain ⟨s1, s2, s3⟩ := hSw; go_simp; (try with_reducible rfl))
  refine wpAnyH_take (i := 1) (v := ?v1) rfl (by kernel_rfl) (by kernel_rfl) (by kernel_rfl) (fun _ _ _ h => h) (Or.inl ⟨by rfl, ?hy1⟩) hHeld ?rest1
  case hy1 => (intro W hSw; obtain ⟨s1, s2, s3⟩ := hSw; go_simp; (try with_reducible rfl))
  refine wpAnyH_take (i := 2) (v := ?v2) rfl (by kernel_rfl) (by kernel_rfl) (by kernel_rfl) (fun _ _ _ h => h) (Or.inl ⟨by rfl, ?hy2⟩) hHeld ?rest2
  case hy2 => (intro W hSw; obtain ⟨s1, s2, s3⟩ := hSw; go_simp; (try with_reducible rfl))
  refine wpAnyH_take (i := 3) (v := ?v3) rfl (by kernel_rfl) (by kernel_rfl) (by kernel_rfl) (fun _ _ _ h => h) (Or.inl ⟨by rfl, ?hy3⟩) hHeld ?rest3
  case hy3 => (intro W hSw; obtain ⟨s1, s2, s3⟩ := hSw; go_simp; (try with_reducible rfl))
  refine wpAnyH_take (i := 5) (v := ?v5) rfl (by kernel_rfl) (by kernel_rfl) (by kernel_rfl) (fun _ _ _ h => h) (Or.inl ⟨by rfl, ?hy5⟩) hHeld ?rest5
  case hy5 => (intro W hSw; obtain ⟨s1, s2, s3⟩ := hSw; go_simp; (try with_reducible rfl))
  refine wpAnyH_ready (rs := [4, 6]) (by kernel_rfl) (by simp) ?_
  refine AllReadyH.cons rfl (fun K hK => ?_) (AllReadyH.cons rfl (fun K hK => ?_) AllReadyH.nil)
  · rw [if_pos (by rfl)]
    go_simp
    refine hK.out _ _ ⟨l0, l1, l2⟩ (fun hHeld => ?_)
    clear hK K
    have HL4 : Hid (Lies (w3.drew.alloc (.cells (Dk.cellO ⟨3, n, []⟩ (.slice none 0 0)) 53)) w1.heap.size 53 #[.int .i64 3, .int .i64 n, (.slice none 0 0)]) := (HL3.out.below (drawn w3 1) HL3.out.lt).alloc _
    have HB4 : Hid (Below w.heap.size w (w3.drew.alloc (.cells (Dk.cellO ⟨3, n, []⟩ (.slice none 0 0)) 53))) := (HW3.out.trans ((drawn w3 1).mono HW3.out.size)).alloc HW3.out.size _
    refine wpAnyH_ready (rs := [6]) (by kernel_rfl) (by simp) ?_
    refine AllReadyH.cons rfl (fun K hK => ?_) AllReadyH.nil
    rw [if_pos (by rfl)]
    go_simp
    refine hK.out _ _ ⟨HL4.out.cell 0 _ rfl, HL4.out.cell 1 _ rfl, HL4.out.cell 2 _ rfl⟩ (fun hHeld => ?_)
    clear hK K
    obtain ⟨v5, w5, hrun, ho5, hg5, ha5⟩ := ListO.snoc (P := Try.prog) (t := 29) 29 (ListO.below H.out.ops HB4.out) Dk.cellO_ok Try.underlying29 info_op rfl (by decide) (Nat.le_trans HBS.out HB4.out.size) ⟨3, n, []⟩ (.slice none 0 0) (Lies.new w3.drew 53 (Dk.cellO ⟨3, n, []⟩ (.slice none 0 0))) (HD.out.keep (Keep.of_below HB4.out)) (by have := HL.out; omega) (by have := HL.out; omega) (fun g hb hp => by omega)
    obtain ⟨o5, n5, c5, rfl⟩ : ∃ a l c, v5 = .slice a l c := by obtain ⟨ps, _, h1, _⟩ := ho5; obtain ⟨a, c, e⟩ := OwnsR.shape h1; exact ⟨a, _, c, e⟩
    have HL5 := Lib.hid (HL4.out.kept hg5 (fun e => by have h1 := HNE.out _ e.symm; have h2 := HB1.out.size; omega))
    have hx4 : Lies (w3.drew.alloc (.cells (Dk.cellO ⟨3, n, []⟩ (.slice none 0 0)) 53)) x 31 #[fv, .slice bo m bc] := H.out.lies.below HB4.out H.out.lies.lt
    have HX5 := Lib.hid (hx4.kept hg5 (hx4.not_ops (by decide) (ListO.below H.out.ops HB4.out)))
    have HS4 : Hid (Lies (w3.drew.alloc (.cells (Dk.cellO ⟨3, n, []⟩ (.slice none 0 0)) 53)) w.heap.size 35 #[.int .i64 3, .int .i64 n, .int .i64 z, .slice so data.length sc]) := (((HL1.out.below HB3.out HL1.out.lt).below (drawn w3 1) (HL1.out.below HB3.out HL1.out.lt).lt).alloc _)
    have HS5 := Lib.hid (HS4.out.kept hg5 (fun e => by have h1 := HNE.out _ e.symm; omega))
    have HO5 := Lib.hid ho5; have HG5 := Lib.hid hg5; have HA5 := Lib.hid ha5; have HRUN := Lib.hid hrun
    clear hrun ho5 hg5 ha5 hx4
    refine wpAnyH_ready (rs := [7]) (by kernel_rfl) (by simp) ?_
    refine ready_append 7 (.tmp 41) (.tmp 43) 29 rfl rfl rfl (.slice bo m bc) (.slice (some ⟨w3.heap.size, 0, none⟩) 1 1) (.slice o5 n5 c5) w5 ?s7a ?x7a HRUN.out ⟨⟨HL5.out.cell 0 _ rfl, HL5.out.cell 1 _ rfl, HL5.out.cell 2 _ rfl⟩, fun hHeld => ?_⟩
    case s7a => kernel_rfl
    case x7a => kernel_rfl
    refine wpAnyH_take (i := 8) (v := ?v8a) rfl (by kernel_rfl) (by kernel_rfl) (by kernel_rfl) (fun _ _ _ h => h) (Or.inl ⟨by rfl, ?hy8a⟩) hHeld ?rest8a
    case hy8a => (intro W hSw; go_simp; (try with_reducible rfl))
    refine wpAnyH_take (i := 9) (v := ?v9a) rfl (by kernel_rfl) (by kernel_rfl) (by kernel_rfl) (fun _ _ _ h => h) (Or.inl ⟨by rfl, ?hy9a⟩) hHeld ?rest9a
    case hy9a => (intro W hSw; go_simp; (try with_reducible rfl))
    refine wpAnyH_ready (rs := [10]) (by kernel_rfl) (by simp) ?_
    refine ready_store 10 29 (.tmp 46) (.tmp 44) rfl rfl rfl x 1 31 #[fv, .slice bo m bc] #[fv, .slice o5 n5 c5] (.slice o5 n5 c5) [.slice o5 n5 c5] ?x10a ?y10a rfl (by kernel_rfl) rfl HX5.out (Nat.le_of_ble_eq_true rfl) rfl ?k10a
    case x10a => kernel_rfl
    case y10a => kernel_rfl
    intro w6 hl6 hg6
    have HL6 := Lib.hid (HL5.out.kept hg6 (fun e => by have h1 := H.out.lies.lt; have h2 := HB1.out.size; simp only [Option.some.injEq] at e; omega))
    have HX6 := Lib.hid hl6; have HG6 := Lib.hid hg6
    have z0 : w6.cell? ⟨w.heap.size, 0, none⟩ = some (.int .i64 3) := (HS5.out.kept hg6 (fun e => by have h1 := H.out.lies.lt; simp only [Option.some.injEq] at e; omega)).cell 0 _ rfl
    clear hl6 hg6
    refine ⟨⟨HL6.out.cell 0 _ rfl, HL6.out.cell 1 _ rfl, HL6.out.cell 2 _ rfl⟩, fun hHeld => ?_⟩
    refine wpAnyH_done (by kernel_rfl) ?_ _
    clear hHeld d0 d3 l0 l1 l2 x1 c0 c1 c2 c3
    go_wp2
    go_end0
    exact ⟨rfl, H.out.held _ HB4.out HO5.out HG5.out HA5.out HX6.out HG6.out⟩
  · rw [if_pos (by rfl)]
    go_simp
    have HL4 : Hid (Lies (w3.drew.alloc (.cells (Dk.cellO ⟨3, n, []⟩ (.slice none 0 0)) 53)) w1.heap.size 53 #[.int .i64 3, .int .i64 n, (.slice none 0 0)]) := (HL3.out.below (drawn w3 1) HL3.out.lt).alloc _
    have HB4 : Hid (Below w.heap.size w (w3.drew.alloc (.cells (Dk.cellO ⟨3, n, []⟩ (.slice none 0 0)) 53))) := (HW3.out.trans ((drawn w3 1).mono HW3.out.size)).alloc HW3.out.size _
    refine hK.out _ _ ⟨HL4.out.cell 0 _ rfl, HL4.out.cell 1 _ rfl, HL4.out.cell 2 _ rfl⟩ (fun hHeld => ?_)
    clear hK K
    have q4 : (w3.alloc (.cells #[.int .i64 3, .int .i64 n, (.slice none 0 0)] 53)).cell? ⟨x, 1, none⟩ = some (.slice bo m bc) := (H.out.lies.below (HW3.out.alloc HW3.out.size _) H.out.lies.lt).cell 1 _ rfl
    refine wpAnyH_ready (rs := [4]) (by kernel_rfl) (by simp) ?_
    refine AllReadyH.cons rfl (fun K hK => ?_) AllReadyH.nil
    rw [if_pos (by rfl)]
    go_simp
    refine hK.out _ _ ⟨HL4.out.cell 0 _ rfl, HL4.out.cell 1 _ rfl, HL4.out.cell 2 _ rfl⟩ (fun hHeld => ?_)
    clear hK K
    clear q4
    obtain ⟨v5, w5, hrun, ho5, hg5, ha5⟩ := ListO.snoc (P := Try.prog) (t := 29) 29 (ListO.below H.out.ops HB4.out) Dk.cellO_ok Try.underlying29 info_op rfl (by decide) (Nat.le_trans HBS.out HB4.out.size) ⟨3, n, []⟩ (.slice none 0 0) (Lies.new w3.drew 53 (Dk.cellO ⟨3, n, []⟩ (.slice none 0 0))) (HD.out.keep (Keep.of_below HB4.out)) (by have := HL.out; omega) (by have := HL.out; omega) (fun g hb hp => by omega)
    obtain ⟨o5, n5, c5, rfl⟩ : ∃ a l c, v5 = .slice a l c := by obtain ⟨ps, _, h1, _⟩ := ho5; obtain ⟨a, c, e⟩ := OwnsR.shape h1; exact ⟨a, _, c, e⟩
    have HL5 := Lib.hid (HL4.out.kept hg5 (fun e => by have h1 := HNE.out _ e.symm; have h2 := HB1.out.size; omega))
    have hx4 : Lies (w3.drew.alloc (.cells (Dk.cellO ⟨3, n, []⟩ (.slice none 0 0)) 53)) x 31 #[fv, .slice bo m bc] := H.out.lies.below HB4.out H.out.lies.lt
    have HX5 := Lib.hid (hx4.kept hg5 (hx4.not_ops (by decide) (ListO.below H.out.ops HB4.out)))
    have HS4 : Hid (Lies (w3.drew.alloc (.cells (Dk.cellO ⟨3, n, []⟩ (.slice none 0 0)) 53)) w.heap.size 35 #[.int .i64 3, .int .i64 n, .int .i64 z, .slice so data.length sc]) := (((HL1.out.below HB3.out HL1.out.lt).below (drawn w3 1) (HL1.out.below HB3.out HL1.out.lt).lt).alloc _)
    have HS5 := Lib.hid (HS4.out.kept hg5 (fun e => by have h1 := HNE.out _ e.symm; omega))
    have HO5 := Lib.hid ho5; have HG5 := Lib.hid hg5; have HA5 := Lib.hid ha5; have HRUN := Lib.hid hrun
    clear hrun ho5 hg5 ha5 hx4
    refine wpAnyH_ready (rs := [7]) (by kernel_rfl) (by simp) ?_
    refine ready_append 7 (.tmp 41) (.tmp 43) 29 rfl rfl rfl (.slice bo m bc) (.slice (some ⟨w3.heap.size, 0, none⟩) 1 1) (.slice o5 n5 c5) w5 ?s7b ?x7b HRUN.out ⟨⟨HL5.out.cell 0 _ rfl, HL5.out.cell 1 _ rfl, HL5.out.cell 2 _ rfl⟩, fun hHeld => ?_⟩
    case s7b => kernel_rfl
    case x7b => kernel_rfl
    refine wpAnyH_take (i := 8) (v := ?v8b) rfl (by kernel_rfl) (by kernel_rfl) (by kernel_rfl) (fun _ _ _ h => h) (Or.inl ⟨by rfl, ?hy8b⟩) hHeld ?rest8b
    case hy8b => (intro W hSw; go_simp; (try with_reducible rfl))
    refine wpAnyH_take (i := 9) (v := ?v9b) rfl (by kernel_rfl) (by kernel_rfl) (by kernel_rfl) (fun _ _ _ h => h) (Or.inl ⟨by rfl, ?hy9b⟩) hHeld ?rest9b
    case hy9b => (intro W hSw; go_simp; (try with_reducible rfl))
    refine wpAnyH_ready (rs := [10]) (by kernel_rfl) (by simp) ?_
    refine ready_store 10 29 (.tmp 46) (.tmp 44) rfl rfl rfl x 1 31 #[fv, .slice bo m bc] #[fv, .slice o5 n5 c5] (.slice o5 n5 c5) [.slice o5 n5 c5] ?x10b ?y10b rfl (by kernel_rfl) rfl HX5.out (Nat.le_of_ble_eq_true rfl) rfl ?k10b
    case x10b => kernel_rfl
    case y10b => kernel_rfl
    intro w6 hl6 hg6
    have HL6 := Lib.hid (HL5.out.kept hg6 (fun e => by have h1 := H.out.lies.lt; have h2 := HB1.out.size; simp only [Option.some.injEq] at e; omega))
    have HX6 := Lib.hid hl6; have HG6 := Lib.hid hg6
    have z0 : w6.cell? ⟨w.heap.size, 0, none⟩ = some (.int .i64 3) := (HS5.out.kept hg6 (fun e => by have h1 := H.out.lies.lt; simp only [Option.some.injEq] at e; omega)).cell 0 _ rfl
    clear hl6 hg6
    refine ⟨⟨HL6.out.cell 0 _ rfl, HL6.out.cell 1 _ rfl, HL6.out.cell 2 _ rfl⟩, fun hHeld => ?_⟩
    refine wpAnyH_done (by kernel_rfl) ?_ _
    clear hHeld d0 d3 l0 l1 l2 x1 c0 c1 c2 c3
    go_wp2
    go_end0
    exact ⟨rfl, H.out.held _ HB4.out HO5.out HG5.out HA5.out HX6.out HG6.out⟩

/-- What is buffered is gone, and the files are others. -/
theorem RefP.gone {A : Nat → Prop} {base : Nat} {w w5 w6 : World} {x : Nat} {fv bv v3 : Value} {F F' : Dk.Files} {B : List Dk.Op} (h : RefP A base w x fv bv F B) (hk : Kp (fun k _ => k ≠ x) w w5) (hf : FilesP (fun k t => (A k ∨ w.heap.size ≤ k) ∧ t ≠ 53 ∧ t ≠ 31) w5 v3 F')
    (hl6 : Lies w6 x 31 #[v3, .slice none 0 0]) (hl5 : Lies w5 x 31 #[v3, bv]) (hg6 : w5.grownBy w6 (some x)) : RefAt (fun k => A k ∨ w.heap.size ≤ k) base w6 x F' [] ∧ Kp (fun k _ => ¬ A k ∨ k < base) w w6 := by
  have hk6 : Kp (fun k _ => k ≠ x) w5 w6 := Kp.of_grown hg6 fun j _ e _ hq => hq (by simpa using e.symm)
  refine ⟨⟨v3, .slice none 0 0, hl6, ⟨.inl h.here.1, h.here.2⟩, fun k hk => .inl (h.old k hk), hf.keep (hk6.keep fun k cs t fr e hp e' => ?_), ListO.bare _ _ _ _, fun g e => by simp [Value.ownBlock] at e⟩, (hk.trans hk6).imp fun j _ _ hq e => ?_⟩
  · subst e'
    rw [show w5.heap[k]? = _ from hl5] at e
    cases e
    exact hp.2.2 rfl
  · subst e
    rcases hq with hq | hq
    · exact hq h.here.1
    · have := h.here.2; omega
theorem made_ref {A : Nat → Prop} {n0 n1 : Nat} {w : World} {v : Value} {F : Dk.Files} (h : FilesP (madeP (fun k t => A k ∧ t ≠ 53 ∧ t ≠ 31) n1) w v F) (hn : n0 ≤ n1) : FilesP (fun k t => (A k ∨ n0 ≤ k) ∧ t ≠ 53 ∧ t ≠ 31) w v F :=
  h.imp fun k _ t _ _ hp => by
    rcases hp with hp | ⟨hp, hk⟩
    · exact ⟨.inl hp.1, hp.2⟩
    · refine ⟨.inr (by omega), ?_⟩
      rcases hp with rfl | rfl <;> exact ⟨by decide, by decide⟩
set_option maxRecDepth 8000 in
set_option maxHeartbeats 3200000 in
theorem do_sync {A : Nat → Prop} {base : Nat} {w : World} {x : Nat} {fv bv : Value} {F : Dk.Files} {B : List Dk.Op} (h : RefP A base w x fv bv F B) (hbase : base ≤ w.heap.size) (n z : Int) (dv : Value) (data : List UInt8) (hd : ReadsP (fun k _ => k < base) w dv data) (ha : Dk.Asc F) (hk : Dk.Kinds B) (hs : Dk.wt F + 2 * Dk.wtB B ≤ 68719476736) : Calls Try.prog 10 #[.pointer (some ⟨x, 0, none⟩), .agg #[.int .i64 4, .int .i64 n, .int .i64 z, dv]] w (Did A base w x (Dk.all F B, [])) := by
  obtain ⟨so, sc, rfl⟩ := hd.1.shape
  obtain ⟨w1, hw1⟩ : ∃ w1, w.alloc (.cells #[.int .i64 4, .int .i64 n, .int .i64 z, .slice so data.length sc] 35) = w1 := ⟨_, rfl⟩
  have hb1 : Below w.heap.size w w1 := by rw [← hw1]; exact (Below.refl _ w).alloc (Nat.le_refl _) _
  have hL1 : Lies w1 w.heap.size 35 #[.int .i64 4, .int .i64 n, .int .i64 z, .slice so data.length sc] := by rw [← hw1]; exact Lies.new w _ _
  have h1 := h.keep (Kp.all hb1)
  have hs1 : w1.heap.size = w.heap.size + 1 := by rw [← hw1]; simp
  have c0 : w1.cell? ⟨w.heap.size, 0, none⟩ = some (.int .i64 4) := hL1.cell 0 _ rfl
  have c1 : w1.cell? ⟨w.heap.size, 1, none⟩ = some (.int .i64 n) := hL1.cell 1 _ rfl
  have c2 : w1.cell? ⟨w.heap.size, 2, none⟩ = some (.int .i64 z) := hL1.cell 2 _ rfl
  have c3 : w1.cell? ⟨w.heap.size, 3, none⟩ = some (.slice so data.length sc) := hL1.cell 3 _ rfl
  obtain ⟨bo, bc, rfl⟩ : ∃ ao cap, bv = .slice ao B.length cap := by obtain ⟨a, c, e, _⟩ := h.reads.shape; exact ⟨a, c, e⟩
  obtain ⟨fo, fc, rfl, _, _⟩ := h.files.shape
  obtain ⟨m, hm⟩ : ∃ m, m = B.length := ⟨_, rfl⟩
  obtain ⟨fl, hfl⟩ : ∃ fl, fl = F.length := ⟨_, rfl⟩
  have H := Lib.hid h; have HB1 := Lib.hid hb1; have HL1 := Lib.hid hL1; have H1 := Lib.hid h1; have HS1 := Lib.hid hs1; have HBS := Lib.hid hbase; have HM := Lib.hid hm; have HA := Lib.hid ha; have HK := Lib.hid hk; have HS := Lib.hid hs
  rw [← hm, ← hfl] at H H1
  clear h hb1 hL1 h1 hs1 hd hm hfl hbase ha hk hs
  have x0 : w1.cell? ⟨x, 0, none⟩ = some (.slice fo fl fc) := H1.out.lies.cell 0 _ rfl
  have x1 : w1.cell? ⟨x, 1, none⟩ = some (.slice bo m bc) := H1.out.lies.cell 1 _ rfl
  go_enter Try.func10, Try.ntmps10
  go_wp2
  refine wp_region_held_drew (S := fun W => W.cell? ⟨x, 1, none⟩ = some (.slice bo m bc)) (by kernel_rfl) (x1) (fun hHeld => ?_)
  refine wpAnyH_take (i := 0) (v := ?v0) rfl (by kernel_rfl) (by kernel_rfl) (by kernel_rfl) (fun _ _ _ h => h) (Or.inl ⟨by rfl, ?hy0⟩) hHeld ?rest0
  case hy0 => (intro W hSw; go_simp; (try with_reducible rfl))
  refine wpAnyH_take (i := 1) (v := ?v1) rfl (by kernel_rfl) (by kernel_rfl) (by kernel_rfl) (fun _ _ _ h => h) (Or.inl ⟨by rfl, ?hy1⟩) hHeld ?rest1
  case hy1 => (intro W hSw; go_simp; (try with_reducible rfl))
  refine wpAnyH_take (i := 2) (v := ?v2) rfl (by kernel_rfl) (by kernel_rfl) (by kernel_rfl) (fun _ _ _ h => h) (Or.inl ⟨by rfl, ?hy2⟩) hHeld ?rest2
  case hy2 => (intro W hSw; go_simp; (try with_reducible rfl))
  refine wpAnyH_take (i := 3) (v := ?v3) rfl (by kernel_rfl) (by kernel_rfl) (by kernel_rfl) (fun _ _ _ h => h) (Or.inl ⟨by rfl, ?hy3⟩) hHeld ?rest3
  case hy3 => (intro W hSw; go_simp; (try with_reducible rfl))
  refine wpAnyH_take (i := 5) (v := ?v5) rfl (by kernel_rfl) (by kernel_rfl) (by kernel_rfl) (fun _ _ _ h => h) (Or.inl ⟨by rfl, ?hy5⟩) hHeld ?rest5
  case hy5 => (intro W hSw; go_simp; (try with_reducible rfl))
  refine wpAnyH_take (i := 6) (v := ?v6) rfl (by kernel_rfl) (by kernel_rfl) (by kernel_rfl) (fun _ _ _ h => h) (Or.inl ⟨by rfl, ?hy6⟩) hHeld ?rest6
  case hy6 => (intro W hSw; go_simp; (try with_reducible rfl))
  refine wpAnyH_take (i := 7) (v := ?v7) rfl (by kernel_rfl) (by kernel_rfl) (by kernel_rfl) (fun _ _ _ h => h) (Or.inl ⟨by rfl, ?hy7⟩) hHeld ?rest7
  case hy7 => (intro W hSw; go_simp; (try with_reducible rfl))
  refine wpAnyH_take (i := 8) (v := ?v8) rfl (by kernel_rfl) (by kernel_rfl) (by kernel_rfl) (fun _ _ _ h => h) (Or.inl ⟨by rfl, ?hy8⟩) hHeld ?rest8
  case hy8 => (intro W hSw; go_simp; (try with_reducible rfl))
  refine wpAnyH_ready (rs := [4]) (by kernel_rfl) (by simp) ?_
  refine AllReadyH.cons rfl (fun K hK => ?_) AllReadyH.nil
  rw [if_pos (by rfl)]
  go_simp
  refine hK.out _ _ x1 (fun hHeld => ?_)
  clear hK K
  refine wpAnyH_ready (rs := [9]) (by kernel_rfl) (by simp) ?_
  refine AllReadyH.cons rfl (fun K hK => ?_) AllReadyH.nil
  rw [if_pos (by rfl)]
  go_simp
  go_at_call 16
  have hfd := (H1.out.files).below (drawn w1 1)
  have hod := (H1.out.reads).below (drawn w1 1)
  refine (all_ref (w := w1.drew) hfd hod HA.out HK.out HS.out).mono ?_
  rintro e w3 ⟨v3, rfl, h3, hb3⟩
  obtain ⟨vo, vl, vc, rfl⟩ : ∃ a l c, v3 = .slice a l c := (by obtain ⟨a, c, e, _⟩ := h3.shape; exact ⟨a, _, c, e⟩)
  have H3 := Lib.hid h3; have HB3 : Hid (Below w1.heap.size w1 w3) := on (drawn w1 1) hb3
  have q3 : w3.cell? ⟨x, 1, none⟩ = some (.slice bo m bc) := (H1.out.lies.below HB3.out H1.out.lies.lt).cell 1 _ rfl
  clear h3 hb3 hfd hod
  refine hK.out _ _ q3 (fun hHeld => ?_)
  clear hK K
  refine wpAnyH_take (i := 10) (v := ?v10) rfl (by kernel_rfl) (by kernel_rfl) (by kernel_rfl) (fun _ _ _ h => h) (Or.inl ⟨by rfl, ?hy10⟩) hHeld ?rest10
  case hy10 => (intro W hSw; go_simp; (try with_reducible rfl))
  refine wpAnyH_take (i := 11) (v := ?v11) rfl (by kernel_rfl) (by kernel_rfl) (by kernel_rfl) (fun _ _ _ h => h) (Or.inl ⟨by rfl, ?hy11⟩) hHeld ?rest11
  case hy11 => (intro W hSw; go_simp; (try with_reducible rfl))
  refine wpAnyH_ready (rs := [12]) (by kernel_rfl) (by simp) ?_
  refine ready_store 12 28 (.tmp 61) (.tmp 59) rfl rfl rfl x 0 31 #[.slice fo fl fc, .slice bo m bc] #[.slice vo vl vc, .slice bo m bc] (.slice vo vl vc) [.slice vo vl vc] ?x12 ?y12 rfl (by kernel_rfl) rfl (H1.out.lies.below HB3.out H1.out.lies.lt) (Nat.le_of_ble_eq_true rfl) rfl ?k12
  case x12 => kernel_rfl
  case y12 => kernel_rfl
  intro w4 hl4 hg4
  have HL4 := Lib.hid hl4; have HG4 := Lib.hid hg4
  clear hl4 hg4
  refine ⟨HL4.out.cell 1 _ rfl, fun hHeld => ?_⟩
  refine wpAnyH_done (by kernel_rfl) ?_ _
  clear hHeld x0 x1 q3 c0 c1 c2 c3
  go_wp2_with (refine store_part rfl 29 _ _ rfl x 1 31 _ #[.slice vo vl vc, .slice none 0 0] (.slice none 0 0) [.slice none 0 0] rfl rfl rfl (by kernel_rfl) rfl HL4.out (Nat.le_of_ble_eq_true rfl) rfl ?_; intro w5 hl5 hg5; have hxl := H.out.lies.lt; have hS4 := (HL1.out.below HB3.out HL1.out.lt).kept HG4.out (fun e => by simp only [Option.some.injEq] at e; omega); have z0 : w5.cell? ⟨w.heap.size, 0, none⟩ = some (.int .i64 4) := (hS4.kept hg5 (fun e => by simp only [Option.some.injEq] at e; omega)).cell 0 _ rfl; have HL5 := Lib.hid hl5; have HG5 := Lib.hid hg5; clear hl5 hg5 hS4 hxl)
  go_end0
  have hk4 : Kp (fun k _ => k ≠ x) w w4 := ((Kp.all HB1.out).trans (Kp.all HB3.out)).trans (Kp.of_grown HG4.out fun j _ e _ hq => hq (by simpa using e.symm))
  have hf4 : FilesP (fun k t => (A k ∨ w.heap.size ≤ k) ∧ t ≠ 53 ∧ t ≠ 31) w4 (.slice vo vl vc) (Dk.all F B) := (made_ref (n0 := w.heap.size) H3.out (by have := HS1.out; show w.heap.size ≤ w1.heap.size; omega)).keep (Keep.of_grown HG4.out fun g cs t fr e hc hp => by
    simp only [Option.some.injEq] at e
    subst e
    rw [show w3.heap[x]? = _ from H1.out.lies.below HB3.out H1.out.lies.lt] at hc
    cases hc
    exact hp.2.2 rfl)
  exact ⟨rfl, H.out.gone hk4 hf4 HL5.out HL4.out HG5.out⟩

end Go.Proofs.Ytffgfjfeoinnfaa
