/- The document's disk: a crash. Written by a program. -/
import Derived.Test.YtffgfjfeoinnfaaDkDo
namespace Go.Proofs.Ytffgfjfeoinnfaa
open Go.RowKit

/-- So far of what is buffered is carried out. -/
structure CutI (A : Nat → Prop) (w w1 : World) (x : Nat) (bv : Value) (F : Dk.Files) (B : List Dk.Op) (i : Nat) (fv : Value) (W : World) : Prop where
  lies : Lies W x 31 #[fv, bv]
  files : FilesP (fun k t => (A k ∨ w.heap.size ≤ k) ∧ t ≠ 53 ∧ t ≠ 31) W fv (Dk.all F (B.take i))
  kept : Kp (fun k _ => k ≠ x) w1 W
theorem CutI.below {A : Nat → Prop} {w w1 W W' : World} {x : Nat} {bv fv : Value} {F : Dk.Files} {B : List Dk.Op} {i : Nat} (h : CutI A w w1 x bv F B i fv W) (hb : Below W.heap.size W W') : CutI A w w1 x bv F B i fv W' :=
  ⟨h.lies.below hb h.lies.lt, h.files.below hb, h.kept.trans (Kp.all hb)⟩
/-- The files are others, and stored. -/
theorem CutI.put {A : Nat → Prop} {w w1 W W3 W4 : World} {x : Nat} {bv fv v3 : Value} {F F' : Dk.Files} {B : List Dk.Op} {i : Nat} (h : CutI A w w1 x bv F B i fv W) (hw : w.heap.size ≤ w1.heap.size) (hb3 : Below W.heap.size W W3) (h3 : FilesP (madeP (fun k t => (A k ∨ w.heap.size ≤ k) ∧ t ≠ 53 ∧ t ≠ 31) W.heap.size) W3 v3 F') (hg4 : W3.grownBy W4 (some x)) :
    FilesP (fun k t => (A k ∨ w.heap.size ≤ k) ∧ t ≠ 53 ∧ t ≠ 31) W4 v3 F' ∧ Kp (fun k _ => k ≠ x) w1 W4 := by
  have h1 := h.kept.size
  refine ⟨(h3.imp fun k _ t _ _ hp => ?_).keep (Keep.of_grown hg4 fun g cs t fr e hc hp => ?_), (h.kept.trans (Kp.all hb3)).trans (Kp.of_grown hg4 fun j _ e _ hq => hq (by simpa using e.symm))⟩
  · show (A k ∨ w.heap.size ≤ k) ∧ t ≠ 53 ∧ t ≠ 31
    rcases hp with hp | ⟨hp, hk⟩
    · exact hp
    · refine ⟨.inr (by omega), ?_⟩
      rcases hp with rfl | rfl <;> exact ⟨by decide, by decide⟩
  · simp only [Option.some.injEq] at e
    subst e
    rw [show W3.heap[x]? = _ from h.lies.below hb3 h.lies.lt] at hc
    cases hc
    exact hp.2.2 rfl

set_option maxRecDepth 8000 in
set_option maxHeartbeats 3200000 in
theorem do_crash {A : Nat → Prop} {base : Nat} {w : World} {x : Nat} {fv bv : Value} {F : Dk.Files} {B : List Dk.Op} (h : RefP A base w x fv bv F B) (hbase : base ≤ w.heap.size) (n z : Int) (dv : Value) (data : List UInt8) (hd : ReadsP (fun k _ => k < base) w dv data) (ha : Dk.Asc F) (hk : Dk.Kinds B) (hs : Dk.wt F + 2 * Dk.wtB B ≤ 68719476736) : Calls Try.prog 10 #[.pointer (some ⟨x, 0, none⟩), .agg #[.int .i64 5, .int .i64 n, .int .i64 z, dv]] w (Did A base w x (Dk.crash F B n z, [])) := by
  obtain ⟨so, sc, rfl⟩ := hd.1.shape
  obtain ⟨w1, hw1⟩ : ∃ w1, w.alloc (.cells #[.int .i64 5, .int .i64 n, .int .i64 z, .slice so data.length sc] 35) = w1 := ⟨_, rfl⟩
  have hb1 : Below w.heap.size w w1 := by rw [← hw1]; exact (Below.refl _ w).alloc (Nat.le_refl _) _
  have hL1 : Lies w1 w.heap.size 35 #[.int .i64 5, .int .i64 n, .int .i64 z, .slice so data.length sc] := by rw [← hw1]; exact Lies.new w _ _
  have h1 := h.keep (Kp.all hb1)
  have hs1 : w1.heap.size = w.heap.size + 1 := by rw [← hw1]; simp
  have c0 : w1.cell? ⟨w.heap.size, 0, none⟩ = some (.int .i64 5) := hL1.cell 0 _ rfl
  have c1 : w1.cell? ⟨w.heap.size, 1, none⟩ = some (.int .i64 n) := hL1.cell 1 _ rfl
  have c2 : w1.cell? ⟨w.heap.size, 2, none⟩ = some (.int .i64 z) := hL1.cell 2 _ rfl
  have c3 : w1.cell? ⟨w.heap.size, 3, none⟩ = some (.slice so data.length sc) := hL1.cell 3 _ rfl
  obtain ⟨bo, bc, rfl⟩ : ∃ ao cap, bv = .slice ao B.length cap := by obtain ⟨a, c, e, _⟩ := h.reads.shape; exact ⟨a, c, e⟩
  obtain ⟨fo, fc, rfl, _, _⟩ := h.files.shape
  obtain ⟨m, hm⟩ : ∃ m, m = B.length := ⟨_, rfl⟩
  obtain ⟨fl, hfl⟩ : ∃ fl, fl = F.length := ⟨_, rfl⟩
  have H := Lib.hid h; have HB1 := Lib.hid hb1; have HL1 := Lib.hid hL1; have H1 := Lib.hid h1; have HS1 := Lib.hid hs1; have HBS := Lib.hid hbase; have HM := Lib.hid hm; have HA := Lib.hid ha; have HK := Lib.hid hk; have HS := Lib.hid hs
  rw [← hm, ← hfl] at H H1
  have HOPS : Hid (OpsP (fun k _ => k ≠ x) w1 (.slice bo m bc) B) := by
    show OpsP _ _ _ _
    rw [HM.out]
    refine ListO.reads (ListO.imp h1.ops fun k _ _ _ _ hp e => ?_) Dk.cellO_ok fun g e e2 => ?_
    · have := h.here.2; omega
    · subst e2
      obtain ⟨cs, hc, _⟩ := h1.ops.blocks e
      rw [show w1.heap[g]? = _ from h1.lies] at hc
      cases hc
  clear h hb1 hL1 h1 hs1 hd hm hfl hbase ha hk hs
  have HEL : Hid (∀ W : World, Kp (fun k _ => k ≠ x) w1 W → ∀ j, j < m → ∃ (b0 off : Nat) (o : Dk.Op) (ax : Option Addr) (cx : Nat), bo = some ⟨b0, off, none⟩ ∧ B[j]? = some o ∧ ReadsP (fun k _ => k ≠ x) W (.slice ax o.data.length cx) o.data ∧ o.data.length ≤ cx ∧ cx ≤ 9223372036854775807 ∧
      W.cell? ⟨b0, off + j * 3, none⟩ = some (.int .i64 o.kind) ∧ W.cell? ⟨b0, off + j * 3 + 1, none⟩ = some (.int .i64 o.no) ∧ W.cell? ⟨b0, off + j * 3 + 2, none⟩ = some (.slice ax o.data.length cx)) := by
    intro W hW j hj
    have hr := HOPS.out.keep (hW.keep fun _ _ _ _ _ hp => hp)
    obtain ⟨b0, off, e, _, hp⟩ := hr.places cellO_first (by have := HM.out; omega)
    obtain ⟨o, ho⟩ : ∃ o, B[j]? = some o := ⟨_, List.getElem?_eq_getElem (by have := HM.out; omega)⟩
    obtain ⟨u, hu, hc⟩ := hp j o ho
    obtain ⟨ax, cx, rfl⟩ := hu.1.shape
    exact ⟨b0, off, o, ax, cx, e, ho, hu, hu.1.len.2.1, hu.1.len.2.2.1, hc W (Below.refl _ _) 0 _ rfl, hc W (Below.refl _ _) 1 _ rfl, hc W (Below.refl _ _) 2 _ rfl⟩
  obtain ⟨K, hK⟩ : ∃ K, K = Dk.clamp n m := ⟨_, rfl⟩
  have hKm : K ≤ m := by rw [hK]; unfold Dk.clamp; omega
  have HKK := Lib.hid hK
  have hm9 : m ≤ 68719476736 := by have h1 := Dk.len_wtB B; have h2 := HS.out; have h3 := HM.out; omega
  have HCR : Hid (Dk.crash F B n z = match B[K]? with
    | none => Dk.all F B
    | some o => if o.kind = 2 then Dk.done (Dk.all F (B.take K)) (Dk.torn o z) else Dk.all F (B.take K)) := by
    show Dk.crash _ _ n z = _
    have e : Dk.clamp n B.length = K := by rw [HKK.out, HM.out]
    unfold Dk.crash
    rw [e]
    cases B[K]? <;> rfl
  have HWT : Hid (∀ (i j : Nat) (o : Dk.Op), B[j]? = some o → Dk.wt (Dk.all F (B.take i)) + o.data.length ≤ 68719476736) := fun i j o ho => by
    have h1 := Dk.wt_all (B.take i) F
    have h2 := Dk.wtB_split B i
    have h3 := Dk.wtB_mem (List.mem_of_getElem? ho)
    have h4 := HS.out
    omega
  have HI0 : Hid (CutI A w w1 x (.slice bo m bc) F B 0 (.slice fo fl fc) w1) := ⟨H1.out.lies, H1.out.files.imp fun _ _ _ _ _ hp => ⟨.inl hp.1, hp.2⟩, Kp.refl _ _⟩
  clear hK c3
  go_enter Try.func10, Try.ntmps10
  go_wp2
  go_loopw [5] (fun y wr => ∃ (i : Nat) (ao : Option Addr) (an ac : Nat), y = .int .i64 (i : Int) ∧ i ≤ K ∧ Hid (CutI A w w1 x (.slice bo m bc) F B i (.slice ao an ac) wr)) (fun y _ => K - (intOf y).toNat)
  case atStart => exact ⟨0, fo, fl, fc, rfl, Nat.zero_le _, HI0.out⟩
  case round =>
    obtain ⟨i, ao, an, ac, rfl, hiK, hI⟩ := hrel
    have HSR : Hid (Lies wr w.heap.size 35 #[.int .i64 5, .int .i64 n, .int .i64 z, .slice so data.length sc]) := hI.out.kept.lies HL1.out fun _ e => by have := H.out.lies.lt; omega
    have t1 : wr.cell? ⟨w.heap.size, 1, none⟩ = some (.int .i64 n) := HSR.out.cell 1 _ rfl
    have t2 : wr.cell? ⟨w.heap.size, 2, none⟩ = some (.int .i64 z) := HSR.out.cell 2 _ rfl
    have x1 : wr.cell? ⟨x, 1, none⟩ = some (.slice bo m bc) := hI.out.lies.cell 1 _ rfl
    clear HI0 c0 c1 c2
    by_cases hlt : i < m
    · have hint : ((i : Nat) : Int) < (m : Int) := by omega
      obtain ⟨b0, off, ⟨ok, nu, od⟩, ax, cx, rfl, ho, hr, hcx, hcx2, k0, k1, k2⟩ := HEL.out wr hI.out.kept i hlt
      simp only at hr hcx k0 k1 k2
      have hok := HK.out _ (List.mem_of_getElem? ho)
      simp only at hok
      have HO := Lib.hid ho; have HR := Lib.hid hr; have HOK := Lib.hid hok
      clear ho hr hok
      obtain ⟨w2, hw2⟩ : ∃ w2, wr.alloc (.cells #[.int .i64 ok, .int .i64 nu, .slice ax od.length cx] 53) = w2 := ⟨_, rfl⟩
      have hb2 : Below wr.heap.size wr w2 := by rw [← hw2]; exact (Below.refl _ wr).alloc (Nat.le_refl _) _
      have HL2 : Hid (Lies w2 wr.heap.size 53 #[.int .i64 ok, .int .i64 nu, .slice ax od.length cx]) := by show Lies _ _ _ _; rw [← hw2]; exact Lies.new wr _ _
      have HB2 := Lib.hid hb2; have HI2 := Lib.hid (hI.out.below hb2)
      clear hb2
      have l0 : w2.cell? ⟨wr.heap.size, 0, none⟩ = some (.int .i64 ok) := HL2.out.cell 0 _ rfl
      have l1 : w2.cell? ⟨wr.heap.size, 1, none⟩ = some (.int .i64 nu) := HL2.out.cell 1 _ rfl
      have l2 : w2.cell? ⟨wr.heap.size, 2, none⟩ = some (.slice ax od.length cx) := HL2.out.cell 2 _ rfl
      have v1 : w2.cell? ⟨w.heap.size, 1, none⟩ = some (.int .i64 n) := (HSR.out.below HB2.out HSR.out.lt).cell 1 _ rfl
      have v2 : w2.cell? ⟨w.heap.size, 2, none⟩ = some (.int .i64 z) := (HSR.out.below HB2.out HSR.out.lt).cell 2 _ rfl
      have x2 : w2.cell? ⟨x, 0, none⟩ = some (.slice ao an ac) := HI2.out.lies.cell 0 _ rfl
      by_cases hkp : ((i : Nat) : Int) < n
      · have HKP := Lib.hid hkp
        go_wp2
        refine wp_region_held_drew (S := fun W => W.cell? ⟨wr.heap.size, 0, none⟩ = some (.int .i64 ok) ∧ W.cell? ⟨wr.heap.size, 1, none⟩ = some (.int .i64 nu) ∧ W.cell? ⟨wr.heap.size, 2, none⟩ = some (.slice ax od.length cx)) (by kernel_rfl) (⟨HL2.out.cell 0 _ rfl, HL2.out.cell 1 _ rfl, HL2.out.cell 2 _ rfl⟩) (fun hHeld => ?_)
        refine wpAnyH_take (i := 0) (v := ?v0a) rfl (by kernel_rfl) (by kernel_rfl) (by kernel_rfl) (fun _ _ _ h => h) (Or.inl ⟨by rfl, ?hy0a⟩) hHeld ?rest0a
        case hy0a => (intro W hSw; obtain ⟨s1, s2, s3⟩ := hSw; go_simp; (try with_reducible rfl))
        refine wpAnyH_take (i := 1) (v := ?v1a) rfl (by kernel_rfl) (by kernel_rfl) (by kernel_rfl) (fun _ _ _ h => h) (Or.inl ⟨by rfl, ?hy1a⟩) hHeld ?rest1a
        case hy1a => (intro W hSw; obtain ⟨s1, s2, s3⟩ := hSw; go_simp; (try with_reducible rfl))
        refine wpAnyH_take (i := 2) (v := ?v2a) rfl (by kernel_rfl) (by kernel_rfl) (by kernel_rfl) (fun _ _ _ h => h) (Or.inl ⟨by rfl, ?hy2a⟩) hHeld ?rest2a
        case hy2a => (intro W hSw; obtain ⟨s1, s2, s3⟩ := hSw; go_simp; (try with_reducible rfl))
        refine wpAnyH_take (i := 3) (v := ?v3a) rfl (by kernel_rfl) (by kernel_rfl) (by kernel_rfl) (fun _ _ _ h => h) (Or.inl ⟨by rfl, ?hy3a⟩) hHeld ?rest3a
        case hy3a => (intro W hSw; obtain ⟨s1, s2, s3⟩ := hSw; go_simp; (try with_reducible rfl))
        refine wpAnyH_take (i := 5) (v := ?v5a) rfl (by kernel_rfl) (by kernel_rfl) (by kernel_rfl) (fun _ _ _ h => h) (Or.inl ⟨by rfl, ?hy5a⟩) hHeld ?rest5a
        case hy5a => (intro W hSw; obtain ⟨s1, s2, s3⟩ := hSw; go_simp; (try with_reducible rfl))
        refine wpAnyH_ready (rs := [4]) (by kernel_rfl) (by simp) ?_
        refine AllReadyH.cons rfl (fun K hK => ?_) AllReadyH.nil
        rw [if_pos (by rfl)]
        go_simp
        refine hK.out _ _ ⟨HL2.out.cell 0 _ rfl, HL2.out.cell 1 _ rfl, HL2.out.cell 2 _ rfl⟩ (fun hHeld => ?_)
        clear hK K
        refine wpAnyH_ready (rs := [6]) (by kernel_rfl) (by simp) ?_
        refine AllReadyH.cons rfl (fun K hK => ?_) AllReadyH.nil
        rw [if_pos (by rfl)]
        go_simp
        go_at_call 23
        have hfd := (HI2.out.files).below (drawn w2 1)
        refine (done_ref (w := w2.drew) hfd (Dk.asc_all HA.out _) ok nu (.slice ax od.length cx) od (HR.out.1.below HB2.out |>.below (drawn w2 1) |> fun h => ReadsP.of_reads h (fun _ _ _ => trivial)) HOK.out.1 (HWT.out _ _ _ HO.out)).mono ?_
        rintro e w3 ⟨v3, rfl, h3, hb3⟩
        obtain ⟨vo, vl, vc, rfl⟩ : ∃ a l c, v3 = .slice a l c := (by obtain ⟨a, c, e, _⟩ := h3.shape; exact ⟨a, _, c, e⟩)
        have H3 := Lib.hid h3; have HB3 : Hid (Below w2.heap.size w2 w3) := on (drawn w2 1) hb3
        have HLO := Lib.hid (HL2.out.below HB3.out HL2.out.lt)
        clear h3 hb3 hfd
        refine hK.out _ _ ⟨HLO.out.cell 0 _ rfl, HLO.out.cell 1 _ rfl, HLO.out.cell 2 _ rfl⟩ (fun hHeld => ?_)
        clear hK K
        refine wpAnyH_take (i := 7) (v := ?v7a) rfl (by kernel_rfl) (by kernel_rfl) (by kernel_rfl) (fun _ _ _ h => h) (Or.inl ⟨by rfl, ?hy7a⟩) hHeld ?rest7a
        case hy7a => (intro W hSw; go_simp; (try with_reducible rfl))
        refine wpAnyH_take (i := 8) (v := ?v8a) rfl (by kernel_rfl) (by kernel_rfl) (by kernel_rfl) (fun _ _ _ h => h) (Or.inl ⟨by rfl, ?hy8a⟩) hHeld ?rest8a
        case hy8a => (intro W hSw; go_simp; (try with_reducible rfl))
        refine wpAnyH_ready (rs := [9]) (by kernel_rfl) (by simp) ?_
        refine ready_store 9 28 (.tmp 96) (.tmp 94) rfl rfl rfl x 0 31 #[.slice ao an ac, .slice (some ⟨b0, off, none⟩) m bc] #[.slice vo vl vc, .slice (some ⟨b0, off, none⟩) m bc] (.slice vo vl vc) [.slice vo vl vc] ?x9a ?y9a rfl (by kernel_rfl) rfl (HI2.out.lies.below HB3.out HI2.out.lies.lt) (Nat.le_of_ble_eq_true rfl) rfl ?k9a
        case x9a => kernel_rfl
        case y9a => kernel_rfl
        intro w4 hl4 hg4
        have HL4 := Lib.hid hl4; have HG4 := Lib.hid hg4; have HP4 := Lib.hid (HI2.out.put (by have := HS1.out; omega) HB3.out H3.out hg4)
        have HLP := Lib.hid (HLO.out.kept hg4 (fun e => by have h1 := hI.out.lies.lt; simp only [Option.some.injEq] at e; omega))
        clear hl4 hg4
        refine ⟨⟨HLP.out.cell 0 _ rfl, HLP.out.cell 1 _ rfl, HLP.out.cell 2 _ rfl⟩, fun hHeld => ?_⟩
        refine wpAnyH_done (by kernel_rfl) ?_ _
        clear hHeld t1 t2 x1 k0 k1 k2 l0 l1 l2 v1 v2 x2
        go_wp2
        go_roundw
        case rel => exact ⟨i + 1, vo, vl, vc, by simp, by have h1 := HKK.out; have h2 := HKP.out; unfold Dk.clamp at h1; omega, ⟨HL4.out, by rw [Dk.all_step HO.out]; exact HP4.out.1, HP4.out.2⟩⟩
        case measure => simp [intOf]; have h1 := HKK.out; have h2 := HKP.out; unfold Dk.clamp at h1; omega
      · have hiKe : i = K := by have h1 := HKK.out; unfold Dk.clamp at h1; omega
        have HKP := Lib.hid hkp
        subst hiKe
        by_cases h2 : ok = 2
        · subst h2
          have hb2 : ((2 : Int) == 2) = true := rfl
          by_cases hz : z < 0
          · by_cases hl0 : 0 < od.length
            · have hi0 : (0 : Int) < (od.length : Int) := by omega
              have hup := fun u : World => run_bytes_upto u ax od.length cx 0 (by omega)
              go_wp2_with (refine store_part rfl 33 _ _ rfl wr.heap.size 2 53 _ #[.int .i64 2, .int .i64 nu, (.slice ax 0 cx)] (.slice ax 0 cx) [(.slice ax 0 cx)] rfl rfl rfl (by kernel_rfl) rfl HL2.out (Nat.le_of_ble_eq_true rfl) rfl ?_; intro w7 hl7 hg7; have HB7 : Hid (Below wr.heap.size wr w7) := HB2.out.grown hg7 HB2.out.size (fun j e => by cases e; exact Nat.le_refl _); have HL7 := Lib.hid hl7; have HI7 := Lib.hid (hI.out.below HB7.out); have y0 : w7.cell? ⟨x, 0, none⟩ = some (.slice ao an ac) := HI7.out.lies.cell 0 _ rfl; clear hl7 hg7 l0 l1 l2 v1 v2 x2 hw2)
              refine wp_region_held_drew (S := fun W => W.cell? ⟨wr.heap.size, 0, none⟩ = some (.int .i64 2) ∧ W.cell? ⟨wr.heap.size, 1, none⟩ = some (.int .i64 nu) ∧ W.cell? ⟨wr.heap.size, 2, none⟩ = some (.slice ax 0 cx)) (by kernel_rfl) (⟨HL7.out.cell 0 _ rfl, HL7.out.cell 1 _ rfl, HL7.out.cell 2 _ rfl⟩) (fun hHeld => ?_)
              refine wpAnyH_take (i := 0) (v := ?v0b) rfl (by kernel_rfl) (by kernel_rfl) (by kernel_rfl) (fun _ _ _ h => h) (Or.inl ⟨by rfl, ?hy0b⟩) hHeld ?rest0b
              case hy0b => (intro W hSw; obtain ⟨s1, s2, s3⟩ := hSw; go_simp; (try with_reducible rfl))
              refine wpAnyH_take (i := 1) (v := ?v1b) rfl (by kernel_rfl) (by kernel_rfl) (by kernel_rfl) (fun _ _ _ h => h) (Or.inl ⟨by rfl, ?hy1b⟩) hHeld ?rest1b
              case hy1b => (intro W hSw; obtain ⟨s1, s2, s3⟩ := hSw; go_simp; (try with_reducible rfl))
              refine wpAnyH_take (i := 2) (v := ?v2b) rfl (by kernel_rfl) (by kernel_rfl) (by kernel_rfl) (fun _ _ _ h => h) (Or.inl ⟨by rfl, ?hy2b⟩) hHeld ?rest2b
              case hy2b => (intro W hSw; obtain ⟨s1, s2, s3⟩ := hSw; go_simp; (try with_reducible rfl))
              refine wpAnyH_take (i := 3) (v := ?v3b) rfl (by kernel_rfl) (by kernel_rfl) (by kernel_rfl) (fun _ _ _ h => h) (Or.inl ⟨by rfl, ?hy3b⟩) hHeld ?rest3b
              case hy3b => (intro W hSw; obtain ⟨s1, s2, s3⟩ := hSw; go_simp; (try with_reducible rfl))
              refine wpAnyH_take (i := 5) (v := ?v5b) rfl (by kernel_rfl) (by kernel_rfl) (by kernel_rfl) (fun _ _ _ h => h) (Or.inl ⟨by rfl, ?hy5b⟩) hHeld ?rest5b
              case hy5b => (intro W hSw; obtain ⟨s1, s2, s3⟩ := hSw; go_simp; (try with_reducible rfl))
              refine wpAnyH_ready (rs := [4]) (by kernel_rfl) (by simp) ?_
              refine AllReadyH.cons rfl (fun K hK => ?_) AllReadyH.nil
              rw [if_pos (by rfl)]
              go_simp
              refine hK.out _ _ ⟨HL7.out.cell 0 _ rfl, HL7.out.cell 1 _ rfl, HL7.out.cell 2 _ rfl⟩ (fun hHeld => ?_)
              clear hK K
              refine wpAnyH_ready (rs := [6]) (by kernel_rfl) (by simp) ?_
              refine AllReadyH.cons rfl (fun K hK => ?_) AllReadyH.nil
              rw [if_pos (by rfl)]
              go_simp
              go_at_call 23
              have hfd := (HI7.out.files).below (drawn w7 1)
              refine (done_ref (w := w7.drew) hfd (Dk.asc_all HA.out _) 2 nu (.slice ax 0 cx) (od.take 0) (ReadsP.of_reads ((HR.out.1.below HB7.out).below (drawn w7 1) |>.first 0 (by omega)) (fun _ _ _ => trivial)) (.inr (.inl rfl)) (Nat.le_trans (Nat.add_le_add_left (by exact List.length_take_le' _ _) _) (HWT.out _ _ _ HO.out))).mono ?_
              rintro e w3 ⟨v3, rfl, h3, hb3⟩
              obtain ⟨vo, vl, vc, rfl⟩ : ∃ a l c, v3 = .slice a l c := (by obtain ⟨a, c, e, _⟩ := h3.shape; exact ⟨a, _, c, e⟩)
              have H3 := Lib.hid h3; have HB3 : Hid (Below w7.heap.size w7 w3) := on (drawn w7 1) hb3
              have HLO := Lib.hid (HL7.out.below HB3.out HL7.out.lt)
              clear h3 hb3 hfd
              refine hK.out _ _ ⟨HLO.out.cell 0 _ rfl, HLO.out.cell 1 _ rfl, HLO.out.cell 2 _ rfl⟩ (fun hHeld => ?_)
              clear hK K
              refine wpAnyH_take (i := 7) (v := ?v7b) rfl (by kernel_rfl) (by kernel_rfl) (by kernel_rfl) (fun _ _ _ h => h) (Or.inl ⟨by rfl, ?hy7b⟩) hHeld ?rest7b
              case hy7b => (intro W hSw; go_simp; (try with_reducible rfl))
              refine wpAnyH_take (i := 8) (v := ?v8b) rfl (by kernel_rfl) (by kernel_rfl) (by kernel_rfl) (fun _ _ _ h => h) (Or.inl ⟨by rfl, ?hy8b⟩) hHeld ?rest8b
              case hy8b => (intro W hSw; go_simp; (try with_reducible rfl))
              refine wpAnyH_ready (rs := [9]) (by kernel_rfl) (by simp) ?_
              refine ready_store 9 28 (.tmp 122) (.tmp 120) rfl rfl rfl x 0 31 #[.slice ao an ac, .slice (some ⟨b0, off, none⟩) m bc] #[.slice vo vl vc, .slice (some ⟨b0, off, none⟩) m bc] (.slice vo vl vc) [.slice vo vl vc] ?x9b ?y9b rfl (by kernel_rfl) rfl (HI7.out.lies.below HB3.out HI7.out.lies.lt) (Nat.le_of_ble_eq_true rfl) rfl ?k9b
              case x9b => kernel_rfl
              case y9b => kernel_rfl
              intro w4 hl4 hg4
              have HL4 := Lib.hid hl4; have HG4 := Lib.hid hg4; have HP4 := Lib.hid (HI7.out.put (by have := HS1.out; omega) HB3.out H3.out hg4)
              have HLP := Lib.hid (HLO.out.kept hg4 (fun e => by have h1 := hI.out.lies.lt; simp only [Option.some.injEq] at e; omega))
              clear hl4 hg4
              refine ⟨⟨HLP.out.cell 0 _ rfl, HLP.out.cell 1 _ rfl, HLP.out.cell 2 _ rfl⟩, fun hHeld => ?_⟩
              refine wpAnyH_done (by kernel_rfl) ?_ _
              clear hHeld t1 t2 x1 k0 k1 k2
              go_wp2_with (refine store_part rfl 29 _ _ rfl x 1 31 _ #[.slice vo vl vc, .slice none 0 0] (.slice none 0 0) [.slice none 0 0] rfl rfl rfl (by kernel_rfl) rfl HL4.out (Nat.le_of_ble_eq_true rfl) rfl ?_; intro w9 hl9 hg9)
              go_end0
              refine ⟨rfl, H.out.gone ((Kp.all HB1.out).trans HP4.out.2) ?_ hl9 HL4.out hg9⟩
              rw [HCR.out, HO.out]
              have e : Dk.torn ⟨2, nu, od⟩ z = ⟨2, nu, (od.take 0)⟩ := by unfold Dk.torn Dk.clamp; simp only; congr 2; omega
              have h4 := HP4.out.1
              rw [← e] at h4
              exact h4
            · have hi0 : ¬ (0 : Int) < (od.length : Int) := by omega
              go_wp2
              refine wp_region_held_drew (S := fun W => W.cell? ⟨wr.heap.size, 0, none⟩ = some (.int .i64 2) ∧ W.cell? ⟨wr.heap.size, 1, none⟩ = some (.int .i64 nu) ∧ W.cell? ⟨wr.heap.size, 2, none⟩ = some (.slice ax od.length cx)) (by kernel_rfl) (⟨HL2.out.cell 0 _ rfl, HL2.out.cell 1 _ rfl, HL2.out.cell 2 _ rfl⟩) (fun hHeld => ?_)
              refine wpAnyH_take (i := 0) (v := ?v0c) rfl (by kernel_rfl) (by kernel_rfl) (by kernel_rfl) (fun _ _ _ h => h) (Or.inl ⟨by rfl, ?hy0c⟩) hHeld ?rest0c
              case hy0c => (intro W hSw; obtain ⟨s1, s2, s3⟩ := hSw; go_simp; (try with_reducible rfl))
              refine wpAnyH_take (i := 1) (v := ?v1c) rfl (by kernel_rfl) (by kernel_rfl) (by kernel_rfl) (fun _ _ _ h => h) (Or.inl ⟨by rfl, ?hy1c⟩) hHeld ?rest1c
              case hy1c => (intro W hSw; obtain ⟨s1, s2, s3⟩ := hSw; go_simp; (try with_reducible rfl))
              refine wpAnyH_take (i := 2) (v := ?v2c) rfl (by kernel_rfl) (by kernel_rfl) (by kernel_rfl) (fun _ _ _ h => h) (Or.inl ⟨by rfl, ?hy2c⟩) hHeld ?rest2c
              case hy2c => (intro W hSw; obtain ⟨s1, s2, s3⟩ := hSw; go_simp; (try with_reducible rfl))
              refine wpAnyH_take (i := 3) (v := ?v3c) rfl (by kernel_rfl) (by kernel_rfl) (by kernel_rfl) (fun _ _ _ h => h) (Or.inl ⟨by rfl, ?hy3c⟩) hHeld ?rest3c
              case hy3c => (intro W hSw; obtain ⟨s1, s2, s3⟩ := hSw; go_simp; (try with_reducible rfl))
              refine wpAnyH_take (i := 5) (v := ?v5c) rfl (by kernel_rfl) (by kernel_rfl) (by kernel_rfl) (fun _ _ _ h => h) (Or.inl ⟨by rfl, ?hy5c⟩) hHeld ?rest5c
              case hy5c => (intro W hSw; obtain ⟨s1, s2, s3⟩ := hSw; go_simp; (try with_reducible rfl))
              refine wpAnyH_ready (rs := [4]) (by kernel_rfl) (by simp) ?_
              refine AllReadyH.cons rfl (fun K hK => ?_) AllReadyH.nil
              rw [if_pos (by rfl)]
              go_simp
              refine hK.out _ _ ⟨HL2.out.cell 0 _ rfl, HL2.out.cell 1 _ rfl, HL2.out.cell 2 _ rfl⟩ (fun hHeld => ?_)
              clear hK K
              refine wpAnyH_ready (rs := [6]) (by kernel_rfl) (by simp) ?_
              refine AllReadyH.cons rfl (fun K hK => ?_) AllReadyH.nil
              rw [if_pos (by rfl)]
              go_simp
              go_at_call 23
              have hfd := (HI2.out.files).below (drawn w2 1)
              refine (done_ref (w := w2.drew) hfd (Dk.asc_all HA.out _) 2 nu (.slice ax od.length cx) od (ReadsP.of_reads ((HR.out.1.below HB2.out).below (drawn w2 1)) (fun _ _ _ => trivial)) (.inr (.inl rfl)) (Nat.le_trans (Nat.add_le_add_left (by exact Nat.le_refl _) _) (HWT.out _ _ _ HO.out))).mono ?_
              rintro e w3 ⟨v3, rfl, h3, hb3⟩
              obtain ⟨vo, vl, vc, rfl⟩ : ∃ a l c, v3 = .slice a l c := (by obtain ⟨a, c, e, _⟩ := h3.shape; exact ⟨a, _, c, e⟩)
              have H3 := Lib.hid h3; have HB3 : Hid (Below w2.heap.size w2 w3) := on (drawn w2 1) hb3
              have HLO := Lib.hid (HL2.out.below HB3.out HL2.out.lt)
              clear h3 hb3 hfd
              refine hK.out _ _ ⟨HLO.out.cell 0 _ rfl, HLO.out.cell 1 _ rfl, HLO.out.cell 2 _ rfl⟩ (fun hHeld => ?_)
              clear hK K
              refine wpAnyH_take (i := 7) (v := ?v7c) rfl (by kernel_rfl) (by kernel_rfl) (by kernel_rfl) (fun _ _ _ h => h) (Or.inl ⟨by rfl, ?hy7c⟩) hHeld ?rest7c
              case hy7c => (intro W hSw; go_simp; (try with_reducible rfl))
              refine wpAnyH_take (i := 8) (v := ?v8c) rfl (by kernel_rfl) (by kernel_rfl) (by kernel_rfl) (fun _ _ _ h => h) (Or.inl ⟨by rfl, ?hy8c⟩) hHeld ?rest8c
              case hy8c => (intro W hSw; go_simp; (try with_reducible rfl))
              refine wpAnyH_ready (rs := [9]) (by kernel_rfl) (by simp) ?_
              refine ready_store 9 28 (.tmp 122) (.tmp 120) rfl rfl rfl x 0 31 #[.slice ao an ac, .slice (some ⟨b0, off, none⟩) m bc] #[.slice vo vl vc, .slice (some ⟨b0, off, none⟩) m bc] (.slice vo vl vc) [.slice vo vl vc] ?x9c ?y9c rfl (by kernel_rfl) rfl (HI2.out.lies.below HB3.out HI2.out.lies.lt) (Nat.le_of_ble_eq_true rfl) rfl ?k9c
              case x9c => kernel_rfl
              case y9c => kernel_rfl
              intro w4 hl4 hg4
              have HL4 := Lib.hid hl4; have HG4 := Lib.hid hg4; have HP4 := Lib.hid (HI2.out.put (by have := HS1.out; omega) HB3.out H3.out hg4)
              have HLP := Lib.hid (HLO.out.kept hg4 (fun e => by have h1 := hI.out.lies.lt; simp only [Option.some.injEq] at e; omega))
              clear hl4 hg4
              refine ⟨⟨HLP.out.cell 0 _ rfl, HLP.out.cell 1 _ rfl, HLP.out.cell 2 _ rfl⟩, fun hHeld => ?_⟩
              refine wpAnyH_done (by kernel_rfl) ?_ _
              clear hHeld t1 t2 x1 k0 k1 k2 l0 l1 l2 v1 v2 x2
              go_wp2_with (refine store_part rfl 29 _ _ rfl x 1 31 _ #[.slice vo vl vc, .slice none 0 0] (.slice none 0 0) [.slice none 0 0] rfl rfl rfl (by kernel_rfl) rfl HL4.out (Nat.le_of_ble_eq_true rfl) rfl ?_; intro w9 hl9 hg9)
              go_end0
              refine ⟨rfl, H.out.gone ((Kp.all HB1.out).trans HP4.out.2) ?_ hl9 HL4.out hg9⟩
              rw [HCR.out, HO.out]
              have e : Dk.torn ⟨2, nu, od⟩ z = ⟨2, nu, od⟩ := by unfold Dk.torn Dk.clamp; simp only; rw [List.take_of_length_le (by omega)]
              have h4 := HP4.out.1
              rw [← e] at h4
              exact h4
          · by_cases hl0 : z < (od.length : Int)
            · obtain ⟨zn, rfl⟩ : ∃ zn : Nat, z = (zn : Int) := ⟨z.toNat, by omega⟩
              have hzl : zn ≤ od.length := by omega
              have hup := fun u : World => run_bytes_upto u ax od.length cx zn (by omega)
              go_wp2_with (refine store_part rfl 33 _ _ rfl wr.heap.size 2 53 _ #[.int .i64 2, .int .i64 nu, (.slice ax zn cx)] (.slice ax zn cx) [(.slice ax zn cx)] rfl rfl rfl (by kernel_rfl) rfl HL2.out (Nat.le_of_ble_eq_true rfl) rfl ?_; intro w7 hl7 hg7; have HB7 : Hid (Below wr.heap.size wr w7) := HB2.out.grown hg7 HB2.out.size (fun j e => by cases e; exact Nat.le_refl _); have HL7 := Lib.hid hl7; have HI7 := Lib.hid (hI.out.below HB7.out); have y0 : w7.cell? ⟨x, 0, none⟩ = some (.slice ao an ac) := HI7.out.lies.cell 0 _ rfl; clear hl7 hg7 l0 l1 l2 v1 v2 x2 hw2)
              refine wp_region_held_drew (S := fun W => W.cell? ⟨wr.heap.size, 0, none⟩ = some (.int .i64 2) ∧ W.cell? ⟨wr.heap.size, 1, none⟩ = some (.int .i64 nu) ∧ W.cell? ⟨wr.heap.size, 2, none⟩ = some (.slice ax zn cx)) (by kernel_rfl) (⟨HL7.out.cell 0 _ rfl, HL7.out.cell 1 _ rfl, HL7.out.cell 2 _ rfl⟩) (fun hHeld => ?_)
              refine wpAnyH_take (i := 0) (v := ?v0d) rfl (by kernel_rfl) (by kernel_rfl) (by kernel_rfl) (fun _ _ _ h => h) (Or.inl ⟨by rfl, ?hy0d⟩) hHeld ?rest0d
              case hy0d => (intro W hSw; obtain ⟨s1, s2, s3⟩ := hSw; go_simp; (try with_reducible rfl))
              refine wpAnyH_take (i := 1) (v := ?v1d) rfl (by kernel_rfl) (by kernel_rfl) (by kernel_rfl) (fun _ _ _ h => h) (Or.inl ⟨by rfl, ?hy1d⟩) hHeld ?rest1d
              case hy1d => (intro W hSw; obtain ⟨s1, s2, s3⟩ := hSw; go_simp; (try with_reducible rfl))
              refine wpAnyH_take (i := 2) (v := ?v2d) rfl (by kernel_rfl) (by kernel_rfl) (by kernel_rfl) (fun _ _ _ h => h) (Or.inl ⟨by rfl, ?hy2d⟩) hHeld ?rest2d
              case hy2d => (intro W hSw; obtain ⟨s1, s2, s3⟩ := hSw; go_simp; (try with_reducible rfl))
              refine wpAnyH_take (i := 3) (v := ?v3d) rfl (by kernel_rfl) (by kernel_rfl) (by kernel_rfl) (fun _ _ _ h => h) (Or.inl ⟨by rfl, ?hy3d⟩) hHeld ?rest3d
              case hy3d => (intro W hSw; obtain ⟨s1, s2, s3⟩ := hSw; go_simp; (try with_reducible rfl))
              refine wpAnyH_take (i := 5) (v := ?v5d) rfl (by kernel_rfl) (by kernel_rfl) (by kernel_rfl) (fun _ _ _ h => h) (Or.inl ⟨by rfl, ?hy5d⟩) hHeld ?rest5d
              case hy5d => (intro W hSw; obtain ⟨s1, s2, s3⟩ := hSw; go_simp; (try with_reducible rfl))
              refine wpAnyH_ready (rs := [4]) (by kernel_rfl) (by simp) ?_
              refine AllReadyH.cons rfl (fun K hK => ?_) AllReadyH.nil
              rw [if_pos (by rfl)]
              go_simp
              refine hK.out _ _ ⟨HL7.out.cell 0 _ rfl, HL7.out.cell 1 _ rfl, HL7.out.cell 2 _ rfl⟩ (fun hHeld => ?_)
              clear hK K
              refine wpAnyH_ready (rs := [6]) (by kernel_rfl) (by simp) ?_
              refine AllReadyH.cons rfl (fun K hK => ?_) AllReadyH.nil
              rw [if_pos (by rfl)]
              go_simp
              go_at_call 23
              have hfd := (HI7.out.files).below (drawn w7 1)
              refine (done_ref (w := w7.drew) hfd (Dk.asc_all HA.out _) 2 nu (.slice ax zn cx) (od.take zn) (ReadsP.of_reads ((HR.out.1.below HB7.out).below (drawn w7 1) |>.first zn (by omega)) (fun _ _ _ => trivial)) (.inr (.inl rfl)) (Nat.le_trans (Nat.add_le_add_left (by exact List.length_take_le' _ _) _) (HWT.out _ _ _ HO.out))).mono ?_
              rintro e w3 ⟨v3, rfl, h3, hb3⟩
              obtain ⟨vo, vl, vc, rfl⟩ : ∃ a l c, v3 = .slice a l c := (by obtain ⟨a, c, e, _⟩ := h3.shape; exact ⟨a, _, c, e⟩)
              have H3 := Lib.hid h3; have HB3 : Hid (Below w7.heap.size w7 w3) := on (drawn w7 1) hb3
              have HLO := Lib.hid (HL7.out.below HB3.out HL7.out.lt)
              clear h3 hb3 hfd
              refine hK.out _ _ ⟨HLO.out.cell 0 _ rfl, HLO.out.cell 1 _ rfl, HLO.out.cell 2 _ rfl⟩ (fun hHeld => ?_)
              clear hK K
              refine wpAnyH_take (i := 7) (v := ?v7d) rfl (by kernel_rfl) (by kernel_rfl) (by kernel_rfl) (fun _ _ _ h => h) (Or.inl ⟨by rfl, ?hy7d⟩) hHeld ?rest7d
              case hy7d => (intro W hSw; go_simp; (try with_reducible rfl))
              refine wpAnyH_take (i := 8) (v := ?v8d) rfl (by kernel_rfl) (by kernel_rfl) (by kernel_rfl) (fun _ _ _ h => h) (Or.inl ⟨by rfl, ?hy8d⟩) hHeld ?rest8d
              case hy8d => (intro W hSw; go_simp; (try with_reducible rfl))
              refine wpAnyH_ready (rs := [9]) (by kernel_rfl) (by simp) ?_
              refine ready_store 9 28 (.tmp 122) (.tmp 120) rfl rfl rfl x 0 31 #[.slice ao an ac, .slice (some ⟨b0, off, none⟩) m bc] #[.slice vo vl vc, .slice (some ⟨b0, off, none⟩) m bc] (.slice vo vl vc) [.slice vo vl vc] ?x9d ?y9d rfl (by kernel_rfl) rfl (HI7.out.lies.below HB3.out HI7.out.lies.lt) (Nat.le_of_ble_eq_true rfl) rfl ?k9d
              case x9d => kernel_rfl
              case y9d => kernel_rfl
              intro w4 hl4 hg4
              have HL4 := Lib.hid hl4; have HG4 := Lib.hid hg4; have HP4 := Lib.hid (HI7.out.put (by have := HS1.out; omega) HB3.out H3.out hg4)
              have HLP := Lib.hid (HLO.out.kept hg4 (fun e => by have h1 := hI.out.lies.lt; simp only [Option.some.injEq] at e; omega))
              clear hl4 hg4
              refine ⟨⟨HLP.out.cell 0 _ rfl, HLP.out.cell 1 _ rfl, HLP.out.cell 2 _ rfl⟩, fun hHeld => ?_⟩
              refine wpAnyH_done (by kernel_rfl) ?_ _
              clear hHeld t1 t2 x1 k0 k1 k2
              go_wp2_with (refine store_part rfl 29 _ _ rfl x 1 31 _ #[.slice vo vl vc, .slice none 0 0] (.slice none 0 0) [.slice none 0 0] rfl rfl rfl (by kernel_rfl) rfl HL4.out (Nat.le_of_ble_eq_true rfl) rfl ?_; intro w9 hl9 hg9)
              go_end0
              refine ⟨rfl, H.out.gone ((Kp.all HB1.out).trans HP4.out.2) ?_ hl9 HL4.out hg9⟩
              rw [HCR.out, HO.out]
              have e : Dk.torn ⟨2, nu, od⟩ (zn : Int) = ⟨2, nu, (od.take zn)⟩ := by unfold Dk.torn Dk.clamp; simp only; congr 2; omega
              have h4 := HP4.out.1
              rw [← e] at h4
              exact h4
            · go_wp2
              refine wp_region_held_drew (S := fun W => W.cell? ⟨wr.heap.size, 0, none⟩ = some (.int .i64 2) ∧ W.cell? ⟨wr.heap.size, 1, none⟩ = some (.int .i64 nu) ∧ W.cell? ⟨wr.heap.size, 2, none⟩ = some (.slice ax od.length cx)) (by kernel_rfl) (⟨HL2.out.cell 0 _ rfl, HL2.out.cell 1 _ rfl, HL2.out.cell 2 _ rfl⟩) (fun hHeld => ?_)
              refine wpAnyH_take (i := 0) (v := ?v0e) rfl (by kernel_rfl) (by kernel_rfl) (by kernel_rfl) (fun _ _ _ h => h) (Or.inl ⟨by rfl, ?hy0e⟩) hHeld ?rest0e
              case hy0e => (intro W hSw; obtain ⟨s1, s2, s3⟩ := hSw; go_simp; (try with_reducible rfl))
              refine wpAnyH_take (i := 1) (v := ?v1e) rfl (by kernel_rfl) (by kernel_rfl) (by kernel_rfl) (fun _ _ _ h => h) (Or.inl ⟨by rfl, ?hy1e⟩) hHeld ?rest1e
              case hy1e => (intro W hSw; obtain ⟨s1, s2, s3⟩ := hSw; go_simp; (try with_reducible rfl))
              refine wpAnyH_take (i := 2) (v := ?v2e) rfl (by kernel_rfl) (by kernel_rfl) (by kernel_rfl) (fun _ _ _ h => h) (Or.inl ⟨by rfl, ?hy2e⟩) hHeld ?rest2e
              case hy2e => (intro W hSw; obtain ⟨s1, s2, s3⟩ := hSw; go_simp; (try with_reducible rfl))
              refine wpAnyH_take (i := 3) (v := ?v3e) rfl (by kernel_rfl) (by kernel_rfl) (by kernel_rfl) (fun _ _ _ h => h) (Or.inl ⟨by rfl, ?hy3e⟩) hHeld ?rest3e
              case hy3e => (intro W hSw; obtain ⟨s1, s2, s3⟩ := hSw; go_simp; (try with_reducible rfl))
              refine wpAnyH_take (i := 5) (v := ?v5e) rfl (by kernel_rfl) (by kernel_rfl) (by kernel_rfl) (fun _ _ _ h => h) (Or.inl ⟨by rfl, ?hy5e⟩) hHeld ?rest5e
              case hy5e => (intro W hSw; obtain ⟨s1, s2, s3⟩ := hSw; go_simp; (try with_reducible rfl))
              refine wpAnyH_ready (rs := [4]) (by kernel_rfl) (by simp) ?_
              refine AllReadyH.cons rfl (fun K hK => ?_) AllReadyH.nil
              rw [if_pos (by rfl)]
              go_simp
              refine hK.out _ _ ⟨HL2.out.cell 0 _ rfl, HL2.out.cell 1 _ rfl, HL2.out.cell 2 _ rfl⟩ (fun hHeld => ?_)
              clear hK K
              refine wpAnyH_ready (rs := [6]) (by kernel_rfl) (by simp) ?_
              refine AllReadyH.cons rfl (fun K hK => ?_) AllReadyH.nil
              rw [if_pos (by rfl)]
              go_simp
              go_at_call 23
              have hfd := (HI2.out.files).below (drawn w2 1)
              refine (done_ref (w := w2.drew) hfd (Dk.asc_all HA.out _) 2 nu (.slice ax od.length cx) od (ReadsP.of_reads ((HR.out.1.below HB2.out).below (drawn w2 1)) (fun _ _ _ => trivial)) (.inr (.inl rfl)) (Nat.le_trans (Nat.add_le_add_left (by exact Nat.le_refl _) _) (HWT.out _ _ _ HO.out))).mono ?_
              rintro e w3 ⟨v3, rfl, h3, hb3⟩
              obtain ⟨vo, vl, vc, rfl⟩ : ∃ a l c, v3 = .slice a l c := (by obtain ⟨a, c, e, _⟩ := h3.shape; exact ⟨a, _, c, e⟩)
              have H3 := Lib.hid h3; have HB3 : Hid (Below w2.heap.size w2 w3) := on (drawn w2 1) hb3
              have HLO := Lib.hid (HL2.out.below HB3.out HL2.out.lt)
              clear h3 hb3 hfd
              refine hK.out _ _ ⟨HLO.out.cell 0 _ rfl, HLO.out.cell 1 _ rfl, HLO.out.cell 2 _ rfl⟩ (fun hHeld => ?_)
              clear hK K
              refine wpAnyH_take (i := 7) (v := ?v7e) rfl (by kernel_rfl) (by kernel_rfl) (by kernel_rfl) (fun _ _ _ h => h) (Or.inl ⟨by rfl, ?hy7e⟩) hHeld ?rest7e
              case hy7e => (intro W hSw; go_simp; (try with_reducible rfl))
              refine wpAnyH_take (i := 8) (v := ?v8e) rfl (by kernel_rfl) (by kernel_rfl) (by kernel_rfl) (fun _ _ _ h => h) (Or.inl ⟨by rfl, ?hy8e⟩) hHeld ?rest8e
              case hy8e => (intro W hSw; go_simp; (try with_reducible rfl))
              refine wpAnyH_ready (rs := [9]) (by kernel_rfl) (by simp) ?_
              refine ready_store 9 28 (.tmp 122) (.tmp 120) rfl rfl rfl x 0 31 #[.slice ao an ac, .slice (some ⟨b0, off, none⟩) m bc] #[.slice vo vl vc, .slice (some ⟨b0, off, none⟩) m bc] (.slice vo vl vc) [.slice vo vl vc] ?x9e ?y9e rfl (by kernel_rfl) rfl (HI2.out.lies.below HB3.out HI2.out.lies.lt) (Nat.le_of_ble_eq_true rfl) rfl ?k9e
              case x9e => kernel_rfl
              case y9e => kernel_rfl
              intro w4 hl4 hg4
              have HL4 := Lib.hid hl4; have HG4 := Lib.hid hg4; have HP4 := Lib.hid (HI2.out.put (by have := HS1.out; omega) HB3.out H3.out hg4)
              have HLP := Lib.hid (HLO.out.kept hg4 (fun e => by have h1 := hI.out.lies.lt; simp only [Option.some.injEq] at e; omega))
              clear hl4 hg4
              refine ⟨⟨HLP.out.cell 0 _ rfl, HLP.out.cell 1 _ rfl, HLP.out.cell 2 _ rfl⟩, fun hHeld => ?_⟩
              refine wpAnyH_done (by kernel_rfl) ?_ _
              clear hHeld t1 t2 x1 k0 k1 k2 l0 l1 l2 v1 v2 x2
              go_wp2_with (refine store_part rfl 29 _ _ rfl x 1 31 _ #[.slice vo vl vc, .slice none 0 0] (.slice none 0 0) [.slice none 0 0] rfl rfl rfl (by kernel_rfl) rfl HL4.out (Nat.le_of_ble_eq_true rfl) rfl ?_; intro w9 hl9 hg9)
              go_end0
              refine ⟨rfl, H.out.gone ((Kp.all HB1.out).trans HP4.out.2) ?_ hl9 HL4.out hg9⟩
              rw [HCR.out, HO.out]
              have e : Dk.torn ⟨2, nu, od⟩ z = ⟨2, nu, od⟩ := by unfold Dk.torn Dk.clamp; simp only; rw [List.take_of_length_le (by omega)]
              have h4 := HP4.out.1
              rw [← e] at h4
              exact h4
        · have hb2 : (ok == 2) = false := by simpa using h2
          have H2 := Lib.hid h2
          clear h2
          go_wp2_with (refine store_part rfl 29 _ _ rfl x 1 31 _ #[.slice ao an ac, .slice none 0 0] (.slice none 0 0) [.slice none 0 0] rfl rfl rfl (by kernel_rfl) rfl HI2.out.lies (Nat.le_of_ble_eq_true rfl) rfl ?_; intro w9 hl9 hg9)
          go_end0
          refine ⟨rfl, H.out.gone ((Kp.all HB1.out).trans HI2.out.kept) ?_ hl9 HI2.out.lies hg9⟩
          rw [HCR.out, HO.out]
          simp only [if_neg H2.out]
          exact HI2.out.files
    · have hint : ¬ ((i : Nat) : Int) < (m : Int) := by omega
      go_wp2_with (refine store_part rfl 29 _ _ rfl x 1 31 _ #[.slice ao an ac, .slice none 0 0] (.slice none 0 0) [.slice none 0 0] rfl rfl rfl (by kernel_rfl) rfl hI.out.lies (Nat.le_of_ble_eq_true rfl) rfl ?_; intro w9 hl9 hg9)
      go_end0
      refine ⟨rfl, H.out.gone ((Kp.all HB1.out).trans hI.out.kept) ?_ hl9 hI.out.lies hg9⟩
      have hn : B[K]? = none := List.getElem?_eq_none (by have := HM.out; omega)
      rw [HCR.out, hn]
      have e : B.take i = B := List.take_of_length_le (by have := HM.out; omega)
      have hf := hI.out.files
      rw [e] at hf
      exact hf

end Go.Proofs.Ytffgfjfeoinnfaa
