/- Several texts of mine in one: SgRow SgRecs SgHas. -/
import Derived.Test.YteboceekcmchkaaGreatDoorGHb
import Derived.Test.YteboceekcmchkaaGreatDoorPMsCame
import Derived.Test.YteboceekcmchkaaGreatDoorGSa
namespace Go.Proofs.YteboceekcmchkaaGreatDoor
open Go.RowKit
set_option maxHeartbeats 3200000
set_option maxRecDepth 8000
section
theorem info_recN : (Tryz.prog.info? 42).map (fun i => (i.zero, i.size, i.bytes)) = some (some (.agg (Re.cells Re.zero (.slice none 0 0))), 12, 136) := by kernel_rfl
abbrev RecsN (n : Nat) (w : World) (base : Nat) (v : Value) (l : List Re.Rec) : Prop := ListO 12 Re.cells Re.Rec.img (fun b _ => b < n) w base 42 v l
section
variable {n : Nat} {w w' W : World} {base : Nat} {v : Value} {l : List Re.Rec}
theorem RecsN.reads (h : RecsN n w base v l) : RecsP (fun k _ => k < w.heap.size) w v l :=
 ListO.reads (ListO.imp h fun b cs t fr e _ => lt_of_obj e) cellR_ok fun g e => by obtain ⟨cs, hc, _⟩ := ListO.blocks h e; exact lt_of_obj hc
theorem RecsN.shape (h : RecsN n w base v l) : ∃ o c, v = .slice o l.length c := by
 obtain ⟨ps, e, h1, _⟩ := h
 obtain ⟨a, c, e2⟩ := OwnsR.shape h1
 rw [rowsOf_len, ← e] at e2
 exact ⟨a, c, e2⟩
theorem RecsN.behind (h : RecsN n w base v l) (hb : Below base W w) (hs : base ≤ W.heap.size) (hg : w.grownBy w' v.ownBlock) : Below base W w' :=
 hb.grown hg (Nat.le_trans hs hb.size) fun g e => by obtain ⟨_, _, h2⟩ := ListO.blocks h e; exact h2
end
theorem run_recN {n : Nat} {w : World} {base : Nat} {out : Value} {G : List Re.Rec} (ty : TypeId) (hown : RecsN n w base out G) (f : Re.Rec) (u : Value) {g : Nat} (hl : Lies w g 42 (Re.cells f u)) (hu : ReadsP (fun b _ => b < n) w u f.img)
 (hlen : G.length ≤ 10000000) (hn : n ≤ base) (hbase : base ≤ w.heap.size) :
 ∃ v' w', (Builtin.append_ #[34, 34] ty #[out, .slice (some ⟨g, 0, none⟩) 1 1]).run Tryz.prog w = .ok v' w' ∧ RecsN n w' base v' (G ++ [f]) ∧ w.grownBy w' out.ownBlock := by
 obtain ⟨v', w', hrun, h1, h2, _⟩ := hown.snoc (P := Tryz.prog) (t := 34) ty cellR_ok Tryz.underlying34 info_recN rfl (by decide) hbase f u hl hu (by omega) (by omega) (fun g hg h => by omega)
 exact ⟨v', w', hrun, h1, h2⟩
theorem step_recN {n : Nat} {w : World} {ops : Array Oper} {rest : List Oper} {o : Oper} {a : Act} {Q : Exit → Act → World → Prop} (hg : o.guard = none) (s x : Operand) (ho : o.op = .call { callee := .builtin .append, args := #[s, x], argTypes := #[34, 34] })
 (base : Nat) (out : Value) (G : List Re.Rec) (hs : a.eval s = out) (hown : RecsN n w base out G) (f : Re.Rec) (u : Value) (g : Nat) (hx : a.eval x = .slice (some ⟨g, 0, none⟩) 1 1) (hl : Lies w g 42 (Re.cells f u)) (hu : ReadsP (fun b _ => b < n) w u f.img)
 (hlen : G.length ≤ 10000000) (hn : n ≤ base) (hbase : base ≤ w.heap.size) (hK : ∀ v' w', RecsN n w' base v' (G ++ [f]) → w.grownBy w' out.ownBlock → wpList Tryz.prog ops Q rest (a.put o.dst v') w') : wpList Tryz.prog ops Q (o :: rest) a w := by
 obtain ⟨v', w', hrun, h1, h2⟩ := run_recN o.type hown f u hl hu hlen hn hbase
 exact step_append hg s x 34 ho out _ v' hs hx hrun (hK v' w' h1 h2)
end
def MadeN (w : World) (l : List Re.Rec) (e : Ending) (w' : World) : Prop := ∃ v, e = .returned v ∧ RecsN w.heap.size w' w.heap.size v l ∧ Below w.heap.size w w'
theorem RecsN.mono {n : Nat} {w : World} {base b : Nat} {v : Value} {l : List Re.Rec} (h : RecsN n w base v l) (hb : b ≤ base) : RecsN n w b v l := by
 obtain ⟨ps, e, h1, h2⟩ := h
 exact ⟨ps, e, OwnsR.mono h1 hb, h2⟩
theorem refRecords_any (h : Hd.Hard) (vi va vc : Value) (w : World) (hr : HardR w h vi va vc) (hv : Hd.Valid h) (hl : h.acc.length ≤ 900000 ∧ h.chs.length ≤ 900000) :
 Calls Tryz.prog 12 #[.agg (Hd.cells h vi va vc)] w (MadeN w (Hd.recs h)) := by
 have HVI0 : Hid (∀ W, Below w.heap.size w W → ReadsP (fun b _ => b < w.heap.size) W vi h.img) := fun W hb => (ReadsP.of_reads hr.img fun b t hb => hb).keep (Keep.of_below hb)
 obtain ⟨io, ic, rfl⟩ := hr.img.shape
 obtain ⟨ao, ac, rfl, ha1, ha2⟩ := ReadsE.shape hr.acc
 obtain ⟨co, cc, rfl, hc1, hc2⟩ := ReadsE.shape hr.chs
 obtain ⟨w1, e1, hl1, hB1, hs1⟩ := box_hard w h (.slice io h.img.length ic) (.slice ao h.acc.length ac) (.slice co h.chs.length cc)
 have HR := Lib.hid (hr.below hB1); have HB := Lib.hid hB1; have HL := Lib.hid hl1; have HF := Lib.hid hl
 have HPA := Lib.hid (fun x => ReadsE.places (hr.below hB1).acc x)
 have HPC := Lib.hid (fun x => ReadsE.places (hr.below hB1).chs x)
 obtain ⟨n, hn⟩ : ∃ n, n = h.img.length := ⟨_, rfl⟩
 obtain ⟨na, hna⟩ : ∃ n, n = h.acc.length := ⟨_, rfl⟩
 obtain ⟨nc, hnc⟩ : ∃ n, n = h.chs.length := ⟨_, rfl⟩
 rw [← hn, ← hna, ← hnc] at HR HL e1
 rw [← hn] at HVI0
 rw [← hna] at HPA ha1
 rw [← hnc] at HPC hc1
 rw [← hn, ← hna, ← hnc]
 have HNA := Lib.hid hna; have HNC := Lib.hid hnc
 have hnab : na < 9223372036854775808 := by omega
 have hncb : nc < 9223372036854775808 := by omega
 have HLX : Hid (∀ W, Below w1.heap.size w1 W → Hards W w.heap.size h (.slice io n ic) (.slice ao na ac) (.slice co nc cc)) := fun W hW => HL.out.below hW HL.out.lt
 have HVI : Hid (∀ W, Below w1.heap.size w1 W → ReadsP (fun b _ => b < w.heap.size) W (.slice io n ic) h.img) := fun W hW => HVI0.out W (HB.out.trans (hW.mono HB.out.size))
 have HWS : Hid (w.heap.size ≤ w1.heap.size) := HB.out.size
 have HE : Hid (∀ W v L, Below w1.heap.size w1 W → RecsN w.heap.size W w1.heap.size v L → L = Hd.recs h → MadeN w (Hd.recs h) (.returned v) W) := fun W v L hb ho e => ⟨v, rfl, by rw [← e]; exact RecsN.mono ho HB.out.size, HB.out.trans (hb.mono HB.out.size)⟩
 obtain ⟨Q, hQ⟩ : ∃ Q, Q = MadeN w (Hd.recs h) := ⟨_, rfl⟩
 rw [← hQ] at HE ⊢
 have HPZ : Hid (h.prom ≠ Bl.zero ↔ 0 < h.prom.round) := by
  have h1 := Hd.round_pos hv.prom
  rcases Bl.may_cases _ hv.prom with h2 | h2
  ·show _ ↔ _; rw [h2]; simp [Bl.zero]
  ·show _ ↔ _
   rw [h1]
   omega
 have c2 : w1.cell? ⟨w.heap.size, 2, none⟩ = some (.int .i64 h.base) := HL.out.cell 2 _ rfl
 clear hn hna hnc hr hl1 hB1 hl ha2 hc2 hQ hs1 hv
 go_enter Tryz.func12, Tryz.ntmps12
 have HBR : Hid (Below w1.heap.size w1 w1) := Below.refl _ _
 by_cases hp0 : 0 < h.prom.round
 ·have HP0 : Hid (h.prom ≠ Bl.zero) := HPZ.out.2 hp0
  by_cases hb0 : 0 < h.base
  ·have HB0 := Lib.hid hb0
   have c3 : w1.cell? ⟨w.heap.size, 3, none⟩ = some (.slice io n ic) := HL.out.cell 3 _ rfl
   have HBA : Hid (Below w1.heap.size w1 (w1.alloc (.cells (Re.cells (Hd.recI h) (.slice io n ic)) 42))) := HBR.out.alloc (Nat.le_refl _) _
   have HON : Hid (RecsN w.heap.size (w1.alloc (.cells (Re.cells (Hd.recI h) (.slice io n ic)) 42)) w1.heap.size Nil []) := ListO.bare _ _ _ _
   go_wp2_with (first
    | (at_builtin; refine step_recN rfl _ _ rfl w1.heap.size Nil [] rfl HON.out (Hd.recI h) (.slice io n ic) w1.heap.size rfl (Lies.new w1 42 (Re.cells (Hd.recI h) (.slice io n ic))) (HVI.out _ HBA.out) (by simp) HWS.out (by simp) ?_; intro v5 w5 ho5 hg5; have HO5 : Hid (RecsN w.heap.size w5 w1.heap.size v5 [Hd.recI h]) := ho5; have HB5 : Hid (Below w1.heap.size w1 w5) := RecsN.behind HON.out HBA.out (Nat.le_refl _) hg5; have p0 : w5.cell? ⟨w.heap.size, 0, none⟩ = some (.int .i64 h.prom.round) := (HLX.out _ HB5.out).cell 0 _ rfl; have p1 : w5.cell? ⟨w.heap.size, 1, none⟩ = some (.int .i64 h.prom.node) := (HLX.out _ HB5.out).cell 1 _ rfl; clear ho5 hg5)
    | (at_builtin; refine step_recN rfl _ _ rfl w1.heap.size v5 ([Hd.recI h]) rfl (ListO.below HO5.out ((Below.refl _ w5).alloc (Nat.le_refl _) _)) (Hd.recP h) Nil w5.heap.size rfl (Lies.new w5 42 (Re.cells (Hd.recP h) Nil)) (ReadsP.none _ _) (by simp) HWS.out (Nat.le_trans HB5.out.size (by simp)) ?_; intro v6 w6 ho6 hg6; have HO6 := Lib.hid ho6; have HB6 : Hid (Below w1.heap.size w1 w6) := RecsN.behind (ListO.below HO5.out ((Below.refl _ w5).alloc (Nat.le_refl _) _)) (HB5.out.alloc HB5.out.size _) (Nat.le_refl _) hg6; clear ho6 hg6))
   clear c2 c3 p0 p1
   have HL0 : Hid (([Hd.recI h] ++ [Hd.recP h] : List Re.Rec).length ≤ 2) := by show _ ≤ _; simp
   go_loopw [3, 4] (fun y i wr => ∃ k : Nat, i = .int .i64 (k : Int) ∧ k ≤ na ∧ Hid (RecsN w.heap.size wr w1.heap.size y ([Hd.recI h] ++ [Hd.recP h] ++ (h.acc.take k).map Hd.recA)) ∧ Hid (Below w1.heap.size w1 wr)) (fun _ i _ => na - (intOf i).toNat)
   case atStart => exact ⟨0, rfl, by omega, by have h1 := HO6.out; show RecsN _ _ _ _ _; simpa using h1, HB6⟩
   case round =>
    obtain ⟨k, rfl, hk, HO, HBr⟩ := hrel
    obtain ⟨yo, yc, hyy⟩ := RecsN.shape HO.out
    obtain ⟨yn, hyn⟩ : ∃ m, m = ([Hd.recI h] ++ [Hd.recP h] ++ (h.acc.take k).map Hd.recA).length := ⟨_, rfl⟩
    rw [← hyn] at hyy
    clear hyn
    subst hyy
    have m4 : wr.cell? ⟨w.heap.size, 4, none⟩ = some (.slice ao na ac) := (HLX.out _ HBr.out).cell 4 _ rfl
    by_cases hltk : k < na
    ·obtain ⟨x, hx⟩ : ∃ x, h.acc[k]? = some x := ⟨_, List.getElem?_eq_getElem (by have := HNA.out; omega)⟩
     obtain ⟨g, off, rfl, hgl, hcell⟩ := HPA.out (by have := HNA.out; omega)
     have HCELL : Hid (∀ W, Below w1.heap.size w1 W → EntAt W g (off + k * 10) x) := fun W hW => hcell W hW k x hx
     have HLN : Hid (([Hd.recI h] ++ [Hd.recP h] ++ (h.acc.take k).map Hd.recA).length ≤ 10000000) := by
      show _ ≤ _
      have h1 := HF.out.1
      have h2 := HF.out.2
      have h3 : (h.acc.take k).length ≤ h.acc.length := List.length_take_le' _ _
      have h4 := HL0.out
      (try simp only [List.length_append] at h4)
      simp only [List.length_append, List.length_map]
      omega
     have HTK : Hid ([Hd.recI h] ++ [Hd.recP h] ++ (h.acc.take k).map Hd.recA ++ [Hd.recA x] = [Hd.recI h] ++ [Hd.recP h] ++ (h.acc.take (k + 1)).map Hd.recA) := by show _ = _; rw [List.take_add_one, hx]; simp
     clear hcell hx
     go_wp2
     clear m4
     refine wp_region_held_drew (S := fun W => W.cell? ⟨w.heap.size, 4, none⟩ = some (.slice (some ⟨g, off, none⟩) na ac) ∧ EntAt W g (off + k * 10) x) (by kernel_rfl) (⟨(HLX.out _ ((HBr.out).trans ((drawn wr 1).mono HBr.out.size))).cell 4 _ rfl, HCELL.out _ (HBr.out.trans ((drawn wr 1).mono HBr.out.size))⟩) (fun hHeld => ?_)
     refine wpAnyH_take (i := 0) (v := ?v0n1) rfl (by kernel_rfl) (by kernel_rfl) (by kernel_rfl) (fun _ _ _ h => h) (Or.inl ⟨by kernel_rfl, ?hy0n1⟩) hHeld ?rest0n1
     case hy0n1 => (intro W hSw; obtain ⟨s1, s2⟩ := hSw; obtain ⟨q0, q1, q2, q3, q4, q5, q6, q7, q8, q9⟩ := s2; go_simp; (try with_reducible rfl))
     refine wpAnyH_take (i := 1) (v := ?v1n1) rfl (by kernel_rfl) (by kernel_rfl) (by kernel_rfl) (fun _ _ _ h => h) (Or.inl ⟨by kernel_rfl, ?hy1n1⟩) hHeld ?rest1n1
     case hy1n1 => (intro W hSw; obtain ⟨s1, s2⟩ := hSw; obtain ⟨q0, q1, q2, q3, q4, q5, q6, q7, q8, q9⟩ := s2; go_simp; (try with_reducible rfl))
     refine wpAnyH_take (i := 2) (v := ?v2n1) rfl (by kernel_rfl) (by kernel_rfl) (by kernel_rfl) (fun _ _ _ h => h) (Or.inl ⟨by kernel_rfl, ?hy2n1⟩) hHeld ?rest2n1
     case hy2n1 => (intro W hSw; obtain ⟨s1, s2⟩ := hSw; obtain ⟨q0, q1, q2, q3, q4, q5, q6, q7, q8, q9⟩ := s2; go_simp; (try with_reducible rfl))
     refine wpAnyH_take (i := 3) (v := ?v3n1) rfl (by kernel_rfl) (by kernel_rfl) (by kernel_rfl) (fun _ _ _ h => h) (Or.inl ⟨by kernel_rfl, ?hy3n1⟩) hHeld ?rest3n1
     case hy3n1 => (intro W hSw; obtain ⟨s1, s2⟩ := hSw; obtain ⟨q0, q1, q2, q3, q4, q5, q6, q7, q8, q9⟩ := s2; go_simp; (try with_reducible rfl))
     refine wpAnyH_take (i := 4) (v := ?v4n1) rfl (by kernel_rfl) (by kernel_rfl) (by kernel_rfl) (fun _ _ _ h => h) (Or.inl ⟨by kernel_rfl, ?hy4n1⟩) hHeld ?rest4n1
     case hy4n1 => (intro W hSw; obtain ⟨s1, s2⟩ := hSw; obtain ⟨q0, q1, q2, q3, q4, q5, q6, q7, q8, q9⟩ := s2; go_simp; (try with_reducible rfl))
     refine wpAnyH_take (i := 5) (v := ?v5n1) rfl (by kernel_rfl) (by kernel_rfl) (by kernel_rfl) (fun _ _ _ h => h) (Or.inl ⟨by kernel_rfl, ?hy5n1⟩) hHeld ?rest5n1
     case hy5n1 => (intro W hSw; obtain ⟨s1, s2⟩ := hSw; obtain ⟨q0, q1, q2, q3, q4, q5, q6, q7, q8, q9⟩ := s2; go_simp; (try with_reducible rfl))
     refine wpAnyH_take (i := 6) (v := ?v6n1) rfl (by kernel_rfl) (by kernel_rfl) (by kernel_rfl) (fun _ _ _ h => h) (Or.inl ⟨by kernel_rfl, ?hy6n1⟩) hHeld ?rest6n1
     case hy6n1 => (intro W hSw; obtain ⟨s1, s2⟩ := hSw; obtain ⟨q0, q1, q2, q3, q4, q5, q6, q7, q8, q9⟩ := s2; go_simp; (try with_reducible rfl))
     refine wpAnyH_take (i := 7) (v := ?v7n1) rfl (by kernel_rfl) (by kernel_rfl) (by kernel_rfl) (fun _ _ _ h => h) (Or.inl ⟨by kernel_rfl, ?hy7n1⟩) hHeld ?rest7n1
     case hy7n1 => (intro W hSw; obtain ⟨s1, s2⟩ := hSw; obtain ⟨q0, q1, q2, q3, q4, q5, q6, q7, q8, q9⟩ := s2; go_simp; (try with_reducible rfl))
     refine wpAnyH_take (i := 8) (v := ?v8n1) rfl (by kernel_rfl) (by kernel_rfl) (by kernel_rfl) (fun _ _ _ h => h) (Or.inl ⟨by kernel_rfl, ?hy8n1⟩) hHeld ?rest8n1
     case hy8n1 => (intro W hSw; obtain ⟨s1, s2⟩ := hSw; obtain ⟨q0, q1, q2, q3, q4, q5, q6, q7, q8, q9⟩ := s2; go_simp; (try with_reducible rfl))
     refine wpAnyH_take (i := 9) (v := ?v9n1) rfl (by kernel_rfl) (by kernel_rfl) (by kernel_rfl) (fun _ _ _ h => h) (Or.inl ⟨by kernel_rfl, ?hy9n1⟩) hHeld ?rest9n1
     case hy9n1 => (intro W hSw; obtain ⟨s1, s2⟩ := hSw; obtain ⟨q0, q1, q2, q3, q4, q5, q6, q7, q8, q9⟩ := s2; go_simp; (try with_reducible rfl))
     refine wpAnyH_take (i := 10) (v := ?v10n1) rfl (by kernel_rfl) (by kernel_rfl) (by kernel_rfl) (fun _ _ _ h => h) (Or.inl ⟨by kernel_rfl, ?hy10n1⟩) hHeld ?rest10n1
     case hy10n1 => (intro W hSw; obtain ⟨s1, s2⟩ := hSw; obtain ⟨q0, q1, q2, q3, q4, q5, q6, q7, q8, q9⟩ := s2; go_simp; (try with_reducible rfl))
     refine wpAnyH_take (i := 11) (v := ?v11n1) rfl (by kernel_rfl) (by kernel_rfl) (by kernel_rfl) (fun _ _ _ h => h) (Or.inl ⟨by kernel_rfl, ?hy11n1⟩) hHeld ?rest11n1
     case hy11n1 => (intro W hSw; obtain ⟨s1, s2⟩ := hSw; obtain ⟨q0, q1, q2, q3, q4, q5, q6, q7, q8, q9⟩ := s2; go_simp; (try with_reducible rfl))
     refine wpAnyH_take (i := 12) (v := ?v12n1) rfl (by kernel_rfl) (by kernel_rfl) (by kernel_rfl) (fun _ _ _ h => h) (Or.inl ⟨by kernel_rfl, ?hy12n1⟩) hHeld ?rest12n1
     case hy12n1 => (intro W hSw; obtain ⟨s1, s2⟩ := hSw; obtain ⟨q0, q1, q2, q3, q4, q5, q6, q7, q8, q9⟩ := s2; go_simp; (try with_reducible rfl))
     refine wpAnyH_take (i := 13) (v := ?v13n1) rfl (by kernel_rfl) (by kernel_rfl) (by kernel_rfl) (fun _ _ _ h => h) (Or.inl ⟨by kernel_rfl, ?hy13n1⟩) hHeld ?rest13n1
     case hy13n1 => (intro W hSw; obtain ⟨s1, s2⟩ := hSw; obtain ⟨q0, q1, q2, q3, q4, q5, q6, q7, q8, q9⟩ := s2; go_simp; (try with_reducible rfl))
     refine wpAnyH_take (i := 14) (v := ?v14n1) rfl (by kernel_rfl) (by kernel_rfl) (by kernel_rfl) (fun _ _ _ h => h) (Or.inl ⟨by kernel_rfl, ?hy14n1⟩) hHeld ?rest14n1
     case hy14n1 => (intro W hSw; obtain ⟨s1, s2⟩ := hSw; obtain ⟨q0, q1, q2, q3, q4, q5, q6, q7, q8, q9⟩ := s2; go_simp; (try with_reducible rfl))
     refine wpAnyH_take (i := 15) (v := ?v15n1) rfl (by kernel_rfl) (by kernel_rfl) (by kernel_rfl) (fun _ _ _ h => h) (Or.inl ⟨by kernel_rfl, ?hy15n1⟩) hHeld ?rest15n1
     case hy15n1 => (intro W hSw; obtain ⟨s1, s2⟩ := hSw; obtain ⟨q0, q1, q2, q3, q4, q5, q6, q7, q8, q9⟩ := s2; go_simp; (try with_reducible rfl))
     refine wpAnyH_take (i := 16) (v := ?v16n1) rfl (by kernel_rfl) (by kernel_rfl) (by kernel_rfl) (fun _ _ _ h => h) (Or.inl ⟨by kernel_rfl, ?hy16n1⟩) hHeld ?rest16n1
     case hy16n1 => (intro W hSw; obtain ⟨s1, s2⟩ := hSw; obtain ⟨q0, q1, q2, q3, q4, q5, q6, q7, q8, q9⟩ := s2; go_simp; (try with_reducible rfl))
     refine wpAnyH_take (i := 17) (v := ?v17n1) rfl (by kernel_rfl) (by kernel_rfl) (by kernel_rfl) (fun _ _ _ h => h) (Or.inl ⟨by kernel_rfl, ?hy17n1⟩) hHeld ?rest17n1
     case hy17n1 => (intro W hSw; obtain ⟨s1, s2⟩ := hSw; obtain ⟨q0, q1, q2, q3, q4, q5, q6, q7, q8, q9⟩ := s2; go_simp; (try with_reducible rfl))
     refine wpAnyH_take (i := 18) (v := ?v18n1) rfl (by kernel_rfl) (by kernel_rfl) (by kernel_rfl) (fun _ _ _ h => h) (Or.inl ⟨by kernel_rfl, ?hy18n1⟩) hHeld ?rest18n1
     case hy18n1 => (intro W hSw; obtain ⟨s1, s2⟩ := hSw; obtain ⟨q0, q1, q2, q3, q4, q5, q6, q7, q8, q9⟩ := s2; go_simp; (try with_reducible rfl))
     refine wpAnyH_take (i := 19) (v := ?v19n1) rfl (by kernel_rfl) (by kernel_rfl) (by kernel_rfl) (fun _ _ _ h => h) (Or.inl ⟨by kernel_rfl, ?hy19n1⟩) hHeld ?rest19n1
     case hy19n1 => (intro W hSw; obtain ⟨s1, s2⟩ := hSw; obtain ⟨q0, q1, q2, q3, q4, q5, q6, q7, q8, q9⟩ := s2; go_simp; (try with_reducible rfl))
     have HB7 : Hid (Below w1.heap.size w1 (wr.drew.alloc (.cells (Re.cells (Hd.recA x) Nil) 42))) := (HBr.out.trans ((drawn wr 1).mono HBr.out.size)).alloc (Nat.le_trans HBr.out.size (drawn wr 1).size) _
     have HO7 : Hid (RecsN w.heap.size (wr.drew.alloc (.cells (Re.cells (Hd.recA x) Nil) 42)) w1.heap.size (.slice yo yn yc) _) := ListO.below HO.out ((drawn wr 1).alloc (drawn wr 1).size _)
     refine wpAnyH_ready (rs := [20]) (by kernel_rfl) (by simp) ?_
     refine AllReadyH.cons rfl (fun K hK => ?_) AllReadyH.nil
     rw [if_pos (by kernel_rfl)]
     go_simp
     refine hK.out _ _ ⟨(HLX.out _ HB7.out).cell 4 _ rfl, HCELL.out _ HB7.out⟩ (fun hHeld => ?_)
     clear hK K
     obtain ⟨v8, w8, hrun, ho8, hg8⟩ := run_recN 34 HO7.out (Hd.recA x) Nil (Lies.new wr.drew _ _) (ReadsP.none _ _) HLN.out HWS.out HB7.out.size
     have HB8 : Hid (Below w1.heap.size w1 w8) := RecsN.behind HO7.out HB7.out (Nat.le_refl _) hg8
     have HO8 := Lib.hid ho8
     clear ho8 hg8
     refine wpAnyH_ready (rs := [21]) (by kernel_rfl) (by simp) ?_
     refine ready_append 21 (.tmp 34) (.tmp 54) 34 rfl rfl rfl (.slice yo yn yc) (.slice (some ⟨wr.heap.size, 0, none⟩) 1 1) v8 w8 ?s21n1 ?x21n1 hrun ⟨⟨(HLX.out _ HB8.out).cell 4 _ rfl, HCELL.out _ HB8.out⟩, fun hHeld => ?_⟩
     case s21n1 => kernel_rfl
     case x21n1 => kernel_rfl
     refine wpAnyH_take (i := 22) (v := ?v22n1) rfl (by kernel_rfl) (by kernel_rfl) (by kernel_rfl) (fun _ _ _ h => h) (Or.inl ⟨by kernel_rfl, ?hy22n1⟩) hHeld ?rest22n1
     case hy22n1 => (intro W hSw; go_simp; (try with_reducible rfl))
     refine wpAnyH_done (by kernel_rfl) ?_ _
     clear hHeld hrun
     rw [HTK.out] at HO8
     go_wp2
     go_roundw
     case rel => exact ⟨k + 1, by go_num, by omega, HO8, HB8⟩
     case measure => simp [intOf]; omega
    ·obtain rfl : k = na := by omega
     have HO2 : Hid (RecsN w.heap.size wr w1.heap.size (.slice yo yn yc) ([Hd.recI h] ++ [Hd.recP h] ++ h.acc.map Hd.recA)) := by have h1 := HO.out; rw [List.take_of_length_le (by have := HNA.out; omega)] at h1; exact h1
     clear HO
     go_wp2
     clear m4
     obtain ⟨wv, hwv⟩ : ∃ wv, wv = wr := ⟨_, rfl⟩
     rw [← hwv]
     have HB4 : Hid (Below w1.heap.size w1 wv) := by rw [hwv]; exact HBr
     have HO4 : Hid (RecsN w.heap.size wv w1.heap.size (.slice yo yn yc) ([Hd.recI h] ++ [Hd.recP h] ++ h.acc.map Hd.recA)) := by rw [hwv]; exact HO2
     clear hwv HBr HO2
     go_loopw [3, 5] (fun y i wr => ∃ j : Nat, i = .int .i64 (j : Int) ∧ j ≤ nc ∧ Hid (RecsN w.heap.size wr w1.heap.size y ([Hd.recI h] ++ [Hd.recP h] ++ h.acc.map Hd.recA ++ (h.chs.take j).map Hd.recC)) ∧ Hid (Below w1.heap.size w1 wr)) (fun _ i _ => nc - (intOf i).toNat)
     case atStart => exact ⟨0, rfl, by omega, by have h1 := HO4.out; show RecsN _ _ _ _ _; simpa using h1, HB4⟩
     case round =>
      obtain ⟨j, rfl, hj, HO, HBr⟩ := hrel
      obtain ⟨yo, yc, hyy⟩ := RecsN.shape HO.out
      obtain ⟨yn, hyn⟩ : ∃ m, m = ([Hd.recI h] ++ [Hd.recP h] ++ h.acc.map Hd.recA ++ (h.chs.take j).map Hd.recC).length := ⟨_, rfl⟩
      rw [← hyn] at hyy
      clear hyn
      subst hyy
      have m4 : wr.cell? ⟨w.heap.size, 5, none⟩ = some (.slice co nc cc) := (HLX.out _ HBr.out).cell 5 _ rfl
      by_cases hltj : j < nc
      ·obtain ⟨x, hx⟩ : ∃ x, h.chs[j]? = some x := ⟨_, List.getElem?_eq_getElem (by have := HNC.out; omega)⟩
       obtain ⟨g, off, rfl, hgl, hcell⟩ := HPC.out (by have := HNC.out; omega)
       have HCELL : Hid (∀ W, Below w1.heap.size w1 W → EntAt W g (off + j * 10) x) := fun W hW => hcell W hW j x hx
       have HLN : Hid (([Hd.recI h] ++ [Hd.recP h] ++ h.acc.map Hd.recA ++ (h.chs.take j).map Hd.recC).length ≤ 10000000) := by
        show _ ≤ _
        have h1 := HF.out.1
        have h2 := HF.out.2
        have h3 : (h.chs.take j).length ≤ h.chs.length := List.length_take_le' _ _
        have h4 := HL0.out
        (try simp only [List.length_append] at h4)
        simp only [List.length_append, List.length_map]
        omega
       have HTK : Hid ([Hd.recI h] ++ [Hd.recP h] ++ h.acc.map Hd.recA ++ (h.chs.take j).map Hd.recC ++ [Hd.recC x] = [Hd.recI h] ++ [Hd.recP h] ++ h.acc.map Hd.recA ++ (h.chs.take (j + 1)).map Hd.recC) := by show _ = _; rw [List.take_add_one, hx]; simp
       clear hcell hx
       go_wp2
       clear m4
       refine wp_region_held_drew (S := fun W => W.cell? ⟨w.heap.size, 5, none⟩ = some (.slice (some ⟨g, off, none⟩) nc cc) ∧ EntAt W g (off + j * 10) x) (by kernel_rfl) (⟨(HLX.out _ ((HBr.out).trans ((drawn wr 1).mono HBr.out.size))).cell 5 _ rfl, HCELL.out _ (HBr.out.trans ((drawn wr 1).mono HBr.out.size))⟩) (fun hHeld => ?_)
       refine wpAnyH_take (i := 0) (v := ?v0n2) rfl (by kernel_rfl) (by kernel_rfl) (by kernel_rfl) (fun _ _ _ h => h) (Or.inl ⟨by kernel_rfl, ?hy0n2⟩) hHeld ?rest0n2
       case hy0n2 => (intro W hSw; obtain ⟨s1, s2⟩ := hSw; obtain ⟨q0, q1, q2, q3, q4, q5, q6, q7, q8, q9⟩ := s2; go_simp; (try with_reducible rfl))
       refine wpAnyH_take (i := 1) (v := ?v1n2) rfl (by kernel_rfl) (by kernel_rfl) (by kernel_rfl) (fun _ _ _ h => h) (Or.inl ⟨by kernel_rfl, ?hy1n2⟩) hHeld ?rest1n2
       case hy1n2 => (intro W hSw; obtain ⟨s1, s2⟩ := hSw; obtain ⟨q0, q1, q2, q3, q4, q5, q6, q7, q8, q9⟩ := s2; go_simp; (try with_reducible rfl))
       refine wpAnyH_take (i := 2) (v := ?v2n2) rfl (by kernel_rfl) (by kernel_rfl) (by kernel_rfl) (fun _ _ _ h => h) (Or.inl ⟨by kernel_rfl, ?hy2n2⟩) hHeld ?rest2n2
       case hy2n2 => (intro W hSw; obtain ⟨s1, s2⟩ := hSw; obtain ⟨q0, q1, q2, q3, q4, q5, q6, q7, q8, q9⟩ := s2; go_simp; (try with_reducible rfl))
       refine wpAnyH_take (i := 3) (v := ?v3n2) rfl (by kernel_rfl) (by kernel_rfl) (by kernel_rfl) (fun _ _ _ h => h) (Or.inl ⟨by kernel_rfl, ?hy3n2⟩) hHeld ?rest3n2
       case hy3n2 => (intro W hSw; obtain ⟨s1, s2⟩ := hSw; obtain ⟨q0, q1, q2, q3, q4, q5, q6, q7, q8, q9⟩ := s2; go_simp; (try with_reducible rfl))
       refine wpAnyH_take (i := 4) (v := ?v4n2) rfl (by kernel_rfl) (by kernel_rfl) (by kernel_rfl) (fun _ _ _ h => h) (Or.inl ⟨by kernel_rfl, ?hy4n2⟩) hHeld ?rest4n2
       case hy4n2 => (intro W hSw; obtain ⟨s1, s2⟩ := hSw; obtain ⟨q0, q1, q2, q3, q4, q5, q6, q7, q8, q9⟩ := s2; go_simp; (try with_reducible rfl))
       refine wpAnyH_take (i := 5) (v := ?v5n2) rfl (by kernel_rfl) (by kernel_rfl) (by kernel_rfl) (fun _ _ _ h => h) (Or.inl ⟨by kernel_rfl, ?hy5n2⟩) hHeld ?rest5n2
       case hy5n2 => (intro W hSw; obtain ⟨s1, s2⟩ := hSw; obtain ⟨q0, q1, q2, q3, q4, q5, q6, q7, q8, q9⟩ := s2; go_simp; (try with_reducible rfl))
       refine wpAnyH_take (i := 6) (v := ?v6n2) rfl (by kernel_rfl) (by kernel_rfl) (by kernel_rfl) (fun _ _ _ h => h) (Or.inl ⟨by kernel_rfl, ?hy6n2⟩) hHeld ?rest6n2
       case hy6n2 => (intro W hSw; obtain ⟨s1, s2⟩ := hSw; obtain ⟨q0, q1, q2, q3, q4, q5, q6, q7, q8, q9⟩ := s2; go_simp; (try with_reducible rfl))
       refine wpAnyH_take (i := 7) (v := ?v7n2) rfl (by kernel_rfl) (by kernel_rfl) (by kernel_rfl) (fun _ _ _ h => h) (Or.inl ⟨by kernel_rfl, ?hy7n2⟩) hHeld ?rest7n2
       case hy7n2 => (intro W hSw; obtain ⟨s1, s2⟩ := hSw; obtain ⟨q0, q1, q2, q3, q4, q5, q6, q7, q8, q9⟩ := s2; go_simp; (try with_reducible rfl))
       refine wpAnyH_take (i := 8) (v := ?v8n2) rfl (by kernel_rfl) (by kernel_rfl) (by kernel_rfl) (fun _ _ _ h => h) (Or.inl ⟨by kernel_rfl, ?hy8n2⟩) hHeld ?rest8n2
       case hy8n2 => (intro W hSw; obtain ⟨s1, s2⟩ := hSw; obtain ⟨q0, q1, q2, q3, q4, q5, q6, q7, q8, q9⟩ := s2; go_simp; (try with_reducible rfl))
       refine wpAnyH_take (i := 9) (v := ?v9n2) rfl (by kernel_rfl) (by kernel_rfl) (by kernel_rfl) (fun _ _ _ h => h) (Or.inl ⟨by kernel_rfl, ?hy9n2⟩) hHeld ?rest9n2
       case hy9n2 => (intro W hSw; obtain ⟨s1, s2⟩ := hSw; obtain ⟨q0, q1, q2, q3, q4, q5, q6, q7, q8, q9⟩ := s2; go_simp; (try with_reducible rfl))
       refine wpAnyH_take (i := 10) (v := ?v10n2) rfl (by kernel_rfl) (by kernel_rfl) (by kernel_rfl) (fun _ _ _ h => h) (Or.inl ⟨by kernel_rfl, ?hy10n2⟩) hHeld ?rest10n2
       case hy10n2 => (intro W hSw; obtain ⟨s1, s2⟩ := hSw; obtain ⟨q0, q1, q2, q3, q4, q5, q6, q7, q8, q9⟩ := s2; go_simp; (try with_reducible rfl))
       refine wpAnyH_take (i := 11) (v := ?v11n2) rfl (by kernel_rfl) (by kernel_rfl) (by kernel_rfl) (fun _ _ _ h => h) (Or.inl ⟨by kernel_rfl, ?hy11n2⟩) hHeld ?rest11n2
       case hy11n2 => (intro W hSw; obtain ⟨s1, s2⟩ := hSw; obtain ⟨q0, q1, q2, q3, q4, q5, q6, q7, q8, q9⟩ := s2; go_simp; (try with_reducible rfl))
       refine wpAnyH_take (i := 12) (v := ?v12n2) rfl (by kernel_rfl) (by kernel_rfl) (by kernel_rfl) (fun _ _ _ h => h) (Or.inl ⟨by kernel_rfl, ?hy12n2⟩) hHeld ?rest12n2
       case hy12n2 => (intro W hSw; obtain ⟨s1, s2⟩ := hSw; obtain ⟨q0, q1, q2, q3, q4, q5, q6, q7, q8, q9⟩ := s2; go_simp; (try with_reducible rfl))
       refine wpAnyH_take (i := 13) (v := ?v13n2) rfl (by kernel_rfl) (by kernel_rfl) (by kernel_rfl) (fun _ _ _ h => h) (Or.inl ⟨by kernel_rfl, ?hy13n2⟩) hHeld ?rest13n2
       case hy13n2 => (intro W hSw; obtain ⟨s1, s2⟩ := hSw; obtain ⟨q0, q1, q2, q3, q4, q5, q6, q7, q8, q9⟩ := s2; go_simp; (try with_reducible rfl))
       have HB7 : Hid (Below w1.heap.size w1 (wr.drew.alloc (.cells (Re.cells (Hd.recC x) Nil) 42))) := (HBr.out.trans ((drawn wr 1).mono HBr.out.size)).alloc (Nat.le_trans HBr.out.size (drawn wr 1).size) _
       have HO7 : Hid (RecsN w.heap.size (wr.drew.alloc (.cells (Re.cells (Hd.recC x) Nil) 42)) w1.heap.size (.slice yo yn yc) _) := ListO.below HO.out ((drawn wr 1).alloc (drawn wr 1).size _)
       refine wpAnyH_ready (rs := [14]) (by kernel_rfl) (by simp) ?_
       refine AllReadyH.cons rfl (fun K hK => ?_) AllReadyH.nil
       rw [if_pos (by kernel_rfl)]
       go_simp
       refine hK.out _ _ ⟨(HLX.out _ HB7.out).cell 5 _ rfl, HCELL.out _ HB7.out⟩ (fun hHeld => ?_)
       clear hK K
       obtain ⟨v8, w8, hrun, ho8, hg8⟩ := run_recN 34 HO7.out (Hd.recC x) Nil (Lies.new wr.drew _ _) (ReadsP.none _ _) HLN.out HWS.out HB7.out.size
       have HB8 : Hid (Below w1.heap.size w1 w8) := RecsN.behind HO7.out HB7.out (Nat.le_refl _) hg8
       have HO8 := Lib.hid ho8
       clear ho8 hg8
       refine wpAnyH_ready (rs := [15]) (by kernel_rfl) (by simp) ?_
       refine ready_append 15 (.tmp 63) (.tmp 77) 34 rfl rfl rfl (.slice yo yn yc) (.slice (some ⟨wr.heap.size, 0, none⟩) 1 1) v8 w8 ?s15n2 ?x15n2 hrun ⟨⟨(HLX.out _ HB8.out).cell 5 _ rfl, HCELL.out _ HB8.out⟩, fun hHeld => ?_⟩
       case s15n2 => kernel_rfl
       case x15n2 => kernel_rfl
       refine wpAnyH_take (i := 16) (v := ?v16n2) rfl (by kernel_rfl) (by kernel_rfl) (by kernel_rfl) (fun _ _ _ h => h) (Or.inl ⟨by kernel_rfl, ?hy16n2⟩) hHeld ?rest16n2
       case hy16n2 => (intro W hSw; go_simp; (try with_reducible rfl))
       refine wpAnyH_done (by kernel_rfl) ?_ _
       clear hHeld hrun
       rw [HTK.out] at HO8
       go_wp2
       go_roundw
       case rel => exact ⟨j + 1, by go_num, by omega, HO8, HB8⟩
       case measure => simp [intOf]; omega
      ·obtain rfl : j = nc := by omega
       have HO5 : Hid (RecsN w.heap.size wr w1.heap.size (.slice yo yn yc) ([Hd.recI h] ++ [Hd.recP h] ++ h.acc.map Hd.recA ++ h.chs.map Hd.recC)) := by have h1 := HO.out; rw [List.take_of_length_le (by have := HNC.out; omega)] at h1; exact h1
       go_wp2
       exact HE.out _ _ _ HBr.out HO5.out (by unfold Hd.recs; rw [if_pos HB0.out, if_pos HP0.out]; first | done | simp)
  ·have HB0 := Lib.hid hb0
   have HON : Hid (RecsN w.heap.size w1 w1.heap.size Nil []) := ListO.bare _ _ _ _
   have p0 : w1.cell? ⟨w.heap.size, 0, none⟩ = some (.int .i64 h.prom.round) := (HLX.out _ HBR.out).cell 0 _ rfl; have p1 : w1.cell? ⟨w.heap.size, 1, none⟩ = some (.int .i64 h.prom.node) := (HLX.out _ HBR.out).cell 1 _ rfl
   go_wp2_with (at_builtin; refine step_recN rfl _ _ rfl w1.heap.size Nil ([]) rfl (ListO.below HON.out ((Below.refl _ w1).alloc (Nat.le_refl _) _)) (Hd.recP h) Nil w1.heap.size rfl (Lies.new w1 42 (Re.cells (Hd.recP h) Nil)) (ReadsP.none _ _) (by simp) HWS.out (Nat.le_trans HBR.out.size (by simp)) ?_; intro v6 w6 ho6 hg6; have HO6 := Lib.hid ho6; have HB6 : Hid (Below w1.heap.size w1 w6) := RecsN.behind (ListO.below HON.out ((Below.refl _ w1).alloc (Nat.le_refl _) _)) (HBR.out.alloc HBR.out.size _) (Nat.le_refl _) hg6; clear ho6 hg6)
   clear c2 p0 p1
   have HL0 : Hid (([] ++ [Hd.recP h] : List Re.Rec).length ≤ 2) := by show _ ≤ _; simp
   go_loopw [3, 4] (fun y i wr => ∃ k : Nat, i = .int .i64 (k : Int) ∧ k ≤ na ∧ Hid (RecsN w.heap.size wr w1.heap.size y ([] ++ [Hd.recP h] ++ (h.acc.take k).map Hd.recA)) ∧ Hid (Below w1.heap.size w1 wr)) (fun _ i _ => na - (intOf i).toNat)
   case atStart => exact ⟨0, rfl, by omega, by have h1 := HO6.out; show RecsN _ _ _ _ _; simpa using h1, HB6⟩
   case round =>
    obtain ⟨k, rfl, hk, HO, HBr⟩ := hrel
    obtain ⟨yo, yc, hyy⟩ := RecsN.shape HO.out
    obtain ⟨yn, hyn⟩ : ∃ m, m = ([] ++ [Hd.recP h] ++ (h.acc.take k).map Hd.recA).length := ⟨_, rfl⟩
    rw [← hyn] at hyy
    clear hyn
    subst hyy
    have m4 : wr.cell? ⟨w.heap.size, 4, none⟩ = some (.slice ao na ac) := (HLX.out _ HBr.out).cell 4 _ rfl
    by_cases hltk : k < na
    ·obtain ⟨x, hx⟩ : ∃ x, h.acc[k]? = some x := ⟨_, List.getElem?_eq_getElem (by have := HNA.out; omega)⟩
     obtain ⟨g, off, rfl, hgl, hcell⟩ := HPA.out (by have := HNA.out; omega)
     have HCELL : Hid (∀ W, Below w1.heap.size w1 W → EntAt W g (off + k * 10) x) := fun W hW => hcell W hW k x hx
     have HLN : Hid (([] ++ [Hd.recP h] ++ (h.acc.take k).map Hd.recA).length ≤ 10000000) := by
      show _ ≤ _
      have h1 := HF.out.1
      have h2 := HF.out.2
      have h3 : (h.acc.take k).length ≤ h.acc.length := List.length_take_le' _ _
      have h4 := HL0.out
      (try simp only [List.length_append] at h4)
      simp only [List.length_append, List.length_map]
      omega
     have HTK : Hid ([] ++ [Hd.recP h] ++ (h.acc.take k).map Hd.recA ++ [Hd.recA x] = [] ++ [Hd.recP h] ++ (h.acc.take (k + 1)).map Hd.recA) := by show _ = _; rw [List.take_add_one, hx]; simp
     clear hcell hx
     go_wp2
     clear m4
     refine wp_region_held_drew (S := fun W => W.cell? ⟨w.heap.size, 4, none⟩ = some (.slice (some ⟨g, off, none⟩) na ac) ∧ EntAt W g (off + k * 10) x) (by kernel_rfl) (⟨(HLX.out _ ((HBr.out).trans ((drawn wr 1).mono HBr.out.size))).cell 4 _ rfl, HCELL.out _ (HBr.out.trans ((drawn wr 1).mono HBr.out.size))⟩) (fun hHeld => ?_)
     refine wpAnyH_take (i := 0) (v := ?v0n3) rfl (by kernel_rfl) (by kernel_rfl) (by kernel_rfl) (fun _ _ _ h => h) (Or.inl ⟨by kernel_rfl, ?hy0n3⟩) hHeld ?rest0n3
     case hy0n3 => (intro W hSw; obtain ⟨s1, s2⟩ := hSw; obtain ⟨q0, q1, q2, q3, q4, q5, q6, q7, q8, q9⟩ := s2; go_simp; (try with_reducible rfl))
     refine wpAnyH_take (i := 1) (v := ?v1n3) rfl (by kernel_rfl) (by kernel_rfl) (by kernel_rfl) (fun _ _ _ h => h) (Or.inl ⟨by kernel_rfl, ?hy1n3⟩) hHeld ?rest1n3
     case hy1n3 => (intro W hSw; obtain ⟨s1, s2⟩ := hSw; obtain ⟨q0, q1, q2, q3, q4, q5, q6, q7, q8, q9⟩ := s2; go_simp; (try with_reducible rfl))
     refine wpAnyH_take (i := 2) (v := ?v2n3) rfl (by kernel_rfl) (by kernel_rfl) (by kernel_rfl) (fun _ _ _ h => h) (Or.inl ⟨by kernel_rfl, ?hy2n3⟩) hHeld ?rest2n3
     case hy2n3 => (intro W hSw; obtain ⟨s1, s2⟩ := hSw; obtain ⟨q0, q1, q2, q3, q4, q5, q6, q7, q8, q9⟩ := s2; go_simp; (try with_reducible rfl))
     refine wpAnyH_take (i := 3) (v := ?v3n3) rfl (by kernel_rfl) (by kernel_rfl) (by kernel_rfl) (fun _ _ _ h => h) (Or.inl ⟨by kernel_rfl, ?hy3n3⟩) hHeld ?rest3n3
     case hy3n3 => (intro W hSw; obtain ⟨s1, s2⟩ := hSw; obtain ⟨q0, q1, q2, q3, q4, q5, q6, q7, q8, q9⟩ := s2; go_simp; (try with_reducible rfl))
     refine wpAnyH_take (i := 4) (v := ?v4n3) rfl (by kernel_rfl) (by kernel_rfl) (by kernel_rfl) (fun _ _ _ h => h) (Or.inl ⟨by kernel_rfl, ?hy4n3⟩) hHeld ?rest4n3
     case hy4n3 => (intro W hSw; obtain ⟨s1, s2⟩ := hSw; obtain ⟨q0, q1, q2, q3, q4, q5, q6, q7, q8, q9⟩ := s2; go_simp; (try with_reducible rfl))
     refine wpAnyH_take (i := 5) (v := ?v5n3) rfl (by kernel_rfl) (by kernel_rfl) (by kernel_rfl) (fun _ _ _ h => h) (Or.inl ⟨by kernel_rfl, ?hy5n3⟩) hHeld ?rest5n3
     case hy5n3 => (intro W hSw; obtain ⟨s1, s2⟩ := hSw; obtain ⟨q0, q1, q2, q3, q4, q5, q6, q7, q8, q9⟩ := s2; go_simp; (try with_reducible rfl))
     refine wpAnyH_take (i := 6) (v := ?v6n3) rfl (by kernel_rfl) (by kernel_rfl) (by kernel_rfl) (fun _ _ _ h => h) (Or.inl ⟨by kernel_rfl, ?hy6n3⟩) hHeld ?rest6n3
     case hy6n3 => (intro W hSw; obtain ⟨s1, s2⟩ := hSw; obtain ⟨q0, q1, q2, q3, q4, q5, q6, q7, q8, q9⟩ := s2; go_simp; (try with_reducible rfl))
     refine wpAnyH_take (i := 7) (v := ?v7n3) rfl (by kernel_rfl) (by kernel_rfl) (by kernel_rfl) (fun _ _ _ h => h) (Or.inl ⟨by kernel_rfl, ?hy7n3⟩) hHeld ?rest7n3
     case hy7n3 => (intro W hSw; obtain ⟨s1, s2⟩ := hSw; obtain ⟨q0, q1, q2, q3, q4, q5, q6, q7, q8, q9⟩ := s2; go_simp; (try with_reducible rfl))
     refine wpAnyH_take (i := 8) (v := ?v8n3) rfl (by kernel_rfl) (by kernel_rfl) (by kernel_rfl) (fun _ _ _ h => h) (Or.inl ⟨by kernel_rfl, ?hy8n3⟩) hHeld ?rest8n3
     case hy8n3 => (intro W hSw; obtain ⟨s1, s2⟩ := hSw; obtain ⟨q0, q1, q2, q3, q4, q5, q6, q7, q8, q9⟩ := s2; go_simp; (try with_reducible rfl))
     refine wpAnyH_take (i := 9) (v := ?v9n3) rfl (by kernel_rfl) (by kernel_rfl) (by kernel_rfl) (fun _ _ _ h => h) (Or.inl ⟨by kernel_rfl, ?hy9n3⟩) hHeld ?rest9n3
     case hy9n3 => (intro W hSw; obtain ⟨s1, s2⟩ := hSw; obtain ⟨q0, q1, q2, q3, q4, q5, q6, q7, q8, q9⟩ := s2; go_simp; (try with_reducible rfl))
     refine wpAnyH_take (i := 10) (v := ?v10n3) rfl (by kernel_rfl) (by kernel_rfl) (by kernel_rfl) (fun _ _ _ h => h) (Or.inl ⟨by kernel_rfl, ?hy10n3⟩) hHeld ?rest10n3
     case hy10n3 => (intro W hSw; obtain ⟨s1, s2⟩ := hSw; obtain ⟨q0, q1, q2, q3, q4, q5, q6, q7, q8, q9⟩ := s2; go_simp; (try with_reducible rfl))
     refine wpAnyH_take (i := 11) (v := ?v11n3) rfl (by kernel_rfl) (by kernel_rfl) (by kernel_rfl) (fun _ _ _ h => h) (Or.inl ⟨by kernel_rfl, ?hy11n3⟩) hHeld ?rest11n3
     case hy11n3 => (intro W hSw; obtain ⟨s1, s2⟩ := hSw; obtain ⟨q0, q1, q2, q3, q4, q5, q6, q7, q8, q9⟩ := s2; go_simp; (try with_reducible rfl))
     refine wpAnyH_take (i := 12) (v := ?v12n3) rfl (by kernel_rfl) (by kernel_rfl) (by kernel_rfl) (fun _ _ _ h => h) (Or.inl ⟨by kernel_rfl, ?hy12n3⟩) hHeld ?rest12n3
     case hy12n3 => (intro W hSw; obtain ⟨s1, s2⟩ := hSw; obtain ⟨q0, q1, q2, q3, q4, q5, q6, q7, q8, q9⟩ := s2; go_simp; (try with_reducible rfl))
     refine wpAnyH_take (i := 13) (v := ?v13n3) rfl (by kernel_rfl) (by kernel_rfl) (by kernel_rfl) (fun _ _ _ h => h) (Or.inl ⟨by kernel_rfl, ?hy13n3⟩) hHeld ?rest13n3
     case hy13n3 => (intro W hSw; obtain ⟨s1, s2⟩ := hSw; obtain ⟨q0, q1, q2, q3, q4, q5, q6, q7, q8, q9⟩ := s2; go_simp; (try with_reducible rfl))
     refine wpAnyH_take (i := 14) (v := ?v14n3) rfl (by kernel_rfl) (by kernel_rfl) (by kernel_rfl) (fun _ _ _ h => h) (Or.inl ⟨by kernel_rfl, ?hy14n3⟩) hHeld ?rest14n3
     case hy14n3 => (intro W hSw; obtain ⟨s1, s2⟩ := hSw; obtain ⟨q0, q1, q2, q3, q4, q5, q6, q7, q8, q9⟩ := s2; go_simp; (try with_reducible rfl))
     refine wpAnyH_take (i := 15) (v := ?v15n3) rfl (by kernel_rfl) (by kernel_rfl) (by kernel_rfl) (fun _ _ _ h => h) (Or.inl ⟨by kernel_rfl, ?hy15n3⟩) hHeld ?rest15n3
     case hy15n3 => (intro W hSw; obtain ⟨s1, s2⟩ := hSw; obtain ⟨q0, q1, q2, q3, q4, q5, q6, q7, q8, q9⟩ := s2; go_simp; (try with_reducible rfl))
     refine wpAnyH_take (i := 16) (v := ?v16n3) rfl (by kernel_rfl) (by kernel_rfl) (by kernel_rfl) (fun _ _ _ h => h) (Or.inl ⟨by kernel_rfl, ?hy16n3⟩) hHeld ?rest16n3
     case hy16n3 => (intro W hSw; obtain ⟨s1, s2⟩ := hSw; obtain ⟨q0, q1, q2, q3, q4, q5, q6, q7, q8, q9⟩ := s2; go_simp; (try with_reducible rfl))
     refine wpAnyH_take (i := 17) (v := ?v17n3) rfl (by kernel_rfl) (by kernel_rfl) (by kernel_rfl) (fun _ _ _ h => h) (Or.inl ⟨by kernel_rfl, ?hy17n3⟩) hHeld ?rest17n3
     case hy17n3 => (intro W hSw; obtain ⟨s1, s2⟩ := hSw; obtain ⟨q0, q1, q2, q3, q4, q5, q6, q7, q8, q9⟩ := s2; go_simp; (try with_reducible rfl))
     refine wpAnyH_take (i := 18) (v := ?v18n3) rfl (by kernel_rfl) (by kernel_rfl) (by kernel_rfl) (fun _ _ _ h => h) (Or.inl ⟨by kernel_rfl, ?hy18n3⟩) hHeld ?rest18n3
     case hy18n3 => (intro W hSw; obtain ⟨s1, s2⟩ := hSw; obtain ⟨q0, q1, q2, q3, q4, q5, q6, q7, q8, q9⟩ := s2; go_simp; (try with_reducible rfl))
     refine wpAnyH_take (i := 19) (v := ?v19n3) rfl (by kernel_rfl) (by kernel_rfl) (by kernel_rfl) (fun _ _ _ h => h) (Or.inl ⟨by kernel_rfl, ?hy19n3⟩) hHeld ?rest19n3
     case hy19n3 => (intro W hSw; obtain ⟨s1, s2⟩ := hSw; obtain ⟨q0, q1, q2, q3, q4, q5, q6, q7, q8, q9⟩ := s2; go_simp; (try with_reducible rfl))
     have HB7 : Hid (Below w1.heap.size w1 (wr.drew.alloc (.cells (Re.cells (Hd.recA x) Nil) 42))) := (HBr.out.trans ((drawn wr 1).mono HBr.out.size)).alloc (Nat.le_trans HBr.out.size (drawn wr 1).size) _
     have HO7 : Hid (RecsN w.heap.size (wr.drew.alloc (.cells (Re.cells (Hd.recA x) Nil) 42)) w1.heap.size (.slice yo yn yc) _) := ListO.below HO.out ((drawn wr 1).alloc (drawn wr 1).size _)
     refine wpAnyH_ready (rs := [20]) (by kernel_rfl) (by simp) ?_
     refine AllReadyH.cons rfl (fun K hK => ?_) AllReadyH.nil
     rw [if_pos (by kernel_rfl)]
     go_simp
     refine hK.out _ _ ⟨(HLX.out _ HB7.out).cell 4 _ rfl, HCELL.out _ HB7.out⟩ (fun hHeld => ?_)
     clear hK K
     obtain ⟨v8, w8, hrun, ho8, hg8⟩ := run_recN 34 HO7.out (Hd.recA x) Nil (Lies.new wr.drew _ _) (ReadsP.none _ _) HLN.out HWS.out HB7.out.size
     have HB8 : Hid (Below w1.heap.size w1 w8) := RecsN.behind HO7.out HB7.out (Nat.le_refl _) hg8
     have HO8 := Lib.hid ho8
     clear ho8 hg8
     refine wpAnyH_ready (rs := [21]) (by kernel_rfl) (by simp) ?_
     refine ready_append 21 (.tmp 34) (.tmp 54) 34 rfl rfl rfl (.slice yo yn yc) (.slice (some ⟨wr.heap.size, 0, none⟩) 1 1) v8 w8 ?s21n3 ?x21n3 hrun ⟨⟨(HLX.out _ HB8.out).cell 4 _ rfl, HCELL.out _ HB8.out⟩, fun hHeld => ?_⟩
     case s21n3 => kernel_rfl
     case x21n3 => kernel_rfl
     refine wpAnyH_take (i := 22) (v := ?v22n3) rfl (by kernel_rfl) (by kernel_rfl) (by kernel_rfl) (fun _ _ _ h => h) (Or.inl ⟨by kernel_rfl, ?hy22n3⟩) hHeld ?rest22n3
     case hy22n3 => (intro W hSw; go_simp; (try with_reducible rfl))
     refine wpAnyH_done (by kernel_rfl) ?_ _
     clear hHeld hrun
     rw [HTK.out] at HO8
     go_wp2
     go_roundw
     case rel => exact ⟨k + 1, by go_num, by omega, HO8, HB8⟩
     case measure => simp [intOf]; omega
    ·obtain rfl : k = na := by omega
     have HO2 : Hid (RecsN w.heap.size wr w1.heap.size (.slice yo yn yc) ([] ++ [Hd.recP h] ++ h.acc.map Hd.recA)) := by have h1 := HO.out; rw [List.take_of_length_le (by have := HNA.out; omega)] at h1; exact h1
     clear HO
     go_wp2
     clear m4
     obtain ⟨wv, hwv⟩ : ∃ wv, wv = wr := ⟨_, rfl⟩
     rw [← hwv]
     have HB4 : Hid (Below w1.heap.size w1 wv) := by rw [hwv]; exact HBr
     have HO4 : Hid (RecsN w.heap.size wv w1.heap.size (.slice yo yn yc) ([] ++ [Hd.recP h] ++ h.acc.map Hd.recA)) := by rw [hwv]; exact HO2
     clear hwv HBr HO2
     go_loopw [3, 5] (fun y i wr => ∃ j : Nat, i = .int .i64 (j : Int) ∧ j ≤ nc ∧ Hid (RecsN w.heap.size wr w1.heap.size y ([] ++ [Hd.recP h] ++ h.acc.map Hd.recA ++ (h.chs.take j).map Hd.recC)) ∧ Hid (Below w1.heap.size w1 wr)) (fun _ i _ => nc - (intOf i).toNat)
     case atStart => exact ⟨0, rfl, by omega, by have h1 := HO4.out; show RecsN _ _ _ _ _; simpa using h1, HB4⟩
     case round =>
      obtain ⟨j, rfl, hj, HO, HBr⟩ := hrel
      obtain ⟨yo, yc, hyy⟩ := RecsN.shape HO.out
      obtain ⟨yn, hyn⟩ : ∃ m, m = ([] ++ [Hd.recP h] ++ h.acc.map Hd.recA ++ (h.chs.take j).map Hd.recC).length := ⟨_, rfl⟩
      rw [← hyn] at hyy
      clear hyn
      subst hyy
      have m4 : wr.cell? ⟨w.heap.size, 5, none⟩ = some (.slice co nc cc) := (HLX.out _ HBr.out).cell 5 _ rfl
      by_cases hltj : j < nc
      ·obtain ⟨x, hx⟩ : ∃ x, h.chs[j]? = some x := ⟨_, List.getElem?_eq_getElem (by have := HNC.out; omega)⟩
       obtain ⟨g, off, rfl, hgl, hcell⟩ := HPC.out (by have := HNC.out; omega)
       have HCELL : Hid (∀ W, Below w1.heap.size w1 W → EntAt W g (off + j * 10) x) := fun W hW => hcell W hW j x hx
       have HLN : Hid (([] ++ [Hd.recP h] ++ h.acc.map Hd.recA ++ (h.chs.take j).map Hd.recC).length ≤ 10000000) := by
        show _ ≤ _
        have h1 := HF.out.1
        have h2 := HF.out.2
        have h3 : (h.chs.take j).length ≤ h.chs.length := List.length_take_le' _ _
        have h4 := HL0.out
        (try simp only [List.length_append] at h4)
        simp only [List.length_append, List.length_map]
        omega
       have HTK : Hid ([] ++ [Hd.recP h] ++ h.acc.map Hd.recA ++ (h.chs.take j).map Hd.recC ++ [Hd.recC x] = [] ++ [Hd.recP h] ++ h.acc.map Hd.recA ++ (h.chs.take (j + 1)).map Hd.recC) := by show _ = _; rw [List.take_add_one, hx]; simp
       clear hcell hx
       go_wp2
       clear m4
       refine wp_region_held_drew (S := fun W => W.cell? ⟨w.heap.size, 5, none⟩ = some (.slice (some ⟨g, off, none⟩) nc cc) ∧ EntAt W g (off + j * 10) x) (by kernel_rfl) (⟨(HLX.out _ ((HBr.out).trans ((drawn wr 1).mono HBr.out.size))).cell 5 _ rfl, HCELL.out _ (HBr.out.trans ((drawn wr 1).mono HBr.out.size))⟩) (fun hHeld => ?_)
       refine wpAnyH_take (i := 0) (v := ?v0n4) rfl (by kernel_rfl) (by kernel_rfl) (by kernel_rfl) (fun _ _ _ h => h) (Or.inl ⟨by kernel_rfl, ?hy0n4⟩) hHeld ?rest0n4
       case hy0n4 => (intro W hSw; obtain ⟨s1, s2⟩ := hSw; obtain ⟨q0, q1, q2, q3, q4, q5, q6, q7, q8, q9⟩ := s2; go_simp; (try with_reducible rfl))
       refine wpAnyH_take (i := 1) (v := ?v1n4) rfl (by kernel_rfl) (by kernel_rfl) (by kernel_rfl) (fun _ _ _ h => h) (Or.inl ⟨by kernel_rfl, ?hy1n4⟩) hHeld ?rest1n4
       case hy1n4 => (intro W hSw; obtain ⟨s1, s2⟩ := hSw; obtain ⟨q0, q1, q2, q3, q4, q5, q6, q7, q8, q9⟩ := s2; go_simp; (try with_reducible rfl))
       refine wpAnyH_take (i := 2) (v := ?v2n4) rfl (by kernel_rfl) (by kernel_rfl) (by kernel_rfl) (fun _ _ _ h => h) (Or.inl ⟨by kernel_rfl, ?hy2n4⟩) hHeld ?rest2n4
       case hy2n4 => (intro W hSw; obtain ⟨s1, s2⟩ := hSw; obtain ⟨q0, q1, q2, q3, q4, q5, q6, q7, q8, q9⟩ := s2; go_simp; (try with_reducible rfl))
       refine wpAnyH_take (i := 3) (v := ?v3n4) rfl (by kernel_rfl) (by kernel_rfl) (by kernel_rfl) (fun _ _ _ h => h) (Or.inl ⟨by kernel_rfl, ?hy3n4⟩) hHeld ?rest3n4
       case hy3n4 => (intro W hSw; obtain ⟨s1, s2⟩ := hSw; obtain ⟨q0, q1, q2, q3, q4, q5, q6, q7, q8, q9⟩ := s2; go_simp; (try with_reducible rfl))
       refine wpAnyH_take (i := 4) (v := ?v4n4) rfl (by kernel_rfl) (by kernel_rfl) (by kernel_rfl) (fun _ _ _ h => h) (Or.inl ⟨by kernel_rfl, ?hy4n4⟩) hHeld ?rest4n4
       case hy4n4 => (intro W hSw; obtain ⟨s1, s2⟩ := hSw; obtain ⟨q0, q1, q2, q3, q4, q5, q6, q7, q8, q9⟩ := s2; go_simp; (try with_reducible rfl))
       refine wpAnyH_take (i := 5) (v := ?v5n4) rfl (by kernel_rfl) (by kernel_rfl) (by kernel_rfl) (fun _ _ _ h => h) (Or.inl ⟨by kernel_rfl, ?hy5n4⟩) hHeld ?rest5n4
       case hy5n4 => (intro W hSw; obtain ⟨s1, s2⟩ := hSw; obtain ⟨q0, q1, q2, q3, q4, q5, q6, q7, q8, q9⟩ := s2; go_simp; (try with_reducible rfl))
       refine wpAnyH_take (i := 6) (v := ?v6n4) rfl (by kernel_rfl) (by kernel_rfl) (by kernel_rfl) (fun _ _ _ h => h) (Or.inl ⟨by kernel_rfl, ?hy6n4⟩) hHeld ?rest6n4
       case hy6n4 => (intro W hSw; obtain ⟨s1, s2⟩ := hSw; obtain ⟨q0, q1, q2, q3, q4, q5, q6, q7, q8, q9⟩ := s2; go_simp; (try with_reducible rfl))
       refine wpAnyH_take (i := 7) (v := ?v7n4) rfl (by kernel_rfl) (by kernel_rfl) (by kernel_rfl) (fun _ _ _ h => h) (Or.inl ⟨by kernel_rfl, ?hy7n4⟩) hHeld ?rest7n4
       case hy7n4 => (intro W hSw; obtain ⟨s1, s2⟩ := hSw; obtain ⟨q0, q1, q2, q3, q4, q5, q6, q7, q8, q9⟩ := s2; go_simp; (try with_reducible rfl))
       refine wpAnyH_take (i := 8) (v := ?v8n4) rfl (by kernel_rfl) (by kernel_rfl) (by kernel_rfl) (fun _ _ _ h => h) (Or.inl ⟨by kernel_rfl, ?hy8n4⟩) hHeld ?rest8n4
       case hy8n4 => (intro W hSw; obtain ⟨s1, s2⟩ := hSw; obtain ⟨q0, q1, q2, q3, q4, q5, q6, q7, q8, q9⟩ := s2; go_simp; (try with_reducible rfl))
       refine wpAnyH_take (i := 9) (v := ?v9n4) rfl (by kernel_rfl) (by kernel_rfl) (by kernel_rfl) (fun _ _ _ h => h) (Or.inl ⟨by kernel_rfl, ?hy9n4⟩) hHeld ?rest9n4
       case hy9n4 => (intro W hSw; obtain ⟨s1, s2⟩ := hSw; obtain ⟨q0, q1, q2, q3, q4, q5, q6, q7, q8, q9⟩ := s2; go_simp; (try with_reducible rfl))
       refine wpAnyH_take (i := 10) (v := ?v10n4) rfl (by kernel_rfl) (by kernel_rfl) (by kernel_rfl) (fun _ _ _ h => h) (Or.inl ⟨by kernel_rfl, ?hy10n4⟩) hHeld ?rest10n4
       case hy10n4 => (intro W hSw; obtain ⟨s1, s2⟩ := hSw; obtain ⟨q0, q1, q2, q3, q4, q5, q6, q7, q8, q9⟩ := s2; go_simp; (try with_reducible rfl))
       refine wpAnyH_take (i := 11) (v := ?v11n4) rfl (by kernel_rfl) (by kernel_rfl) (by kernel_rfl) (fun _ _ _ h => h) (Or.inl ⟨by kernel_rfl, ?hy11n4⟩) hHeld ?rest11n4
       case hy11n4 => (intro W hSw; obtain ⟨s1, s2⟩ := hSw; obtain ⟨q0, q1, q2, q3, q4, q5, q6, q7, q8, q9⟩ := s2; go_simp; (try with_reducible rfl))
       refine wpAnyH_take (i := 12) (v := ?v12n4) rfl (by kernel_rfl) (by kernel_rfl) (by kernel_rfl) (fun _ _ _ h => h) (Or.inl ⟨by kernel_rfl, ?hy12n4⟩) hHeld ?rest12n4
       case hy12n4 => (intro W hSw; obtain ⟨s1, s2⟩ := hSw; obtain ⟨q0, q1, q2, q3, q4, q5, q6, q7, q8, q9⟩ := s2; go_simp; (try with_reducible rfl))
       refine wpAnyH_take (i := 13) (v := ?v13n4) rfl (by kernel_rfl) (by kernel_rfl) (by kernel_rfl) (fun _ _ _ h => h) (Or.inl ⟨by kernel_rfl, ?hy13n4⟩) hHeld ?rest13n4
       case hy13n4 => (intro W hSw; obtain ⟨s1, s2⟩ := hSw; obtain ⟨q0, q1, q2, q3, q4, q5, q6, q7, q8, q9⟩ := s2; go_simp; (try with_reducible rfl))
       have HB7 : Hid (Below w1.heap.size w1 (wr.drew.alloc (.cells (Re.cells (Hd.recC x) Nil) 42))) := (HBr.out.trans ((drawn wr 1).mono HBr.out.size)).alloc (Nat.le_trans HBr.out.size (drawn wr 1).size) _
       have HO7 : Hid (RecsN w.heap.size (wr.drew.alloc (.cells (Re.cells (Hd.recC x) Nil) 42)) w1.heap.size (.slice yo yn yc) _) := ListO.below HO.out ((drawn wr 1).alloc (drawn wr 1).size _)
       refine wpAnyH_ready (rs := [14]) (by kernel_rfl) (by simp) ?_
       refine AllReadyH.cons rfl (fun K hK => ?_) AllReadyH.nil
       rw [if_pos (by kernel_rfl)]
       go_simp
       refine hK.out _ _ ⟨(HLX.out _ HB7.out).cell 5 _ rfl, HCELL.out _ HB7.out⟩ (fun hHeld => ?_)
       clear hK K
       obtain ⟨v8, w8, hrun, ho8, hg8⟩ := run_recN 34 HO7.out (Hd.recC x) Nil (Lies.new wr.drew _ _) (ReadsP.none _ _) HLN.out HWS.out HB7.out.size
       have HB8 : Hid (Below w1.heap.size w1 w8) := RecsN.behind HO7.out HB7.out (Nat.le_refl _) hg8
       have HO8 := Lib.hid ho8
       clear ho8 hg8
       refine wpAnyH_ready (rs := [15]) (by kernel_rfl) (by simp) ?_
       refine ready_append 15 (.tmp 63) (.tmp 77) 34 rfl rfl rfl (.slice yo yn yc) (.slice (some ⟨wr.heap.size, 0, none⟩) 1 1) v8 w8 ?s15n4 ?x15n4 hrun ⟨⟨(HLX.out _ HB8.out).cell 5 _ rfl, HCELL.out _ HB8.out⟩, fun hHeld => ?_⟩
       case s15n4 => kernel_rfl
       case x15n4 => kernel_rfl
       refine wpAnyH_take (i := 16) (v := ?v16n4) rfl (by kernel_rfl) (by kernel_rfl) (by kernel_rfl) (fun _ _ _ h => h) (Or.inl ⟨by kernel_rfl, ?hy16n4⟩) hHeld ?rest16n4
       case hy16n4 => (intro W hSw; go_simp; (try with_reducible rfl))
       refine wpAnyH_done (by kernel_rfl) ?_ _
       clear hHeld hrun
       rw [HTK.out] at HO8
       go_wp2
       go_roundw
       case rel => exact ⟨j + 1, by go_num, by omega, HO8, HB8⟩
       case measure => simp [intOf]; omega
      ·obtain rfl : j = nc := by omega
       have HO5 : Hid (RecsN w.heap.size wr w1.heap.size (.slice yo yn yc) ([] ++ [Hd.recP h] ++ h.acc.map Hd.recA ++ h.chs.map Hd.recC)) := by have h1 := HO.out; rw [List.take_of_length_le (by have := HNC.out; omega)] at h1; exact h1
       go_wp2
       exact HE.out _ _ _ HBr.out HO5.out (by unfold Hd.recs; rw [if_neg (show ¬ 0 < h.base from by have := HB0.out; omega), if_pos HP0.out]; first | done | simp)
 ·have HP0 : Hid (¬ h.prom ≠ Bl.zero) := fun h1 => hp0 (HPZ.out.1 h1)
  by_cases hb0 : 0 < h.base
  ·have HB0 := Lib.hid hb0
   have c3 : w1.cell? ⟨w.heap.size, 3, none⟩ = some (.slice io n ic) := HL.out.cell 3 _ rfl
   have HBA : Hid (Below w1.heap.size w1 (w1.alloc (.cells (Re.cells (Hd.recI h) (.slice io n ic)) 42))) := HBR.out.alloc (Nat.le_refl _) _
   have HON : Hid (RecsN w.heap.size (w1.alloc (.cells (Re.cells (Hd.recI h) (.slice io n ic)) 42)) w1.heap.size Nil []) := ListO.bare _ _ _ _
   go_wp2_with (at_builtin; refine step_recN rfl _ _ rfl w1.heap.size Nil [] rfl HON.out (Hd.recI h) (.slice io n ic) w1.heap.size rfl (Lies.new w1 42 (Re.cells (Hd.recI h) (.slice io n ic))) (HVI.out _ HBA.out) (by simp) HWS.out (by simp) ?_; intro v5 w5 ho5 hg5; have HO5 : Hid (RecsN w.heap.size w5 w1.heap.size v5 [Hd.recI h]) := ho5; have HB5 : Hid (Below w1.heap.size w1 w5) := RecsN.behind HON.out HBA.out (Nat.le_refl _) hg5; have p0 : w5.cell? ⟨w.heap.size, 0, none⟩ = some (.int .i64 h.prom.round) := (HLX.out _ HB5.out).cell 0 _ rfl; have p1 : w5.cell? ⟨w.heap.size, 1, none⟩ = some (.int .i64 h.prom.node) := (HLX.out _ HB5.out).cell 1 _ rfl; clear ho5 hg5)
   clear c2 c3 p0 p1
   have HL0 : Hid (([Hd.recI h] : List Re.Rec).length ≤ 2) := by show _ ≤ _; simp
   go_loopw [3, 4] (fun y i wr => ∃ k : Nat, i = .int .i64 (k : Int) ∧ k ≤ na ∧ Hid (RecsN w.heap.size wr w1.heap.size y ([Hd.recI h] ++ (h.acc.take k).map Hd.recA)) ∧ Hid (Below w1.heap.size w1 wr)) (fun _ i _ => na - (intOf i).toNat)
   case atStart => exact ⟨0, rfl, by omega, by have h1 := HO5.out; show RecsN _ _ _ _ _; simpa using h1, HB5⟩
   case round =>
    obtain ⟨k, rfl, hk, HO, HBr⟩ := hrel
    obtain ⟨yo, yc, hyy⟩ := RecsN.shape HO.out
    obtain ⟨yn, hyn⟩ : ∃ m, m = ([Hd.recI h] ++ (h.acc.take k).map Hd.recA).length := ⟨_, rfl⟩
    rw [← hyn] at hyy
    clear hyn
    subst hyy
    have m4 : wr.cell? ⟨w.heap.size, 4, none⟩ = some (.slice ao na ac) := (HLX.out _ HBr.out).cell 4 _ rfl
    by_cases hltk : k < na
    ·obtain ⟨x, hx⟩ : ∃ x, h.acc[k]? = some x := ⟨_, List.getElem?_eq_getElem (by have := HNA.out; omega)⟩
     obtain ⟨g, off, rfl, hgl, hcell⟩ := HPA.out (by have := HNA.out; omega)
     have HCELL : Hid (∀ W, Below w1.heap.size w1 W → EntAt W g (off + k * 10) x) := fun W hW => hcell W hW k x hx
     have HLN : Hid (([Hd.recI h] ++ (h.acc.take k).map Hd.recA).length ≤ 10000000) := by
      show _ ≤ _
      have h1 := HF.out.1
      have h2 := HF.out.2
      have h3 : (h.acc.take k).length ≤ h.acc.length := List.length_take_le' _ _
      have h4 := HL0.out
      (try simp only [List.length_append] at h4)
      simp only [List.length_append, List.length_map]
      omega
     have HTK : Hid ([Hd.recI h] ++ (h.acc.take k).map Hd.recA ++ [Hd.recA x] = [Hd.recI h] ++ (h.acc.take (k + 1)).map Hd.recA) := by show _ = _; rw [List.take_add_one, hx]; simp
     clear hcell hx
     go_wp2
     clear m4
     refine wp_region_held_drew (S := fun W => W.cell? ⟨w.heap.size, 4, none⟩ = some (.slice (some ⟨g, off, none⟩) na ac) ∧ EntAt W g (off + k * 10) x) (by kernel_rfl) (⟨(HLX.out _ ((HBr.out).trans ((drawn wr 1).mono HBr.out.size))).cell 4 _ rfl, HCELL.out _ (HBr.out.trans ((drawn wr 1).mono HBr.out.size))⟩) (fun hHeld => ?_)
     refine wpAnyH_take (i := 0) (v := ?v0n5) rfl (by kernel_rfl) (by kernel_rfl) (by kernel_rfl) (fun _ _ _ h => h) (Or.inl ⟨by kernel_rfl, ?hy0n5⟩) hHeld ?rest0n5
     case hy0n5 => (intro W hSw; obtain ⟨s1, s2⟩ := hSw; obtain ⟨q0, q1, q2, q3, q4, q5, q6, q7, q8, q9⟩ := s2; go_simp; (try with_reducible rfl))
     refine wpAnyH_take (i := 1) (v := ?v1n5) rfl (by kernel_rfl) (by kernel_rfl) (by kernel_rfl) (fun _ _ _ h => h) (Or.inl ⟨by kernel_rfl, ?hy1n5⟩) hHeld ?rest1n5
     case hy1n5 => (intro W hSw; obtain ⟨s1, s2⟩ := hSw; obtain ⟨q0, q1, q2, q3, q4, q5, q6, q7, q8, q9⟩ := s2; go_simp; (try with_reducible rfl))
     refine wpAnyH_take (i := 2) (v := ?v2n5) rfl (by kernel_rfl) (by kernel_rfl) (by kernel_rfl) (fun _ _ _ h => h) (Or.inl ⟨by kernel_rfl, ?hy2n5⟩) hHeld ?rest2n5
     case hy2n5 => (intro W hSw; obtain ⟨s1, s2⟩ := hSw; obtain ⟨q0, q1, q2, q3, q4, q5, q6, q7, q8, q9⟩ := s2; go_simp; (try with_reducible rfl))
     refine wpAnyH_take (i := 3) (v := ?v3n5) rfl (by kernel_rfl) (by kernel_rfl) (by kernel_rfl) (fun _ _ _ h => h) (Or.inl ⟨by kernel_rfl, ?hy3n5⟩) hHeld ?rest3n5
     case hy3n5 => (intro W hSw; obtain ⟨s1, s2⟩ := hSw; obtain ⟨q0, q1, q2, q3, q4, q5, q6, q7, q8, q9⟩ := s2; go_simp; (try with_reducible rfl))
     refine wpAnyH_take (i := 4) (v := ?v4n5) rfl (by kernel_rfl) (by kernel_rfl) (by kernel_rfl) (fun _ _ _ h => h) (Or.inl ⟨by kernel_rfl, ?hy4n5⟩) hHeld ?rest4n5
     case hy4n5 => (intro W hSw; obtain ⟨s1, s2⟩ := hSw; obtain ⟨q0, q1, q2, q3, q4, q5, q6, q7, q8, q9⟩ := s2; go_simp; (try with_reducible rfl))
     refine wpAnyH_take (i := 5) (v := ?v5n5) rfl (by kernel_rfl) (by kernel_rfl) (by kernel_rfl) (fun _ _ _ h => h) (Or.inl ⟨by kernel_rfl, ?hy5n5⟩) hHeld ?rest5n5
     case hy5n5 => (intro W hSw; obtain ⟨s1, s2⟩ := hSw; obtain ⟨q0, q1, q2, q3, q4, q5, q6, q7, q8, q9⟩ := s2; go_simp; (try with_reducible rfl))
     refine wpAnyH_take (i := 6) (v := ?v6n5) rfl (by kernel_rfl) (by kernel_rfl) (by kernel_rfl) (fun _ _ _ h => h) (Or.inl ⟨by kernel_rfl, ?hy6n5⟩) hHeld ?rest6n5
     case hy6n5 => (intro W hSw; obtain ⟨s1, s2⟩ := hSw; obtain ⟨q0, q1, q2, q3, q4, q5, q6, q7, q8, q9⟩ := s2; go_simp; (try with_reducible rfl))
     refine wpAnyH_take (i := 7) (v := ?v7n5) rfl (by kernel_rfl) (by kernel_rfl) (by kernel_rfl) (fun _ _ _ h => h) (Or.inl ⟨by kernel_rfl, ?hy7n5⟩) hHeld ?rest7n5
     case hy7n5 => (intro W hSw; obtain ⟨s1, s2⟩ := hSw; obtain ⟨q0, q1, q2, q3, q4, q5, q6, q7, q8, q9⟩ := s2; go_simp; (try with_reducible rfl))
     refine wpAnyH_take (i := 8) (v := ?v8n5) rfl (by kernel_rfl) (by kernel_rfl) (by kernel_rfl) (fun _ _ _ h => h) (Or.inl ⟨by kernel_rfl, ?hy8n5⟩) hHeld ?rest8n5
     case hy8n5 => (intro W hSw; obtain ⟨s1, s2⟩ := hSw; obtain ⟨q0, q1, q2, q3, q4, q5, q6, q7, q8, q9⟩ := s2; go_simp; (try with_reducible rfl))
     refine wpAnyH_take (i := 9) (v := ?v9n5) rfl (by kernel_rfl) (by kernel_rfl) (by kernel_rfl) (fun _ _ _ h => h) (Or.inl ⟨by kernel_rfl, ?hy9n5⟩) hHeld ?rest9n5
     case hy9n5 => (intro W hSw; obtain ⟨s1, s2⟩ := hSw; obtain ⟨q0, q1, q2, q3, q4, q5, q6, q7, q8, q9⟩ := s2; go_simp; (try with_reducible rfl))
     refine wpAnyH_take (i := 10) (v := ?v10n5) rfl (by kernel_rfl) (by kernel_rfl) (by kernel_rfl) (fun _ _ _ h => h) (Or.inl ⟨by kernel_rfl, ?hy10n5⟩) hHeld ?rest10n5
     case hy10n5 => (intro W hSw; obtain ⟨s1, s2⟩ := hSw; obtain ⟨q0, q1, q2, q3, q4, q5, q6, q7, q8, q9⟩ := s2; go_simp; (try with_reducible rfl))
     refine wpAnyH_take (i := 11) (v := ?v11n5) rfl (by kernel_rfl) (by kernel_rfl) (by kernel_rfl) (fun _ _ _ h => h) (Or.inl ⟨by kernel_rfl, ?hy11n5⟩) hHeld ?rest11n5
     case hy11n5 => (intro W hSw; obtain ⟨s1, s2⟩ := hSw; obtain ⟨q0, q1, q2, q3, q4, q5, q6, q7, q8, q9⟩ := s2; go_simp; (try with_reducible rfl))
     refine wpAnyH_take (i := 12) (v := ?v12n5) rfl (by kernel_rfl) (by kernel_rfl) (by kernel_rfl) (fun _ _ _ h => h) (Or.inl ⟨by kernel_rfl, ?hy12n5⟩) hHeld ?rest12n5
     case hy12n5 => (intro W hSw; obtain ⟨s1, s2⟩ := hSw; obtain ⟨q0, q1, q2, q3, q4, q5, q6, q7, q8, q9⟩ := s2; go_simp; (try with_reducible rfl))
     refine wpAnyH_take (i := 13) (v := ?v13n5) rfl (by kernel_rfl) (by kernel_rfl) (by kernel_rfl) (fun _ _ _ h => h) (Or.inl ⟨by kernel_rfl, ?hy13n5⟩) hHeld ?rest13n5
     case hy13n5 => (intro W hSw; obtain ⟨s1, s2⟩ := hSw; obtain ⟨q0, q1, q2, q3, q4, q5, q6, q7, q8, q9⟩ := s2; go_simp; (try with_reducible rfl))
     refine wpAnyH_take (i := 14) (v := ?v14n5) rfl (by kernel_rfl) (by kernel_rfl) (by kernel_rfl) (fun _ _ _ h => h) (Or.inl ⟨by kernel_rfl, ?hy14n5⟩) hHeld ?rest14n5
     case hy14n5 => (intro W hSw; obtain ⟨s1, s2⟩ := hSw; obtain ⟨q0, q1, q2, q3, q4, q5, q6, q7, q8, q9⟩ := s2; go_simp; (try with_reducible rfl))
     refine wpAnyH_take (i := 15) (v := ?v15n5) rfl (by kernel_rfl) (by kernel_rfl) (by kernel_rfl) (fun _ _ _ h => h) (Or.inl ⟨by kernel_rfl, ?hy15n5⟩) hHeld ?rest15n5
     case hy15n5 => (intro W hSw; obtain ⟨s1, s2⟩ := hSw; obtain ⟨q0, q1, q2, q3, q4, q5, q6, q7, q8, q9⟩ := s2; go_simp; (try with_reducible rfl))
     refine wpAnyH_take (i := 16) (v := ?v16n5) rfl (by kernel_rfl) (by kernel_rfl) (by kernel_rfl) (fun _ _ _ h => h) (Or.inl ⟨by kernel_rfl, ?hy16n5⟩) hHeld ?rest16n5
     case hy16n5 => (intro W hSw; obtain ⟨s1, s2⟩ := hSw; obtain ⟨q0, q1, q2, q3, q4, q5, q6, q7, q8, q9⟩ := s2; go_simp; (try with_reducible rfl))
     refine wpAnyH_take (i := 17) (v := ?v17n5) rfl (by kernel_rfl) (by kernel_rfl) (by kernel_rfl) (fun _ _ _ h => h) (Or.inl ⟨by kernel_rfl, ?hy17n5⟩) hHeld ?rest17n5
     case hy17n5 => (intro W hSw; obtain ⟨s1, s2⟩ := hSw; obtain ⟨q0, q1, q2, q3, q4, q5, q6, q7, q8, q9⟩ := s2; go_simp; (try with_reducible rfl))
     refine wpAnyH_take (i := 18) (v := ?v18n5) rfl (by kernel_rfl) (by kernel_rfl) (by kernel_rfl) (fun _ _ _ h => h) (Or.inl ⟨by kernel_rfl, ?hy18n5⟩) hHeld ?rest18n5
     case hy18n5 => (intro W hSw; obtain ⟨s1, s2⟩ := hSw; obtain ⟨q0, q1, q2, q3, q4, q5, q6, q7, q8, q9⟩ := s2; go_simp; (try with_reducible rfl))
     refine wpAnyH_take (i := 19) (v := ?v19n5) rfl (by kernel_rfl) (by kernel_rfl) (by kernel_rfl) (fun _ _ _ h => h) (Or.inl ⟨by kernel_rfl, ?hy19n5⟩) hHeld ?rest19n5
     case hy19n5 => (intro W hSw; obtain ⟨s1, s2⟩ := hSw; obtain ⟨q0, q1, q2, q3, q4, q5, q6, q7, q8, q9⟩ := s2; go_simp; (try with_reducible rfl))
     have HB7 : Hid (Below w1.heap.size w1 (wr.drew.alloc (.cells (Re.cells (Hd.recA x) Nil) 42))) := (HBr.out.trans ((drawn wr 1).mono HBr.out.size)).alloc (Nat.le_trans HBr.out.size (drawn wr 1).size) _
     have HO7 : Hid (RecsN w.heap.size (wr.drew.alloc (.cells (Re.cells (Hd.recA x) Nil) 42)) w1.heap.size (.slice yo yn yc) _) := ListO.below HO.out ((drawn wr 1).alloc (drawn wr 1).size _)
     refine wpAnyH_ready (rs := [20]) (by kernel_rfl) (by simp) ?_
     refine AllReadyH.cons rfl (fun K hK => ?_) AllReadyH.nil
     rw [if_pos (by kernel_rfl)]
     go_simp
     refine hK.out _ _ ⟨(HLX.out _ HB7.out).cell 4 _ rfl, HCELL.out _ HB7.out⟩ (fun hHeld => ?_)
     clear hK K
     obtain ⟨v8, w8, hrun, ho8, hg8⟩ := run_recN 34 HO7.out (Hd.recA x) Nil (Lies.new wr.drew _ _) (ReadsP.none _ _) HLN.out HWS.out HB7.out.size
     have HB8 : Hid (Below w1.heap.size w1 w8) := RecsN.behind HO7.out HB7.out (Nat.le_refl _) hg8
     have HO8 := Lib.hid ho8
     clear ho8 hg8
     refine wpAnyH_ready (rs := [21]) (by kernel_rfl) (by simp) ?_
     refine ready_append 21 (.tmp 34) (.tmp 54) 34 rfl rfl rfl (.slice yo yn yc) (.slice (some ⟨wr.heap.size, 0, none⟩) 1 1) v8 w8 ?s21n5 ?x21n5 hrun ⟨⟨(HLX.out _ HB8.out).cell 4 _ rfl, HCELL.out _ HB8.out⟩, fun hHeld => ?_⟩
     case s21n5 => kernel_rfl
     case x21n5 => kernel_rfl
     refine wpAnyH_take (i := 22) (v := ?v22n5) rfl (by kernel_rfl) (by kernel_rfl) (by kernel_rfl) (fun _ _ _ h => h) (Or.inl ⟨by kernel_rfl, ?hy22n5⟩) hHeld ?rest22n5
     case hy22n5 => (intro W hSw; go_simp; (try with_reducible rfl))
     refine wpAnyH_done (by kernel_rfl) ?_ _
     clear hHeld hrun
     rw [HTK.out] at HO8
     go_wp2
     go_roundw
     case rel => exact ⟨k + 1, by go_num, by omega, HO8, HB8⟩
     case measure => simp [intOf]; omega
    ·obtain rfl : k = na := by omega
     have HO2 : Hid (RecsN w.heap.size wr w1.heap.size (.slice yo yn yc) ([Hd.recI h] ++ h.acc.map Hd.recA)) := by have h1 := HO.out; rw [List.take_of_length_le (by have := HNA.out; omega)] at h1; exact h1
     clear HO
     go_wp2
     clear m4
     obtain ⟨wv, hwv⟩ : ∃ wv, wv = wr := ⟨_, rfl⟩
     rw [← hwv]
     have HB4 : Hid (Below w1.heap.size w1 wv) := by rw [hwv]; exact HBr
     have HO4 : Hid (RecsN w.heap.size wv w1.heap.size (.slice yo yn yc) ([Hd.recI h] ++ h.acc.map Hd.recA)) := by rw [hwv]; exact HO2
     clear hwv HBr HO2
     go_loopw [3, 5] (fun y i wr => ∃ j : Nat, i = .int .i64 (j : Int) ∧ j ≤ nc ∧ Hid (RecsN w.heap.size wr w1.heap.size y ([Hd.recI h] ++ h.acc.map Hd.recA ++ (h.chs.take j).map Hd.recC)) ∧ Hid (Below w1.heap.size w1 wr)) (fun _ i _ => nc - (intOf i).toNat)
     case atStart => exact ⟨0, rfl, by omega, by have h1 := HO4.out; show RecsN _ _ _ _ _; simpa using h1, HB4⟩
     case round =>
      obtain ⟨j, rfl, hj, HO, HBr⟩ := hrel
      obtain ⟨yo, yc, hyy⟩ := RecsN.shape HO.out
      obtain ⟨yn, hyn⟩ : ∃ m, m = ([Hd.recI h] ++ h.acc.map Hd.recA ++ (h.chs.take j).map Hd.recC).length := ⟨_, rfl⟩
      rw [← hyn] at hyy
      clear hyn
      subst hyy
      have m4 : wr.cell? ⟨w.heap.size, 5, none⟩ = some (.slice co nc cc) := (HLX.out _ HBr.out).cell 5 _ rfl
      by_cases hltj : j < nc
      ·obtain ⟨x, hx⟩ : ∃ x, h.chs[j]? = some x := ⟨_, List.getElem?_eq_getElem (by have := HNC.out; omega)⟩
       obtain ⟨g, off, rfl, hgl, hcell⟩ := HPC.out (by have := HNC.out; omega)
       have HCELL : Hid (∀ W, Below w1.heap.size w1 W → EntAt W g (off + j * 10) x) := fun W hW => hcell W hW j x hx
       have HLN : Hid (([Hd.recI h] ++ h.acc.map Hd.recA ++ (h.chs.take j).map Hd.recC).length ≤ 10000000) := by
        show _ ≤ _
        have h1 := HF.out.1
        have h2 := HF.out.2
        have h3 : (h.chs.take j).length ≤ h.chs.length := List.length_take_le' _ _
        have h4 := HL0.out
        (try simp only [List.length_append] at h4)
        simp only [List.length_append, List.length_map]
        omega
       have HTK : Hid ([Hd.recI h] ++ h.acc.map Hd.recA ++ (h.chs.take j).map Hd.recC ++ [Hd.recC x] = [Hd.recI h] ++ h.acc.map Hd.recA ++ (h.chs.take (j + 1)).map Hd.recC) := by show _ = _; rw [List.take_add_one, hx]; simp
       clear hcell hx
       go_wp2
       clear m4
       refine wp_region_held_drew (S := fun W => W.cell? ⟨w.heap.size, 5, none⟩ = some (.slice (some ⟨g, off, none⟩) nc cc) ∧ EntAt W g (off + j * 10) x) (by kernel_rfl) (⟨(HLX.out _ ((HBr.out).trans ((drawn wr 1).mono HBr.out.size))).cell 5 _ rfl, HCELL.out _ (HBr.out.trans ((drawn wr 1).mono HBr.out.size))⟩) (fun hHeld => ?_)
       refine wpAnyH_take (i := 0) (v := ?v0n6) rfl (by kernel_rfl) (by kernel_rfl) (by kernel_rfl) (fun _ _ _ h => h) (Or.inl ⟨by kernel_rfl, ?hy0n6⟩) hHeld ?rest0n6
       case hy0n6 => (intro W hSw; obtain ⟨s1, s2⟩ := hSw; obtain ⟨q0, q1, q2, q3, q4, q5, q6, q7, q8, q9⟩ := s2; go_simp; (try with_reducible rfl))
       refine wpAnyH_take (i := 1) (v := ?v1n6) rfl (by kernel_rfl) (by kernel_rfl) (by kernel_rfl) (fun _ _ _ h => h) (Or.inl ⟨by kernel_rfl, ?hy1n6⟩) hHeld ?rest1n6
       case hy1n6 => (intro W hSw; obtain ⟨s1, s2⟩ := hSw; obtain ⟨q0, q1, q2, q3, q4, q5, q6, q7, q8, q9⟩ := s2; go_simp; (try with_reducible rfl))
       refine wpAnyH_take (i := 2) (v := ?v2n6) rfl (by kernel_rfl) (by kernel_rfl) (by kernel_rfl) (fun _ _ _ h => h) (Or.inl ⟨by kernel_rfl, ?hy2n6⟩) hHeld ?rest2n6
       case hy2n6 => (intro W hSw; obtain ⟨s1, s2⟩ := hSw; obtain ⟨q0, q1, q2, q3, q4, q5, q6, q7, q8, q9⟩ := s2; go_simp; (try with_reducible rfl))
       refine wpAnyH_take (i := 3) (v := ?v3n6) rfl (by kernel_rfl) (by kernel_rfl) (by kernel_rfl) (fun _ _ _ h => h) (Or.inl ⟨by kernel_rfl, ?hy3n6⟩) hHeld ?rest3n6
       case hy3n6 => (intro W hSw; obtain ⟨s1, s2⟩ := hSw; obtain ⟨q0, q1, q2, q3, q4, q5, q6, q7, q8, q9⟩ := s2; go_simp; (try with_reducible rfl))
       refine wpAnyH_take (i := 4) (v := ?v4n6) rfl (by kernel_rfl) (by kernel_rfl) (by kernel_rfl) (fun _ _ _ h => h) (Or.inl ⟨by kernel_rfl, ?hy4n6⟩) hHeld ?rest4n6
       case hy4n6 => (intro W hSw; obtain ⟨s1, s2⟩ := hSw; obtain ⟨q0, q1, q2, q3, q4, q5, q6, q7, q8, q9⟩ := s2; go_simp; (try with_reducible rfl))
       refine wpAnyH_take (i := 5) (v := ?v5n6) rfl (by kernel_rfl) (by kernel_rfl) (by kernel_rfl) (fun _ _ _ h => h) (Or.inl ⟨by kernel_rfl, ?hy5n6⟩) hHeld ?rest5n6
       case hy5n6 => (intro W hSw; obtain ⟨s1, s2⟩ := hSw; obtain ⟨q0, q1, q2, q3, q4, q5, q6, q7, q8, q9⟩ := s2; go_simp; (try with_reducible rfl))
       refine wpAnyH_take (i := 6) (v := ?v6n6) rfl (by kernel_rfl) (by kernel_rfl) (by kernel_rfl) (fun _ _ _ h => h) (Or.inl ⟨by kernel_rfl, ?hy6n6⟩) hHeld ?rest6n6
       case hy6n6 => (intro W hSw; obtain ⟨s1, s2⟩ := hSw; obtain ⟨q0, q1, q2, q3, q4, q5, q6, q7, q8, q9⟩ := s2; go_simp; (try with_reducible rfl))
       refine wpAnyH_take (i := 7) (v := ?v7n6) rfl (by kernel_rfl) (by kernel_rfl) (by kernel_rfl) (fun _ _ _ h => h) (Or.inl ⟨by kernel_rfl, ?hy7n6⟩) hHeld ?rest7n6
       case hy7n6 => (intro W hSw; obtain ⟨s1, s2⟩ := hSw; obtain ⟨q0, q1, q2, q3, q4, q5, q6, q7, q8, q9⟩ := s2; go_simp; (try with_reducible rfl))
       refine wpAnyH_take (i := 8) (v := ?v8n6) rfl (by kernel_rfl) (by kernel_rfl) (by kernel_rfl) (fun _ _ _ h => h) (Or.inl ⟨by kernel_rfl, ?hy8n6⟩) hHeld ?rest8n6
       case hy8n6 => (intro W hSw; obtain ⟨s1, s2⟩ := hSw; obtain ⟨q0, q1, q2, q3, q4, q5, q6, q7, q8, q9⟩ := s2; go_simp; (try with_reducible rfl))
       refine wpAnyH_take (i := 9) (v := ?v9n6) rfl (by kernel_rfl) (by kernel_rfl) (by kernel_rfl) (fun _ _ _ h => h) (Or.inl ⟨by kernel_rfl, ?hy9n6⟩) hHeld ?rest9n6
       case hy9n6 => (intro W hSw; obtain ⟨s1, s2⟩ := hSw; obtain ⟨q0, q1, q2, q3, q4, q5, q6, q7, q8, q9⟩ := s2; go_simp; (try with_reducible rfl))
       refine wpAnyH_take (i := 10) (v := ?v10n6) rfl (by kernel_rfl) (by kernel_rfl) (by kernel_rfl) (fun _ _ _ h => h) (Or.inl ⟨by kernel_rfl, ?hy10n6⟩) hHeld ?rest10n6
       case hy10n6 => (intro W hSw; obtain ⟨s1, s2⟩ := hSw; obtain ⟨q0, q1, q2, q3, q4, q5, q6, q7, q8, q9⟩ := s2; go_simp; (try with_reducible rfl))
       refine wpAnyH_take (i := 11) (v := ?v11n6) rfl (by kernel_rfl) (by kernel_rfl) (by kernel_rfl) (fun _ _ _ h => h) (Or.inl ⟨by kernel_rfl, ?hy11n6⟩) hHeld ?rest11n6
       case hy11n6 => (intro W hSw; obtain ⟨s1, s2⟩ := hSw; obtain ⟨q0, q1, q2, q3, q4, q5, q6, q7, q8, q9⟩ := s2; go_simp; (try with_reducible rfl))
       refine wpAnyH_take (i := 12) (v := ?v12n6) rfl (by kernel_rfl) (by kernel_rfl) (by kernel_rfl) (fun _ _ _ h => h) (Or.inl ⟨by kernel_rfl, ?hy12n6⟩) hHeld ?rest12n6
       case hy12n6 => (intro W hSw; obtain ⟨s1, s2⟩ := hSw; obtain ⟨q0, q1, q2, q3, q4, q5, q6, q7, q8, q9⟩ := s2; go_simp; (try with_reducible rfl))
       refine wpAnyH_take (i := 13) (v := ?v13n6) rfl (by kernel_rfl) (by kernel_rfl) (by kernel_rfl) (fun _ _ _ h => h) (Or.inl ⟨by kernel_rfl, ?hy13n6⟩) hHeld ?rest13n6
       case hy13n6 => (intro W hSw; obtain ⟨s1, s2⟩ := hSw; obtain ⟨q0, q1, q2, q3, q4, q5, q6, q7, q8, q9⟩ := s2; go_simp; (try with_reducible rfl))
       have HB7 : Hid (Below w1.heap.size w1 (wr.drew.alloc (.cells (Re.cells (Hd.recC x) Nil) 42))) := (HBr.out.trans ((drawn wr 1).mono HBr.out.size)).alloc (Nat.le_trans HBr.out.size (drawn wr 1).size) _
       have HO7 : Hid (RecsN w.heap.size (wr.drew.alloc (.cells (Re.cells (Hd.recC x) Nil) 42)) w1.heap.size (.slice yo yn yc) _) := ListO.below HO.out ((drawn wr 1).alloc (drawn wr 1).size _)
       refine wpAnyH_ready (rs := [14]) (by kernel_rfl) (by simp) ?_
       refine AllReadyH.cons rfl (fun K hK => ?_) AllReadyH.nil
       rw [if_pos (by kernel_rfl)]
       go_simp
       refine hK.out _ _ ⟨(HLX.out _ HB7.out).cell 5 _ rfl, HCELL.out _ HB7.out⟩ (fun hHeld => ?_)
       clear hK K
       obtain ⟨v8, w8, hrun, ho8, hg8⟩ := run_recN 34 HO7.out (Hd.recC x) Nil (Lies.new wr.drew _ _) (ReadsP.none _ _) HLN.out HWS.out HB7.out.size
       have HB8 : Hid (Below w1.heap.size w1 w8) := RecsN.behind HO7.out HB7.out (Nat.le_refl _) hg8
       have HO8 := Lib.hid ho8
       clear ho8 hg8
       refine wpAnyH_ready (rs := [15]) (by kernel_rfl) (by simp) ?_
       refine ready_append 15 (.tmp 63) (.tmp 77) 34 rfl rfl rfl (.slice yo yn yc) (.slice (some ⟨wr.heap.size, 0, none⟩) 1 1) v8 w8 ?s15n6 ?x15n6 hrun ⟨⟨(HLX.out _ HB8.out).cell 5 _ rfl, HCELL.out _ HB8.out⟩, fun hHeld => ?_⟩
       case s15n6 => kernel_rfl
       case x15n6 => kernel_rfl
       refine wpAnyH_take (i := 16) (v := ?v16n6) rfl (by kernel_rfl) (by kernel_rfl) (by kernel_rfl) (fun _ _ _ h => h) (Or.inl ⟨by kernel_rfl, ?hy16n6⟩) hHeld ?rest16n6
       case hy16n6 => (intro W hSw; go_simp; (try with_reducible rfl))
       refine wpAnyH_done (by kernel_rfl) ?_ _
       clear hHeld hrun
       rw [HTK.out] at HO8
       go_wp2
       go_roundw
       case rel => exact ⟨j + 1, by go_num, by omega, HO8, HB8⟩
       case measure => simp [intOf]; omega
      ·obtain rfl : j = nc := by omega
       have HO5 : Hid (RecsN w.heap.size wr w1.heap.size (.slice yo yn yc) ([Hd.recI h] ++ h.acc.map Hd.recA ++ h.chs.map Hd.recC)) := by have h1 := HO.out; rw [List.take_of_length_le (by have := HNC.out; omega)] at h1; exact h1
       go_wp2
       exact HE.out _ _ _ HBr.out HO5.out (by unfold Hd.recs; rw [if_pos HB0.out, if_neg HP0.out]; first | done | simp)
  ·have HB0 := Lib.hid hb0
   have HON : Hid (RecsN w.heap.size w1 w1.heap.size Nil []) := ListO.bare _ _ _ _
   have p0 : w1.cell? ⟨w.heap.size, 0, none⟩ = some (.int .i64 h.prom.round) := (HLX.out _ HBR.out).cell 0 _ rfl; have p1 : w1.cell? ⟨w.heap.size, 1, none⟩ = some (.int .i64 h.prom.node) := (HLX.out _ HBR.out).cell 1 _ rfl
   go_wp2
   clear c2 p0 p1
   have HL0 : Hid (([] : List Re.Rec).length ≤ 2) := by show _ ≤ _; simp
   go_loopw [3, 4] (fun y i wr => ∃ k : Nat, i = .int .i64 (k : Int) ∧ k ≤ na ∧ Hid (RecsN w.heap.size wr w1.heap.size y ([] ++ (h.acc.take k).map Hd.recA)) ∧ Hid (Below w1.heap.size w1 wr)) (fun _ i _ => na - (intOf i).toNat)
   case atStart => exact ⟨0, rfl, by omega, by have h1 := HON.out; show RecsN _ _ _ _ _; simpa using h1, HBR⟩
   case round =>
    obtain ⟨k, rfl, hk, HO, HBr⟩ := hrel
    obtain ⟨yo, yc, hyy⟩ := RecsN.shape HO.out
    obtain ⟨yn, hyn⟩ : ∃ m, m = ([] ++ (h.acc.take k).map Hd.recA).length := ⟨_, rfl⟩
    rw [← hyn] at hyy
    clear hyn
    subst hyy
    have m4 : wr.cell? ⟨w.heap.size, 4, none⟩ = some (.slice ao na ac) := (HLX.out _ HBr.out).cell 4 _ rfl
    by_cases hltk : k < na
    ·obtain ⟨x, hx⟩ : ∃ x, h.acc[k]? = some x := ⟨_, List.getElem?_eq_getElem (by have := HNA.out; omega)⟩
     obtain ⟨g, off, rfl, hgl, hcell⟩ := HPA.out (by have := HNA.out; omega)
     have HCELL : Hid (∀ W, Below w1.heap.size w1 W → EntAt W g (off + k * 10) x) := fun W hW => hcell W hW k x hx
     have HLN : Hid (([] ++ (h.acc.take k).map Hd.recA).length ≤ 10000000) := by
      show _ ≤ _
      have h1 := HF.out.1
      have h2 := HF.out.2
      have h3 : (h.acc.take k).length ≤ h.acc.length := List.length_take_le' _ _
      have h4 := HL0.out
      (try simp only [List.length_append] at h4)
      simp only [List.length_append, List.length_map]
      omega
     have HTK : Hid ([] ++ (h.acc.take k).map Hd.recA ++ [Hd.recA x] = [] ++ (h.acc.take (k + 1)).map Hd.recA) := by show _ = _; rw [List.take_add_one, hx]; simp
     clear hcell hx
     go_wp2
     clear m4
     refine wp_region_held_drew (S := fun W => W.cell? ⟨w.heap.size, 4, none⟩ = some (.slice (some ⟨g, off, none⟩) na ac) ∧ EntAt W g (off + k * 10) x) (by kernel_rfl) (⟨(HLX.out _ ((HBr.out).trans ((drawn wr 1).mono HBr.out.size))).cell 4 _ rfl, HCELL.out _ (HBr.out.trans ((drawn wr 1).mono HBr.out.size))⟩) (fun hHeld => ?_)
     refine wpAnyH_take (i := 0) (v := ?v0n7) rfl (by kernel_rfl) (by kernel_rfl) (by kernel_rfl) (fun _ _ _ h => h) (Or.inl ⟨by kernel_rfl, ?hy0n7⟩) hHeld ?rest0n7
     case hy0n7 => (intro W hSw; obtain ⟨s1, s2⟩ := hSw; obtain ⟨q0, q1, q2, q3, q4, q5, q6, q7, q8, q9⟩ := s2; go_simp; (try with_reducible rfl))
     refine wpAnyH_take (i := 1) (v := ?v1n7) rfl (by kernel_rfl) (by kernel_rfl) (by kernel_rfl) (fun _ _ _ h => h) (Or.inl ⟨by kernel_rfl, ?hy1n7⟩) hHeld ?rest1n7
     case hy1n7 => (intro W hSw; obtain ⟨s1, s2⟩ := hSw; obtain ⟨q0, q1, q2, q3, q4, q5, q6, q7, q8, q9⟩ := s2; go_simp; (try with_reducible rfl))
     refine wpAnyH_take (i := 2) (v := ?v2n7) rfl (by kernel_rfl) (by kernel_rfl) (by kernel_rfl) (fun _ _ _ h => h) (Or.inl ⟨by kernel_rfl, ?hy2n7⟩) hHeld ?rest2n7
     case hy2n7 => (intro W hSw; obtain ⟨s1, s2⟩ := hSw; obtain ⟨q0, q1, q2, q3, q4, q5, q6, q7, q8, q9⟩ := s2; go_simp; (try with_reducible rfl))
     refine wpAnyH_take (i := 3) (v := ?v3n7) rfl (by kernel_rfl) (by kernel_rfl) (by kernel_rfl) (fun _ _ _ h => h) (Or.inl ⟨by kernel_rfl, ?hy3n7⟩) hHeld ?rest3n7
     case hy3n7 => (intro W hSw; obtain ⟨s1, s2⟩ := hSw; obtain ⟨q0, q1, q2, q3, q4, q5, q6, q7, q8, q9⟩ := s2; go_simp; (try with_reducible rfl))
     refine wpAnyH_take (i := 4) (v := ?v4n7) rfl (by kernel_rfl) (by kernel_rfl) (by kernel_rfl) (fun _ _ _ h => h) (Or.inl ⟨by kernel_rfl, ?hy4n7⟩) hHeld ?rest4n7
     case hy4n7 => (intro W hSw; obtain ⟨s1, s2⟩ := hSw; obtain ⟨q0, q1, q2, q3, q4, q5, q6, q7, q8, q9⟩ := s2; go_simp; (try with_reducible rfl))
     refine wpAnyH_take (i := 5) (v := ?v5n7) rfl (by kernel_rfl) (by kernel_rfl) (by kernel_rfl) (fun _ _ _ h => h) (Or.inl ⟨by kernel_rfl, ?hy5n7⟩) hHeld ?rest5n7
     case hy5n7 => (intro W hSw; obtain ⟨s1, s2⟩ := hSw; obtain ⟨q0, q1, q2, q3, q4, q5, q6, q7, q8, q9⟩ := s2; go_simp; (try with_reducible rfl))
     refine wpAnyH_take (i := 6) (v := ?v6n7) rfl (by kernel_rfl) (by kernel_rfl) (by kernel_rfl) (fun _ _ _ h => h) (Or.inl ⟨by kernel_rfl, ?hy6n7⟩) hHeld ?rest6n7
     case hy6n7 => (intro W hSw; obtain ⟨s1, s2⟩ := hSw; obtain ⟨q0, q1, q2, q3, q4, q5, q6, q7, q8, q9⟩ := s2; go_simp; (try with_reducible rfl))
     refine wpAnyH_take (i := 7) (v := ?v7n7) rfl (by kernel_rfl) (by kernel_rfl) (by kernel_rfl) (fun _ _ _ h => h) (Or.inl ⟨by kernel_rfl, ?hy7n7⟩) hHeld ?rest7n7
     case hy7n7 => (intro W hSw; obtain ⟨s1, s2⟩ := hSw; obtain ⟨q0, q1, q2, q3, q4, q5, q6, q7, q8, q9⟩ := s2; go_simp; (try with_reducible rfl))
     refine wpAnyH_take (i := 8) (v := ?v8n7) rfl (by kernel_rfl) (by kernel_rfl) (by kernel_rfl) (fun _ _ _ h => h) (Or.inl ⟨by kernel_rfl, ?hy8n7⟩) hHeld ?rest8n7
     case hy8n7 => (intro W hSw; obtain ⟨s1, s2⟩ := hSw; obtain ⟨q0, q1, q2, q3, q4, q5, q6, q7, q8, q9⟩ := s2; go_simp; (try with_reducible rfl))
     refine wpAnyH_take (i := 9) (v := ?v9n7) rfl (by kernel_rfl) (by kernel_rfl) (by kernel_rfl) (fun _ _ _ h => h) (Or.inl ⟨by kernel_rfl, ?hy9n7⟩) hHeld ?rest9n7
     case hy9n7 => (intro W hSw; obtain ⟨s1, s2⟩ := hSw; obtain ⟨q0, q1, q2, q3, q4, q5, q6, q7, q8, q9⟩ := s2; go_simp; (try with_reducible rfl))
     refine wpAnyH_take (i := 10) (v := ?v10n7) rfl (by kernel_rfl) (by kernel_rfl) (by kernel_rfl) (fun _ _ _ h => h) (Or.inl ⟨by kernel_rfl, ?hy10n7⟩) hHeld ?rest10n7
     case hy10n7 => (intro W hSw; obtain ⟨s1, s2⟩ := hSw; obtain ⟨q0, q1, q2, q3, q4, q5, q6, q7, q8, q9⟩ := s2; go_simp; (try with_reducible rfl))
     refine wpAnyH_take (i := 11) (v := ?v11n7) rfl (by kernel_rfl) (by kernel_rfl) (by kernel_rfl) (fun _ _ _ h => h) (Or.inl ⟨by kernel_rfl, ?hy11n7⟩) hHeld ?rest11n7
     case hy11n7 => (intro W hSw; obtain ⟨s1, s2⟩ := hSw; obtain ⟨q0, q1, q2, q3, q4, q5, q6, q7, q8, q9⟩ := s2; go_simp; (try with_reducible rfl))
     refine wpAnyH_take (i := 12) (v := ?v12n7) rfl (by kernel_rfl) (by kernel_rfl) (by kernel_rfl) (fun _ _ _ h => h) (Or.inl ⟨by kernel_rfl, ?hy12n7⟩) hHeld ?rest12n7
     case hy12n7 => (intro W hSw; obtain ⟨s1, s2⟩ := hSw; obtain ⟨q0, q1, q2, q3, q4, q5, q6, q7, q8, q9⟩ := s2; go_simp; (try with_reducible rfl))
     refine wpAnyH_take (i := 13) (v := ?v13n7) rfl (by kernel_rfl) (by kernel_rfl) (by kernel_rfl) (fun _ _ _ h => h) (Or.inl ⟨by kernel_rfl, ?hy13n7⟩) hHeld ?rest13n7
     case hy13n7 => (intro W hSw; obtain ⟨s1, s2⟩ := hSw; obtain ⟨q0, q1, q2, q3, q4, q5, q6, q7, q8, q9⟩ := s2; go_simp; (try with_reducible rfl))
     refine wpAnyH_take (i := 14) (v := ?v14n7) rfl (by kernel_rfl) (by kernel_rfl) (by kernel_rfl) (fun _ _ _ h => h) (Or.inl ⟨by kernel_rfl, ?hy14n7⟩) hHeld ?rest14n7
     case hy14n7 => (intro W hSw; obtain ⟨s1, s2⟩ := hSw; obtain ⟨q0, q1, q2, q3, q4, q5, q6, q7, q8, q9⟩ := s2; go_simp; (try with_reducible rfl))
     refine wpAnyH_take (i := 15) (v := ?v15n7) rfl (by kernel_rfl) (by kernel_rfl) (by kernel_rfl) (fun _ _ _ h => h) (Or.inl ⟨by kernel_rfl, ?hy15n7⟩) hHeld ?rest15n7
     case hy15n7 => (intro W hSw; obtain ⟨s1, s2⟩ := hSw; obtain ⟨q0, q1, q2, q3, q4, q5, q6, q7, q8, q9⟩ := s2; go_simp; (try with_reducible rfl))
     refine wpAnyH_take (i := 16) (v := ?v16n7) rfl (by kernel_rfl) (by kernel_rfl) (by kernel_rfl) (fun _ _ _ h => h) (Or.inl ⟨by kernel_rfl, ?hy16n7⟩) hHeld ?rest16n7
     case hy16n7 => (intro W hSw; obtain ⟨s1, s2⟩ := hSw; obtain ⟨q0, q1, q2, q3, q4, q5, q6, q7, q8, q9⟩ := s2; go_simp; (try with_reducible rfl))
     refine wpAnyH_take (i := 17) (v := ?v17n7) rfl (by kernel_rfl) (by kernel_rfl) (by kernel_rfl) (fun _ _ _ h => h) (Or.inl ⟨by kernel_rfl, ?hy17n7⟩) hHeld ?rest17n7
     case hy17n7 => (intro W hSw; obtain ⟨s1, s2⟩ := hSw; obtain ⟨q0, q1, q2, q3, q4, q5, q6, q7, q8, q9⟩ := s2; go_simp; (try with_reducible rfl))
     refine wpAnyH_take (i := 18) (v := ?v18n7) rfl (by kernel_rfl) (by kernel_rfl) (by kernel_rfl) (fun _ _ _ h => h) (Or.inl ⟨by kernel_rfl, ?hy18n7⟩) hHeld ?rest18n7
     case hy18n7 => (intro W hSw; obtain ⟨s1, s2⟩ := hSw; obtain ⟨q0, q1, q2, q3, q4, q5, q6, q7, q8, q9⟩ := s2; go_simp; (try with_reducible rfl))
     refine wpAnyH_take (i := 19) (v := ?v19n7) rfl (by kernel_rfl) (by kernel_rfl) (by kernel_rfl) (fun _ _ _ h => h) (Or.inl ⟨by kernel_rfl, ?hy19n7⟩) hHeld ?rest19n7
     case hy19n7 => (intro W hSw; obtain ⟨s1, s2⟩ := hSw; obtain ⟨q0, q1, q2, q3, q4, q5, q6, q7, q8, q9⟩ := s2; go_simp; (try with_reducible rfl))
     have HB7 : Hid (Below w1.heap.size w1 (wr.drew.alloc (.cells (Re.cells (Hd.recA x) Nil) 42))) := (HBr.out.trans ((drawn wr 1).mono HBr.out.size)).alloc (Nat.le_trans HBr.out.size (drawn wr 1).size) _
     have HO7 : Hid (RecsN w.heap.size (wr.drew.alloc (.cells (Re.cells (Hd.recA x) Nil) 42)) w1.heap.size (.slice yo yn yc) _) := ListO.below HO.out ((drawn wr 1).alloc (drawn wr 1).size _)
     refine wpAnyH_ready (rs := [20]) (by kernel_rfl) (by simp) ?_
     refine AllReadyH.cons rfl (fun K hK => ?_) AllReadyH.nil
     rw [if_pos (by kernel_rfl)]
     go_simp
     refine hK.out _ _ ⟨(HLX.out _ HB7.out).cell 4 _ rfl, HCELL.out _ HB7.out⟩ (fun hHeld => ?_)
     clear hK K
     obtain ⟨v8, w8, hrun, ho8, hg8⟩ := run_recN 34 HO7.out (Hd.recA x) Nil (Lies.new wr.drew _ _) (ReadsP.none _ _) HLN.out HWS.out HB7.out.size
     have HB8 : Hid (Below w1.heap.size w1 w8) := RecsN.behind HO7.out HB7.out (Nat.le_refl _) hg8
     have HO8 := Lib.hid ho8
     clear ho8 hg8
     refine wpAnyH_ready (rs := [21]) (by kernel_rfl) (by simp) ?_
     refine ready_append 21 (.tmp 34) (.tmp 54) 34 rfl rfl rfl (.slice yo yn yc) (.slice (some ⟨wr.heap.size, 0, none⟩) 1 1) v8 w8 ?s21n7 ?x21n7 hrun ⟨⟨(HLX.out _ HB8.out).cell 4 _ rfl, HCELL.out _ HB8.out⟩, fun hHeld => ?_⟩
     case s21n7 => kernel_rfl
     case x21n7 => kernel_rfl
     refine wpAnyH_take (i := 22) (v := ?v22n7) rfl (by kernel_rfl) (by kernel_rfl) (by kernel_rfl) (fun _ _ _ h => h) (Or.inl ⟨by kernel_rfl, ?hy22n7⟩) hHeld ?rest22n7
     case hy22n7 => (intro W hSw; go_simp; (try with_reducible rfl))
     refine wpAnyH_done (by kernel_rfl) ?_ _
     clear hHeld hrun
     rw [HTK.out] at HO8
     go_wp2
     go_roundw
     case rel => exact ⟨k + 1, by go_num, by omega, HO8, HB8⟩
     case measure => simp [intOf]; omega
    ·obtain rfl : k = na := by omega
     have HO2 : Hid (RecsN w.heap.size wr w1.heap.size (.slice yo yn yc) ([] ++ h.acc.map Hd.recA)) := by have h1 := HO.out; rw [List.take_of_length_le (by have := HNA.out; omega)] at h1; exact h1
     clear HO
     go_wp2
     clear m4
     obtain ⟨wv, hwv⟩ : ∃ wv, wv = wr := ⟨_, rfl⟩
     rw [← hwv]
     have HB4 : Hid (Below w1.heap.size w1 wv) := by rw [hwv]; exact HBr
     have HO4 : Hid (RecsN w.heap.size wv w1.heap.size (.slice yo yn yc) ([] ++ h.acc.map Hd.recA)) := by rw [hwv]; exact HO2
     clear hwv HBr HO2
     go_loopw [3, 5] (fun y i wr => ∃ j : Nat, i = .int .i64 (j : Int) ∧ j ≤ nc ∧ Hid (RecsN w.heap.size wr w1.heap.size y ([] ++ h.acc.map Hd.recA ++ (h.chs.take j).map Hd.recC)) ∧ Hid (Below w1.heap.size w1 wr)) (fun _ i _ => nc - (intOf i).toNat)
     case atStart => exact ⟨0, rfl, by omega, by have h1 := HO4.out; show RecsN _ _ _ _ _; simpa using h1, HB4⟩
     case round =>
      obtain ⟨j, rfl, hj, HO, HBr⟩ := hrel
      obtain ⟨yo, yc, hyy⟩ := RecsN.shape HO.out
      obtain ⟨yn, hyn⟩ : ∃ m, m = ([] ++ h.acc.map Hd.recA ++ (h.chs.take j).map Hd.recC).length := ⟨_, rfl⟩
      rw [← hyn] at hyy
      clear hyn
      subst hyy
      have m4 : wr.cell? ⟨w.heap.size, 5, none⟩ = some (.slice co nc cc) := (HLX.out _ HBr.out).cell 5 _ rfl
      by_cases hltj : j < nc
      ·obtain ⟨x, hx⟩ : ∃ x, h.chs[j]? = some x := ⟨_, List.getElem?_eq_getElem (by have := HNC.out; omega)⟩
       obtain ⟨g, off, rfl, hgl, hcell⟩ := HPC.out (by have := HNC.out; omega)
       have HCELL : Hid (∀ W, Below w1.heap.size w1 W → EntAt W g (off + j * 10) x) := fun W hW => hcell W hW j x hx
       have HLN : Hid (([] ++ h.acc.map Hd.recA ++ (h.chs.take j).map Hd.recC).length ≤ 10000000) := by
        show _ ≤ _
        have h1 := HF.out.1
        have h2 := HF.out.2
        have h3 : (h.chs.take j).length ≤ h.chs.length := List.length_take_le' _ _
        have h4 := HL0.out
        (try simp only [List.length_append] at h4)
        simp only [List.length_append, List.length_map]
        omega
       have HTK : Hid ([] ++ h.acc.map Hd.recA ++ (h.chs.take j).map Hd.recC ++ [Hd.recC x] = [] ++ h.acc.map Hd.recA ++ (h.chs.take (j + 1)).map Hd.recC) := by show _ = _; rw [List.take_add_one, hx]; simp
       clear hcell hx
       go_wp2
       clear m4
       refine wp_region_held_drew (S := fun W => W.cell? ⟨w.heap.size, 5, none⟩ = some (.slice (some ⟨g, off, none⟩) nc cc) ∧ EntAt W g (off + j * 10) x) (by kernel_rfl) (⟨(HLX.out _ ((HBr.out).trans ((drawn wr 1).mono HBr.out.size))).cell 5 _ rfl, HCELL.out _ (HBr.out.trans ((drawn wr 1).mono HBr.out.size))⟩) (fun hHeld => ?_)
       refine wpAnyH_take (i := 0) (v := ?v0n8) rfl (by kernel_rfl) (by kernel_rfl) (by kernel_rfl) (fun _ _ _ h => h) (Or.inl ⟨by kernel_rfl, ?hy0n8⟩) hHeld ?rest0n8
       case hy0n8 => (intro W hSw; obtain ⟨s1, s2⟩ := hSw; obtain ⟨q0, q1, q2, q3, q4, q5, q6, q7, q8, q9⟩ := s2; go_simp; (try with_reducible rfl))
       refine wpAnyH_take (i := 1) (v := ?v1n8) rfl (by kernel_rfl) (by kernel_rfl) (by kernel_rfl) (fun _ _ _ h => h) (Or.inl ⟨by kernel_rfl, ?hy1n8⟩) hHeld ?rest1n8
       case hy1n8 => (intro W hSw; obtain ⟨s1, s2⟩ := hSw; obtain ⟨q0, q1, q2, q3, q4, q5, q6, q7, q8, q9⟩ := s2; go_simp; (try with_reducible rfl))
       refine wpAnyH_take (i := 2) (v := ?v2n8) rfl (by kernel_rfl) (by kernel_rfl) (by kernel_rfl) (fun _ _ _ h => h) (Or.inl ⟨by kernel_rfl, ?hy2n8⟩) hHeld ?rest2n8
       case hy2n8 => (intro W hSw; obtain ⟨s1, s2⟩ := hSw; obtain ⟨q0, q1, q2, q3, q4, q5, q6, q7, q8, q9⟩ := s2; go_simp; (try with_reducible rfl))
       refine wpAnyH_take (i := 3) (v := ?v3n8) rfl (by kernel_rfl) (by kernel_rfl) (by kernel_rfl) (fun _ _ _ h => h) (Or.inl ⟨by kernel_rfl, ?hy3n8⟩) hHeld ?rest3n8
       case hy3n8 => (intro W hSw; obtain ⟨s1, s2⟩ := hSw; obtain ⟨q0, q1, q2, q3, q4, q5, q6, q7, q8, q9⟩ := s2; go_simp; (try with_reducible rfl))
       refine wpAnyH_take (i := 4) (v := ?v4n8) rfl (by kernel_rfl) (by kernel_rfl) (by kernel_rfl) (fun _ _ _ h => h) (Or.inl ⟨by kernel_rfl, ?hy4n8⟩) hHeld ?rest4n8
       case hy4n8 => (intro W hSw; obtain ⟨s1, s2⟩ := hSw; obtain ⟨q0, q1, q2, q3, q4, q5, q6, q7, q8, q9⟩ := s2; go_simp; (try with_reducible rfl))
       refine wpAnyH_take (i := 5) (v := ?v5n8) rfl (by kernel_rfl) (by kernel_rfl) (by kernel_rfl) (fun _ _ _ h => h) (Or.inl ⟨by kernel_rfl, ?hy5n8⟩) hHeld ?rest5n8
       case hy5n8 => (intro W hSw; obtain ⟨s1, s2⟩ := hSw; obtain ⟨q0, q1, q2, q3, q4, q5, q6, q7, q8, q9⟩ := s2; go_simp; (try with_reducible rfl))
       refine wpAnyH_take (i := 6) (v := ?v6n8) rfl (by kernel_rfl) (by kernel_rfl) (by kernel_rfl) (fun _ _ _ h => h) (Or.inl ⟨by kernel_rfl, ?hy6n8⟩) hHeld ?rest6n8
       case hy6n8 => (intro W hSw; obtain ⟨s1, s2⟩ := hSw; obtain ⟨q0, q1, q2, q3, q4, q5, q6, q7, q8, q9⟩ := s2; go_simp; (try with_reducible rfl))
       refine wpAnyH_take (i := 7) (v := ?v7n8) rfl (by kernel_rfl) (by kernel_rfl) (by kernel_rfl) (fun _ _ _ h => h) (Or.inl ⟨by kernel_rfl, ?hy7n8⟩) hHeld ?rest7n8
       case hy7n8 => (intro W hSw; obtain ⟨s1, s2⟩ := hSw; obtain ⟨q0, q1, q2, q3, q4, q5, q6, q7, q8, q9⟩ := s2; go_simp; (try with_reducible rfl))
       refine wpAnyH_take (i := 8) (v := ?v8n8) rfl (by kernel_rfl) (by kernel_rfl) (by kernel_rfl) (fun _ _ _ h => h) (Or.inl ⟨by kernel_rfl, ?hy8n8⟩) hHeld ?rest8n8
       case hy8n8 => (intro W hSw; obtain ⟨s1, s2⟩ := hSw; obtain ⟨q0, q1, q2, q3, q4, q5, q6, q7, q8, q9⟩ := s2; go_simp; (try with_reducible rfl))
       refine wpAnyH_take (i := 9) (v := ?v9n8) rfl (by kernel_rfl) (by kernel_rfl) (by kernel_rfl) (fun _ _ _ h => h) (Or.inl ⟨by kernel_rfl, ?hy9n8⟩) hHeld ?rest9n8
       case hy9n8 => (intro W hSw; obtain ⟨s1, s2⟩ := hSw; obtain ⟨q0, q1, q2, q3, q4, q5, q6, q7, q8, q9⟩ := s2; go_simp; (try with_reducible rfl))
       refine wpAnyH_take (i := 10) (v := ?v10n8) rfl (by kernel_rfl) (by kernel_rfl) (by kernel_rfl) (fun _ _ _ h => h) (Or.inl ⟨by kernel_rfl, ?hy10n8⟩) hHeld ?rest10n8
       case hy10n8 => (intro W hSw; obtain ⟨s1, s2⟩ := hSw; obtain ⟨q0, q1, q2, q3, q4, q5, q6, q7, q8, q9⟩ := s2; go_simp; (try with_reducible rfl))
       refine wpAnyH_take (i := 11) (v := ?v11n8) rfl (by kernel_rfl) (by kernel_rfl) (by kernel_rfl) (fun _ _ _ h => h) (Or.inl ⟨by kernel_rfl, ?hy11n8⟩) hHeld ?rest11n8
       case hy11n8 => (intro W hSw; obtain ⟨s1, s2⟩ := hSw; obtain ⟨q0, q1, q2, q3, q4, q5, q6, q7, q8, q9⟩ := s2; go_simp; (try with_reducible rfl))
       refine wpAnyH_take (i := 12) (v := ?v12n8) rfl (by kernel_rfl) (by kernel_rfl) (by kernel_rfl) (fun _ _ _ h => h) (Or.inl ⟨by kernel_rfl, ?hy12n8⟩) hHeld ?rest12n8
       case hy12n8 => (intro W hSw; obtain ⟨s1, s2⟩ := hSw; obtain ⟨q0, q1, q2, q3, q4, q5, q6, q7, q8, q9⟩ := s2; go_simp; (try with_reducible rfl))
       refine wpAnyH_take (i := 13) (v := ?v13n8) rfl (by kernel_rfl) (by kernel_rfl) (by kernel_rfl) (fun _ _ _ h => h) (Or.inl ⟨by kernel_rfl, ?hy13n8⟩) hHeld ?rest13n8
       case hy13n8 => (intro W hSw; obtain ⟨s1, s2⟩ := hSw; obtain ⟨q0, q1, q2, q3, q4, q5, q6, q7, q8, q9⟩ := s2; go_simp; (try with_reducible rfl))
       have HB7 : Hid (Below w1.heap.size w1 (wr.drew.alloc (.cells (Re.cells (Hd.recC x) Nil) 42))) := (HBr.out.trans ((drawn wr 1).mono HBr.out.size)).alloc (Nat.le_trans HBr.out.size (drawn wr 1).size) _
       have HO7 : Hid (RecsN w.heap.size (wr.drew.alloc (.cells (Re.cells (Hd.recC x) Nil) 42)) w1.heap.size (.slice yo yn yc) _) := ListO.below HO.out ((drawn wr 1).alloc (drawn wr 1).size _)
       refine wpAnyH_ready (rs := [14]) (by kernel_rfl) (by simp) ?_
       refine AllReadyH.cons rfl (fun K hK => ?_) AllReadyH.nil
       rw [if_pos (by kernel_rfl)]
       go_simp
       refine hK.out _ _ ⟨(HLX.out _ HB7.out).cell 5 _ rfl, HCELL.out _ HB7.out⟩ (fun hHeld => ?_)
       clear hK K
       obtain ⟨v8, w8, hrun, ho8, hg8⟩ := run_recN 34 HO7.out (Hd.recC x) Nil (Lies.new wr.drew _ _) (ReadsP.none _ _) HLN.out HWS.out HB7.out.size
       have HB8 : Hid (Below w1.heap.size w1 w8) := RecsN.behind HO7.out HB7.out (Nat.le_refl _) hg8
       have HO8 := Lib.hid ho8
       clear ho8 hg8
       refine wpAnyH_ready (rs := [15]) (by kernel_rfl) (by simp) ?_
       refine ready_append 15 (.tmp 63) (.tmp 77) 34 rfl rfl rfl (.slice yo yn yc) (.slice (some ⟨wr.heap.size, 0, none⟩) 1 1) v8 w8 ?s15n8 ?x15n8 hrun ⟨⟨(HLX.out _ HB8.out).cell 5 _ rfl, HCELL.out _ HB8.out⟩, fun hHeld => ?_⟩
       case s15n8 => kernel_rfl
       case x15n8 => kernel_rfl
       refine wpAnyH_take (i := 16) (v := ?v16n8) rfl (by kernel_rfl) (by kernel_rfl) (by kernel_rfl) (fun _ _ _ h => h) (Or.inl ⟨by kernel_rfl, ?hy16n8⟩) hHeld ?rest16n8
       case hy16n8 => (intro W hSw; go_simp; (try with_reducible rfl))
       refine wpAnyH_done (by kernel_rfl) ?_ _
       clear hHeld hrun
       rw [HTK.out] at HO8
       go_wp2
       go_roundw
       case rel => exact ⟨j + 1, by go_num, by omega, HO8, HB8⟩
       case measure => simp [intOf]; omega
      ·obtain rfl : j = nc := by omega
       have HO5 : Hid (RecsN w.heap.size wr w1.heap.size (.slice yo yn yc) ([] ++ h.acc.map Hd.recA ++ h.chs.map Hd.recC)) := by have h1 := HO.out; rw [List.take_of_length_le (by have := HNC.out; omega)] at h1; exact h1
       go_wp2
       exact HE.out _ _ _ HBr.out HO5.out (by unfold Hd.recs; rw [if_neg (show ¬ 0 < h.base from by have := HB0.out; omega), if_neg HP0.out]; first | done | simp)
def Sg.hasAll (f : Int) : List Re.Rec → Int
 | [] => 0
 | x :: r => if Re.olderIn f x ≠ 0 then Re.olderIn f x else Sg.hasAll f r
def Sg.has (f : Int) (l : List Re.Rec) : Int := if f < 1 ∨ 2 < f then 8 else Sg.hasAll f l
theorem Sg.hasAll_step {f : Int} : ∀ {l : List Re.Rec} {k : Nat} {x : Re.Rec}, (∀ c ∈ l.take k, Re.olderIn f c = 0) → l[k]? = some x → Re.olderIn f x ≠ 0 → Sg.hasAll f l = Re.olderIn f x
 | [], _, _, _, h, _ => by simp at h
 | a :: r, 0, x, _, h, hx => by
  obtain rfl : a = x := by simpa using h
  unfold Sg.hasAll
  rw [if_pos hx]
 | a :: r, k + 1, x, h0, h, hx => by
  unfold Sg.hasAll
  rw [if_neg (by rw [h0 a (by simp)]; simp)]
  exact Sg.hasAll_step (k := k) (fun c hc => h0 c (by rw [List.take_succ_cons]; exact List.mem_cons_of_mem _ hc)) (by simpa using h) hx
theorem Sg.hasAll_none {f : Int} : ∀ {l : List Re.Rec}, (∀ c ∈ l, Re.olderIn f c = 0) → Sg.hasAll f l = 0
 | [], _ => rfl
 | a :: r, h => by
  unfold Sg.hasAll
  rw [if_neg (by rw [h a (by simp)]; simp)]
  exact Sg.hasAll_none fun c hc => h c (by simp [hc])
theorem Sg.hasAll_iff {f : Int} : ∀ (l : List Re.Rec), Sg.hasAll f l = 0 ↔ ∀ c ∈ l, Re.olderIn f c = 0
 | [] => by simp [Sg.hasAll]
 | a :: r => by
  unfold Sg.hasAll
  by_cases h : Re.olderIn f a = 0
  ·rw [if_neg (by rw [h]; simp), Sg.hasAll_iff r]
   simp [h]
  ·rw [if_pos h]
   simp [h]
theorem refHasSg_any {p : Nat → TypeId → Prop} (f : Int) (v : Value) (l : List Re.Rec) (w : World) (hv : RecsP p w v l) (hs : ∀ x ∈ l, x.cmd.Short 140737488355328) :
 Calls Tryz.prog 10 #[.int .i64 f, v] w (Looks w (.int .i64 (Sg.has f l))) := by
 obtain ⟨ao, cap, rfl, hc1, hc2⟩ := ListP.shape hv
 have HP := Lib.hid (fun h => ListP.places hv cellR_first h)
 obtain ⟨n, hn⟩ : ∃ n, n = l.length := ⟨_, rfl⟩
 rw [← hn] at hc1 HP ⊢
 have HN := Lib.hid hn; have HS := Lib.hid hs
 have hnb : n < 9223372036854775808 := by omega
 obtain ⟨rv, hrv⟩ : ∃ rv, rv = Sg.has f l := ⟨_, rfl⟩
 rw [← hrv]
 have HRV := Lib.hid hrv
 clear hv hn hs hrv
 go_enter Tryz.func10, Tryz.ntmps10
 by_cases h1 : f < 1
 ·have HZ : Hid (rv = 8) := by show _ = _; rw [HRV.out]; unfold Sg.has; rw [if_pos (.inl h1)]
  go_wp2
  go_ret
  exact ⟨by rw [HZ.out]; rfl, Below.refl _ _⟩
 by_cases h2 : 2 < f
 ·have HZ : Hid (rv = 8) := by show _ = _; rw [HRV.out]; unfold Sg.has; rw [if_pos (.inr h2)]
  go_wp2
  go_ret
  exact ⟨by rw [HZ.out]; rfl, Below.refl _ _⟩
 have HIN : Hid (rv = Sg.hasAll f l) := by show _ = _; rw [HRV.out]; unfold Sg.has; rw [if_neg (fun h => by rcases h with h | h; exact h1 h; exact h2 h)]
 clear HRV
 go_wp2
 go_loopw [5] (fun i wr => ∃ k : Nat, i = .int .i64 (k : Int) ∧ k ≤ n ∧ Hid (∀ c ∈ l.take k, Re.olderIn f c = 0) ∧ Hid (Below w.heap.size w wr)) (fun i _ => n - (intOf i).toNat)
 case atStart => exact ⟨0, rfl, by omega, by show ∀ c ∈ _, _; simp, Below.refl _ _⟩
 case round =>
  obtain ⟨k, rfl, hk, HI, HB⟩ := hrel
  by_cases hlt : k < n
  ·obtain ⟨c, hcl⟩ : ∃ c, l[k]? = some c := ⟨_, List.getElem?_eq_getElem (by have := HN.out; omega)⟩
   obtain ⟨g, off, rfl, _, hc⟩ := HP.out (by have := HN.out; omega)
   obtain ⟨u, hu, hcell⟩ := hc k c hcl
   have hcall := refHasRe_any f c u wr (hu.1.below HB.out) (HS.out c (List.mem_of_getElem? hcl))
   obtain ⟨y, hy⟩ : ∃ y, y = Re.olderIn f c := ⟨_, rfl⟩
   rw [← hy] at hcall
   have HY := Lib.hid hy
   have HCL := Lib.hid hcl
   have HCELL : Hid (∀ j v, (Re.cells c u)[j]? = some v → wr.cell? ⟨g, off + k * 12 + j, none⟩ = some v) := fun j v hj => by rw [Nat.add_assoc]; exact hcell wr HB.out j v hj
   clear hc hcl hcell hu hy
   go_wp2_with (refine load_rec_at rfl _ rfl g (off + k * 12) c u rfl HCELL.out ?_)
   refine hcall.mono ?_
   rintro e w2 ⟨rfl, hb2⟩
   have HB2 := Lib.hid (HB.out.trans (hb2.mono HB.out.size))
   clear hcall hb2 HCELL
   by_cases hy : y = 0
   ·subst hy
    have HI2 : Hid (∀ d ∈ l.take (k + 1), Re.olderIn f d = 0) := by
     intro d hd
     rw [List.take_add_one, HCL.out] at hd
     rcases List.mem_append.1 hd with hd | hd
     ·exact HI.out d hd
     ·simp at hd; subst hd; exact HY.out.symm
    go_wp2
    go_roundw
    case rel => exact ⟨k + 1, by go_num, by omega, HI2.out, HB2⟩
    case measure => simp [intOf]; omega
   ·have hyb : (y != 0) = true := by simpa using hy
    have HZ : Hid (rv = y) := by show _ = _; rw [HIN.out, HY.out]; exact Sg.hasAll_step HI.out HCL.out (by rw [← HY.out]; exact hy)
    go_wp2
    go_ret
    exact ⟨by rw [HZ.out]; rfl, HB2.out⟩
  ·obtain rfl : n = k := by omega
   have HZ : Hid (rv = 0) := by
    show _ = _
    rw [HIN.out]
    refine Sg.hasAll_none fun c hc => HI.out c ?_
    rw [List.take_of_length_le (by have := HN.out; omega)]
    exact hc
   go_wp2
   go_ret
   exact ⟨by rw [HZ.out]; rfl, HB.out⟩
end Go.Proofs.YteboceekcmchkaaGreatDoor
