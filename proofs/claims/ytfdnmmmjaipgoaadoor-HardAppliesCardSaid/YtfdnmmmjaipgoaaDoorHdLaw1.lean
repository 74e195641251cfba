/- The laws of layer 19: awake; HardOf. Written by a program. -/
import Derived.Test.YtfdnmmmjaipgoaaDoorGHc
import Derived.Test.YtfdnmmmjaipgoaaDoorHdRefC
import Derived.Test.YtfdnmmmjaipgoaaDoorGMg
namespace Go.Proofs.YtfdnmmmjaipgoaaDoor
open Go.RowKit

/-- A list of records that lies in one block. -/
theorem RecsP.lit {w : World} {g : Nat} {ps : List (Re.Rec × Value)} (h : Lies w g 41 (flatR (rowsOf Re.cells ps)).toArray) (hps : ∀ q ∈ ps, ReadsP (fun k _ => k < w.heap.size) w q.2 q.1.img) (hn : ps.length ≤ 1000) :
    RecsP (fun k _ => k < w.heap.size) w (.slice (some ⟨g, 0, none⟩) ps.length ps.length) (ps.map (·.1)) := by
  have hs : Sized 12 (rowsOf Re.cells ps) := rowsOf_sized cellR_ok fun q hq => (hps q hq).one
  have hl : (rowsOf Re.cells ps).length = ps.length := by simp [rowsOf]
  have hr := ReadsR.lit h hs (by omega)
  rw [hl] at hr
  exact ⟨ps, rfl, RowP.of_reads hr (by omega) hs fun b t hb => hb, hps⟩
theorem Hd.entry_short {l : List En.Ent} (h : En.check 0 l = 0) : ∀ e ∈ l, e.cmd.Short 140737488355328 := fun e he => Short.up (Cm.check_short (((En.check_iff _ _).1 h).2 e he).2.1) (by omega)
def Hd.ask1 : Re.Rec := ⟨1, ⟨3, 1⟩, 0, Cm.zero, []⟩
def Hd.ask2 : Re.Rec := ⟨2, ⟨2, 1⟩, 5, {Cm.zero with kind := 1}, []⟩
def Hd.asked : Hd.Hard := ⟨⟨3, 1⟩, 0, [], [⟨5, ⟨2, 1⟩, {Cm.zero with kind := 1}⟩], []⟩
theorem Hd.asked_is : Hd.of [Hd.ask1, Hd.ask2] = Hd.asked := by decide +kernel

set_option maxRecDepth 8000 in
set_option maxHeartbeats 1600000 in
theorem awakeH_any (w : World) (hW : WordsIn w) : Calls Tryd.prog 7 #[] w (Truly w) := by
  have HW := Lib.hid hW
  clear hW
  obtain ⟨w1, e1⟩ : ∃ w1, w.alloc (.cells (flatR (rowsOf Re.cells [(Hd.ask1, Nil), (Hd.ask2, Nil)])).toArray 41) = w1 := ⟨_, rfl⟩
  have hl1 : Lies w1 w.heap.size 41 (flatR (rowsOf Re.cells [(Hd.ask1, Nil), (Hd.ask2, Nil)])).toArray := by rw [← e1]; exact Lies.new _ _ _
  have hB1 : Below w.heap.size w w1 := by rw [← e1]; exact (Below.refl _ w).alloc (Nat.le_refl _) _
  have HB1 := Lib.hid hB1
  have hcall := hardOf_any (.slice (some ⟨w.heap.size, 0, none⟩) 2 2) [Hd.ask1, Hd.ask2] w1 (HW.out.below hB1) (RecsP.lit hl1 (fun q hq => by rcases List.mem_cons.1 hq with rfl | hq; exact ReadsP.none _ _; rcases List.mem_cons.1 hq with rfl | hq; exact ReadsP.none _ _; simp at hq) (by simp)) (fun x hx => by
    rcases List.mem_cons.1 hx with rfl | hx
    · exact ⟨by simp [Hd.ask1, Cm.zero, Cm.bareOf], by simp [Hd.ask1, Cm.zero, Cm.bareOf], by simp [Hd.ask1, Cm.zero, Cm.bareOf]⟩
    rcases List.mem_cons.1 hx with rfl | hx
    · exact ⟨by simp [Hd.ask2, Cm.zero, Cm.bareOf], by simp [Hd.ask2, Cm.zero, Cm.bareOf], by simp [Hd.ask2, Cm.zero, Cm.bareOf]⟩
    simp at hx) (by simp)
  rw [Hd.asked_is] at hcall
  have HCALL := Lib.hid hcall
  clear hcall hB1 hl1
  rw [show (flatR (rowsOf Re.cells [(Hd.ask1, Nil), (Hd.ask2, Nil)])).toArray = #[.int .i64 1, .int .i64 3, .int .i64 1, .int .i64 0, .int .i64 0, .int .i64 0, .int .i64 0, .string ⟨[].toArray⟩, .string ⟨[].toArray⟩, .string ⟨[].toArray⟩, .int .i64 0, .slice none 0 0, .int .i64 2, .int .i64 2, .int .i64 1, .int .i64 5, .int .i64 1, .int .i64 0, .int .i64 0, .string ⟨[].toArray⟩, .string ⟨[].toArray⟩, .string ⟨[].toArray⟩, .int .i64 0, .slice none 0 0] from rfl] at e1
  go_enter Tryd.func7, Tryd.ntmps7
  go_wp2_with fail
  have hc : ∀ {R : Ending → World → Prop}, (∀ e w', MadeH w1 Hd.asked e w' → R e w') → Calls Tryd.prog 8 #[.slice (some ⟨w.heap.size, 0, none⟩) 2 2] w1 R := fun h => HCALL.out.mono h
  (try rw [e1])
  refine hc ?_
  rintro e w2 ⟨ui, ua, uc, rfl, hr2, hb2⟩
  obtain ⟨ao, ac, rfl, _, _⟩ := ReadsE.shape hr2.acc
  have HB2 := Lib.hid (HB1.out.trans (hb2.mono HB1.out.size))
  have HX3 : Hid (SixAt (w2.alloc (.cells (Hd.cells Hd.asked ui (.slice ao 1 ac) uc) 30)) w2.heap.size 30 ⟨3, 1⟩ 0 ui (.slice ao 1 ac) uc) := ⟨Lies.new _ _ _, hr2.sl.1, hr2.sl.2.1, hr2.sl.2.2⟩
  clear hr2 hb2 e1 hc
  go_wp2_with (refine store_hard (p := Bl.zero) (b := 0) (vi := Nil) (va := Nil) (vc := Nil) rfl _ _ rfl rfl ⟨Lies.new w2 30 _, ⟨_, _, _, rfl⟩, ⟨_, _, _, rfl⟩, ⟨_, _, _, rfl⟩⟩ HX3.out rfl ?_; intro w4 hx4 hg4; have HB4 : Hid (Below w2.heap.size w2 w4) := fresh_below hg4; have c0 : w4.cell? ⟨w2.heap.size, 0, none⟩ = some (.int .i64 3) := hx4.lies.cell 0 _ rfl; have c4 : w4.cell? ⟨w2.heap.size, 4, none⟩ = some (.slice ao 1 ac) := hx4.lies.cell 4 _ rfl; clear hx4 hg4)
  go_ret
  exact truly_of (HB2.out.trans (HB4.out.mono HB2.out.size))

set_option maxRecDepth 8000 in
set_option maxHeartbeats 3200000 in
theorem hardOfLaw_any (v : Value) (l : List Re.Rec) (w : World) (hW : WordsIn w) (hv : RecsP (fun k _ => k < w.heap.size) w v l) (hs : ∀ x ∈ l, x.cmd.Short 9223372036854775807) :
    Calls Tryd.prog 3 #[v] w (Truly w) := by
  have HV : Hid (∀ W, Below w.heap.size w W → RecsP (fun k _ => k < w.heap.size) W v l) := fun W hb => ListP.below hv hb
  have HW := Lib.hid hW
  have hcall := largeH_any v l w hv hs
  clear hv hs hW
  go_enter Tryd.func3, Tryd.ntmps3
  go_wp2_with fail
  refine hcall.mono ?_
  rintro e w2 ⟨t, rfl, hb2, hsm⟩
  have HB2 := Lib.hid hb2
  have HSM := Lib.hid hsm
  clear hcall hb2 hsm
  cases t with
  | true =>
    go_wp2_with fail
    refine (awakeH_any w2 (HW.out.below HB2.out)).mono ?_
    rintro e w3 ⟨rfl, hb3⟩
    go_wp2
    go_ret
    exact truly_of (HB2.out.trans (hb3.mono HB2.out.size))
  | false =>
    have HLL : Hid (l.length ≤ 1000) := Nat.le_trans (HSM.out rfl).1 (by omega)
    have HSS : Hid (∀ x ∈ l, x.cmd.Short 140737488355328) := fun x hx => Short.up (Re.small ((HSM.out rfl).2 x hx).1).1 (by omega)
    have HVAL : Hid (Hd.Valid (Hd.of l)) := Hd.valid_of l
    go_wp2_with fail
    refine (hardOf_any v l w2 (HW.out.below HB2.out) (HV.out _ HB2.out) HSS.out HLL.out).mono ?_
    rintro e w3 ⟨vi, va, vc, rfl, hr3, hb3⟩
    have HB3 : Hid (Below w.heap.size w w3) := HB2.out.trans (hb3.mono HB2.out.size)
    have HR3 := Lib.hid hr3
    have HX3 : Hid (SixAt (w3.alloc (.cells (Hd.cells (Hd.of l) vi va vc) 30)) w3.heap.size 30 (Hd.of l).prom (Hd.of l).base vi va vc) := ⟨Lies.new _ _ _, hr3.sl.1, hr3.sl.2.1, hr3.sl.2.2⟩
    clear hr3 hb3
    go_wp2_with (refine store_hard (p := Bl.zero) (b := 0) (vi := Nil) (va := Nil) (vc := Nil) rfl _ _ rfl rfl ⟨Lies.new w3 30 _, ⟨_, _, _, rfl⟩, ⟨_, _, _, rfl⟩, ⟨_, _, _, rfl⟩⟩ HX3.out rfl ?_; intro w4 hx4 hg4; have HX4 := Lib.hid hx4; have HG4 : Hid (Below w3.heap.size w3 w4) := fresh_below hg4; clear hx4 hg4)
    have HR4 := Lib.hid (HR3.out.below HG4.out)
    have HB4 : Hid (Below w.heap.size w w4) := HB3.out.trans (HG4.out.mono HB3.out.size)
    obtain ⟨gx, hgx⟩ : ∃ g, g = w3.heap.size := ⟨_, rfl⟩
    rw [← hgx] at HX4 ⊢
    clear hgx HX3 HG4
    go_simp
    refine wp_region_held_drew (S := fun W => W.cell? ⟨gx, 0, none⟩ = some (.int .i64 (Hd.of l).prom.round) ∧ W.cell? ⟨gx, 1, none⟩ = some (.int .i64 (Hd.of l).prom.node) ∧ W.cell? ⟨gx, 2, none⟩ = some (.int .i64 (Hd.of l).base) ∧ W.cell? ⟨gx, 3, none⟩ = some vi ∧ W.cell? ⟨gx, 4, none⟩ = some va ∧ W.cell? ⟨gx, 5, none⟩ = some vc) (by kernel_rfl) (HX4.out.all) (fun hHeld => ?_)
    refine wpAnyH_take (i := 0) (v := ?v0) rfl (by kernel_rfl) (by kernel_rfl) (by kernel_rfl) (fun _ _ _ h => h) (Or.inl ⟨by kernel_rfl, ?hy0⟩) hHeld ?rest0
    case hy0 => (intro W hSw; obtain ⟨s0, s1, s2, s3, s4, s5⟩ := hSw; go_simp; (try with_reducible rfl))
    refine wpAnyH_take (i := 1) (v := ?v1) rfl (by kernel_rfl) (by kernel_rfl) (by kernel_rfl) (fun _ _ _ h => h) (Or.inl ⟨by kernel_rfl, ?hy1⟩) hHeld ?rest1
    case hy1 => (intro W hSw; obtain ⟨s0, s1, s2, s3, s4, s5⟩ := hSw; go_simp; (try with_reducible rfl))
    refine wpAnyH_ready (rs := [2]) (by kernel_rfl) (by simp) ?_
    refine AllReadyH.cons rfl (fun K hK => ?_) AllReadyH.nil
    rw [if_pos (by kernel_rfl)]
    go_simp
    go_at_call 10
    refine (refOf_any v l _ (HV.out _ (HB4.out.trans ((drawn w4 1).mono HB4.out.size))) HSS.out HLL.out).mono ?_
    rintro e w5 ⟨ui, ua, uc, rfl, hr5, hb5⟩
    have HB5 : Hid (Below w4.heap.size w4 w5) := (drawn w4 1).trans (hb5.mono (drawn w4 1).size)
    have HR5 := Lib.hid hr5
    have HX5 := Lib.hid (HX4.out.below HB5.out HX4.out.lies.lt)
    have HH5 := Lib.hid (HR4.out.below HB5.out)
    clear hr5 hb5
    dsimp only
    refine hK.out _ _ HX5.out.all (fun hHeld => ?_)
    clear hK K
    refine wpAnyH_ready (rs := [3]) (by kernel_rfl) (by simp) ?_
    refine AllReadyH.cons rfl (fun K hK => ?_) AllReadyH.nil
    rw [if_pos (by kernel_rfl)]
    go_simp
    go_at_call 9
    refine (sameH_any (Hd.of l) (Hd.of l) vi va vc ui ua uc w5 HH5.out HR5.out).mono ?_
    rw [show decide (Hd.of l = Hd.of l) = true by simp]
    rintro e w6 ⟨rfl, hb6⟩
    have HB6 : Hid (Below w4.heap.size w4 w6) := HB5.out.trans (hb6.mono HB5.out.size)
    have HX6 := Lib.hid (HX4.out.below HB6.out HX4.out.lies.lt)
    have HH6 := Lib.hid (HR4.out.below HB6.out)
    clear hb6
    dsimp only
    refine hK.out _ _ HX6.out.all (fun hHeld => ?_)
    clear hK K
    refine wpAnyH_take (i := 4) (v := ?v4) rfl (by kernel_rfl) (by kernel_rfl) (by kernel_rfl) (fun _ _ _ h => h) (Or.inl ⟨by kernel_rfl, ?hy4⟩) hHeld ?rest4
    case hy4 => (intro W hSw; obtain ⟨s0, s1, s2, s3, s4, s5⟩ := hSw; go_simp; (try with_reducible rfl))
    refine wpAnyH_take (i := 5) (v := ?v5) rfl (by kernel_rfl) (by kernel_rfl) (by kernel_rfl) (fun _ _ _ h => h) (Or.inl ⟨by kernel_rfl, ?hy5⟩) hHeld ?rest5
    case hy5 => (intro W hSw; obtain ⟨s0, s1, s2, s3, s4, s5⟩ := hSw; go_simp; (try with_reducible rfl))
    refine wpAnyH_ready (rs := [6]) (by kernel_rfl) (by simp) ?_
    refine AllReadyH.cons rfl (fun K hK => ?_) AllReadyH.nil
    rw [if_pos (by kernel_rfl)]
    go_simp
    go_at_call 11
    refine (refCheckH_any true (Hd.of l) vi va vc w6 HH6.out ⟨fun _ => HVAL.out, fun _ => rfl⟩ (Hd.entry_short HVAL.out.acc) (Hd.entry_short HVAL.out.chs)).mono ?_
    rintro e w7 ⟨rfl, hb7⟩
    have HB7 : Hid (Below w4.heap.size w4 w7) := HB6.out.trans (hb7.mono HB6.out.size)
    have HX7 := Lib.hid (HX4.out.below HB7.out HX4.out.lies.lt)
    clear hb7
    dsimp only
    refine hK.out _ _ HX7.out.all (fun hHeld => ?_)
    clear hK K
    refine wpAnyH_take (i := 7) (v := ?v7) rfl (by kernel_rfl) (by kernel_rfl) (by kernel_rfl) (fun _ _ _ h => h) (Or.inl ⟨by kernel_rfl, ?hy7⟩) hHeld ?rest7
    case hy7 => (intro W hSw; go_simp; (try with_reducible rfl))
    refine wpAnyH_take (i := 8) (v := ?v8) rfl (by kernel_rfl) (by kernel_rfl) (by kernel_rfl) (fun _ _ _ h => h) (Or.inl ⟨by kernel_rfl, ?hy8⟩) hHeld ?rest8
    case hy8 => (intro W hSw; go_simp; (try with_reducible rfl))
    refine wpAnyH_ready (rs := [9]) (by kernel_rfl) (by simp) ?_
    refine AllReadyH.cons rfl (fun K hK => ?_) AllReadyH.nil
    rw [if_pos (by kernel_rfl)]
    go_simp
    go_at_call 7
    refine (awakeH_any w7 (HW.out.below (HB4.out.trans (HB7.out.mono HB4.out.size)))).mono ?_
    rintro e w8 ⟨rfl, hb8⟩
    have HB8 : Hid (Below w4.heap.size w4 w8) := HB7.out.trans (hb8.mono HB7.out.size)
    have HX8 := Lib.hid (HX4.out.below HB8.out HX4.out.lies.lt)
    clear hb8
    dsimp only
    refine hK.out _ _ HX8.out.all (fun hHeld => ?_)
    clear hK K
    refine wpAnyH_take (i := 10) (v := ?v10) rfl (by kernel_rfl) (by kernel_rfl) (by kernel_rfl) (fun _ _ _ h => h) (Or.inl ⟨by kernel_rfl, ?hy10⟩) hHeld ?rest10
    case hy10 => (intro W hSw; go_simp; (try with_reducible rfl))
    refine wpAnyH_take (i := 11) (v := ?v11) rfl (by kernel_rfl) (by kernel_rfl) (by kernel_rfl) (fun _ _ _ h => h) (Or.inl ⟨by kernel_rfl, ?hy11⟩) hHeld ?rest11
    case hy11 => (intro W hSw; go_simp; (try with_reducible rfl))
    refine wpAnyH_done (by kernel_rfl) ?_ _
    clear hHeld
    go_wp2
    go_ret
    exact truly_of (HB4.out.trans (HB8.out.mono HB4.out.size))

end Go.Proofs.YtfdnmmmjaipgoaaDoor
