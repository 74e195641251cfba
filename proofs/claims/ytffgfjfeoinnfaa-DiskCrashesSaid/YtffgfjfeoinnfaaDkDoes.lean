/- The law: a disk and the document's do the same. Written by a program. -/
import Derived.Test.YtffgfjfeoinnfaaDkNobody
import Derived.Test.YtffgfjfeoinnfaaDkAll
import Derived.Test.YtffgfjfeoinnfaaDkCmp
namespace Go.Proofs.Ytffgfjfeoinnfaa
open Go.RowKit

/-- A disk and the document's, apart. -/
structure Both (S : Nat → Prop) (base : Nat) (w0 w : World) (d x : Nat) (Y Z : Dk.Files × List Dk.Op) : Prop where
  disk : DiskAt S w d Y.1 Y.2
  ref : RefAt (fun k => ¬ S k) base w x Z.1 Z.2
  new : ∀ k, S k → base ≤ k ∧ k < w.heap.size
  kept : Below base w0 w
  size : base ≤ w.heap.size
theorem Both.first {S : Nat → Prop} {base : Nat} {w0 w w' : World} {d x : Nat} {Y Z Y' : Dk.Files × List Dk.Op} {e : Ending} (h : Both S base w0 w d x Y Z) (hs : StepAt S w d Y' e w') : e = .returned (.tuple #[]) ∧ ∃ S', Both S' base w0 w' d x Y' Z := by
  obtain ⟨rfl, h2, h3⟩ := hs
  have hsz := h3.size
  have hsb := h.size
  refine ⟨rfl, fun k => S k ∨ (w.heap.size ≤ k ∧ k < w'.heap.size), h2.imp fun k hk hS => ?_, (h.ref.imp h.size fun k hk hn hS => ?_).keep (h3.imp fun k _ _ hn hS => hn (.inl hS)), fun k hk => ?_, h.kept.trans (h3.below h.size fun k _ hk _ hS => ?_), by omega⟩
  · exact hS.imp id fun hS => ⟨hS, hk⟩
  · rcases hS with hS | hS
    · exact hn hS
    · omega
  · rcases hk with hk | hk
    · have := h.new k hk; omega
    · omega
  · have := h.new k hS; omega
theorem Both.second {S : Nat → Prop} {base : Nat} {w0 w w' : World} {d x : Nat} {Y Z Z' : Dk.Files × List Dk.Op} {e : Ending} (h : Both S base w0 w d x Y Z) (hs : Did (fun k => ¬ S k) base w x Z' e w') : e = .returned (.tuple #[]) ∧ Both S base w0 w' d x Y Z' := by
  obtain ⟨rfl, h2, h3⟩ := hs
  have hsz := h3.size
  have hsb := h.size
  refine ⟨rfl, h.disk.keep (h3.imp fun k _ _ hS => .inl fun hn => hn hS), h2.imp (by omega) fun k hk hn hS => ?_, fun k hk => ?_, h.kept.trans (h3.below h.size fun k _ hk _ => .inr hk), by omega⟩
  · rcases hn with hn | hn
    · exact hn hS
    · have := h.new k hS; omega
  · have := h.new k hk; omega
theorem Both.below {S : Nat → Prop} {base : Nat} {w0 w w' : World} {d x : Nat} {Y Z : Dk.Files × List Dk.Op} (h : Both S base w0 w d x Y Z) (hb : Below w.heap.size w w') : Both S base w0 w' d x Y Z := by
  have hs := hb.size
  have hsb := h.size
  exact ⟨h.disk.below hb, h.ref.keep (Kp.all hb), fun k hk => by have := h.new k hk; omega, h.kept.trans (hb.mono h.size), by omega⟩
theorem Both.start {w w1 : World} (h1 : DiskAt (fun k => k = w.heap.size) w1 w.heap.size [] []) (hb : Below w.heap.size w w1) (hs : w1.heap.size = w.heap.size + 1) :
    Both (fun k => k = w.heap.size) w.heap.size w (w1.alloc (.cells #[.slice none 0 0, .slice none 0 0] 31)) w.heap.size w1.heap.size ([], []) ([], []) := by
  have hb2 := (Below.refl w1.heap.size w1).alloc (Nat.le_refl _) (.cells #[.slice none 0 0, .slice none 0 0] 31)
  have hsz := World.size_alloc w1 (.cells #[.slice none 0 0, .slice none 0 0] 31)
  refine ⟨h1.below hb2, ⟨_, _, ⟨Lies.new w1 _ _, ⟨by omega, by omega⟩, fun k hk => by omega, ListP.bare _ _, ListO.bare _ _ _ _, fun g e => by simp [Value.ownBlock] at e⟩⟩, fun k hk => by omega, hb.trans (hb2.mono hb.size), by omega⟩

set_option maxRecDepth 8000 in
set_option maxHeartbeats 3200000 in
theorem diskDoes_any (v : Value) (l : List Dk.Step) (w : World) (hv : StepsP (fun k _ => k < w.heap.size) w v l) : Calls Try.prog 3 #[v] w (Truly w) := by
  have HAW := Lib.hid (fun (W : World) => awakeD_any W)
  have hlg := large_any v l w hv
  obtain ⟨ao, cap, rfl, hc1, hc2⟩ := ListP.shape hv
  have HP := Lib.hid (fun h => ListP.places hv cellS_first h)
  obtain ⟨n, hn⟩ : ∃ n, n = l.length := ⟨_, rfl⟩
  rw [← hn] at hlg HP hc1 ⊢
  have HN := Lib.hid hn
  clear hv hn
  go_enter Try.func3, Try.ntmps3
  go_wp2_with fail
  refine hlg.mono ?_
  rintro e w0 ⟨b, rfl, rfl, hsm⟩
  cases b with
  | true =>
    have haw := HAW.out w0
    clear hlg hsm
    go_wp2_with fail
    refine haw.mono ?_
    rintro e w2 ⟨rfl, hB1⟩
    go_wp2
    go_ret
    exact truly_of hB1
  | false =>
    have HSM := Lib.hid (hsm rfl)
    have hn60 : n ≤ 60 := by have := HSM.out.1; have := HN.out; omega
    clear hlg hsm
    have hnew := new_any w0
    go_wp2_with fail
    refine hnew.mono ?_
    rintro e w1 ⟨rfl, hd1, hb1, hs1⟩
    have HST := Lib.hid (Both.start hd1 hb1 hs1)
    clear hnew hd1 hb1 hs1
    obtain ⟨w2, hw2⟩ : ∃ w2, w1.alloc (.cells #[.slice none 0 0, .slice none 0 0] 31) = w2 := ⟨_, rfl⟩
    obtain ⟨x, hx⟩ : ∃ x, x = w1.heap.size := ⟨_, rfl⟩
    rw [hw2, ← hx] at HST
    have HW2 := Lib.hid hw2; have HX := Lib.hid hx
    clear hx
    go_wp2
    rw [← HX.out]
    clear hw2
    go_loopw [5] (fun y wr => ∃ k : Nat, y = .int .i64 (k : Int) ∧ k ≤ n ∧ Hid (∃ S, Both S w0.heap.size w0 wr w0.heap.size x (Dk.after (l.take k)) (Dk.after (l.take k)))) (fun y _ => n - (intOf y).toNat)
    case atStart => exact ⟨0, rfl, Nat.zero_le _, ⟨_, HST.out⟩⟩
    case round =>
      obtain ⟨k, rfl, hk, HB⟩ := hrel
      by_cases hlt : k < n
      · have hint : ((k : Nat) : Int) < (n : Int) := by omega
        obtain ⟨s, hs⟩ : ∃ s, l[k]? = some s := ⟨_, List.getElem?_eq_getElem (by have := HN.out; omega)⟩
        obtain ⟨g, off, rfl, _, hc⟩ := HP.out (by have := HN.out; omega)
        obtain ⟨u, hu, hcell⟩ := hc k s hs
        obtain ⟨S, hB⟩ := HB.out
        have hgd : Dk.Good (Dk.after (l.take k)) 6060 := by
          have h1 := Dk.good_after (l := l.take k) fun q hq => HSM.out.2 q (List.mem_of_mem_take hq)
          refine ⟨h1.asc, h1.kinds, ?_⟩
          have h2 := h1.small
          have h3 : (l.take k).length ≤ 60 := by rw [List.length_take]; omega
          omega
        have hst := step_any (F := (Dk.after (l.take k)).1) (B := (Dk.after (l.take k)).2) hB.disk hgd (by omega) s u (hu.1.below hB.kept) (HSM.out.2 s (List.mem_of_getElem? hs))
        rw [Prod.eta] at hst
        rw [← Dk.after_step hs] at hst
        have c0 : wr.cell? ⟨g, off + k * 4, none⟩ = some (.int .i64 s.kind) := hcell wr hB.kept 0 _ rfl
        have c1 : wr.cell? ⟨g, off + k * 4 + 1, none⟩ = some (.int .i64 s.no) := hcell wr hB.kept 1 _ rfl
        have c2 : wr.cell? ⟨g, off + k * 4 + 2, none⟩ = some (.int .i64 s.n) := hcell wr hB.kept 2 _ rfl
        have c3 : wr.cell? ⟨g, off + k * 4 + 3, none⟩ = some u := hcell wr hB.kept 3 _ rfl
        have HU := Lib.hid hu; have HC := Lib.hid hcell; have HS := Lib.hid hs; have HBB := Lib.hid hB; have HG := Lib.hid hgd
        clear hu hcell hs hB hgd hc
        go_wp2_with fail
        refine hst.mono ?_
        rintro e w3 h3
        obtain ⟨rfl, S2, hB2⟩ := HBB.out.first h3
        clear h3 hst c0 c1 c2 c3
        have c0 : w3.cell? ⟨g, off + k * 4, none⟩ = some (.int .i64 s.kind) := HC.out w3 hB2.kept 0 _ rfl
        have c1 : w3.cell? ⟨g, off + k * 4 + 1, none⟩ = some (.int .i64 s.no) := HC.out w3 hB2.kept 1 _ rfl
        have c2 : w3.cell? ⟨g, off + k * 4 + 2, none⟩ = some (.int .i64 s.n) := HC.out w3 hB2.kept 2 _ rfl
        have c3 : w3.cell? ⟨g, off + k * 4 + 3, none⟩ = some u := HC.out w3 hB2.kept 3 _ rfl
        have hdo := do_any (F := (Dk.after (l.take k)).1) (B := (Dk.after (l.take k)).2) hB2.ref hB2.size HG.out (by omega) s u (HU.out.keep (Keep.of_below hB2.kept))
        rw [Prod.eta, ← Dk.after_step HS.out] at hdo
        have HB2 := Lib.hid hB2
        clear hB2
        go_wp2_with fail
        refine hdo.mono ?_
        rintro e w4 h4
        obtain ⟨rfl, hB3⟩ := HB2.out.second h4
        clear h4 hdo c0 c1 c2 c3
        have hgd : Dk.Good (Dk.after (l.take (k + 1))) 6060 := by
          have h1 := Dk.good_after (l := l.take (k + 1)) fun q hq => HSM.out.2 q (List.mem_of_mem_take hq)
          refine ⟨h1.asc, h1.kinds, ?_⟩
          have h2 := h1.small
          have h3 : (l.take (k + 1)).length ≤ 60 := by rw [List.length_take]; omega
          omega
        have HB3 := Lib.hid hB3
        obtain ⟨Y, hY⟩ : ∃ Y, Y = Dk.after (l.take (k + 1)) := ⟨_, rfl⟩
        rw [← hY] at hB3 hgd
        have HY := Lib.hid hY
        obtain ⟨F, B⟩ := Y
        obtain ⟨hD, hR, _, _, _⟩ := hB3
        obtain ⟨fv, bv, hR⟩ := hR
        simp only at hD hR
        obtain ⟨fo, fc, rfl, _, _⟩ := hR.files.shape
        obtain ⟨bo, bc, rfl, _, _⟩ := hR.reads.shape
        have HD := Lib.hid hD; have HR := Lib.hid hR; have HGF := Lib.hid hgd
        have k0 : w4.cell? ⟨x, 0, none⟩ = some (.slice fo F.length fc) := hR.lies.cell 0 _ rfl
        have k1 : w4.cell? ⟨x, 1, none⟩ = some (.slice bo B.length bc) := hR.lies.cell 1 _ rfl
        have hsm2 : Dk.wt F + Dk.wtB B ≤ 6060 := hgd.small
        have HS2 := Lib.hid hsm2
        have HFL : Hid (F.length ≤ 1099511627776) := by show _ ≤ _; have := Dk.len_wt F; omega
        have HBL : Hid (B.length ≤ 1099511627776) := by show _ ≤ _; have := Dk.len_wtB B; omega
        have HVL : Hid ((Dk.all F B).length ≤ 1099511627776) := by show _ ≤ _; have h1 := Dk.len_wt (Dk.all F B); have h2 := Dk.wt_all B F; omega
        clear hY hD hR hgd hsm2
        go_wp2
        refine wp_region_held_drew (S := fun W => W.cell? ⟨x, 0, none⟩ = some (.slice fo F.length fc) ∧ W.cell? ⟨x, 1, none⟩ = some (.slice bo B.length bc)) (by kernel_rfl) (⟨k0, k1⟩) (fun hHeld => ?_)
        refine wpAnyH_take (i := 0) (v := ?v0) rfl (by kernel_rfl) (by kernel_rfl) (by kernel_rfl) (fun _ _ _ h => h) (Or.inl ⟨by kernel_rfl, ?hy0⟩) hHeld ?rest0
        case hy0 => (intro W hSw; obtain ⟨s1, s2⟩ := hSw; go_simp; (try with_reducible rfl))
        refine wpAnyH_take (i := 2) (v := ?v2) rfl (by kernel_rfl) (by kernel_rfl) (by kernel_rfl) (fun _ _ _ h => h) (Or.inl ⟨by kernel_rfl, ?hy2⟩) hHeld ?rest2
        case hy2 => (intro W hSw; obtain ⟨s1, s2⟩ := hSw; go_simp; (try with_reducible rfl))
        refine wpAnyH_take (i := 3) (v := ?v3) rfl (by kernel_rfl) (by kernel_rfl) (by kernel_rfl) (fun _ _ _ h => h) (Or.inl ⟨by kernel_rfl, ?hy3⟩) hHeld ?rest3
        case hy3 => (intro W hSw; obtain ⟨s1, s2⟩ := hSw; go_simp; (try with_reducible rfl))
        refine wpAnyH_take (i := 4) (v := ?v4) rfl (by kernel_rfl) (by kernel_rfl) (by kernel_rfl) (fun _ _ _ h => h) (Or.inl ⟨by kernel_rfl, ?hy4⟩) hHeld ?rest4
        case hy4 => (intro W hSw; obtain ⟨s1, s2⟩ := hSw; go_simp; (try with_reducible rfl))
        refine wpAnyH_take (i := 5) (v := ?v5) rfl (by kernel_rfl) (by kernel_rfl) (by kernel_rfl) (fun _ _ _ h => h) (Or.inl ⟨by kernel_rfl, ?hy5⟩) hHeld ?rest5
        case hy5 => (intro W hSw; obtain ⟨s1, s2⟩ := hSw; go_simp; (try with_reducible rfl))
        have HBD : Hid (Below w4.heap.size w4 w4.drew) := drawn w4 1
        refine wpAnyH_ready (rs := [1]) (by kernel_rfl) (by simp) ?_
        refine AllReadyH.cons rfl (fun K hK => ?_) AllReadyH.nil
        rw [if_pos (by kernel_rfl)]
        go_simp
        go_at_call 12
        refine (files_any (HD.out.below HBD.out) (by have := HS2.out; omega)).mono ?_
        rintro e w5 ⟨v5, rfl, hf5, hb5⟩
        have HF5 := Lib.hid hf5; have HB5 := Lib.hid (HBD.out.trans (hb5.mono HBD.out.size))
        clear hf5 hb5
        refine hK.out _ _ ⟨(HR.out.lies.below HB5.out HR.out.lies.lt).cell 0 _ rfl, (HR.out.lies.below HB5.out HR.out.lies.lt).cell 1 _ rfl⟩ (fun hHeld => ?_)
        clear hK K
        refine wpAnyH_ready (rs := [6]) (by kernel_rfl) (by simp) ?_
        refine AllReadyH.cons rfl (fun K hK => ?_) AllReadyH.nil
        rw [if_pos (by kernel_rfl)]
        go_simp
        go_at_call 11
        refine (same_ref HF5.out (HR.out.keep (Kp.all HB5.out)).files HFL.out).mono ?_
        rintro e w6 ⟨rfl, hb6⟩
        have HB6 := Lib.hid (HB5.out.trans (hb6.mono HB5.out.size))
        clear hb6
        refine hK.out _ _ ⟨(HR.out.lies.below HB6.out HR.out.lies.lt).cell 0 _ rfl, (HR.out.lies.below HB6.out HR.out.lies.lt).cell 1 _ rfl⟩ (fun hHeld => ?_)
        clear hK K
        refine wpAnyH_take (i := 7) (v := ?v7) rfl (by kernel_rfl) (by kernel_rfl) (by kernel_rfl) (fun _ _ _ h => h) (Or.inl ⟨by kernel_rfl, ?hy7⟩) hHeld ?rest7
        case hy7 => (intro W hSw; obtain ⟨s1, s2⟩ := hSw; go_simp; (try with_reducible rfl))
        refine wpAnyH_take (i := 8) (v := ?v8) rfl (by kernel_rfl) (by kernel_rfl) (by kernel_rfl) (fun _ _ _ h => h) (Or.inl ⟨by kernel_rfl, ?hy8⟩) hHeld ?rest8
        case hy8 => (intro W hSw; obtain ⟨s1, s2⟩ := hSw; go_simp; (try with_reducible rfl))
        refine wpAnyH_take (i := 9) (v := ?v9) rfl (by kernel_rfl) (by kernel_rfl) (by kernel_rfl) (fun _ _ _ h => h) (Or.inl ⟨by kernel_rfl, ?hy9⟩) hHeld ?rest9
        case hy9 => (intro W hSw; obtain ⟨s1, s2⟩ := hSw; go_simp; (try with_reducible rfl))
        refine wpAnyH_take (i := 11) (v := ?v11) rfl (by kernel_rfl) (by kernel_rfl) (by kernel_rfl) (fun _ _ _ h => h) (Or.inl ⟨by kernel_rfl, ?hy11⟩) hHeld ?rest11
        case hy11 => (intro W hSw; obtain ⟨s1, s2⟩ := hSw; go_simp; (try with_reducible rfl))
        refine wpAnyH_take (i := 12) (v := ?v12) rfl (by kernel_rfl) (by kernel_rfl) (by kernel_rfl) (fun _ _ _ h => h) (Or.inl ⟨by kernel_rfl, ?hy12⟩) hHeld ?rest12
        case hy12 => (intro W hSw; obtain ⟨s1, s2⟩ := hSw; go_simp; (try with_reducible rfl))
        refine wpAnyH_take (i := 13) (v := ?v13) rfl (by kernel_rfl) (by kernel_rfl) (by kernel_rfl) (fun _ _ _ h => h) (Or.inl ⟨by kernel_rfl, ?hy13⟩) hHeld ?rest13
        case hy13 => (intro W hSw; obtain ⟨s1, s2⟩ := hSw; go_simp; (try with_reducible rfl))
        refine wpAnyH_take (i := 14) (v := ?v14) rfl (by kernel_rfl) (by kernel_rfl) (by kernel_rfl) (fun _ _ _ h => h) (Or.inl ⟨by kernel_rfl, ?hy14⟩) hHeld ?rest14
        case hy14 => (intro W hSw; obtain ⟨s1, s2⟩ := hSw; go_simp; (try with_reducible rfl))
        refine wpAnyH_ready (rs := [10]) (by kernel_rfl) (by simp) ?_
        refine AllReadyH.cons rfl (fun K hK => ?_) AllReadyH.nil
        rw [if_pos (by kernel_rfl)]
        go_simp
        go_at_call 14
        refine (buffered_any (HD.out.below HB6.out) (by have := HS2.out; omega)).mono ?_
        rintro e w7 ⟨v7, rfl, hf7, hb7⟩
        have HF7 := Lib.hid hf7; have HB7 := Lib.hid (HB6.out.trans (hb7.mono HB6.out.size))
        clear hf7 hb7
        refine hK.out _ _ ⟨(HR.out.lies.below HB7.out HR.out.lies.lt).cell 0 _ rfl, (HR.out.lies.below HB7.out HR.out.lies.lt).cell 1 _ rfl⟩ (fun hHeld => ?_)
        clear hK K
        refine wpAnyH_ready (rs := [15]) (by kernel_rfl) (by simp) ?_
        refine AllReadyH.cons rfl (fun K hK => ?_) AllReadyH.nil
        rw [if_pos (by kernel_rfl)]
        go_simp
        go_at_call 13
        refine (ops_ref HF7.out (HR.out.keep (Kp.all HB7.out)).reads HBL.out).mono ?_
        rintro e w8 ⟨rfl, hb8⟩
        have HB8 := Lib.hid (HB7.out.trans (hb8.mono HB7.out.size))
        clear hb8
        refine hK.out _ _ ⟨(HR.out.lies.below HB8.out HR.out.lies.lt).cell 0 _ rfl, (HR.out.lies.below HB8.out HR.out.lies.lt).cell 1 _ rfl⟩ (fun hHeld => ?_)
        clear hK K
        refine wpAnyH_take (i := 16) (v := ?v16) rfl (by kernel_rfl) (by kernel_rfl) (by kernel_rfl) (fun _ _ _ h => h) (Or.inl ⟨by kernel_rfl, ?hy16⟩) hHeld ?rest16
        case hy16 => (intro W hSw; obtain ⟨s1, s2⟩ := hSw; go_simp; (try with_reducible rfl))
        refine wpAnyH_take (i := 17) (v := ?v17) rfl (by kernel_rfl) (by kernel_rfl) (by kernel_rfl) (fun _ _ _ h => h) (Or.inl ⟨by kernel_rfl, ?hy17⟩) hHeld ?rest17
        case hy17 => (intro W hSw; obtain ⟨s1, s2⟩ := hSw; go_simp; (try with_reducible rfl))
        refine wpAnyH_take (i := 18) (v := ?v18) rfl (by kernel_rfl) (by kernel_rfl) (by kernel_rfl) (fun _ _ _ h => h) (Or.inl ⟨by kernel_rfl, ?hy18⟩) hHeld ?rest18
        case hy18 => (intro W hSw; obtain ⟨s1, s2⟩ := hSw; go_simp; (try with_reducible rfl))
        refine wpAnyH_take (i := 19) (v := ?v19) rfl (by kernel_rfl) (by kernel_rfl) (by kernel_rfl) (fun _ _ _ h => h) (Or.inl ⟨by kernel_rfl, ?hy19⟩) hHeld ?rest19
        case hy19 => (intro W hSw; obtain ⟨s1, s2⟩ := hSw; go_simp; (try with_reducible rfl))
        refine wpAnyH_take (i := 21) (v := ?v21) rfl (by kernel_rfl) (by kernel_rfl) (by kernel_rfl) (fun _ _ _ h => h) (Or.inl ⟨by kernel_rfl, ?hy21⟩) hHeld ?rest21
        case hy21 => (intro W hSw; obtain ⟨s1, s2⟩ := hSw; go_simp; (try with_reducible rfl))
        refine wpAnyH_take (i := 22) (v := ?v22) rfl (by kernel_rfl) (by kernel_rfl) (by kernel_rfl) (fun _ _ _ h => h) (Or.inl ⟨by kernel_rfl, ?hy22⟩) hHeld ?rest22
        case hy22 => (intro W hSw; obtain ⟨s1, s2⟩ := hSw; go_simp; (try with_reducible rfl))
        refine wpAnyH_take (i := 23) (v := ?v23) rfl (by kernel_rfl) (by kernel_rfl) (by kernel_rfl) (fun _ _ _ h => h) (Or.inl ⟨by kernel_rfl, ?hy23⟩) hHeld ?rest23
        case hy23 => (intro W hSw; obtain ⟨s1, s2⟩ := hSw; go_simp; (try with_reducible rfl))
        refine wpAnyH_take (i := 24) (v := ?v24) rfl (by kernel_rfl) (by kernel_rfl) (by kernel_rfl) (fun _ _ _ h => h) (Or.inl ⟨by kernel_rfl, ?hy24⟩) hHeld ?rest24
        case hy24 => (intro W hSw; obtain ⟨s1, s2⟩ := hSw; go_simp; (try with_reducible rfl))
        refine wpAnyH_take (i := 25) (v := ?v25) rfl (by kernel_rfl) (by kernel_rfl) (by kernel_rfl) (fun _ _ _ h => h) (Or.inl ⟨by kernel_rfl, ?hy25⟩) hHeld ?rest25
        case hy25 => (intro W hSw; obtain ⟨s1, s2⟩ := hSw; go_simp; (try with_reducible rfl))
        refine wpAnyH_take (i := 26) (v := ?v26) rfl (by kernel_rfl) (by kernel_rfl) (by kernel_rfl) (fun _ _ _ h => h) (Or.inl ⟨by kernel_rfl, ?hy26⟩) hHeld ?rest26
        case hy26 => (intro W hSw; obtain ⟨s1, s2⟩ := hSw; go_simp; (try with_reducible rfl))
        refine wpAnyH_take (i := 27) (v := ?v27) rfl (by kernel_rfl) (by kernel_rfl) (by kernel_rfl) (fun _ _ _ h => h) (Or.inl ⟨by kernel_rfl, ?hy27⟩) hHeld ?rest27
        case hy27 => (intro W hSw; obtain ⟨s1, s2⟩ := hSw; go_simp; (try with_reducible rfl))
        refine wpAnyH_take (i := 28) (v := ?v28) rfl (by kernel_rfl) (by kernel_rfl) (by kernel_rfl) (fun _ _ _ h => h) (Or.inl ⟨by kernel_rfl, ?hy28⟩) hHeld ?rest28
        case hy28 => (intro W hSw; obtain ⟨s1, s2⟩ := hSw; go_simp; (try with_reducible rfl))
        refine wpAnyH_ready (rs := [20]) (by kernel_rfl) (by simp) ?_
        refine AllReadyH.cons rfl (fun K hK => ?_) AllReadyH.nil
        rw [if_pos (by kernel_rfl)]
        go_simp
        go_at_call 15
        refine (view_any (HD.out.below HB8.out) HGF.out.kinds (by have := HS2.out; show Dk.wt F + 2 * Dk.wtB B ≤ _; omega)).mono ?_
        rintro e w9 ⟨v9, rfl, hf9, hb9⟩
        have HF9 := Lib.hid hf9; have HB9 := Lib.hid (HB8.out.trans (hb9.mono HB8.out.size))
        clear hf9 hb9
        refine hK.out _ _ ⟨(HR.out.lies.below HB9.out HR.out.lies.lt).cell 0 _ rfl, (HR.out.lies.below HB9.out HR.out.lies.lt).cell 1 _ rfl⟩ (fun hHeld => ?_)
        clear hK K
        refine wpAnyH_ready (rs := [29]) (by kernel_rfl) (by simp) ?_
        refine AllReadyH.cons rfl (fun K hK => ?_) AllReadyH.nil
        rw [if_pos (by kernel_rfl)]
        go_simp
        go_at_call 16
        refine (all_ref (HR.out.keep (Kp.all HB9.out)).files (HR.out.keep (Kp.all HB9.out)).reads HGF.out.asc HGF.out.kinds (by have := HS2.out; show Dk.wt F + 2 * Dk.wtB B ≤ _; omega)).mono ?_
        rintro e w10 ⟨v10, rfl, hf10, hb10⟩
        have HF9b := Lib.hid (HF9.out.below hb10); have HF10 := Lib.hid hf10; have HB10 := Lib.hid (HB9.out.trans (hb10.mono HB9.out.size))
        clear hf10 hb10
        refine hK.out _ _ ⟨(HR.out.lies.below HB10.out HR.out.lies.lt).cell 0 _ rfl, (HR.out.lies.below HB10.out HR.out.lies.lt).cell 1 _ rfl⟩ (fun hHeld => ?_)
        clear hK K
        refine wpAnyH_ready (rs := [30]) (by kernel_rfl) (by simp) ?_
        refine AllReadyH.cons rfl (fun K hK => ?_) AllReadyH.nil
        rw [if_pos (by kernel_rfl)]
        go_simp
        go_at_call 11
        refine (same_ref HF9b.out HF10.out HVL.out).mono ?_
        rintro e w11 ⟨rfl, hb11⟩
        have HB11 := Lib.hid (HB10.out.trans (hb11.mono HB10.out.size))
        clear hb11
        refine hK.out _ _ ⟨(HR.out.lies.below HB11.out HR.out.lies.lt).cell 0 _ rfl, (HR.out.lies.below HB11.out HR.out.lies.lt).cell 1 _ rfl⟩ (fun hHeld => ?_)
        clear hK K
        refine wpAnyH_take (i := 31) (v := ?v31) rfl (by kernel_rfl) (by kernel_rfl) (by kernel_rfl) (fun _ _ _ h => h) (Or.inl ⟨by kernel_rfl, ?hy31⟩) hHeld ?rest31
        case hy31 => (intro W hSw; obtain ⟨s1, s2⟩ := hSw; go_simp; (try with_reducible rfl))
        refine wpAnyH_take (i := 32) (v := ?v32) rfl (by kernel_rfl) (by kernel_rfl) (by kernel_rfl) (fun _ _ _ h => h) (Or.inl ⟨by kernel_rfl, ?hy32⟩) hHeld ?rest32
        case hy32 => (intro W hSw; obtain ⟨s1, s2⟩ := hSw; go_simp; (try with_reducible rfl))
        refine wpAnyH_done (by kernel_rfl) ?_ _
        have HEND : Hid (∃ S, Both S w0.heap.size w0 w11 w0.heap.size x (Dk.after (l.take (k + 1))) (Dk.after (l.take (k + 1)))) := ⟨_, HB3.out.below HB11.out⟩
        clear hHeld k0 k1
        go_wp2
        go_roundw
        case rel => exact ⟨k + 1, by go_num, by omega, HEND⟩
        case measure => simp [intOf]; omega
      · obtain rfl : k = n := by omega
        have hint : ¬ ((k : Nat) : Int) < (k : Int) := by omega
        have haw := HAW.out wr
        go_wp2_with fail
        refine haw.mono ?_
        rintro e w3 ⟨rfl, hB3⟩
        obtain ⟨S, hB⟩ := HB.out
        have HE := Lib.hid (hB.kept.trans (hB3.mono hB.size))
        clear hB hB3 haw
        go_wp2
        go_ret
        exact truly_of HE.out
end Go.Proofs.Ytffgfjfeoinnfaa
