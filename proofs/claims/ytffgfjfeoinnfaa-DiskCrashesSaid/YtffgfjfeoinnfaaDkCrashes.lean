/- The law of a crash, on two disks. Written by a program. -/
import Derived.Test.YtffgfjfeoinnfaaDkDoes
import Derived.Test.YtffgfjfeoinnfaaDkBeg
import Derived.Test.YtffgfjfeoinnfaaDkCrash
namespace Go.Proofs.Ytffgfjfeoinnfaa
open Go.RowKit

/-- The first of a list. -/
theorem ListP.first {α : Type} {k : Nat} {cells : α → Value → Array Value} {bytes : α → List UInt8} {p : Nat → TypeId → Prop} {w : World} {ao : Option Addr} {n cap : Nat} {l : List α} (h : ListP k cells bytes p w (.slice ao n cap) l) (f : Nat) (hf : f ≤ n) :
    ListP k cells bytes p w (.slice ao f cap) (l.take f) := by
  obtain ⟨ps, rfl, ⟨⟨ao', cap', hv, h1, h2, h3, h4⟩, hp⟩, h5⟩ := h
  simp only [Value.slice.injEq] at hv
  obtain ⟨rfl, rfl, rfl⟩ := hv
  have hL : rowsOf cells (ps.take f) = (rowsOf cells ps).take f := by simp [rowsOf, List.map_take]
  have hlen : (rowsOf cells (ps.take f)).length = f := by rw [hL, List.length_take]; omega
  refine ⟨ps.take f, by rw [List.map_take], ⟨⟨ao, cap, by rw [hlen], by omega, h2, h3, fun x hx i r hr j u hu => h4 x hx i r ?_ j u hu⟩, fun h0 => ?_⟩, fun q hq => h5 q (List.mem_of_mem_take hq)⟩
  · rw [hL, List.getElem?_take] at hr
    split at hr
    · exact hr
    · cases hr
  · obtain ⟨x, n, c, cs, t, fr, e1, e2⟩ := hp (by omega)
    simp only [Value.slice.injEq] at e1
    obtain ⟨rfl, rfl, rfl⟩ := e1
    exact ⟨x, f, cap, cs, t, fr, rfl, e2⟩

/-- Two disks, apart. -/
structure Two (S R : Nat → Prop) (base : Nat) (w0 w : World) (d e : Nat) (Y Z : Dk.Files × List Dk.Op) : Prop where
  one : DiskAt S w d Y.1 Y.2
  two : DiskAt R w e Z.1 Z.2
  newS : ∀ k, S k → base ≤ k ∧ k < w.heap.size
  newR : ∀ k, R k → base ≤ k ∧ k < w.heap.size
  apart : ∀ k, S k → ¬ R k
  kept : Below base w0 w
  size : base ≤ w.heap.size
theorem Two.swap {S R : Nat → Prop} {base : Nat} {w0 w : World} {d e : Nat} {Y Z : Dk.Files × List Dk.Op} (h : Two S R base w0 w d e Y Z) : Two R S base w0 w e d Z Y :=
  ⟨h.two, h.one, h.newR, h.newS, fun k hr hs => h.apart k hs hr, h.kept, h.size⟩
theorem Two.first {S R : Nat → Prop} {base : Nat} {w0 w w' : World} {d e : Nat} {Y Z Y' : Dk.Files × List Dk.Op} {en : Ending} (h : Two S R base w0 w d e Y Z) (hs : StepAt S w d Y' en w') :
    en = .returned (.tuple #[]) ∧ ∃ S', Two S' R base w0 w' d e Y' Z ∧ Kp (fun k _ => ¬ S k) w w' ∧ ∀ k, k < w.heap.size → S' k → S k := by
  obtain ⟨rfl, h2, h3⟩ := hs
  have hsz := h3.size
  have hsb := h.size
  refine ⟨rfl, fun k => S k ∨ (w.heap.size ≤ k ∧ k < w'.heap.size), ⟨h2.imp fun k hk hS => hS.imp id fun hS => ⟨hS, hk⟩, h.two.keep (h3.imp fun k _ _ hr hS => h.apart k hS hr), fun k hk => ?_, fun k hk => ?_, fun k hk hr => ?_, h.kept.trans (h3.below h.size fun k _ hk _ hS => ?_), by omega⟩, h3, fun k hk hS => ?_⟩
  · rcases hk with hk | hk
    · have := h.newS k hk; omega
    · omega
  · have := h.newR k hk; omega
  · rcases hk with hk | hk
    · exact h.apart k hk hr
    · have := h.newR k hr; omega
  · have := h.newS k hS; omega
  · rcases hS with hS | hS
    · exact hS
    · omega
theorem Two.second {S R : Nat → Prop} {base : Nat} {w0 w w' : World} {d e : Nat} {Y Z Z' : Dk.Files × List Dk.Op} {en : Ending} (h : Two S R base w0 w d e Y Z) (hs : StepAt R w e Z' en w') :
    en = .returned (.tuple #[]) ∧ ∃ R', Two S R' base w0 w' d e Y Z' ∧ Kp (fun k _ => ¬ R k) w w' ∧ ∀ k, k < w.heap.size → R' k → R k := by
  obtain ⟨h1, R', h2, h3⟩ := h.swap.first hs
  exact ⟨h1, R', h2.swap, h3⟩
theorem Two.below {S R : Nat → Prop} {base : Nat} {w0 w w' : World} {d e : Nat} {Y Z : Dk.Files × List Dk.Op} (h : Two S R base w0 w d e Y Z) (hb : Below w.heap.size w w') : Two S R base w0 w' d e Y Z := by
  have hs := hb.size
  have hsb := h.size
  exact ⟨h.one.below hb, h.two.below hb, fun k hk => by have := h.newS k hk; omega, fun k hk => by have := h.newR k hk; omega, h.apart, h.kept.trans (hb.mono h.size), by omega⟩
theorem Two.start {w w1 w2 : World} (h1 : DiskAt (fun k => k = w.heap.size) w1 w.heap.size [] []) (hb : Below w.heap.size w w1) (hs : w1.heap.size = w.heap.size + 1) (h2 : DiskAt (fun k => k = w1.heap.size) w2 w1.heap.size [] []) (hb2 : Below w1.heap.size w1 w2) (hs2 : w2.heap.size = w1.heap.size + 1) :
    Two (fun k => k = w.heap.size) (fun k => k = w1.heap.size) w.heap.size w w2 w.heap.size w1.heap.size ([], []) ([], []) :=
  ⟨h1.below hb2, h2, fun k hk => by omega, fun k hk => by omega, fun k hk => by omega, hb.trans (hb2.mono hb.size), by omega⟩
/-- A list that lies in neither. -/
theorem list_apart {α : Type} {k : Nat} {cells : α → Value → Array Value} {bytes : α → List UInt8} {S S' R : Nat → Prop} {w w' : World} {u : Value} {l : List α} (h : ListP k cells bytes (fun k _ => ¬ S k ∧ ¬ R k) w u l) (hk : Kp (fun k _ => ¬ S k) w w') (hS : ∀ k, k < w.heap.size → S' k → S k) :
    ListP k cells bytes (fun k _ => ¬ S' k ∧ ¬ R k) w' u l :=
  (((h.imp (p' := fun k _ => ¬ S k ∧ ¬ R k ∧ ¬ S' k) fun k _ _ _ e hp => ⟨hp.1, hp.2, fun hs => hp.1 (hS k (lt_of_obj e) hs)⟩).keep (hk.keep fun _ _ _ _ _ hp => hp.1))).imp fun _ _ _ _ _ hp => ⟨hp.2.2, hp.2.1⟩
theorem list_swap {α : Type} {k : Nat} {cells : α → Value → Array Value} {bytes : α → List UInt8} {S R : Nat → Prop} {w : World} {u : Value} {l : List α} (h : ListP k cells bytes (fun k _ => ¬ S k ∧ ¬ R k) w u l) : ListP k cells bytes (fun k _ => ¬ R k ∧ ¬ S k) w u l :=
  h.imp fun _ _ _ _ _ hp => ⟨hp.2, hp.1⟩

set_option maxRecDepth 8000 in
set_option maxHeartbeats 3200000 in
theorem diskCrashes_any (v : Value) (l : List Dk.Step) (keep torn : Int) (w : World) (hv : StepsP (fun k _ => k < w.heap.size) w v l) : Calls Try.prog 4 #[v, .int .i64 keep, .int .i64 torn] w (Truly w) := by
  have HAW := Lib.hid (fun (W : World) => awakeD_any W)
  have hlg := large_any v l w hv
  obtain ⟨ao, cap, rfl, hc1, hc2⟩ := ListP.shape hv
  have HP := Lib.hid (fun h => ListP.places hv cellS_first h)
  obtain ⟨n, hn⟩ : ∃ n, n = l.length := ⟨_, rfl⟩
  rw [← hn] at hlg HP hc1 ⊢
  have HN := Lib.hid hn
  clear hv hn
  go_enter Try.func4, Try.ntmps4
  go_wp2_with fail
  refine hlg.mono ?_
  rintro e w0 ⟨b, rfl, rfl, hsm⟩
  cases b with
  | true =>
    have haw := HAW.out w0
    clear hlg hsm
    go_wp2_with fail
    refine haw.mono ?_
    rintro e w2 ⟨rfl, hB1⟩
    go_wp2
    go_ret
    exact truly_of hB1
  | false =>
    have HSM := Lib.hid (hsm rfl)
    have hn60 : n ≤ 60 := by have := HSM.out.1; have := HN.out; omega
    have HGD : Hid (∀ k, Dk.Good (Dk.after (l.take k)) 6060) := fun k => by
      have h1 := Dk.good_after (l := l.take k) fun q hq => HSM.out.2 q (List.mem_of_mem_take hq)
      refine ⟨h1.asc, h1.kinds, ?_⟩
      have h2 := h1.small
      have h3 : (l.take k).length ≤ 60 := by rw [List.length_take]; have := HN.out; omega
      omega
    clear hlg hsm
    have hnew := new_any w0
    go_wp2_with fail
    refine hnew.mono ?_
    rintro e w1 ⟨rfl, hd1, hb1, hs1⟩
    have HD1 := Lib.hid hd1; have HB1 := Lib.hid hb1; have HS1 := Lib.hid hs1
    have hnew2 := new_any w1
    clear hnew hd1 hb1 hs1
    go_wp2_with fail
    refine hnew2.mono ?_
    rintro e w2 ⟨rfl, hd2, hb2, hs2⟩
    have HST := Lib.hid (Two.start HD1.out HB1.out HS1.out hd2 hb2 hs2)
    clear hnew2 hd2 hb2 hs2
    obtain ⟨x, hx⟩ : ∃ x, x = w1.heap.size := ⟨_, rfl⟩
    rw [← hx] at HST
    have HX := Lib.hid hx
    clear hx
    go_wp2
    rw [← HX.out]
    go_loopw [9] (fun y wr => ∃ k : Nat, y = .int .i64 (k : Int) ∧ k ≤ n ∧ Hid (∃ S R, Two S R w0.heap.size w0 wr w0.heap.size x (Dk.after (l.take k)) (Dk.after (l.take k)))) (fun y _ => n - (intOf y).toNat)
    case atStart => exact ⟨0, rfl, Nat.zero_le _, ⟨_, _, HST.out⟩⟩
    case round =>
      obtain ⟨k, rfl, hk, HB⟩ := hrel
      by_cases hlt : k < n
      · have hint : ((k : Nat) : Int) < (n : Int) := by omega
        obtain ⟨s, hs⟩ : ∃ s, l[k]? = some s := ⟨_, List.getElem?_eq_getElem (by have := HN.out; omega)⟩
        obtain ⟨g, off, rfl, _, hc⟩ := HP.out (by have := HN.out; omega)
        obtain ⟨u, hu, hcell⟩ := hc k s hs
        obtain ⟨S, R, hB⟩ := HB.out
        have hst := step_any (F := (Dk.after (l.take k)).1) (B := (Dk.after (l.take k)).2) hB.one (HGD.out k) (by omega) s u (hu.1.below hB.kept) (HSM.out.2 s (List.mem_of_getElem? hs))
        rw [Prod.eta] at hst
        rw [← Dk.after_step hs] at hst
        have HU := Lib.hid hu; have HC := Lib.hid hcell; have HS := Lib.hid hs; have HBB := Lib.hid hB
        clear hu hcell hs hB hc
        have c0 : wr.cell? ⟨g, off + k * 4, none⟩ = some (.int .i64 s.kind) := HC.out wr HBB.out.kept 0 _ rfl
        have c1 : wr.cell? ⟨g, off + k * 4 + 1, none⟩ = some (.int .i64 s.no) := HC.out wr HBB.out.kept 1 _ rfl
        have c2 : wr.cell? ⟨g, off + k * 4 + 2, none⟩ = some (.int .i64 s.n) := HC.out wr HBB.out.kept 2 _ rfl
        have c3 : wr.cell? ⟨g, off + k * 4 + 3, none⟩ = some u := HC.out wr HBB.out.kept 3 _ rfl
        go_wp2_with fail
        refine hst.mono ?_
        rintro e w3 h3
        obtain ⟨rfl, S2, hB2, _, _⟩ := HBB.out.first h3
        clear h3 hst c0 c1 c2 c3
        have HB2 := Lib.hid hB2
        clear hB2
        have hdo := step_any (F := (Dk.after (l.take k)).1) (B := (Dk.after (l.take k)).2) HB2.out.two (HGD.out k) (by omega) s u (HU.out.1.below HB2.out.kept) (HSM.out.2 s (List.mem_of_getElem? HS.out))
        rw [Prod.eta, ← Dk.after_step HS.out] at hdo
        have c0 : w3.cell? ⟨g, off + k * 4, none⟩ = some (.int .i64 s.kind) := HC.out w3 HB2.out.kept 0 _ rfl
        have c1 : w3.cell? ⟨g, off + k * 4 + 1, none⟩ = some (.int .i64 s.no) := HC.out w3 HB2.out.kept 1 _ rfl
        have c2 : w3.cell? ⟨g, off + k * 4 + 2, none⟩ = some (.int .i64 s.n) := HC.out w3 HB2.out.kept 2 _ rfl
        have c3 : w3.cell? ⟨g, off + k * 4 + 3, none⟩ = some u := HC.out w3 HB2.out.kept 3 _ rfl
        go_wp2_with fail
        refine hdo.mono ?_
        rintro e w4 h4
        obtain ⟨rfl, R2, hB3, _, _⟩ := HB2.out.second h4
        have HEND : Hid (∃ S R, Two S R w0.heap.size w0 w4 w0.heap.size x (Dk.after (l.take (k + 1))) (Dk.after (l.take (k + 1)))) := ⟨_, _, hB3⟩
        clear h4 hdo c0 c1 c2 c3 hB3
        go_wp2
        go_roundw
        case rel => exact ⟨k + 1, by go_num, by omega, HEND⟩
        case measure => simp [intOf]; omega
      · obtain rfl : k = n := by omega
        have hint : ¬ ((k : Nat) : Int) < (k : Int) := by omega
        obtain ⟨S, R, hB⟩ := HB.out
        have hgd := HGD.out k
        obtain ⟨Y, hY⟩ : ∃ Y, Y = Dk.after (l.take k) := ⟨_, rfl⟩
        rw [← hY] at hB hgd
        clear hY
        obtain ⟨F, B⟩ := Y
        have hsm2 : Dk.wt F + Dk.wtB B ≤ 6060 := hgd.small
        have HS2 := Lib.hid hsm2; have HBB := Lib.hid hB; have HGF := Lib.hid hgd
        have HFL : Hid (F.length ≤ 1099511627776) := by show _ ≤ _; have := Dk.len_wt F; omega
        obtain ⟨m, hm⟩ : ∃ m, m = B.length := ⟨_, rfl⟩
        have hm2 : m ≤ 6060 := by have := Dk.len_wtB B; omega
        have HM := Lib.hid hm
        clear hsm2 hB hgd hm
        have hfi : Calls Try.prog 12 #[.pointer (some ⟨w0.heap.size, 0, none⟩)] wr (Listed wr F) := files_any HBB.out.one (by have := HS2.out; show Dk.wt F ≤ _; omega)
        go_wp2_with fail
        refine hfi.mono ?_
        rintro e w3 ⟨v3, rfl, hf3, hb3⟩
        obtain ⟨fo, fc, rfl, _, _⟩ := hf3.shape
        have HF3 := Lib.hid hf3; have HB3 := Lib.hid hb3
        have hbu : Calls Try.prog 14 #[.pointer (some ⟨w0.heap.size, 0, none⟩)] w3 (BufferedAt w3 B) := buffered_any (HBB.out.one.below HB3.out) (by have := HS2.out; show Dk.wtB B ≤ _; omega)
        clear hfi hf3 hb3
        go_wp2_with fail
        refine hbu.mono ?_
        rintro e w4 ⟨v4, rfl, hf4, hb4⟩
        obtain ⟨bo, bc, e4, hbc, hbc2⟩ := hf4.shape
        rw [← HM.out] at e4 hbc
        subst e4
        have HB4 := Lib.hid (HB3.out.trans (hb4.mono HB3.out.size))
        have HW4 : Hid (FilesP (fun k _ => ¬ S k ∧ ¬ R k) w4 (.slice fo F.length fc) F) := (HF3.out.imp fun k _ _ _ _ hp => ⟨fun h => by have := HBB.out.newS k h; omega, fun h => by have := HBB.out.newR k h; omega⟩).below hb4
        have HO4 : Hid (OpsP (fun k _ => ¬ S k ∧ ¬ R k) w4 (.slice bo m bc) B) := hf4.imp fun k _ _ _ _ hp => ⟨fun h => by have := HBB.out.newS k h; have := HB3.out.size; omega, fun h => by have := HBB.out.newR k h; have := HB3.out.size; omega⟩
        have HT4 := Lib.hid (HBB.out.below HB4.out)
        have hcr : Calls Try.prog 17 #[.pointer (some ⟨w0.heap.size, 0, none⟩), .int .i64 keep, .int .i64 torn] w4 (CrashedAt S w4 w0.heap.size (Dk.crash F B keep torn)) := crash_any HT4.out.one HGF.out.kinds (by have := HS2.out; show Dk.wt F + 2 * Dk.wtB B ≤ _; omega) keep torn
        clear hbu hf4 hb4 HF3
        go_wp2_with fail
        refine hcr.mono ?_
        rintro e w5 h5
        obtain ⟨rfl, S2, hT5, hk5, hS5⟩ := HT4.out.first (Y' := (Dk.crash F B keep torn, [])) h5
        have HT5 := Lib.hid hT5
        have HW5 := Lib.hid (list_swap (list_apart HW4.out hk5 hS5)); have HO5 := Lib.hid (list_swap (list_apart HO4.out hk5 hS5))
        have hcr2 : Calls Try.prog 17 #[.pointer (some ⟨x, 0, none⟩), .int .i64 0, .int .i64 0] w5 (CrashedAt R w5 x (Dk.crash F B 0 0)) := crash_any HT5.out.two HGF.out.kinds (by have := HS2.out; show Dk.wt F + 2 * Dk.wtB B ≤ _; omega) 0 0
        rw [Dk.crash_none HGF.out.asc B] at hcr2
        clear hcr h5 hT5 hk5 hS5 HW4 HO4
        go_wp2_with fail
        refine hcr2.mono ?_
        rintro e w6 h6
        obtain ⟨rfl, R2, hT6, hk6, hR6⟩ := HT5.out.second (Z' := (F, [])) h6
        have HT6 := Lib.hid hT6
        have HW6 := Lib.hid (list_apart HW5.out hk6 hR6); have HO6 := Lib.hid (list_apart HO5.out hk6 hR6)
        obtain ⟨G, hG⟩ : ∃ G, G = Dk.crash F B keep torn := ⟨_, rfl⟩
        rw [← hG] at HT6
        have hGw : Dk.wt G ≤ 6060 := by have := HS2.out; have := Dk.wt_crash F B keep torn; rw [hG]; omega
        have HGW := Lib.hid hGw
        have HGB : Hid (∃ i, i ≤ m ∧ Dk.begins G (Dk.all F (B.take i))) := by show ∃ i, _; rw [hG, HM.out]; exact Dk.crash_begins F B keep torn
        have HGA : Hid (∀ i, Dk.wt (Dk.all F (B.take i)) ≤ 6060 ∧ Dk.wtB (B.take i) ≤ 6060 ∧ Dk.Kinds (B.take i)) := fun i => by
          have h1 := Dk.wt_all (B.take i) F
          have h2 := Dk.wtB_split B i
          have h3 := HS2.out
          exact ⟨by omega, by omega, fun q hq => HGF.out.kinds q (List.mem_of_mem_take hq)⟩
        clear hcr2 h6 hT6 hk6 hR6 HW5 HO5 hG hGw
        go_wp2
        go_loopw [12, 13] (fun z y wq => ∃ (sb : Bool) (j : Nat), z = .bool sb ∧ y = .int .i64 (j : Int) ∧ j ≤ m + 1 ∧ Hid (Below w6.heap.size w6 wq) ∧ Hid ((∃ i, i < j ∧ Dk.begins G (Dk.all F (B.take i))) → sb = true)) (fun _ y _ => m + 1 - (intOf y).toNat)
        case atStart => exact ⟨false, 0, rfl, rfl, by omega, Below.refl _ _, fun ⟨i, h, _⟩ => absurd h (by omega)⟩
        case round =>
          obtain ⟨sb, j, rfl, rfl, hj, HBQ, HI⟩ := hrel
          by_cases hjm : j ≤ m
          · have hint2 : ((j : Nat) : Int) ≤ (m : Int) := by omega
            cases sb with
            | true =>
              go_wp2
              refine wp_region_behind (by kernel_rfl) (by kernel_rfl) ?_
              repeat (go_big_quiet_step (fail))
              refine wpQuiet_nil ?_
              rintro w7 ⟨⟨w7, hB7⟩, rfl⟩
              (try dsimp only)
              have HB7 := Lib.hid (HBQ.out.trans (hB7.mono HBQ.out.size))
              clear hB7
              go_wp2
              go_roundw
              case rel => exact ⟨true, j + 1, (by first | rfl | trivial), by go_num, by omega, HB7, fun _ => rfl⟩
              case measure => simp [intOf]; omega
            | false =>
              go_wp2
              refine wp_region_held_drew (S := fun _ => True) (by kernel_rfl) (trivial) (fun hHeld => ?_)
              refine wpAnyH_take (i := 0) (v := ?v0) rfl (by kernel_rfl) (by kernel_rfl) (by kernel_rfl) (fun _ _ _ h => h) (Or.inl ⟨by kernel_rfl, ?hy0⟩) hHeld ?rest0
              case hy0 => (intro W hSw; go_simp; (try with_reducible rfl))
              refine wpAnyH_take (i := 1) (v := ?v1) rfl (by kernel_rfl) (by kernel_rfl) (by kernel_rfl) (fun _ _ _ h => h) (Or.inl ⟨by kernel_rfl, ?hy1⟩) hHeld ?rest1
              case hy1 => (intro W hSw; go_simp; (try with_reducible rfl))
              refine wpAnyH_take (i := 2) (v := ?v2) rfl (by kernel_rfl) (by kernel_rfl) (by kernel_rfl) (fun _ _ _ h => h) (Or.inl ⟨by kernel_rfl, ?hy2⟩) hHeld ?rest2
              case hy2 => (intro W hSw; go_simp; (try with_reducible rfl))
              refine wpAnyH_take (i := 4) (v := ?v4) rfl (by kernel_rfl) (by kernel_rfl) (by kernel_rfl) (fun _ _ _ h => h) (Or.inl ⟨by kernel_rfl, ?hy4⟩) hHeld ?rest4
              case hy4 => (intro W hSw; go_simp; (try with_reducible rfl))
              refine wpAnyH_take (i := 5) (v := ?v5) rfl (by kernel_rfl) (by kernel_rfl) (by kernel_rfl) (fun _ _ _ h => h) (Or.inl ⟨by kernel_rfl, ?hy5⟩) hHeld ?rest5
              case hy5 => (intro W hSw; go_simp; (try with_reducible rfl))
              refine wpAnyH_take (i := 6) (v := ?v6) rfl (by kernel_rfl) (by kernel_rfl) (by kernel_rfl) (fun _ _ _ h => h) (Or.inl ⟨by kernel_rfl, ?hy6⟩) hHeld ?rest6
              case hy6 => (intro W hSw; go_simp; (try with_reducible rfl))
              refine wpAnyH_take (i := 7) (v := .slice bo j bc) rfl (by kernel_rfl) (by kernel_rfl) (by kernel_rfl) (fun _ _ _ h => h) (Or.inl ⟨by kernel_rfl, ?hy7⟩) hHeld ?rest7
              case hy7 => (intro W hSw; go_simp; exact fun h => absurd h (by omega))
              have HBD : Hid (Below w6.heap.size w6 wr.drew) := HBQ.out.trans ((drawn wr 1).mono HBQ.out.size)
              refine wpAnyH_ready (rs := [3]) (by kernel_rfl) (by simp) ?_
              refine AllReadyH.cons rfl (fun K hK => ?_) AllReadyH.nil
              rw [if_pos (by kernel_rfl)]
              go_simp
              go_at_call 12
              refine (files_any (F := G) (HT6.out.below HBD.out).one (by have := HGW.out; omega)).mono ?_
              rintro e w7 ⟨v7, rfl, hf7, hb7⟩
              have HF7 : Hid (FilesP _ w7 v7 G) := hf7
              have HB7 := Lib.hid (HBD.out.trans (hb7.mono HBD.out.size))
              clear hf7 hb7
              refine hK.out _ _ trivial (fun hHeld => ?_)
              clear hK K
              refine wpAnyH_ready (rs := [8]) (by kernel_rfl) (by simp) ?_
              refine AllReadyH.cons rfl (fun K hK => ?_) AllReadyH.nil
              rw [if_pos (by kernel_rfl)]
              go_simp
              go_at_call 16
              refine (all_ref (HW6.out.below HB7.out) ((HO6.out.below HB7.out).first j (by omega)) HGF.out.asc (HGA.out j).2.2 (by have := (HGA.out j).2.1; have := HS2.out; omega)).mono ?_
              rintro e w8 ⟨v8, rfl, hf8, hb8⟩
              have HF8 := Lib.hid hf8; have HF7b := Lib.hid (HF7.out.below hb8); have HB8 := Lib.hid (HB7.out.trans (hb8.mono HB7.out.size))
              clear hf8 hb8
              refine hK.out _ _ trivial (fun hHeld => ?_)
              clear hK K
              refine wpAnyH_ready (rs := [9]) (by kernel_rfl) (by simp) ?_
              refine AllReadyH.cons rfl (fun K hK => ?_) AllReadyH.nil
              rw [if_pos (by kernel_rfl)]
              go_simp
              go_at_call 18
              refine (begins_any HF7b.out HF8.out (by have := HGW.out; have := Dk.len_wt G; omega) (by have := (HGA.out j).1; have := Dk.len_wt (Dk.all F (B.take j)); omega)).mono ?_
              rintro e w9 ⟨t9, rfl, hb9, ht9⟩
              have HB9 := Lib.hid (HB8.out.trans (hb9.mono HB8.out.size)); have HT9 := Lib.hid ht9
              clear hb9 ht9
              refine hK.out _ _ trivial (fun hHeld => ?_)
              clear hK K
              refine wpAnyH_take (i := 10) (v := ?v10) rfl (by kernel_rfl) (by kernel_rfl) (by kernel_rfl) (fun _ _ _ h => h) (Or.inl ⟨by kernel_rfl, ?hy10⟩) hHeld ?rest10
              case hy10 => (intro W hSw; go_simp; (try with_reducible rfl))
              refine wpAnyH_take (i := 11) (v := ?v11) rfl (by kernel_rfl) (by kernel_rfl) (by kernel_rfl) (fun _ _ _ h => h) (Or.inl ⟨by kernel_rfl, ?hy11⟩) hHeld ?rest11
              case hy11 => (intro W hSw; go_simp; (try with_reducible rfl))
              refine wpAnyH_done (by kernel_rfl) ?_ _
              have HI9 : Hid ((∃ i, i < j + 1 ∧ Dk.begins G (Dk.all F (B.take i))) → t9 = true) := fun ⟨i, h, hb⟩ => by
                by_cases hij : i < j
                · exact absurd (HI.out ⟨i, hij, hb⟩) (by simp)
                · obtain rfl : i = j := by omega
                  exact HT9.out hb
              clear hHeld
              go_wp2
              go_roundw
              case rel => exact ⟨t9, j + 1, (by first | rfl | trivial), by go_num, by omega, HB9, HI9⟩
              case measure => simp [intOf]; omega
          · obtain rfl : j = m + 1 := by omega
            have hint2 : ¬ (((m + 1 : Nat)) : Int) ≤ (m : Int) := by omega
            obtain rfl : sb = true := HI.out (by obtain ⟨i, h1, h2⟩ := HGB.out; exact ⟨i, by omega, h2⟩)
            have HB6 := HBQ
            clear HBQ
            go_wp2_with fail
            refine (buffered_any (B := []) (HT6.out.below HB6.out).one (by simp [Dk.wtB])).mono ?_
            rintro e w7 ⟨v7, rfl, hf7, hb7⟩
            obtain ⟨no, nc, rfl, _, _⟩ := hf7.shape
            have HB7 := Lib.hid (HB6.out.trans (hb7.mono HB6.out.size))
            clear hf7 hb7
            go_wp2_with fail
            refine (files_any (F := F) (HT6.out.below HB7.out).two (by have := HS2.out; show Dk.wt F ≤ _; omega)).mono ?_
            rintro e w8 ⟨v8, rfl, hf8, hb8⟩
            have HF8 : Hid (FilesP _ w8 v8 F) := hf8
            have HB8 := Lib.hid (HB7.out.trans (hb8.mono HB7.out.size))
            clear hf8 hb8
            go_wp2_with fail
            refine (begins_any (HW6.out.below HB8.out) HF8.out HFL.out HFL.out).mono ?_
            rintro e w9 ⟨t9, rfl, hb9, ht9⟩
            obtain rfl := ht9 (Dk.begins_refl F)
            have HB9 := Lib.hid (HB8.out.trans (hb9.mono HB8.out.size))
            clear hb9 ht9
            go_wp2_with fail
            refine (files_any (F := F) (HT6.out.below HB9.out).two (by have := HS2.out; show Dk.wt F ≤ _; omega)).mono ?_
            rintro e wA ⟨vA, rfl, hfA, hbA⟩
            have HFA : Hid (FilesP _ wA vA F) := hfA
            have HBA := Lib.hid (HB9.out.trans (hbA.mono HB9.out.size))
            clear hfA hbA
            go_wp2_with fail
            refine (begins_any HFA.out (HW6.out.below HBA.out) HFL.out HFL.out).mono ?_
            rintro e wB ⟨tB, rfl, hbB, htB⟩
            obtain rfl := htB (Dk.begins_refl F)
            have HBB2 := Lib.hid (HBA.out.trans (hbB.mono HBA.out.size))
            clear hbB htB
            go_wp2_with fail
            refine (HAW.out wB).mono ?_
            rintro e wC ⟨rfl, hbC⟩
            have HBC := Lib.hid (HBB2.out.trans (hbC.mono HBB2.out.size))
            clear hbC
            have HE := Lib.hid (HT6.out.kept.trans (HBC.out.mono HT6.out.size))
            go_wp2
            go_ret
            exact truly_of HE.out
end Go.Proofs.Ytffgfjfeoinnfaa
