/- disk.within, and contents.apply: an operation carried out on the map. -/
import Derived.Test.YtffgfjfeoinnfaaDkMem
import Derived.Test.YtffgfjfeoinnfaaClone
import Derived.Deep.RegionHeld
namespace Go.Proofs.Ytffgfjfeoinnfaa
open Go.RowKit

set_option maxRecDepth 4000 in
set_option maxHeartbeats 400000 in
theorem within_any (n : Int) (m : Nat) (w : World) :
    Calls Try.prog 29 #[.int .i64 n, .int .i64 (m : Int)] w (Says w (.int .i64 (Dk.clamp n m : Nat))) := by
  have e : min (max n 0) (m : Int) = ((Dk.clamp n m : Nat) : Int) := by unfold Dk.clamp; omega
  go_enter Try.func29, Try.ntmps29
  go_wp2
  go_ret
  first | exact ⟨rfl, rfl⟩ | exact ⟨ret_int e, rfl⟩

/-- What apply leaves. -/
def Applied (w : World) (b : Nat) (zs : List Row) (x : Dk.Op) (e : Ending) (w' : World) : Prop :=
  e = .returned (.tuple #[]) ∧ ∃ zs', FilesIn w' b zs' ∧ Dk.onto (·.2) zs' = Dk.done (Dk.onto (·.2) zs) x ∧ Kp (fun k _ => k ≠ b ∧ ¬ Bl zs k) w w' ∧ ∀ k, Bl zs' k → Bl zs k ∨ w.heap.size ≤ k

set_option maxRecDepth 4000 in
set_option maxHeartbeats 400000 in
theorem apply_add (b : Nat) (zs : List Row) (x : Dk.Op) (dv : Value) (z : Value × List UInt8) (w : World) (h : FilesIn w b zs) (hk : x.kind = 2) (hg : Dk.get zs x.no = some z) (hn : 1 ≤ x.no ∧ x.no ≤ 4294967296) (hd : Reads w dv x.data) (hs : Dk.wt (Dk.onto (·.2) zs) + x.data.length ≤ 17592186044416) :
    Calls Try.prog 30 #[.map (some b), .agg #[.int .i64 x.kind, .int .i64 x.no, dv]] w (Applied w b zs x) := by
  obtain ⟨k, n, data⟩ := x
  simp only at hk hg hn hd hs
  subst hk
  obtain ⟨ao, cap, rfl⟩ := hd.shape
  obtain ⟨w1, hw1⟩ : ∃ w1, w.alloc (.cells #[.int .i64 2, .int .i64 n, .slice ao data.length cap] 53) = w1 := ⟨_, rfl⟩
  have hb1 : Below w.heap.size w w1 := by rw [← hw1]; exact (Below.refl _ w).alloc (Nat.le_refl _) _
  have hL1 : Lies w1 w.heap.size 53 #[.int .i64 2, .int .i64 n, .slice ao data.length cap] := by rw [← hw1]; exact Lies.new w _ _
  have hs1 : w1.heap.size = w.heap.size + 1 := by rw [← hw1]; simp
  have h' := h.below hb1 (Nat.le_refl _)
  have hd' := hd.below hb1
  have c0 : w1.cell? ⟨w.heap.size, 0, none⟩ = some (.int .i64 2) := hL1.cell 0 _ rfl
  have c1 : w1.cell? ⟨w.heap.size, 1, none⟩ = some (.int .i64 n) := hL1.cell 1 _ rfl
  have c2 : w1.cell? ⟨w.heap.size, 2, none⟩ = some (.slice ao data.length cap) := hL1.cell 2 _ rfl
  have HLI := Lib.hid hL1; have HBL : Hid (b < w.heap.size) := h.map.lt
  have hlook := h'.map.look (n := n) (by omega) (by omega)
  rw [Dk.onto_get] at hlook
  have hlen : zs.length ≤ 17592186044416 := by
    have := Dk.len_wt (Dk.onto (·.2) zs)
    simp only [Dk.onto, List.length_map] at this
    have h2 := hs
    simp only [Dk.onto] at h2
    omega
  have hlen' : (Dk.onto (·.1) zs).length < 4611686018427387904 := by rw [h.len]; omega
  have hget2 : Dk.get (Dk.onto (·.2) zs) n = (Dk.get zs n).map (·.2) := Dk.onto_get _ _ _
  have HG2 := Lib.hid hget2; have HS := Lib.hid hs; have HH := Lib.hid h'; have HD := Lib.hid hd'; have HB1 := Lib.hid hb1; have HS1 := Lib.hid hs1; have HL := Lib.hid hlen'
  clear hget2 hs h' hd' hb1 hs1 h hd hL1 hlen' hlen
  have over : ∀ (w2 : World) (zs' : List Row), FilesIn w2 b zs' → Dk.onto (·.2) zs' = Dk.done (Dk.onto (·.2) zs) ⟨2, n, data⟩ → Kp (fun k _ => k ≠ b ∧ ¬ Bl zs k) w1 w2 → (∀ k, Bl zs' k → Bl zs k ∨ w1.heap.size ≤ k) → Applied w b zs ⟨2, n, data⟩ (.returned (.tuple #[])) w2 := fun _ _ h1 h2 h3 h4 =>
    ⟨rfl, _, h1, h2, (Kp.all HB1.out).trans h3, fun k hk => (h4 k hk).imp id (fun h => by have := HS1.out; omega)⟩
  have HO := Lib.hid over
  clear over
  rw [hg] at hlook
  rw [hg] at HG2
  simp only [Option.map_some, Option.getD_some, Option.isSome_some] at hlook
  obtain ⟨vz, dz⟩ := z
  simp only at hlook
  have hmem := Dk.get_mem hg
  have hoz : Owns w1 0 5 vz dz := HH.out.own _ hmem
  obtain ⟨zo, zc, rfl⟩ : ∃ zo zc, vz = .slice zo dz.length zc := hoz.reads.shape
  have hle : dz.length + data.length ≤ 140737488355328 := by
    have h1 := HS.out
    have h2 : (n, dz) ∈ Dk.onto (·.2) zs := List.mem_map.2 ⟨_, hmem, rfl⟩
    have h3 := Dk.wt_mem h2
    simp only at h3
    omega
  have HM := Lib.hid hmem; have HOZ := Lib.hid hoz; have HLE := Lib.hid hle
  clear hle
  clear hmem hoz
  go_enter Try.func30, Try.ntmps30
  go_wp2
  refine wp_region_held_drew (S := fun W => W.cell? ⟨w.heap.size, 1, none⟩ = some (.int .i64 n) ∧ W.cell? ⟨w.heap.size, 2, none⟩ = some (.slice ao data.length cap)) (by kernel_rfl) (⟨c1, c2⟩) (fun hHeld => ?_)
  refine wpAnyH_take (i := 0) (v := ?v0) rfl (by kernel_rfl) (by kernel_rfl) (by kernel_rfl) (fun _ _ _ h => h) (Or.inl ⟨by rfl, ?hy0⟩) hHeld ?rest0
  case hy0 => (intro W hSw; obtain ⟨s1, s2⟩ := hSw; go_simp; (try with_reducible rfl))
  refine wpAnyH_take (i := 1) (v := ?v1) rfl (by kernel_rfl) (by kernel_rfl) (by kernel_rfl) (fun _ _ _ h => h) (Or.inl ⟨by rfl, ?hy1⟩) hHeld ?rest1
  case hy1 => (intro W hSw; obtain ⟨s1, s2⟩ := hSw; go_simp; (try with_reducible rfl))
  refine wpAnyH_take (i := 2) (v := ?v2) rfl (by kernel_rfl) (by kernel_rfl) (by kernel_rfl) (fun _ _ _ h => h) (Or.inl ⟨by rfl, ?hy2⟩) hHeld ?rest2
  case hy2 => (intro W hSw; obtain ⟨s1, s2⟩ := hSw; go_simp; (try with_reducible rfl))
  refine wpAnyH_take (i := 3) (v := ?v3) rfl (by kernel_rfl) (by kernel_rfl) (by kernel_rfl) (fun _ _ _ h => h) (Or.inl ⟨by rfl, ?hy3⟩) hHeld ?rest3
  case hy3 => (intro W hSw; obtain ⟨s1, s2⟩ := hSw; go_simp; (try with_reducible rfl))
  refine wpAnyH_take (i := 4) (v := ?v4) rfl (by kernel_rfl) (by kernel_rfl) (by kernel_rfl) (fun _ _ _ h => h) (Or.inl ⟨by rfl, ?hy4⟩) hHeld ?rest4
  case hy4 => (intro W hSw; obtain ⟨s1, s2⟩ := hSw; go_simp; (try with_reducible rfl))
  refine wpAnyH_take (i := 5) (v := ?v5) rfl (by kernel_rfl) (by kernel_rfl) (by kernel_rfl) (fun _ _ _ h => h) (Or.inl ⟨by rfl, ?hy5⟩) hHeld ?rest5
  case hy5 => (intro W hSw; obtain ⟨s1, s2⟩ := hSw; go_simp; (try with_reducible rfl))
  obtain ⟨v2, w2, hrun, ho2, hg2, hat2⟩ := run_append_bytes_at (P := Try.prog) (w := w1.drew) 33 33 5 Try.underlying33 info_u8 0 dz data _ _ (Owns.drew HOZ.out) (Reads.below HD.out (drawn w1 1)) HLE.out (Nat.zero_le _)
  have hL2 : Lies w2 w.heap.size 53 #[.int .i64 2, .int .i64 n, .slice ao data.length cap] := Lies.kept (w := w1.drew) HLI.out hg2 (HLI.out.not_row (by decide) HOZ.out)
  have HL2 := Lib.hid hL2; have HO2 := Lib.hid ho2; have HG := Lib.hid hg2; have HA2 := Lib.hid hat2
  clear hL2 ho2 hg2 hat2
  refine wpAnyH_ready (rs := [6]) (by kernel_rfl) (by simp) ?_
  refine ready_append 6 (.tmp 34) (.tmp 36) 33 rfl rfl rfl (.slice zo dz.length zc) (.slice ao data.length cap) v2 w2 ?s6 ?x6 hrun ⟨⟨HL2.out.cell 1 _ rfl, HL2.out.cell 2 _ rfl⟩, fun hHeld => ?_⟩
  case s6 => kernel_rfl
  case x6 => kernel_rfl
  clear hrun
  have hrb : some b ≠ (Value.slice zo dz.length zc).ownBlock := fun e => HH.out.not_map ⟨_, HM.out, e.symm⟩
  have hmm := MapAt.kept (MapAt.drew HH.out.map) HG.out hrb
  refine wpAnyH_ready (rs := [7]) (by kernel_rfl) (by simp) ?_
  refine ready_mapUpdate 7 (.tmp 31) (.tmp 33) (.tmp 37) rfl rfl rfl b (Dk.onto (·.1) zs) n v2 ?m7 ?x7 ?u7 hmm (by omega) (by omega) HL.out ?k7
  case m7 => kernel_rfl
  case x7 => kernel_rfl
  case u7 => kernel_rfl
  intro w3 hm3 hg3
  have hL3 := HL2.out.kept hg3 (by have := HBL.out; simp; omega)
  have HL3 := Lib.hid hL3; have HM3 := Lib.hid hm3; have HG3 := Lib.hid hg3
  clear hL3 hm3 hg3 hrb hmm
  refine ⟨⟨HL3.out.cell 1 _ rfl, HL3.out.cell 2 _ rfl⟩, fun hHeld => ?_⟩
  refine wpAnyH_done (by kernel_rfl) ?_ _
  clear hHeld
  go_wp2
  go_end0
  have hp := (HH.out.below (drawn w1 1) (Nat.le_refl _)).put n hn v2 (dz ++ data) _ HG.out (fun g e => ⟨_, hg, e⟩) HO2.out (fun g e => by
    rcases HA2.out with h2 | h2
    · exact .inl (h2 ▸ e)
    · rw [h2] at e
      simp only [Option.some.injEq] at e
      exact .inr (Nat.le_of_eq e)) HM3.out HG3.out
  exact HO.out _ _ hp.1 (by rw [Dk.onto_put]; unfold Dk.done; rw [HG2.out]; rfl) ((Kp.all (drawn w1 1)).trans hp.2.1) hp.2.2

set_option maxRecDepth 4000 in
set_option maxHeartbeats 400000 in
theorem apply_any (b : Nat) (zs : List Row) (x : Dk.Op) (dv : Value) (w : World) (h : FilesIn w b zs) (hk : Dk.isKind x.kind) (hn : 1 ≤ x.no ∧ x.no ≤ 4294967296) (hd : Reads w dv x.data) (hs : Dk.wt (Dk.onto (·.2) zs) + x.data.length ≤ 17592186044416) :
    Calls Try.prog 30 #[.map (some b), .agg #[.int .i64 x.kind, .int .i64 x.no, dv]] w (Applied w b zs x) := by
  obtain ⟨k, n, data⟩ := x
  simp only at hk hn hd hs
  obtain ⟨ao, cap, rfl⟩ := hd.shape
  obtain ⟨w1, hw1⟩ : ∃ w1, w.alloc (.cells #[.int .i64 k, .int .i64 n, .slice ao data.length cap] 53) = w1 := ⟨_, rfl⟩
  have hb1 : Below w.heap.size w w1 := by rw [← hw1]; exact (Below.refl _ w).alloc (Nat.le_refl _) _
  have hL1 : Lies w1 w.heap.size 53 #[.int .i64 k, .int .i64 n, .slice ao data.length cap] := by rw [← hw1]; exact Lies.new w _ _
  have hs1 : w1.heap.size = w.heap.size + 1 := by rw [← hw1]; simp
  have h' := h.below hb1 (Nat.le_refl _)
  have hd' := hd.below hb1
  have c0 : w1.cell? ⟨w.heap.size, 0, none⟩ = some (.int .i64 k) := hL1.cell 0 _ rfl
  have c1 : w1.cell? ⟨w.heap.size, 1, none⟩ = some (.int .i64 n) := hL1.cell 1 _ rfl
  have c2 : w1.cell? ⟨w.heap.size, 2, none⟩ = some (.slice ao data.length cap) := hL1.cell 2 _ rfl
  have HLI := Lib.hid hL1; have HBL : Hid (b < w.heap.size) := h.map.lt
  have hlook := h'.map.look (n := n) (by omega) (by omega)
  rw [Dk.onto_get] at hlook
  have hlen : zs.length ≤ 17592186044416 := by
    have := Dk.len_wt (Dk.onto (·.2) zs)
    simp only [Dk.onto, List.length_map] at this
    have h2 := hs
    simp only [Dk.onto] at h2
    omega
  have hlen' : (Dk.onto (·.1) zs).length < 4611686018427387904 := by rw [h.len]; omega
  have hget2 : Dk.get (Dk.onto (·.2) zs) n = (Dk.get zs n).map (·.2) := Dk.onto_get _ _ _
  have HG2 := Lib.hid hget2; have HS := Lib.hid hs; have HH := Lib.hid h'; have HD := Lib.hid hd'; have HB1 := Lib.hid hb1; have HS1 := Lib.hid hs1; have HL := Lib.hid hlen'
  have HX := Lib.hid h; have HDX := Lib.hid hd
  clear hget2 hs h' hd' hb1 hs1 h hd hL1 hlen' hlen
  have nothing : Dk.done (Dk.onto (·.2) zs) ⟨k, n, data⟩ = Dk.onto (·.2) zs → Applied w b zs ⟨k, n, data⟩ (.returned (.tuple #[])) w1 := fun e =>
    ⟨rfl, zs, HH.out, e.symm, (Kp.all HB1.out), fun k hk => .inl hk⟩
  have HN := Lib.hid nothing
  clear nothing
  have over : ∀ (w2 : World) (zs' : List Row), FilesIn w2 b zs' → Dk.onto (·.2) zs' = Dk.done (Dk.onto (·.2) zs) ⟨k, n, data⟩ → Kp (fun k _ => k ≠ b ∧ ¬ Bl zs k) w1 w2 → (∀ k, Bl zs' k → Bl zs k ∨ w1.heap.size ≤ k) → Applied w b zs ⟨k, n, data⟩ (.returned (.tuple #[])) w2 := fun _ _ h1 h2 h3 h4 =>
    ⟨rfl, _, h1, h2, (Kp.all HB1.out).trans h3, fun k hk => (h4 k hk).imp id (fun h => by have := HS1.out; omega)⟩
  have HO := Lib.hid over
  clear over
  cases hg : Dk.get zs n with
  | none =>
    rw [hg] at hlook
    rw [hg] at HG2
    simp only [Option.map_none, Option.getD_none, Option.isSome_none] at hlook
    rcases hk with rfl | rfl | rfl
    · go_enter Try.func30, Try.ntmps30
      go_wp2_with (at_mapUpdate; refine step_mapUpdate rfl _ _ _ rfl b _ n _ rfl rfl rfl HH.out.map (by omega) (by omega) HL.out ?_; intro w2 hm2 hg2)
      go_end0
      have hp := HH.out.put n hn (.slice none 0 0) [] none (World.grownBy.refl _ _) (fun g e => by cases e) (Owns.empty _ _ _) (fun g e => by simp [Value.ownBlock] at e) hm2 hg2
      exact HO.out _ _ hp.1 (by rw [Dk.onto_put]; unfold Dk.done; rw [HG2.out]; rfl) hp.2.1 hp.2.2
    · go_enter Try.func30, Try.ntmps30
      go_wp2
      go_end0
      exact HN.out (by unfold Dk.done; rw [HG2.out]; rfl)
    · go_enter Try.func30, Try.ntmps30
      go_wp2_with (refine step_delete rfl _ _ rfl b _ n rfl rfl HH.out.map (by omega) (by omega) ?_; intro w2 hm2 hg2)
      go_end0
      have hp := HH.out.del n hm2 hg2
      refine HO.out _ _ hp.1 ?_ hp.2.1 hp.2.2
      rw [Dk.onto_del, Dk.del_none (by rw [HG2.out]; rfl)]
      unfold Dk.done
      rw [HG2.out]
      rfl
  | some z =>
    rw [hg] at hlook
    rw [hg] at HG2
    simp only [Option.map_some, Option.getD_some, Option.isSome_some] at hlook
    obtain ⟨vz, dz⟩ := z
    simp only at hlook
    have hmem := Dk.get_mem hg
    have hoz : Owns w1 0 5 vz dz := HH.out.own _ hmem
    obtain ⟨zo, zc, rfl⟩ : ∃ zo zc, vz = .slice zo dz.length zc := hoz.reads.shape
    have hle : dz.length + data.length ≤ 140737488355328 := by
      have h1 := HS.out
      have h2 : (n, dz) ∈ Dk.onto (·.2) zs := List.mem_map.2 ⟨_, hmem, rfl⟩
      have h3 := Dk.wt_mem h2
      simp only at h3
      omega
    have HM := Lib.hid hmem; have HOZ := Lib.hid hoz; have HLE := Lib.hid hle
    clear hle
    clear hmem hoz
    rcases hk with rfl | rfl | rfl
    · go_enter Try.func30, Try.ntmps30
      go_wp2
      go_end0
      exact HN.out (by unfold Dk.done; rw [HG2.out]; rfl)
    · exact apply_add b zs ⟨2, n, data⟩ _ _ w HX.out rfl hg hn HDX.out HS.out
    · go_enter Try.func30, Try.ntmps30
      go_wp2_with (refine step_delete rfl _ _ rfl b _ n rfl rfl HH.out.map (by omega) (by omega) ?_; intro w2 hm2 hg2)
      go_end0
      have hp := HH.out.del n hm2 hg2
      refine HO.out _ _ hp.1 ?_ hp.2.1 hp.2.2
      rw [Dk.onto_del]
      unfold Dk.done
      rw [HG2.out]
      rfl

end Go.Proofs.Ytffgfjfeoinnfaa
