/- A disk's methods. Written by a program. -/
import Derived.Test.YtffgfjfeoinnfaaDkFiles
namespace Go.Proofs.Ytffgfjfeoinnfaa
open Go.RowKit

set_option maxRecDepth 4000 in
set_option maxHeartbeats 1600000 in
theorem make_any {S : Nat → Prop} {w : World} {d : Nat} {F : Dk.Files} {B : List Dk.Op} (h : DiskAt S w d F B) (n : Int) (hq : B.length ≤ 1099511627776) :
    Calls Try.prog 19 #[.pointer (some ⟨d, 0, none⟩), .int .i64 n] w (HeldAt S w d F (if 1 ≤ n ∧ n ≤ 4294967296 then B ++ [⟨1, n, []⟩] else B)) := by
  have hc := hold_any h 1 n (.slice none 0 0) [] (Reads.empty w) (by simp) hq
  obtain ⟨B2, hB2⟩ : ∃ B2, B2 = if 1 ≤ n ∧ n ≤ 4294967296 then B ++ [⟨1, n, []⟩] else B := ⟨_, rfl⟩
  rw [← hB2] at hc ⊢
  clear hB2
  go_enter Try.func19, Try.ntmps19
  go_wp2_with (go_at_call 31; refine hc.mono ?_; rintro e w' ⟨rfl, h1, h2⟩)
  go_end0
  exact ⟨rfl, h1, h2⟩
set_option maxRecDepth 4000 in
set_option maxHeartbeats 1600000 in
theorem make_nil (n : Int) (w : World) : Calls Try.prog 19 #[.pointer none, .int .i64 n] w (Says w (.tuple #[])) := by
  go_enter Try.func19, Try.ntmps19
  go_wp2_with (go_at_call 31; refine (hold_nil _ _ _ _).mono ?_; rintro e w' ⟨rfl, rfl⟩)
  go_end0
  exact ⟨rfl, rfl⟩
set_option maxRecDepth 4000 in
set_option maxHeartbeats 1600000 in
theorem add_any {S : Nat → Prop} {w : World} {d : Nat} {F : Dk.Files} {B : List Dk.Op} (h : DiskAt S w d F B) (n : Int) (v : Value) (data : List UInt8) (hd : Reads w v data) (hl : data.length ≤ 17592186044416) (hq : B.length ≤ 1099511627776) :
    Calls Try.prog 20 #[.pointer (some ⟨d, 0, none⟩), .int .i64 n, v] w (HeldAt S w d F (if 1 ≤ n ∧ n ≤ 4294967296 then B ++ [⟨2, n, data⟩] else B)) := by
  obtain ⟨ao, cap, rfl⟩ := hd.shape
  have hc := hold_any h 2 n (.slice ao data.length cap) data (hd) hl hq
  obtain ⟨B2, hB2⟩ : ∃ B2, B2 = if 1 ≤ n ∧ n ≤ 4294967296 then B ++ [⟨2, n, data⟩] else B := ⟨_, rfl⟩
  rw [← hB2] at hc ⊢
  clear hB2
  go_enter Try.func20, Try.ntmps20
  go_wp2_with (go_at_call 31; refine hc.mono ?_; rintro e w' ⟨rfl, h1, h2⟩)
  go_end0
  exact ⟨rfl, h1, h2⟩
set_option maxRecDepth 4000 in
set_option maxHeartbeats 1600000 in
theorem add_nil (n : Int) (v : Value) (w : World) : Calls Try.prog 20 #[.pointer none, .int .i64 n, v] w (Says w (.tuple #[])) := by
  go_enter Try.func20, Try.ntmps20
  go_wp2_with (go_at_call 31; refine (hold_nil _ _ _ _).mono ?_; rintro e w' ⟨rfl, rfl⟩)
  go_end0
  exact ⟨rfl, rfl⟩
set_option maxRecDepth 4000 in
set_option maxHeartbeats 1600000 in
theorem drop_any {S : Nat → Prop} {w : World} {d : Nat} {F : Dk.Files} {B : List Dk.Op} (h : DiskAt S w d F B) (n : Int) (hq : B.length ≤ 1099511627776) :
    Calls Try.prog 21 #[.pointer (some ⟨d, 0, none⟩), .int .i64 n] w (HeldAt S w d F (if 1 ≤ n ∧ n ≤ 4294967296 then B ++ [⟨3, n, []⟩] else B)) := by
  have hc := hold_any h 3 n (.slice none 0 0) [] (Reads.empty w) (by simp) hq
  obtain ⟨B2, hB2⟩ : ∃ B2, B2 = if 1 ≤ n ∧ n ≤ 4294967296 then B ++ [⟨3, n, []⟩] else B := ⟨_, rfl⟩
  rw [← hB2] at hc ⊢
  clear hB2
  go_enter Try.func21, Try.ntmps21
  go_wp2_with (go_at_call 31; refine hc.mono ?_; rintro e w' ⟨rfl, h1, h2⟩)
  go_end0
  exact ⟨rfl, h1, h2⟩
set_option maxRecDepth 4000 in
set_option maxHeartbeats 1600000 in
theorem drop_nil (n : Int) (w : World) : Calls Try.prog 21 #[.pointer none, .int .i64 n] w (Says w (.tuple #[])) := by
  go_enter Try.func21, Try.ntmps21
  go_wp2_with (go_at_call 31; refine (hold_nil _ _ _ _).mono ?_; rintro e w' ⟨rfl, rfl⟩)
  go_end0
  exact ⟨rfl, rfl⟩
set_option maxRecDepth 4000 in
set_option maxHeartbeats 1600000 in
theorem crash_none {w : World} {d : Nat} {ao : Option Addr} {cap : Nat} (hl : Lies w d 51 #[.map none, .slice ao 0 cap]) (hcap : cap ≤ 9223372036854775807) (k t : Int) :
    Calls Try.prog 17 #[.pointer (some ⟨d, 0, none⟩), .int .i64 k, .int .i64 t] w fun e w' => e = .returned (.tuple #[]) ∧ Lies w' d 51 #[.map none, .slice none 0 0] ∧ w.grownBy w' (some d) := by
  have hwi := within_any k 0 w
  have e0 : Dk.clamp k 0 = 0 := by unfold Dk.clamp; omega
  rw [e0] at hwi
  have c1 : w.cell? ⟨d, 1, none⟩ = some (.slice ao 0 cap) := hl.cell 1 _ rfl
  have hup := fun u : World => run_ops_upto u ao 0 cap 0 (by omega)
  have HL := Lib.hid hl
  clear hl e0
  go_enter Try.func17, Try.ntmps17
  go_wp2_with (go_at_call 29; refine hwi.mono ?_; rintro e w' ⟨rfl, rfl⟩)
  refine wp_loop_rounds 1 ?_
  rw [rounds_succ]
  go_wp2_with (refine store_part rfl 29 _ _ rfl d 1 51 _ #[.map none, .slice none 0 0] (.slice none 0 0) [.slice none 0 0] rfl rfl rfl (by kernel_rfl) rfl HL.out (Nat.le_of_ble_eq_true rfl) rfl ?_; intro w9 hl9 hg9)
  go_end0
  exact ⟨rfl, hl9, hg9⟩

/-- What a crash reads. -/
theorem DiskP.buffer {S : Nat → Prop} {w : World} {d b : Nat} {bv : Value} {zs : List Row} {qs : List (Dk.Op × Value)} (h : DiskP S w d (some b) bv zs qs) (hf : FilesIn w b zs) :
    RowP (fun k _ => k < w.heap.size ∧ ¬ Bl zs k) w bv 3 (rowsOf Dk.cellO qs) ∧ ∀ q ∈ qs, ReadsP (fun k _ => k < w.heap.size ∧ ¬ Bl zs k) w q.2 q.1.data := by
  refine ⟨RowP.own h.row h.sized fun g e => ?_, fun q hq => (h.data q hq).imp fun k cs t fr e hp => ⟨lt_of_obj e, hp.2.2⟩⟩
  obtain ⟨cs, hc, _⟩ := h.row.cells e
  refine ⟨lt_of_obj hc, fun hb => ?_⟩
  obtain ⟨cs', hc'⟩ := hf.cells hb
  rw [hc] at hc'
  cases hc'
def CrashedAt (S : Nat → Prop) (w : World) (d : Nat) (F : Dk.Files) (e : Ending) (w' : World) : Prop := e = .returned (.tuple #[]) ∧ DiskAt (fun j => S j ∨ w.heap.size ≤ j) w' d F [] ∧ Kp (fun j _ => ¬ S j) w w'
theorem crash_any {S : Nat → Prop} {w : World} {d : Nat} {F : Dk.Files} {B : List Dk.Op} (h : DiskAt S w d F B) (hk : Dk.Kinds B) (hs : Dk.wt F + 2 * Dk.wtB B ≤ 17592186044416) (k t : Int) :
    Calls Try.prog 17 #[.pointer (some ⟨d, 0, none⟩), .int .i64 k, .int .i64 t] w (CrashedAt S w d (Dk.crash F B k t)) := by
  obtain ⟨mv, bv, zs, qs, h1, rfl, rfl⟩ := h
  rcases h1.map with ⟨rfl, rfl, rfl⟩ | ⟨b, rfl, hSb, hf⟩
  · obtain ⟨ao, cap, rfl, _, hcap⟩ := (h1.row.reads h1.sized).shape
    refine (crash_none h1.lies hcap k t).mono ?_
    rintro e w' ⟨rfl, hl, hg⟩
    have e0 : Dk.crash (Dk.onto (·.2) ([] : List Row)) (([] : List (Dk.Op × Value)).map (·.1)) k t = [] := by simp [Dk.crash, Dk.onto, Dk.all]
    rw [e0]
    exact ⟨rfl, ⟨none, .slice none 0 0, [], [], ⟨hl, .inl h1.here, .inl ⟨rfl, rfl, rfl⟩, fun k hk => by obtain ⟨z, hz, _⟩ := hk; simp at hz, OwnsR.empty _ _ _ _, fun g e => by simp [Value.ownBlock] at e, fun q hq => by simp at hq⟩, rfl, rfl⟩, Kp.of_grown hg fun j _ e _ hq => hq (by simp only [Option.some.injEq] at e; exact e ▸ h1.here)⟩
  · obtain ⟨hr, hd⟩ := h1.buffer hf
    refine (crash_some h1.lies hf hr hd hk hs k t).mono ?_
    rintro e w' ⟨rfl, hl, zs', hf', he, hkp, hbl⟩
    refine ⟨rfl, ⟨some b, .slice none 0 0, zs', [], ⟨hl, .inl h1.here, .inr ⟨b, rfl, .inl hSb, hf'⟩, fun k hk => (hbl k hk).imp (h1.blk k) id, OwnsR.empty _ _ _ _, fun g e => by simp [Value.ownBlock] at e, fun q hq => by simp at hq⟩, he.symm, rfl⟩, hkp.imp fun j _ _ hS => ⟨fun e => hS (e ▸ hSb), fun e => hS (e ▸ h1.here), fun hb => hS (h1.blk j hb)⟩⟩

set_option maxRecDepth 4000 in
set_option maxHeartbeats 1600000 in
theorem sync_any {S : Nat → Prop} {w : World} {d : Nat} {F : Dk.Files} {B : List Dk.Op} (h : DiskAt S w d F B) (hk : Dk.Kinds B) (hs : Dk.wt F + 2 * Dk.wtB B ≤ 17592186044416) :
    Calls Try.prog 22 #[.pointer (some ⟨d, 0, none⟩)] w (CrashedAt S w d (Dk.all F B)) := by
  have hc := crash_any h hk hs 9223372036854775807 0
  rw [Dk.crash_all F B 9223372036854775807 0 (by have := Dk.len_wtB B; omega)] at hc
  go_enter Try.func22, Try.ntmps22
  go_wp2_with (go_at_call 17; refine hc.mono ?_; rintro e w' ⟨rfl, h1, h2⟩)
  go_end0
  exact ⟨rfl, h1, h2⟩
set_option maxRecDepth 4000 in
set_option maxHeartbeats 1600000 in
theorem sync_nil (w : World) : Calls Try.prog 22 #[.pointer none] w (Says w (.tuple #[])) := by
  go_enter Try.func22, Try.ntmps22
  go_wp2_with (go_at_call 17; refine (crash_nil _ _ _).mono ?_; rintro e w' ⟨rfl, rfl⟩)
  go_end0
  exact ⟨rfl, rfl⟩
set_option maxRecDepth 4000 in
set_option maxHeartbeats 1600000 in
theorem sync_some {w : World} {d b : Nat} {bv : Value} {zs : List Row} {qs : List (Dk.Op × Value)} (hl : Lies w d 51 #[.map (some b), bv]) (hf : FilesIn w b zs) (hrow : RowP (fun k _ => k < w.heap.size ∧ ¬ Bl zs k) w bv 3 (rowsOf Dk.cellO qs))
    (hdata : ∀ q ∈ qs, ReadsP (fun k _ => k < w.heap.size ∧ ¬ Bl zs k) w q.2 q.1.data) (hkinds : Dk.Kinds (qs.map (·.1))) (hs : Dk.wt (Dk.onto (·.2) zs) + 2 * Dk.wtB (qs.map (·.1)) ≤ 17592186044416) :
    Calls Try.prog 22 #[.pointer (some ⟨d, 0, none⟩)] w (Crashed w d b zs (Dk.all (Dk.onto (·.2) zs) (qs.map (·.1)))) := by
  have hc := crash_some hl hf hrow hdata hkinds hs 9223372036854775807 0
  rw [Dk.crash_all _ (qs.map (·.1)) 9223372036854775807 0 (by have := Dk.len_wtB (qs.map (·.1)); omega)] at hc
  clear hl hf hrow hdata hkinds hs
  go_enter Try.func22, Try.ntmps22
  go_wp2_with (go_at_call 17; refine hc.mono ?_; rintro e w' ⟨rfl, h1⟩)
  go_end0
  exact ⟨rfl, h1⟩

/-- What a call that lists files leaves. -/
def Listed (w : World) (F : Dk.Files) (e : Ending) (w' : World) : Prop := ∃ v, e = .returned v ∧ FilesP (fun k _ => w.heap.size ≤ k) w' v F ∧ Below w.heap.size w w'
set_option maxRecDepth 4000 in
set_option maxHeartbeats 1600000 in
theorem files_nil (w : World) : Calls Try.prog 12 #[.pointer none] w (Says w (.slice none 0 0)) := by
  go_enter Try.func12, Try.ntmps12
  go_wp2
  go_ret
  exact ⟨rfl, rfl⟩
set_option maxRecDepth 4000 in
set_option maxHeartbeats 1600000 in
theorem files_or {w : World} {d : Nat} {mv : Option Nat} {bv : Value} {zs : List Row} (hl : Lies w d 51 #[.map mv, bv]) (hf : FilesOr w mv zs) (hs : Dk.wt (Dk.onto (·.2) zs) ≤ 1099511627776) :
    Calls Try.prog 12 #[.pointer (some ⟨d, 0, none⟩)] w (Listed w (Dk.onto (·.2) zs)) := by
  have hc := list_any hf hs
  have c0 : w.cell? ⟨d, 0, none⟩ = some (.map mv) := hl.cell 0 _ rfl
  clear hl hf hs
  go_enter Try.func12, Try.ntmps12
  go_wp2_with (go_at_call 25; refine hc.mono ?_; rintro e w' ⟨v, rfl, h1, h2⟩; obtain ⟨ao, cap, rfl, _, _⟩ := h1.shape)
  go_ret
  exact ⟨_, rfl, h1, h2⟩
theorem files_any {S : Nat → Prop} {w : World} {d : Nat} {F : Dk.Files} {B : List Dk.Op} (h : DiskAt S w d F B) (hs : Dk.wt F ≤ 1099511627776) : Calls Try.prog 12 #[.pointer (some ⟨d, 0, none⟩)] w (Listed w F) := by
  obtain ⟨mv, bv, zs, qs, h1, rfl, rfl⟩ := h
  exact files_or h1.lies h1.files hs

theorem view_sync {S : Nat → Prop} {w w5 : World} {d g b2 : Nat} {mv : Option Nat} {bv : Value} {zs ys : List Row} {qs : List (Dk.Op × Value)} (h1 : DiskP S w d mv bv zs qs) (hk : Dk.Kinds (qs.map (·.1))) (hs : Dk.wt (Dk.onto (·.2) zs) + 2 * Dk.wtB (qs.map (·.1)) ≤ 17592186044416)
    (hb : Below w.heap.size w w5) (hl : Lies w5 g 51 #[.map (some b2), bv]) (hf : FilesIn w5 b2 ys) (he : Dk.onto (·.2) ys = Dk.onto (·.2) zs) (hbl : ∀ k, Bl ys k → w.heap.size ≤ k) :
    Calls Try.prog 22 #[.pointer (some ⟨g, 0, none⟩)] w5 (Crashed w5 g b2 ys (Dk.all (Dk.onto (·.2) zs) (qs.map (·.1)))) := by
  have hbs := hb.size
  have hr : RowP (fun k _ => k < w.heap.size) w bv 3 (rowsOf Dk.cellO qs) := RowP.own h1.row h1.sized fun j e => by obtain ⟨cs, hc, _⟩ := h1.row.cells e; exact lt_of_obj hc
  have hd : ∀ q ∈ qs, ReadsP (fun k _ => k < w.heap.size) w q.2 q.1.data := fun q hq => (h1.data q hq).imp fun k cs t fr e _ => lt_of_obj e
  have hn : ∀ k, k < w.heap.size → k < w5.heap.size ∧ ¬ Bl ys k := fun k hk => ⟨by omega, fun h => by have := hbl k h; omega⟩
  have := sync_some (qs := qs) hl hf ((hr.keep (Keep.of_below hb)).imp fun k _ _ _ _ hk => hn k hk) (fun q hq => ((hd q hq).keep (Keep.of_below hb)).imp fun k _ _ _ _ hk => hn k hk) hk (by rw [he]; exact hs)
  rw [he] at this
  exact this
theorem view_end {w w5 w6 w7 : World} {g b2 : Nat} {ys : List Row} {F F2 : Dk.Files} {v : Value} (hF : F2 = F) (hb : Below w.heap.size w w5) (hg : w.heap.size ≤ g) (hb2 : w.heap.size ≤ b2) (hbl : ∀ k, Bl ys k → w.heap.size ≤ k) (hkp : Kp (fun k _ => k ≠ b2 ∧ k ≠ g ∧ ¬ Bl ys k) w5 w6)
    (h7 : FilesP (fun k _ => w6.heap.size ≤ k) w7 v F2) (hb7 : Below w6.heap.size w6 w7) : Listed w F (.returned v) w7 := by
  subst hF
  have h5 := hb.size
  have h6 := hkp.size
  refine ⟨v, rfl, h7.imp fun k _ _ _ _ hk => by omega, hb.trans ((hkp.below h5 fun b _ hlt _ => ⟨by omega, by omega, fun h => by have := hbl b h; omega⟩).trans (hb7.mono (by omega)))⟩

set_option maxRecDepth 4000 in
set_option maxHeartbeats 1600000 in
theorem view_nil (w : World) : Calls Try.prog 15 #[.pointer none] w (Says w (.slice none 0 0)) := by
  go_enter Try.func15, Try.ntmps15
  go_wp2
  go_ret
  exact ⟨rfl, rfl⟩
set_option maxRecDepth 4000 in
set_option maxHeartbeats 1600000 in
theorem view_any {S : Nat → Prop} {w : World} {d : Nat} {F : Dk.Files} {B : List Dk.Op} (h : DiskAt S w d F B) (hk : Dk.Kinds B) (hs : Dk.wt F + 2 * Dk.wtB B ≤ 1099511627776) :
    Calls Try.prog 15 #[.pointer (some ⟨d, 0, none⟩)] w (Listed w (Dk.all F B)) := by
  obtain ⟨mv, bv, zs, qs, h1, rfl, rfl⟩ := h
  have hcl := fun u (hu : FilesOr u mv zs) => clone_files hu (by omega)
  have hwt := Dk.wt_all (qs.map (·.1)) (Dk.onto (·.2) zs)
  obtain ⟨ao, cap, rfl⟩ := h1.row.shape
  have hq3 : (rowsOf Dk.cellO qs).length = qs.length := by simp [rowsOf]
  rw [hq3] at h1
  have c0 : w.cell? ⟨d, 0, none⟩ = some (.map mv) := h1.lies.cell 0 _ rfl
  have c1 : w.cell? ⟨d, 1, none⟩ = some (.slice ao qs.length cap) := h1.lies.cell 1 _ rfl
  have H1 := Lib.hid h1; have HCL := Lib.hid hcl; have HW := Lib.hid hwt; have HS := Lib.hid hs; have HK := Lib.hid hk
  clear h1 hcl hwt hs hk hq3
  go_enter Try.func15, Try.ntmps15
  go_wp2
  refine wp_region_held_drew (S := fun W => W.cell? ⟨d, 0, none⟩ = some (.map mv) ∧ W.cell? ⟨d, 1, none⟩ = some (.slice ao qs.length cap)) (by kernel_rfl) (⟨c0, c1⟩) (fun hHeld => ?_)
  refine wpAnyH_take (i := 0) (v := ?v0) rfl (by kernel_rfl) (by kernel_rfl) (by kernel_rfl) (fun _ _ _ h => h) (Or.inl ⟨by rfl, ?hy0⟩) hHeld ?rest0
  case hy0 => (intro W hSw; obtain ⟨s1, s2⟩ := hSw; go_simp; (try with_reducible rfl))
  refine wpAnyH_take (i := 1) (v := ?v1) rfl (by kernel_rfl) (by kernel_rfl) (by kernel_rfl) (fun _ _ _ h => h) (Or.inl ⟨by rfl, ?hy1⟩) hHeld ?rest1
  case hy1 => (intro W hSw; obtain ⟨s1, s2⟩ := hSw; go_simp; (try with_reducible rfl))
  refine wpAnyH_take (i := 2) (v := ?v2) rfl (by kernel_rfl) (by kernel_rfl) (by kernel_rfl) (fun _ _ _ h => h) (Or.inl ⟨by rfl, ?hy2⟩) hHeld ?rest2
  case hy2 => (intro W hSw; obtain ⟨s1, s2⟩ := hSw; go_simp; (try with_reducible rfl))
  refine wpAnyH_take (i := 3) (v := ?v3) rfl (by kernel_rfl) (by kernel_rfl) (by kernel_rfl) (fun _ _ _ h => h) (Or.inl ⟨by rfl, ?hy3⟩) hHeld ?rest3
  case hy3 => (intro W hSw; obtain ⟨s1, s2⟩ := hSw; go_simp; (try with_reducible rfl))
  refine wpAnyH_take (i := 5) (v := ?v5) rfl (by kernel_rfl) (by kernel_rfl) (by kernel_rfl) (fun _ _ _ h => h) (Or.inl ⟨by rfl, ?hy5⟩) hHeld ?rest5
  case hy5 => (intro W hSw; obtain ⟨s1, s2⟩ := hSw; go_simp; (try with_reducible rfl))
  refine wpAnyH_take (i := 6) (v := ?v6) rfl (by kernel_rfl) (by kernel_rfl) (by kernel_rfl) (fun _ _ _ h => h) (Or.inl ⟨by rfl, ?hy6⟩) hHeld ?rest6
  case hy6 => (intro W hSw; obtain ⟨s1, s2⟩ := hSw; go_simp; (try with_reducible rfl))
  refine wpAnyH_take (i := 7) (v := ?v7) rfl (by kernel_rfl) (by kernel_rfl) (by kernel_rfl) (fun _ _ _ h => h) (Or.inl ⟨by rfl, ?hy7⟩) hHeld ?rest7
  case hy7 => (intro W hSw; obtain ⟨s1, s2⟩ := hSw; go_simp; (try with_reducible rfl))
  refine wpAnyH_take (i := 8) (v := ?v8) rfl (by kernel_rfl) (by kernel_rfl) (by kernel_rfl) (fun _ _ _ h => h) (Or.inl ⟨by rfl, ?hy8⟩) hHeld ?rest8
  case hy8 => (intro W hSw; obtain ⟨s1, s2⟩ := hSw; go_simp; (try with_reducible rfl))
  refine wpAnyH_ready (rs := [4, 10]) (by kernel_rfl) (by simp) ?_
  refine AllReadyH.cons rfl (fun K hK => ?_) (AllReadyH.cons rfl (fun K hK => ?_) AllReadyH.nil)
  · rw [if_pos (by rfl)]
    go_simp
    have FW : Hid (FilesOr w.drew mv zs) := H1.out.files.below (drawn w 1)
    go_at_call 28
    refine (HCL.out (w.drew) FW.out).mono ?_
    rintro e w3 ⟨rfl, ⟨ys, hf3, he3, hk3⟩, hb3⟩
    have HF3 := Lib.hid hf3; have HE := Lib.hid he3; have HB3 := Lib.hid hb3; have HK3 := Lib.hid hk3
    clear hf3 he3 hb3 hk3
    have HBW : Hid (Below w.heap.size w w3) := on (drawn w 1) HB3.out
    have HLD3 := Lib.hid (H1.out.lies.below HBW.out H1.out.lies.lt)
    refine hK.out _ _ ⟨HLD3.out.cell 0 _ rfl, HLD3.out.cell 1 _ rfl⟩ (fun hHeld => ?_)
    clear hK K
    refine wpAnyH_take (i := 9) (v := ?v9a) rfl (by kernel_rfl) (by kernel_rfl) (by kernel_rfl) (fun _ _ _ h => h) (Or.inl ⟨by rfl, ?hy9a⟩) hHeld ?rest9a
    case hy9a => (intro W hSw; go_simp; (try with_reducible rfl))
    refine wpAnyH_ready (rs := [10]) (by kernel_rfl) (by simp) ?_
    refine AllReadyH.cons rfl (fun K hK => ?_) AllReadyH.nil
    rw [if_pos (by rfl)]
    go_simp
    have HLD4 := Lib.hid (HLD3.out.alloc (.cells #[.map none, .slice none 0 0] 51))
    refine hK.out _ _ ⟨HLD4.out.cell 0 _ rfl, HLD4.out.cell 1 _ rfl⟩ (fun hHeld => ?_)
    clear hK K
    have HB4 : Hid (Below w.heap.size w (w3.alloc (.cells #[.map none, .slice none 0 0] 51))) := HBW.out.alloc HBW.out.size _
    have HG0 : Hid (w.heap.size ≤ w3.heap.size) := HBW.out.size
    have HG1 : Hid (w.heap.size ≠ w3.heap.size) := by have := HF3.out.map.lt; show _ ≠ _; exact Nat.ne_of_lt this
    have HG2 : Hid (¬ Bl ys w3.heap.size) := fun h => by have := HF3.out.lt h; omega
    have HG3 : Hid (w.heap.size ≤ w.heap.size) := Nat.le_refl _
    have HBLK : Hid (∀ k, Bl ys k → w.heap.size ≤ k) := HK3.out
    have HF4 : Hid (FilesIn (w3.alloc (.cells #[.map none, .slice none 0 0] 51)) w.heap.size ys) := HF3.out.below ((Below.refl _ w3).alloc (Nat.le_refl _) _) (Nat.le_refl _)
    refine wpAnyH_ready (rs := [11]) (by kernel_rfl) (by simp) ?_
    refine ready_store 11 51 (.tmp 3) (.tmp 15) rfl rfl rfl w3.heap.size 0 51 #[.map none, .slice none 0 0] #[.map (some w.heap.size), .slice ao qs.length cap] (.agg #[.map (some w.heap.size), .slice ao qs.length cap]) [.map (some w.heap.size), .slice ao qs.length cap] ?x11a ?y11a rfl (by kernel_rfl) rfl (Lies.new w3 51 #[.map none, .slice none 0 0]) (Nat.le_of_ble_eq_true rfl) rfl ?k11a
    case x11a => kernel_rfl
    case y11a => kernel_rfl
    intro w5 hl5 hg5
    have hb5 : Below w.heap.size w w5 := HB4.out.grown hg5 (by have := HB4.out.size; omega) (fun j e => by simp only [Option.some.injEq] at e; have := HG0.out; omega)
    have HL5 := Lib.hid hl5; have HB5 := Lib.hid hb5
    have HF5 : Hid (FilesIn w5 w.heap.size ys) := (HF4.out).stays (hg5.block _ (HF4.out).map.lt (fun e => HG1.out (Option.some.inj e))) (fun k hk => hg5.block k ((HF4.out).lt hk) (fun e => by simp only [Option.some.injEq] at e; exact HG2.out (e ▸ hk)))
    have HLD5 := Lib.hid (H1.out.lies.below hb5 H1.out.lies.lt)
    clear hl5 hg5 hb5
    refine ⟨⟨HLD5.out.cell 0 _ rfl, HLD5.out.cell 1 _ rfl⟩, fun hHeld => ?_⟩
    refine wpAnyH_done (by kernel_rfl) ?_ _
    clear hHeld c0 c1
    have hsy := view_sync H1.out HK.out (by have := HS.out; omega) HB5.out HL5.out HF5.out HE.out HBLK.out
    have HSY := Lib.hid hsy
    clear hsy
    go_wp2_with (first
      | (go_at_call 22; refine HSY.out.mono ?_; rintro e w6 ⟨rfl, hl6, zs2, hf6, he6, hk6, hb6⟩; have HL6 := Lib.hid hl6; have HF6 := Lib.hid hf6; have HE6 := Lib.hid he6; have HK6 := Lib.hid hk6; clear hl6 hf6 he6 hk6 hb6)
      | (go_at_call 12; refine (files_or HL6.out (.inr ⟨_, rfl, HF6.out⟩) (by rw [HE6.out]; have := HW.out; have := HS.out; omega)).mono ?_; rintro e w7 ⟨v, rfl, h7, hb7⟩; obtain ⟨ao7, cap7, rfl, _, _⟩ := h7.shape))
    go_ret
    exact view_end HE6.out HB5.out HG0.out HG3.out HBLK.out HK6.out h7 hb7
  · rw [if_pos (by rfl)]
    go_simp
    have HB2 : Hid (Below w.heap.size w (w.drew.alloc (.cells #[.map none, .slice none 0 0] 51))) := (drawn w 1).alloc (Nat.le_refl _) _
    have HLD2 := Lib.hid (H1.out.lies.below HB2.out H1.out.lies.lt)
    refine hK.out _ _ ⟨HLD2.out.cell 0 _ rfl, HLD2.out.cell 1 _ rfl⟩ (fun hHeld => ?_)
    clear hK K
    refine wpAnyH_ready (rs := [4]) (by kernel_rfl) (by simp) ?_
    refine AllReadyH.cons rfl (fun K hK => ?_) AllReadyH.nil
    rw [if_pos (by rfl)]
    go_simp
    have FW : Hid (FilesOr (w.drew.alloc (.cells #[.map none, .slice none 0 0] 51)) mv zs) := H1.out.files.below HB2.out
    go_at_call 28
    refine (HCL.out (w.drew.alloc (.cells #[.map none, .slice none 0 0] 51)) FW.out).mono ?_
    rintro e w3 ⟨rfl, ⟨ys, hf3, he3, hk3⟩, hb3⟩
    have HF3 := Lib.hid hf3; have HE := Lib.hid he3; have HB3 := Lib.hid hb3; have HK3 := Lib.hid hk3
    clear hf3 he3 hb3 hk3
    have HBW : Hid (Below w.heap.size w w3) := HB2.out.trans (HB3.out.mono HB2.out.size)
    have HLD3 := Lib.hid (H1.out.lies.below HBW.out H1.out.lies.lt)
    refine hK.out _ _ ⟨HLD3.out.cell 0 _ rfl, HLD3.out.cell 1 _ rfl⟩ (fun hHeld => ?_)
    clear hK K
    refine wpAnyH_take (i := 9) (v := ?v9b) rfl (by kernel_rfl) (by kernel_rfl) (by kernel_rfl) (fun _ _ _ h => h) (Or.inl ⟨by rfl, ?hy9b⟩) hHeld ?rest9b
    case hy9b => (intro W hSw; go_simp; (try with_reducible rfl))
    have HSA : Hid ((w.drew.alloc (.cells #[.map none, .slice none 0 0] 51)).heap.size = w.heap.size + 1) := World.size_alloc w.drew _
    have HG0 : Hid (w.heap.size ≤ w.heap.size) := Nat.le_refl _
    have HG1 : Hid (w.heap.size + 1 ≠ w.heap.size) := by show _ ≠ _; omega
    have HG2 : Hid (¬ Bl ys w.heap.size) := fun h => by have h2 := HK3.out _ h; rw [HSA.out] at h2; omega
    have HG3 : Hid (w.heap.size ≤ w.heap.size + 1) := Nat.le_succ _
    have HBLK : Hid (∀ k, Bl ys k → w.heap.size ≤ k) := fun k hk => by have h2 := HK3.out k hk; rw [HSA.out] at h2; omega
    have HL4 : Hid (Lies w3 w.heap.size 51 #[.map none, .slice none 0 0]) := (Lies.new w.drew 51 #[.map none, .slice none 0 0]).below HB3.out (Nat.lt_of_lt_of_le (Nat.lt_succ_self _) (Nat.le_of_eq HSA.out.symm))
    have HF4 : Hid (FilesIn w3 (w.heap.size + 1) ys) := by show FilesIn _ _ _; rw [← HSA.out]; exact HF3.out
    refine wpAnyH_ready (rs := [11]) (by kernel_rfl) (by simp) ?_
    refine ready_store 11 51 (.tmp 3) (.tmp 15) rfl rfl rfl w.heap.size 0 51 #[.map none, .slice none 0 0] #[.map (some (w.heap.size + 1)), .slice ao qs.length cap] (.agg #[.map (some (w.heap.size + 1)), .slice ao qs.length cap]) [.map (some (w.heap.size + 1)), .slice ao qs.length cap] ?x11b ?y11b rfl (by kernel_rfl) rfl HL4.out (Nat.le_of_ble_eq_true rfl) rfl ?k11b
    case x11b => kernel_rfl
    case y11b => kernel_rfl
    intro w5 hl5 hg5
    have hb5 : Below w.heap.size w w5 := HBW.out.grown hg5 (by have := HBW.out.size; omega) (fun j e => by simp only [Option.some.injEq] at e; have := HG0.out; omega)
    have HL5 := Lib.hid hl5; have HB5 := Lib.hid hb5
    have HF5 : Hid (FilesIn w5 (w.heap.size + 1) ys) := (HF4.out).stays (hg5.block _ (HF4.out).map.lt (fun e => HG1.out (Option.some.inj e))) (fun k hk => hg5.block k ((HF4.out).lt hk) (fun e => by simp only [Option.some.injEq] at e; exact HG2.out (e ▸ hk)))
    have HLD5 := Lib.hid (H1.out.lies.below hb5 H1.out.lies.lt)
    clear hl5 hg5 hb5
    refine ⟨⟨HLD5.out.cell 0 _ rfl, HLD5.out.cell 1 _ rfl⟩, fun hHeld => ?_⟩
    refine wpAnyH_done (by kernel_rfl) ?_ _
    clear hHeld c0 c1
    have hsy := view_sync H1.out HK.out (by have := HS.out; omega) HB5.out HL5.out HF5.out HE.out HBLK.out
    have HSY := Lib.hid hsy
    clear hsy
    go_wp2_with (first
      | (go_at_call 22; refine HSY.out.mono ?_; rintro e w6 ⟨rfl, hl6, zs2, hf6, he6, hk6, hb6⟩; have HL6 := Lib.hid hl6; have HF6 := Lib.hid hf6; have HE6 := Lib.hid he6; have HK6 := Lib.hid hk6; clear hl6 hf6 he6 hk6 hb6)
      | (go_at_call 12; refine (files_or HL6.out (.inr ⟨_, rfl, HF6.out⟩) (by rw [HE6.out]; have := HW.out; have := HS.out; omega)).mono ?_; rintro e w7 ⟨v, rfl, h7, hb7⟩; obtain ⟨ao7, cap7, rfl, _, _⟩ := h7.shape))
    go_ret
    exact view_end HE6.out HB5.out HG0.out HG3.out HBLK.out HK6.out h7 hb7

end Go.Proofs.Ytffgfjfeoinnfaa
