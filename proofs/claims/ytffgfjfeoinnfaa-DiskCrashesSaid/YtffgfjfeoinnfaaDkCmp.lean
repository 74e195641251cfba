/- Lists of files, of operations, held against each other. Written by a program. -/
import Derived.Test.YtffgfjfeoinnfaaDkRef
import Derived.Test.YtffgfjfeoinnfaaGNum
namespace Go.Proofs.Ytffgfjfeoinnfaa
open Go.RowKit

theorem Tells.behind {P : Program} {f : FuncId} {args : Array Value} {w : World} {p : Behind w} {v : Value} (h : Calls P f args p.world (Tells p.world v)) :
    Calls P f args p.world fun e w'' => e = .returned v ∧ ∃ q : Behind w, w'' = q.world :=
  h.mono fun _ w' ⟨he, n, hw⟩ => ⟨he, ⟨w', p.below.trans ((hw ▸ drawn p.world n : Below p.world.heap.size p.world w').mono p.below.size)⟩, rfl⟩

set_option maxRecDepth 4000 in
set_option maxHeartbeats 1600000 in
theorem same_ref {p p' : Nat → TypeId → Prop} {w : World} {v u : Value} {F : List (Int × List UInt8)} (h : FilesP p w v F) (h' : FilesP p' w u F) (hl : F.length ≤ 1099511627776) : Calls Try.prog 11 #[v, u] w (Looks w (.bool true)) := by
  obtain ⟨ao, cap, rfl, hc1, hc2⟩ := h.shape
  obtain ⟨bo, dap, rfl, hd1, hd2⟩ := h'.shape
  by_cases h0 : F.length = 0
  · obtain rfl : F = [] := List.eq_nil_of_length_eq_zero h0
    clear h h'
    go_enter Try.func11, Try.ntmps11
    go_wp2
    refine wp_loop_rounds 1 ?_
    rw [rounds_succ]
    go_wp2
    go_ret
    exact ⟨rfl, Below.refl _ _⟩
  · obtain ⟨b1, o1, rfl, _, hp1⟩ := h.places cellF_first (by omega)
    obtain ⟨b2, o2, rfl, _, hp2⟩ := h'.places cellF_first (by omega)
    have HP1 := Lib.hid hp1; have HP2 := Lib.hid hp2
    obtain ⟨m, hm⟩ : ∃ m, m = F.length := ⟨_, rfl⟩
    rw [← hm] at hl hc1 hd1 ⊢
    have HM := Lib.hid hm
    clear h h' hp1 hp2 hm h0
    go_enter Try.func11, Try.ntmps11
    go_wp2
    go_loopw [5] (fun x wr => ∃ i : Nat, x = .int .i64 (i : Int) ∧ i ≤ m ∧ Below w.heap.size w wr) (fun x _ => m - (intOf x).toNat)
    case atStart => exact ⟨0, rfl, Nat.zero_le _, Below.refl _ _⟩
    case round =>
      obtain ⟨i, rfl, him, hB⟩ := hrel
      have HB := Lib.hid hB
      clear hB
      by_cases hlt : i < m
      · have hint : ((i : Nat) : Int) < (m : Int) := by omega
        obtain ⟨f, hf⟩ : ∃ f, F[i]? = some f := ⟨_, List.getElem?_eq_getElem (by have := HM.out; omega)⟩
        obtain ⟨u1, hr1, c1⟩ := HP1.out i f hf
        obtain ⟨u2, hr2, c2⟩ := HP2.out i f hf
        obtain ⟨ax, cx, rfl⟩ := hr1.1.shape
        obtain ⟨bx, dx, rfl⟩ := hr2.1.shape
        have r1 : ∀ q : Behind wr, Reads q.world (.slice ax (f.2).length cx) (f.2) := fun q => hr1.1.below (HB.out.trans (q.below.mono HB.out.size))
        have r2 : ∀ q : Behind wr, Reads q.world (.slice bx (f.2).length dx) (f.2) := fun q => hr2.1.below (HB.out.trans (q.below.mono HB.out.size))
        have k0 : ∀ q : Behind wr, q.world.cell? ⟨b1, o1 + i * 2, none⟩ = some (.int .i64 f.1) := fun q => c1 _ (HB.out.trans (q.below.mono HB.out.size)) 0 _ rfl
        have k1 : ∀ q : Behind wr, q.world.cell? ⟨b2, o2 + i * 2, none⟩ = some (.int .i64 f.1) := fun q => c2 _ (HB.out.trans (q.below.mono HB.out.size)) 0 _ rfl
        have k2 : ∀ q : Behind wr, q.world.cell? ⟨b1, o1 + i * 2 + 1, none⟩ = some (.slice ax (f.2).length cx) := fun q => c1 _ (HB.out.trans (q.below.mono HB.out.size)) 1 _ rfl
        have k3 : ∀ q : Behind wr, q.world.cell? ⟨b2, o2 + i * 2 + 1, none⟩ = some (.slice bx (f.2).length dx) := fun q => c2 _ (HB.out.trans (q.below.mono HB.out.size)) 1 _ rfl
        have R1 := Lib.hid r1; have R2 := Lib.hid r2
        clear hr1 hr2 c1 c2 r1 r2
        have e0 : ((f.1 : Int) != f.1) = false := by simp
        have hbb : ((f.2) == (f.2)) = true := by simp
        have HBB := Lib.hid hbb
        clear hbb
        go_wp2
        refine wp_region_behind (by kernel_rfl) (by kernel_rfl) ?_
        repeat (go_big_quiet_step ((go_at_call 24; exact Tells.behind (same_any _ _ (f.2) (f.2) _ (R1.out _) (R2.out _)))))
        refine wpQuiet_nil ?_
        rintro w5 ⟨⟨w5, hB5⟩, rfl⟩
        (try dsimp only)
        rw [HBB.out]
        have HB5 := Lib.hid (HB.out.trans (hB5.mono HB.out.size))
        clear hB5 k0 k1 k2 k3
        go_wp2
        go_roundw
        case rel => exact ⟨i + 1, by simp, by omega, HB5.out⟩
        case measure => simp [intOf]; omega
      · have hint : ¬ ((i : Nat) : Int) < (m : Int) := by omega
        go_wp2
        go_ret
        exact ⟨rfl, HB.out⟩

set_option maxRecDepth 4000 in
set_option maxHeartbeats 1600000 in
theorem ops_ref {p p' : Nat → TypeId → Prop} {w : World} {v u : Value} {F : List (Dk.Op)} (h : OpsP p w v F) (h' : OpsP p' w u F) (hl : F.length ≤ 1099511627776) : Calls Try.prog 13 #[v, u] w (Looks w (.bool true)) := by
  obtain ⟨ao, cap, rfl, hc1, hc2⟩ := h.shape
  obtain ⟨bo, dap, rfl, hd1, hd2⟩ := h'.shape
  by_cases h0 : F.length = 0
  · obtain rfl : F = [] := List.eq_nil_of_length_eq_zero h0
    clear h h'
    go_enter Try.func13, Try.ntmps13
    go_wp2
    refine wp_loop_rounds 1 ?_
    rw [rounds_succ]
    go_wp2
    go_ret
    exact ⟨rfl, Below.refl _ _⟩
  · obtain ⟨b1, o1, rfl, _, hp1⟩ := h.places cellO_first (by omega)
    obtain ⟨b2, o2, rfl, _, hp2⟩ := h'.places cellO_first (by omega)
    have HP1 := Lib.hid hp1; have HP2 := Lib.hid hp2
    obtain ⟨m, hm⟩ : ∃ m, m = F.length := ⟨_, rfl⟩
    rw [← hm] at hl hc1 hd1 ⊢
    have HM := Lib.hid hm
    clear h h' hp1 hp2 hm h0
    go_enter Try.func13, Try.ntmps13
    go_wp2
    go_loopw [5] (fun x wr => ∃ i : Nat, x = .int .i64 (i : Int) ∧ i ≤ m ∧ Below w.heap.size w wr) (fun x _ => m - (intOf x).toNat)
    case atStart => exact ⟨0, rfl, Nat.zero_le _, Below.refl _ _⟩
    case round =>
      obtain ⟨i, rfl, him, hB⟩ := hrel
      have HB := Lib.hid hB
      clear hB
      by_cases hlt : i < m
      · have hint : ((i : Nat) : Int) < (m : Int) := by omega
        obtain ⟨f, hf⟩ : ∃ f, F[i]? = some f := ⟨_, List.getElem?_eq_getElem (by have := HM.out; omega)⟩
        obtain ⟨u1, hr1, c1⟩ := HP1.out i f hf
        obtain ⟨u2, hr2, c2⟩ := HP2.out i f hf
        obtain ⟨ax, cx, rfl⟩ := hr1.1.shape
        obtain ⟨bx, dx, rfl⟩ := hr2.1.shape
        have r1 : ∀ q : Behind wr, Reads q.world (.slice ax (f.data).length cx) (f.data) := fun q => hr1.1.below (HB.out.trans (q.below.mono HB.out.size))
        have r2 : ∀ q : Behind wr, Reads q.world (.slice bx (f.data).length dx) (f.data) := fun q => hr2.1.below (HB.out.trans (q.below.mono HB.out.size))
        have k0 : ∀ q : Behind wr, q.world.cell? ⟨b1, o1 + i * 3, none⟩ = some (.int .i64 f.kind) := fun q => c1 _ (HB.out.trans (q.below.mono HB.out.size)) 0 _ rfl
        have k1 : ∀ q : Behind wr, q.world.cell? ⟨b2, o2 + i * 3, none⟩ = some (.int .i64 f.kind) := fun q => c2 _ (HB.out.trans (q.below.mono HB.out.size)) 0 _ rfl
        have k2 : ∀ q : Behind wr, q.world.cell? ⟨b1, o1 + i * 3 + 1, none⟩ = some (.int .i64 f.no) := fun q => c1 _ (HB.out.trans (q.below.mono HB.out.size)) 1 _ rfl
        have k3 : ∀ q : Behind wr, q.world.cell? ⟨b2, o2 + i * 3 + 1, none⟩ = some (.int .i64 f.no) := fun q => c2 _ (HB.out.trans (q.below.mono HB.out.size)) 1 _ rfl
        have k4 : ∀ q : Behind wr, q.world.cell? ⟨b1, o1 + i * 3 + 2, none⟩ = some (.slice ax (f.data).length cx) := fun q => c1 _ (HB.out.trans (q.below.mono HB.out.size)) 2 _ rfl
        have k5 : ∀ q : Behind wr, q.world.cell? ⟨b2, o2 + i * 3 + 2, none⟩ = some (.slice bx (f.data).length dx) := fun q => c2 _ (HB.out.trans (q.below.mono HB.out.size)) 2 _ rfl
        have R1 := Lib.hid r1; have R2 := Lib.hid r2
        clear hr1 hr2 c1 c2 r1 r2
        have e0 : ((f.kind : Int) != f.kind) = false := by simp
        have e1 : ((f.no : Int) != f.no) = false := by simp
        have hbb : ((f.data) == (f.data)) = true := by simp
        have HBB := Lib.hid hbb
        clear hbb
        go_wp2
        refine wp_region_behind (by kernel_rfl) (by kernel_rfl) ?_
        repeat (go_big_quiet_step ((go_at_call 24; exact Tells.behind (same_any _ _ (f.data) (f.data) _ (R1.out _) (R2.out _)))))
        refine wpQuiet_nil ?_
        rintro w5 ⟨⟨w5, hB5⟩, rfl⟩
        (try dsimp only)
        rw [HBB.out]
        have HB5 := Lib.hid (HB.out.trans (hB5.mono HB.out.size))
        clear hB5 k0 k1 k2 k3 k4 k5
        go_wp2
        go_roundw
        case rel => exact ⟨i + 1, by simp, by omega, HB5.out⟩
        case measure => simp [intOf]; omega
      · have hint : ¬ ((i : Nat) : Int) < (m : Int) := by omega
        go_wp2
        go_ret
        exact ⟨rfl, HB.out⟩

end Go.Proofs.Ytffgfjfeoinnfaa
