/- The law's begins: each file a beginning of one of the same number. -/
import Derived.Test.YtffgfjfeoinnfaaDkCmp
import Derived.Test.YtffgfjfeoinnfaaDkCrash
namespace Go.Proofs.Ytffgfjfeoinnfaa
open Go.RowKit

/-- What begins tells. -/
def Begun (w : World) (F G : Dk.Files) (e : Ending) (w' : World) : Prop := ∃ b : Bool, e = .returned (.bool b) ∧ Below w.heap.size w w' ∧ (Dk.begins F G → b = true)

set_option maxRecDepth 4000 in
set_option maxHeartbeats 3200000 in
theorem begins_any {p p' : Nat → TypeId → Prop} {w : World} {v u : Value} {F G : Dk.Files} (h : FilesP p w v F) (h' : FilesP p' w u G) (hl : F.length ≤ 1099511627776) (hl' : G.length ≤ 1099511627776) :
    Calls Try.prog 18 #[v, u] w (Begun w F G) := by
  obtain ⟨ao, cap, rfl, hc1, hc2⟩ := h.shape
  obtain ⟨bo, dap, rfl, hd1, hd2⟩ := h'.shape
  obtain ⟨m, hm⟩ : ∃ m, m = F.length := ⟨_, rfl⟩
  obtain ⟨n, hn⟩ : ∃ n, n = G.length := ⟨_, rfl⟩
  rw [← hm] at hl hc1 ⊢
  rw [← hn] at hl' hd1 ⊢
  have HM := Lib.hid hm; have HN := Lib.hid hn
  by_cases hmn : m = n
  · subst hmn
    by_cases h0 : m = 0
    · subst h0
      clear h h' hm hn
      go_enter Try.func18, Try.ntmps18
      go_wp2
      refine wp_loop_rounds 1 ?_
      rw [rounds_succ]
      go_wp2
      go_ret
      exact ⟨true, rfl, Below.refl _ _, fun _ => rfl⟩
    · obtain ⟨b1, o1, e1, _, hp1⟩ := ListP.places (hm ▸ h) cellF_first (by omega)
      obtain ⟨b2, o2, e2, _, hp2⟩ := ListP.places (hn ▸ h') cellF_first (by omega)
      have HP1 := Lib.hid hp1; have HP2 := Lib.hid hp2
      subst e1 e2
      clear h h' hp1 hp2 hm hn h0
      go_enter Try.func18, Try.ntmps18
      go_wp2
      go_loopw [5] (fun x wr => ∃ i : Nat, x = .int .i64 (i : Int) ∧ i ≤ m ∧ Below w.heap.size w wr) (fun x _ => m - (intOf x).toNat)
      case atStart => exact ⟨0, rfl, Nat.zero_le _, Below.refl _ _⟩
      case round =>
        obtain ⟨i, rfl, him, hB⟩ := hrel
        have HB := Lib.hid hB
        clear hB
        by_cases hlt : i < m
        · have hint : ((i : Nat) : Int) < (m : Int) := by omega
          obtain ⟨f, hf⟩ : ∃ f, F[i]? = some f := ⟨_, List.getElem?_eq_getElem (by have := HM.out; omega)⟩
          obtain ⟨g, hg⟩ : ∃ g, G[i]? = some g := ⟨_, List.getElem?_eq_getElem (by have := HN.out; omega)⟩
          obtain ⟨fn, fd⟩ := f
          obtain ⟨gn, gd⟩ := g
          obtain ⟨u1, hr1, c1⟩ := HP1.out i _ hf
          obtain ⟨u2, hr2, c2⟩ := HP2.out i _ hg
          simp only at hr1 hr2
          obtain ⟨ax, cx, rfl⟩ := hr1.1.shape
          obtain ⟨bx, dx, rfl⟩ := hr2.1.shape
          have r1 : ∀ q : Behind wr, Reads q.world (.slice ax fd.length cx) fd := fun q => hr1.1.below (HB.out.trans (q.below.mono HB.out.size))
          have k0 : ∀ q : Behind wr, q.world.cell? ⟨b1, o1 + i * 2, none⟩ = some (.int .i64 fn) := fun q => c1 _ (HB.out.trans (q.below.mono HB.out.size)) 0 _ rfl
          have k1 : ∀ q : Behind wr, q.world.cell? ⟨b2, o2 + i * 2, none⟩ = some (.int .i64 gn) := fun q => c2 _ (HB.out.trans (q.below.mono HB.out.size)) 0 _ rfl
          have k2 : ∀ q : Behind wr, q.world.cell? ⟨b1, o1 + i * 2 + 1, none⟩ = some (.slice ax fd.length cx) := fun q => c1 _ (HB.out.trans (q.below.mono HB.out.size)) 1 _ rfl
          have k3 : ∀ q : Behind wr, q.world.cell? ⟨b2, o2 + i * 2 + 1, none⟩ = some (.slice bx gd.length dx) := fun q => c2 _ (HB.out.trans (q.below.mono HB.out.size)) 1 _ rfl
          have hbd := hr2.1.len
          have r2 : fd.length ≤ gd.length → ∀ q : Behind wr, Reads q.world (.slice bx fd.length dx) (gd.take fd.length) := fun hle q => (hr2.1.below (HB.out.trans (q.below.mono HB.out.size))).first fd.length hle
          have R1 := Lib.hid r1; have R2 := Lib.hid r2; have HF := Lib.hid hf; have HG := Lib.hid hg
          have hdx : gd.length ≤ dx := hbd.2.1
          have hdx2 : dx ≤ 9223372036854775807 := hbd.2.2.1
          clear hr1 hr2 c1 c2 r1 r2 hf hg hbd
          by_cases h1 : fn = gn
          · subst h1
            have e0 : ((fn : Int) != fn) = false := by simp
            by_cases h2 : gd.length < fd.length
            · have e1 : decide (gd.length < fd.length) = true := decide_eq_true h2
              have H2 := Lib.hid h2
              clear h2
              go_wp2
              refine wp_region_behind (by kernel_rfl) (by kernel_rfl) ?_
              repeat (go_big_quiet_step (fail))
              refine wpQuiet_nil ?_
              rintro w5 ⟨⟨w5, hB5⟩, rfl⟩
              (try dsimp only)
              have HB5 := Lib.hid (HB.out.trans (hB5.mono HB.out.size))
              clear hB5 k0 k1 k2 k3
              go_wp2
              go_ret
              refine ⟨false, rfl, HB5.out, fun hb => ?_⟩
              have := (hb.2 i _ _ HF.out HG.out).2.length_le
              have := H2.out
              simp only at *
              omega
            · have e1 : decide (gd.length < fd.length) = false := decide_eq_false h2
              have hup := fun u : World => run_bytes_upto u bx gd.length dx fd.length (by omega)
              have H2 : Hid (fd.length ≤ gd.length) := Nat.not_lt.1 h2
              clear h2
              by_cases h3 : fd = gd.take fd.length
              · have hbb : (fd == gd.take fd.length) = true := by simpa using h3
                have HBB := Lib.hid hbb
                clear hbb h3
                go_wp2
                refine wp_region_behind (by kernel_rfl) (by kernel_rfl) ?_
                repeat (go_big_quiet_step ((go_at_call 24; exact Tells.behind (same_any _ _ fd (gd.take fd.length) _ (R1.out _) (R2.out H2.out _)))))
                refine wpQuiet_nil ?_
                rintro w5 ⟨⟨w5, hB5⟩, rfl⟩
                (try dsimp only)
                rw [HBB.out]
                have HB5 := Lib.hid (HB.out.trans (hB5.mono HB.out.size))
                clear hB5 k0 k1 k2 k3
                go_wp2
                go_roundw
                case rel => exact ⟨i + 1, by simp, by omega, HB5.out⟩
                case measure => simp [intOf]; omega
              · have hbb : (fd == gd.take fd.length) = false := by simpa using h3
                have HBB := Lib.hid hbb; have H3 := Lib.hid h3
                clear hbb h3
                go_wp2
                refine wp_region_behind (by kernel_rfl) (by kernel_rfl) ?_
                repeat (go_big_quiet_step ((go_at_call 24; exact Tells.behind (same_any _ _ fd (gd.take fd.length) _ (R1.out _) (R2.out H2.out _)))))
                refine wpQuiet_nil ?_
                rintro w5 ⟨⟨w5, hB5⟩, rfl⟩
                (try dsimp only)
                rw [HBB.out]
                have HB5 := Lib.hid (HB.out.trans (hB5.mono HB.out.size))
                clear hB5 k0 k1 k2 k3
                go_wp2
                go_ret
                refine ⟨false, rfl, HB5.out, fun hb => ?_⟩
                exact absurd (List.prefix_iff_eq_take.1 (hb.2 i _ _ HF.out HG.out).2) H3.out
          · have e0 : ((fn : Int) != gn) = true := by simpa using h1
            have H1 := Lib.hid h1
            clear h1
            go_wp2
            refine wp_region_behind (by kernel_rfl) (by kernel_rfl) ?_
            repeat (go_big_quiet_step (fail))
            refine wpQuiet_nil ?_
            rintro w5 ⟨⟨w5, hB5⟩, rfl⟩
            (try dsimp only)
            have HB5 := Lib.hid (HB.out.trans (hB5.mono HB.out.size))
            clear hB5 k0 k1 k2 k3
            go_wp2
            go_ret
            exact ⟨false, rfl, HB5.out, fun hb => absurd (hb.2 i _ _ HF.out HG.out).1 H1.out⟩
        · have hint : ¬ ((i : Nat) : Int) < (m : Int) := by omega
          go_wp2
          go_ret
          exact ⟨true, rfl, HB.out, fun _ => rfl⟩
  · have hne : ((m : Int) != (n : Int)) = true := by simpa using fun e : (m : Int) = n => hmn (by omega)
    have HNE := Lib.hid hmn
    clear h h' hm hn hmn
    go_enter Try.func18, Try.ntmps18
    go_wp2
    go_ret
    exact ⟨false, rfl, Below.refl _ _, fun hb => absurd (by rw [HM.out, HN.out, hb.1]) HNE.out⟩

end Go.Proofs.Ytffgfjfeoinnfaa
