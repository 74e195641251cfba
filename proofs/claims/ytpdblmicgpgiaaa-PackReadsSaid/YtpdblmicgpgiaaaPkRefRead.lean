/- The document's answer: what is read. -/
import Derived.Test.YtpdblmicgpgiaaaPkRef
import Derived.Test.YtpdblmicgpgiaaaRefGet
import Derived.Test.YtpdblmicgpgiaaaPkRd
namespace Go.Proofs.Ytpdblmicgpgiaaa
open Go.RowKit

theorem Pk.read_err {b : List UInt8} {p : Nat} {k most n q e : Int} (hk : k ≠ 3) (he : e ≠ 0) (h : Pk.num b p most = (n, q, e)) : Pk.read b p k most = (Pk.zero, 0, e) := by
  have hc : Pk.cnt b p most = (n, q, e) := by unfold Pk.cnt; rw [h]; simp [he]
  have ht : (Pk.txt b p most).2.2 = e := by unfold Pk.txt; rw [hc]; simp [he]
  unfold Pk.read
  rw [h, hc, ht]
  simp [hk, he]
theorem Pk.read_short {b : List UInt8} {p n q : Nat} {k most : Int} (h1 : k ≠ 1) (h3 : k ≠ 3) (hn : (b.length : Int) - q < n) (h : Pk.num b p most = ((n : Int), (q : Int), 0)) : Pk.read b p k most = (Pk.zero, 0, 1) := by
  have hc : Pk.cnt b p most = (0, (q : Int), 1) := by unfold Pk.cnt; rw [h]; simp [hn]
  have ht : (Pk.txt b p most).2.2 = 1 := by unfold Pk.txt; rw [hc]; simp
  unfold Pk.read
  rw [hc, ht]
  simp [h1, h3]
theorem Pk.read_num {b : List UInt8} {p n q : Nat} {most : Int} (h : Pk.num b p most = ((n : Int), (q : Int), 0)) : Pk.read b p 1 most = (⟨1, n, [], false⟩, (q : Int), 0) := by
  unfold Pk.read
  rw [h]
  simp
theorem Pk.read_cnt {b : List UInt8} {p n q : Nat} {most : Int} (hn : ¬ (b.length : Int) - q < n) (h : Pk.num b p most = ((n : Int), (q : Int), 0)) : Pk.read b p 4 most = (⟨4, n, [], false⟩, (q : Int), 0) := by
  have hc : Pk.cnt b p most = ((n : Int), (q : Int), 0) := by unfold Pk.cnt; rw [h]; simp [hn]
  unfold Pk.read
  rw [hc]
  simp
theorem Pk.read_txt {b : List UInt8} {p n q : Nat} {k most : Int} (h1 : k ≠ 1) (h3 : k ≠ 3) (h4 : k ≠ 4) (hn : ¬ (b.length : Int) - q < n) (h : Pk.num b p most = ((n : Int), (q : Int), 0)) :
    Pk.read b p k most = (⟨2, 0, (b.drop q).take n, false⟩, ((q + n : Nat) : Int), 0) := by
  have hc : Pk.cnt b p most = ((n : Int), (q : Int), 0) := by unfold Pk.cnt; rw [h]; simp [hn]
  have ht : Pk.txt b p most = ((b.drop q).take n, ((q + n : Nat) : Int), 0) := by unfold Pk.txt; rw [hc]; simp
  unfold Pk.read
  rw [ht]
  simp [h1, h3, h4]
theorem Pk.read_flag {b : List UInt8} {p : Nat} {most : Int} : Pk.read b p 3 most = if (Pk.flg b p).2.2 ≠ 0 then (Pk.zero, 0, (Pk.flg b p).2.2) else (⟨3, 0, [], (Pk.flg b p).1⟩, (Pk.flg b p).2.1, 0) := by
  unfold Pk.read
  rw [if_pos rfl]

/-- A struct that lies in a block of its own, read whole. -/
theorem run_struct (w : World) (g : Nat) (cs : List Value) (h : Lies w g 32 cs.toArray) (hc : cs.length = 4) : (loadVar 32 ⟨g, 0, none⟩).run Try.prog w = .ok (.agg cs.toArray) w :=
  run_loadVar_row w g _ _ cs.toArray (0, 0) _ h Try.underlying32 rfl (by rw [List.size_toArray, hc]; kernel_rfl)

theorem results_cell1 {fn : Func} {p : Tmp} {ty : TypeId} (h : fn.results = #[.cell p ty]) (tmps : Array Value) (P : Program) (w : World) :
    (results fn tmps).run P w = ((asAddr (tmps.getD p undef)).run P w).andThen fun a w₁ => (loadVar ty a).run P w₁ := by
  simp only [results, h]
  simp [Sem.run_bind, Result.andThen]
theorem results_cell3 {fn : Func} {p u x : Tmp} {ty : TypeId} (h : fn.results = #[.cell p ty, .tmp u, .tmp x]) (tmps : Array Value) (P : Program) (w : World) :
    (results fn tmps).run P w = ((asAddr (tmps.getD p undef)).run P w).andThen fun a w₁ => ((loadVar ty a).run P w₁).andThen fun v w₂ => .ok (.tuple #[v, tmps.getD u undef, tmps.getD x undef]) w₂ := by
  simp only [results, h]
  simp [Sem.run_bind, Result.andThen]

/-- Out of a function whose first result lies in memory. -/
theorem ret_cell3 {fn : Func} {R : Ending → World → Prop} {a : Act} {w : World} {p u x : Tmp} {g : Nat} {cs : List Value} (h : fn.results = #[.cell p 32, .tmp u, .tmp x]) (hp : a.tmps.getD p undef = .pointer (some ⟨g, 0, none⟩))
    (hl : Lies w g 32 cs.toArray) (hc : cs.length = 4) (hd : a.defers = []) (hR : R (.returned (.tuple #[.agg cs.toArray, a.tmps.getD u undef, a.tmps.getD x undef])) w) : bodyPost Try.prog fn R .ret a w := by
  refine bodyPost_ret ?_ hd hR
  rw [results_cell3 h, hp]
  have := run_struct w g cs hl hc
  simp [asAddr, Result.andThen, this]
theorem ret_cell1 {fn : Func} {R : Ending → World → Prop} {a : Act} {w : World} {p : Tmp} {g : Nat} {cs : List Value} (h : fn.results = #[.cell p 32]) (hp : a.tmps.getD p undef = .pointer (some ⟨g, 0, none⟩))
    (hl : Lies w g 32 cs.toArray) (hc : cs.length = 4) (hd : a.defers = []) (hR : R (.returned (.agg cs.toArray)) w) : bodyPost Try.prog fn R .ret a w := by
  refine bodyPost_ret ?_ hd hR
  rw [results_cell1 h, hp]
  have := run_struct w g cs hl hc
  simp [asAddr, Result.andThen, this]

/-- The post of the document's reading. -/
def Read3 (w : World) (r : Fld × Int × Int) (e : Ending) (w' : World) : Prop :=
  e = .returned (.tuple #[.agg r.1.cells.toArray, .int .i64 r.2.1, .int .i64 r.2.2]) ∧ Below w.heap.size w w'

set_option maxRecDepth 4000 in
set_option maxHeartbeats 1600000 in
theorem refRead_any (v : Value) (b : List UInt8) (p : Nat) (k most : Int) (w : World) (hv : Reads w v b) (hp : p ≤ b.length) (hb : b.length ≤ 70368744177664) :
    Calls Try.prog 14 #[v, .int .i64 (p : Int), .int .i64 k, .int .i64 most] w (Read3 w (Pk.read b p k most)) := by
  obtain ⟨ao, cap, rfl⟩ := hv.shape
  by_cases hk : k = 3
  · subst hk
    rw [Pk.read_flag]
    by_cases hpe : p = b.length
    · subst hpe
      rw [Pk.flg_end]
      go_enter Try.func14, Try.ntmps14
      go_wp2
      refine ret_cell3 rfl rfl (Lies.new w _ _) rfl rfl ?_
      exact ⟨rfl, (Below.refl _ w).alloc (Nat.le_refl _) _⟩
    · obtain ⟨c, hc⟩ : ∃ c, b[p]? = some c := ⟨_, List.getElem?_eq_getElem (by omega)⟩
      obtain ⟨g, off, rfl, hcell⟩ := hv.place (by omega)
      have hcc := hcell p c hc
      have hal : ∀ o, (w.alloc o).cell? ⟨g, off + p, none⟩ = some (.int .u8 (c.toNat : Int)) := fun o => by rw [← hcc]; exact World.cell?_alloc_lt w o _ (World.block_lt_of_cell? w _ hcc)
      rw [Pk.flg_at hc]
      have hu8 : (c.toNat : Int) < 256 := by have := c.toNat_lt; omega
      have hlt : (p : Int) < (b.length : Int) := by omega
      clear hcell
      by_cases h1 : 1 < c.toNat
      · rw [if_pos h1]
        go_enter Try.func14, Try.ntmps14
        go_wp2
        refine ret_cell3 rfl rfl (Lies.new w _ _) rfl rfl ?_
        exact ⟨rfl, (Below.refl _ w).alloc (Nat.le_refl _) _⟩
      · rw [if_neg h1]
        obtain ⟨t, ht⟩ : ∃ t, t = ((c.toNat : Int) == 1) := ⟨_, rfl⟩
        have ht' : (c.toNat == 1) = t := by rw [ht, Bool.eq_iff_iff]; simp only [beq_iff_eq]; constructor <;> intro <;> omega
        rw [ht']
        replace ht := ht.symm
        clear ht'
        go_enter Try.func14, Try.ntmps14
        go_wp2
        refine ret_cell3 rfl rfl (Lies.new w _ _) rfl rfl ?_
        exact ⟨rfl, (Below.refl _ w).alloc (Nat.le_refl _) _⟩
  · have hva : ∀ o, Reads (w.alloc o) (.slice ao b.length cap) b := fun o => hv.below ((Below.refl _ w).alloc (Nat.le_refl _) _)
    rcases Pk.num_cases b p most with ⟨e, he, hg, hn⟩ | ⟨n, q, hg, h1, h2, h3, h4, hn⟩ | ⟨n, q, hg, h1, h2, h3, h4, hn⟩
    · rw [Pk.read_err hk he hn]
      have HG := Lib.hid hg
      clear hg hn
      go_enter Try.func14, Try.ntmps14
      go_wp2_with fail
      refine (refGet_is _ b p _ _ _ _ (hva _) HG).mono ?_
      rintro e1 w1 ⟨rfl, rfl⟩
      go_wp2
      refine ret_cell3 rfl rfl (Lies.new w _ _) rfl rfl ?_
      exact ⟨rfl, (Below.refl _ w).alloc (Nat.le_refl _) _⟩
    · rw [Pk.read_err hk (by omega) hn]
      have HG := Lib.hid hg
      clear hg hn
      go_enter Try.func14, Try.ntmps14
      go_wp2_with fail
      refine (refGet_is _ b p _ _ _ _ (hva _) HG).mono ?_
      rintro e1 w1 ⟨rfl, rfl⟩
      go_wp2
      refine ret_cell3 rfl rfl (Lies.new w _ _) rfl rfl ?_
      exact ⟨rfl, (Below.refl _ w).alloc (Nat.le_refl _) _⟩
    · have HG := Lib.hid hg
      have h4' : ¬ most < (n : Int) := by omega
      by_cases hk1 : k = 1
      · subst hk1
        rw [Pk.read_num hn]
        clear hg hn
        go_enter Try.func14, Try.ntmps14
        go_wp2_with fail
        refine (refGet_is _ b p _ _ _ _ (hva _) HG).mono ?_
        rintro e1 w1 ⟨rfl, rfl⟩
        go_wp2
        refine ret_cell3 rfl rfl (Lies.new w _ _) rfl rfl ?_
        exact ⟨rfl, (Below.refl _ w).alloc (Nat.le_refl _) _⟩
      · obtain ⟨d, hd⟩ : ∃ d : Nat, (b.length : Int) - (q : Int) = (d : Int) := ⟨b.length - q, by omega⟩
        by_cases hs : (d : Int) < (n : Int)
        · rw [Pk.read_short hk1 hk (by rw [hd]; exact hs) hn]
          clear hg hn
          go_enter Try.func14, Try.ntmps14
          go_wp2_with fail
          refine (refGet_is _ b p _ _ _ _ (hva _) HG).mono ?_
          rintro e1 w1 ⟨rfl, rfl⟩
          go_wp2
          refine ret_cell3 rfl rfl (Lies.new w _ _) rfl rfl ?_
          exact ⟨rfl, (Below.refl _ w).alloc (Nat.le_refl _) _⟩
        · by_cases hk4 : k = 4
          · subst hk4
            rw [Pk.read_cnt (by rw [hd]; exact hs) hn]
            clear hg hn
            go_enter Try.func14, Try.ntmps14
            go_wp2_with fail
            refine (refGet_is _ b p _ _ _ _ (hva _) HG).mono ?_
            rintro e1 w1 ⟨rfl, rfl⟩
            go_wp2
            refine ret_cell3 rfl rfl (Lies.new w _ _) rfl rfl ?_
            exact ⟨rfl, (Below.refl _ w).alloc (Nat.le_refl _) _⟩
          · rw [Pk.read_txt hk1 hk hk4 (by rw [hd]; exact hs) hn]
            obtain ⟨z, hz⟩ : ∃ z : Nat, z = q + n := ⟨_, rfl⟩
            have hzi : (q : Int) + (n : Int) = (z : Int) := by omega
            rw [← hz]
            have hcap := hv.len.2
            have hp2 := (hva (.cells #[.int .i64 0, .int .i64 0, .string ⟨#[]⟩, .bool false] 32)).part q z (by omega) (by omega)
            obtain ⟨uo, uc, hu⟩ := hp2.shape
            have hrun : ∀ w, (Instr.slice 26 (.slice ao b.length cap) (some (.int .i64 (q : Int))) (some (.int .i64 (z : Int))) none).run Try.prog w = .ok (.slice uo ((b.drop q).take (z - q)).length uc) w := by
              intro w
              rw [run_part w ao _ cap q z (by omega) (by omega), hu]
            rw [hu] at hp2
            have hst := run_string_of (P := Try.prog) _ Try.underlying26 Try.underlying5 Try.underlying9 hp2
            rw [show z - q = n by omega] at hst hrun
            obtain ⟨m, hm⟩ : ∃ m, m = ((b.drop q).take n).length := ⟨_, rfl⟩
            rw [← hm] at hst hrun
            clear hg hn hp2 hu hm hz
            go_enter Try.func14, Try.ntmps14
            go_wp2_with fail
            refine (refGet_is _ b p _ _ _ _ (hva _) HG).mono ?_
            rintro e1 w1 ⟨rfl, rfl⟩
            go_wp2
            refine ret_cell3 rfl rfl (Lies.new w _ _) rfl rfl ?_
            exact ⟨rfl, (Below.refl _ w).alloc (Nat.le_refl _) _⟩
end Go.Proofs.Ytpdblmicgpgiaaa
