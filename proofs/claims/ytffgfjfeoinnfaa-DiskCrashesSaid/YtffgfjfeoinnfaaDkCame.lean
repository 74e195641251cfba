/- Steps that came in; are there too many. -/
import Derived.Test.YtffgfjfeoinnfaaDkMem
import Derived.Test.YtffgfjfeoinnfaaDkMath
import Derived.Test.YtffgfjfeoinnfaaRow
namespace Go.Proofs.Ytffgfjfeoinnfaa
open Go.RowKit

theorem cellS_first (a : Dk.Step) (u : Value) : ∃ v, (Dk.cellS a u)[0]? = some v := ⟨_, rfl⟩
section
variable {H : Type} {enc : TypeId × Value → H} {w : World} {b0 base : Nat} {held : Bool}
set_option maxRecDepth 20000 in
theorem el_bytes18 (m : Nat) (cs : List Value) (y : DataW H × List MemPlace) (h : DataW.trod enc Try.prog w base (fun _ => true) held m 33 cs = some y) : ∃ u l, cs = [u] ∧ Reads w u l := by
  rcases ChangeShapes.open_ints Try.underlying33 Try.underlying5 (by kernel_rfl) h with ⟨rfl, _⟩ | ⟨x, l, c, zs, rfl, _, hl, hm, hz, _, hcell, hwz⟩
  · exact ⟨_, [], rfl, Reads.empty w⟩
  · exact ⟨_, _, rfl, reads_row (zs := zs) (.inr ⟨_, rfl, hl, hm, by simpa using hz, hcell, hwz⟩)⟩
set_option maxRecDepth 20000 in
theorem el_step (m : Nat) (cs : List Value) (y : DataW H × List MemPlace) (h : DataW.trod enc Try.prog w base (fun _ => true) held m 35 cs = some y) :
    ∃ a : Dk.Step × Value, cs = (Dk.cellS a.1 a.2).toList ∧ Reads w a.2 a.1.data := by
  obtain ⟨ys, n, _, _, hl, hlen, hat⟩ := DataW.trod_struct Try.underlying35 h
  have hce : Try.prog.cellsOf 35 = 4 := by kernel_rfl
  have hci : Try.prog.cellsOf 3 = 1 := by kernel_rfl
  have hcs : Try.prog.cellsOf 33 = 1 := by kernel_rfl
  have g0 := hat 0 _ rfl
  have g1 := hat 1 _ rfl
  have g2 := hat 2 _ rfl
  have g3 := hat 3 _ rfl
  rw [List.getElem?_eq_getElem (by rw [hlen]; simp)] at g0 g1 g2 g3
  obtain ⟨k, e0, _, _⟩ := one_int Try.underlying3 g0 hci
  obtain ⟨no, e1, _, _⟩ := one_int Try.underlying3 g1 hci
  obtain ⟨z, e2, _, _⟩ := one_int Try.underlying3 g2 hci
  have g3' : DataW.trod enc Try.prog w base (fun _ => true) held n 33 ((cs.drop 3).take (Try.prog.cellsOf 33)) = some _ := g3
  rw [hcs] at g3'
  obtain ⟨u, l, e3, hu⟩ := el_bytes18 _ _ _ g3'
  rw [hce] at hl
  match cs, hl with
  | [c0, c1, c2, c3], _ =>
    simp at e0 e1 e2 e3
    subst e0 e1 e2 e3
    exact ⟨(⟨k, no, z, l⟩, _), rfl, hu⟩
set_option maxRecDepth 20000 in
theorem came_steps {v : Value} {d : DataW H} {p : List MemPlace} (hv : Value.okWide Try.prog w .any b0 22 v) (h : DataW.Trod enc Try.prog w base (fun _ => true) held 22 v d p) :
    ∃ l : List Dk.Step, StepsP (fun k _ => k < w.heap.size) w v l := by
  obtain ⟨l, hr, hf⟩ := came_rows (fun a : Dk.Step × Value => Dk.cellS a.1 a.2) (fun a => Reads w a.2 a.1.data) Try.underlying22 (by kernel_rfl) (fun m cs y hm => el_step m cs y hm) hv h
  refine ⟨l.map (·.1), l, rfl, RowP.of_reads hr (by omega) (rowsOf_sized Dk.cellS_ok fun q hq => ?_) (fun b t hb => hb), fun q hq => ReadsP.of_reads (hf q hq) (fun b t hb => hb)⟩
  obtain ⟨ao, c, e⟩ := (hf q hq).shape
  rw [e]
  rfl
end

def Largish (w : World) (l : List Dk.Step) (e : Ending) (w' : World) : Prop := ∃ b : Bool, e = .returned (.bool b) ∧ w' = w ∧ (b = false → l.length ≤ 60 ∧ ∀ s ∈ l, s.data.length ≤ 100)
set_option maxHeartbeats 1600000 in
theorem large_any {p : Nat → TypeId → Prop} (v : Value) (l : List Dk.Step) (w : World) (hv : StepsP p w v l) : Calls Try.prog 6 #[v] w (Largish w l) := by
  obtain ⟨ao, cap, rfl, hc1, hc2⟩ := ListP.shape hv
  have HP := Lib.hid (fun h => ListP.places hv cellS_first h)
  obtain ⟨n, hn⟩ : ∃ n, n = l.length := ⟨_, rfl⟩
  rw [← hn] at hc1 HP ⊢
  have HN := Lib.hid hn
  have hnb : n < 9223372036854775808 := by omega
  clear hv hn
  go_enter Try.func6, Try.ntmps6
  go_wp2
  go_loopw [3] (fun i wr => ∃ k : Nat, i = .int .i64 (k : Int) ∧ k ≤ n ∧ Hid (∀ c ∈ l.take k, c.data.length ≤ 100) ∧ Hid (k ≤ 60) ∧ wr = w) (fun i _ => n - (intOf i).toNat)
  case atStart => exact ⟨0, rfl, by omega, by show ∀ c ∈ _, _; simp, by show 0 ≤ 60; omega, rfl⟩
  case round =>
    obtain ⟨k, rfl, hk, HI, HK, rfl⟩ := hrel
    by_cases hlt : k < n
    · have d1 : decide (k < n) = true := decide_eq_true hlt
      by_cases h40 : k < 60
      · have d2 : decide ((k : Int) < 60) = true := decide_eq_true (by omega)
        have h40' : (k : Int) < 60 := by omega
        obtain ⟨c, hcl⟩ : ∃ c, l[k]? = some c := ⟨_, List.getElem?_eq_getElem (by have := HN.out; omega)⟩
        obtain ⟨g, off, rfl, _, hc⟩ := HP.out (by have := HN.out; omega)
        obtain ⟨u, hu, hcell⟩ := hc k c hcl
        obtain ⟨uo, uc, rfl⟩ := hu.1.shape
        have c3 : wr.cell? ⟨g, off + k * 4 + 3, none⟩ = some (.slice uo c.data.length uc) := hcell wr (Below.refl _ _) 3 _ rfl
        have HCL := Lib.hid hcl
        obtain ⟨m, hm⟩ : ∃ m, m = c.data.length := ⟨_, rfl⟩
        rw [← hm] at c3
        have HM := Lib.hid hm
        clear hc hcl hcell hm hu
        by_cases hb : 100 < m
        · go_wp2
          go_ret
          exact ⟨true, rfl, rfl, fun h => by cases h⟩
        · have HI2 : Hid (∀ c ∈ l.take (k + 1), c.data.length ≤ 100) := by
            intro d hd
            rw [List.take_add_one, HCL.out] at hd
            rcases List.mem_append.1 hd with hd | hd
            · exact HI.out d hd
            · simp at hd; subst hd; have := HM.out; omega
          go_wp2
          go_roundw
          case rel => exact ⟨k + 1, by go_num, by omega, HI2.out, by show k + 1 ≤ 60; omega, (by first | rfl | trivial)⟩
          case measure => simp [intOf]; omega
      · have d2 : decide ((k : Int) < 60) = false := decide_eq_false (by omega)
        have h40' : ¬ (k : Int) < 60 := by omega
        have hb : 60 < n := by have := HK.out; omega
        go_wp2
        go_ret
        exact ⟨true, by simp; omega, rfl, fun h => by cases h⟩
    · obtain rfl : k = n := by omega
      have hb : ¬ 60 < k := by have := HK.out; omega
      go_wp2
      go_ret
      refine ⟨false, by simp; omega, rfl, fun _ => ⟨by have := HN.out; omega, fun c hc => HI.out c ?_⟩⟩
      rw [List.take_of_length_le (by have := HN.out; omega)]
      exact hc

end Go.Proofs.Ytffgfjfeoinnfaa
