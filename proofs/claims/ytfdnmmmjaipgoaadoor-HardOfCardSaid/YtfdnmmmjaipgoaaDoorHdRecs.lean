/- Lists of records that came in; are there too many, or too large ones. -/
import Derived.Test.YtfdnmmmjaipgoaaDoorHdMem
import Derived.Test.YtfdnmmmjaipgoaaDoorReCame
import Derived.Test.YtfdnmmmjaipgoaaDoorGRh
import Derived.Test.YtfdnmmmjaipgoaaDoorDkList
namespace Go.Proofs.YtfdnmmmjaipgoaaDoor
open Go.RowKit

abbrev RecsP (p : Nat → TypeId → Prop) (w : World) (v : Value) (l : List Re.Rec) : Prop := ListP 12 Re.cells Re.Rec.img p w v l
theorem cellR_first (a : Re.Rec) (u : Value) : ∃ v, (Re.cells a u)[0]? = some v := ⟨_, rfl⟩
theorem cellR_ok (a : Re.Rec) (u : Value) : (Re.cells a u).size = 12 ∧ (u.oneCell' = true → (Re.cells a u).all (·.oneCell') = true) := ⟨rfl, fun h => by simp [Re.cells, h]; repeat' (first | rfl | constructor)⟩
section
variable {H : Type} {enc : TypeId × Value → H} {w : World} {b0 base : Nat} {held : Bool}
set_option maxRecDepth 20000 in
theorem came_recs {v : Value} {d : DataW H} {p : List MemPlace} (hv : Value.okWide Tryd.prog w .any b0 22 v) (h : DataW.Trod enc Tryd.prog w base (fun _ => true) held 22 v d p) :
    ∃ l : List Re.Rec, RecsP (fun k _ => k < w.heap.size) w v l ∧ ∀ x ∈ l, x.Fits ∧ x.cmd.Short 9223372036854775807 := by
  obtain ⟨l, hr, hf⟩ := came_rows (fun a : Re.Rec × Value => Re.cells a.1 a.2) (fun a => Reads w a.2 a.1.img ∧ a.1.Fits ∧ a.1.cmd.Short 9223372036854775807) Tryd.underlying22 (by kernel_rfl) (fun m cs y hm => by
    obtain ⟨a, vi, h1, h2⟩ := el_rec m cs y hm
    exact ⟨(a, vi), h1, h2⟩) hv h
  refine ⟨l.map (·.1), ⟨l, rfl, RowP.of_reads hr (by omega) (rowsOf_sized cellR_ok fun q hq => ?_) (fun b t hb => hb), fun q hq => ReadsP.of_reads (hf q hq).1 (fun b t hb => hb)⟩, fun x hx => ?_⟩
  · obtain ⟨ao, c, e⟩ := (hf q hq).1.shape
    rw [e]
    rfl
  · obtain ⟨q, hq, rfl⟩ := List.mem_map.1 hx
    exact (hf q hq).2
end
def LargishR (w : World) (l : List Re.Rec) (e : Ending) (w' : World) : Prop := ∃ b : Bool, e = .returned (.bool b) ∧ Below w.heap.size w w' ∧ (b = false → l.length ≤ 40 ∧ ∀ x ∈ l, Re.large x = false ∧ x.img.length ≤ 300)
set_option maxRecDepth 4000 in
set_option maxHeartbeats 1600000 in
theorem largeH_any {p : Nat → TypeId → Prop} (v : Value) (l : List Re.Rec) (w : World) (hv : RecsP p w v l) (hs : ∀ x ∈ l, x.cmd.Short 9223372036854775807) : Calls Tryd.prog 6 #[v] w (LargishR w l) := by
  obtain ⟨ao, cap, rfl, hc1, hc2⟩ := ListP.shape hv
  have HP := Lib.hid (fun h => ListP.places hv cellR_first h)
  obtain ⟨n, hn⟩ : ∃ n, n = l.length := ⟨_, rfl⟩
  rw [← hn] at hc1 HP ⊢
  have HN := Lib.hid hn; have HS := Lib.hid hs
  have hnb : n < 9223372036854775808 := by omega
  clear hv hn hs
  go_enter Tryd.func6, Tryd.ntmps6
  go_wp2
  go_loopw [3] (fun i wr => ∃ k : Nat, i = .int .i64 (k : Int) ∧ k ≤ n ∧ Hid (∀ c ∈ l.take k, Re.large c = false ∧ c.img.length ≤ 300) ∧ Hid (k ≤ 40) ∧ Hid (Below w.heap.size w wr)) (fun i _ => n - (intOf i).toNat)
  case atStart => exact ⟨0, rfl, by omega, by show ∀ c ∈ _, _; simp, by show 0 ≤ 40; omega, Below.refl _ _⟩
  case round =>
    obtain ⟨k, rfl, hk, HI, HK, HB⟩ := hrel
    by_cases hlt : k < n
    · have d1 : decide (k < n) = true := decide_eq_true hlt
      by_cases h40 : k < 40
      · have d2 : decide ((k : Int) < 40) = true := decide_eq_true (by omega)
        have h40' : (k : Int) < 40 := by omega
        obtain ⟨c, hcl⟩ : ∃ c, l[k]? = some c := ⟨_, List.getElem?_eq_getElem (by have := HN.out; omega)⟩
        obtain ⟨g, off, rfl, _, hc⟩ := HP.out (by have := HN.out; omega)
        obtain ⟨u, hu, hcell⟩ := hc k c hcl
        obtain ⟨uo, uc, rfl⟩ := hu.1.shape
        have hcw := hcell wr HB.out
        have m0 : wr.cell? ⟨g, off + k * 12, none⟩ = some (.int .i64 c.kind) := hcw 0 _ rfl
        have m1 : wr.cell? ⟨g, off + k * 12 + 1, none⟩ = some (.int .i64 c.bal.round) := hcw 1 _ rfl
        have m2 : wr.cell? ⟨g, off + k * 12 + 2, none⟩ = some (.int .i64 c.bal.node) := hcw 2 _ rfl
        have m3 : wr.cell? ⟨g, off + k * 12 + 3, none⟩ = some (.int .i64 c.index) := hcw 3 _ rfl
        have m4 : wr.cell? ⟨g, off + k * 12 + 4, none⟩ = some (.int .i64 c.cmd.kind) := hcw 4 _ rfl
        have m5 : wr.cell? ⟨g, off + k * 12 + 5, none⟩ = some (.int .i64 c.cmd.client) := hcw 5 _ rfl
        have m6 : wr.cell? ⟨g, off + k * 12 + 6, none⟩ = some (.int .i64 c.cmd.seq) := hcw 6 _ rfl
        have m7 : wr.cell? ⟨g, off + k * 12 + 7, none⟩ = some (.string ⟨c.cmd.key.toArray⟩) := hcw 7 _ rfl
        have m8 : wr.cell? ⟨g, off + k * 12 + 8, none⟩ = some (.string ⟨c.cmd.val.toArray⟩) := hcw 8 _ rfl
        have m9 : wr.cell? ⟨g, off + k * 12 + 9, none⟩ = some (.string ⟨c.cmd.old.toArray⟩) := hcw 9 _ rfl
        have m10 : wr.cell? ⟨g, off + k * 12 + 10, none⟩ = some (.int .i64 c.cmd.node) := hcw 10 _ rfl
        have m11 : wr.cell? ⟨g, off + k * 12 + 11, none⟩ = some (.slice uo c.img.length uc) := hcw 11 _ rfl
        have hlr := largeRe_any c (.slice uo c.img.length uc) wr (hu.1.below HB.out) (HS.out c (List.mem_of_getElem? hcl))
        have HCL := Lib.hid hcl; have HC := Lib.hid hcell
        clear hc hcl hcell hu hcw
        go_wp2_with fail
        refine hlr.mono ?_
        rintro e w2 ⟨rfl, hb2⟩
        have HB2 := Lib.hid (HB.out.trans (hb2.mono HB.out.size))
        clear hlr hb2 m0 m1 m2 m3 m4 m5 m6 m7 m8 m9 m10 m11
        have m11 : w2.cell? ⟨g, off + k * 12 + 11, none⟩ = some (.slice uo c.img.length uc) := HC.out w2 HB2.out 11 _ rfl
        obtain ⟨m, hm⟩ : ∃ m, m = c.img.length := ⟨_, rfl⟩
        rw [← hm] at m11
        obtain ⟨t, ht⟩ : ∃ t, t = Re.large c := ⟨_, rfl⟩
        rw [← ht]
        have HM := Lib.hid hm; have HT := Lib.hid ht
        clear hm ht HC
        cases t with
        | true =>
          go_wp2
          go_ret
          exact ⟨true, rfl, HB2.out, fun h => by cases h⟩
        | false =>
          by_cases hb : 300 < m
          · go_wp2
            go_ret
            exact ⟨true, rfl, HB2.out, fun h => by cases h⟩
          · have HI2 : Hid (∀ c ∈ l.take (k + 1), Re.large c = false ∧ c.img.length ≤ 300) := by
              intro d hd
              rw [List.take_add_one, HCL.out] at hd
              rcases List.mem_append.1 hd with hd | hd
              · exact HI.out d hd
              · simp at hd; subst hd; exact ⟨HT.out.symm, by have := HM.out; omega⟩
            go_wp2
            go_roundw
            case rel => exact ⟨k + 1, by go_num, by omega, HI2.out, by show k + 1 ≤ 40; omega, HB2⟩
            case measure => simp [intOf]; omega
      · have d2 : decide ((k : Int) < 40) = false := decide_eq_false (by omega)
        have h40' : ¬ (k : Int) < 40 := by omega
        have hb : 40 < n := by have := HK.out; omega
        go_wp2
        go_ret
        exact ⟨true, by simp; omega, HB.out, fun h => by cases h⟩
    · obtain rfl : k = n := by omega
      have hb : ¬ 40 < k := by have := HK.out; omega
      go_wp2
      go_ret
      refine ⟨false, by simp; omega, HB.out, fun _ => ⟨by have := HN.out; omega, fun c hc => HI.out c ?_⟩⟩
      rw [List.take_of_length_le (by have := HN.out; omega)]
      exact hc

end Go.Proofs.YtfdnmmmjaipgoaaDoor
