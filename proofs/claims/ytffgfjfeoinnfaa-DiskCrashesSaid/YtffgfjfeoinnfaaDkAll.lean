/- The document's All. -/
import Derived.Test.YtffgfjfeoinnfaaDkRef
namespace Go.Proofs.Ytffgfjfeoinnfaa
open Go.RowKit

set_option maxRecDepth 4000 in
set_option maxHeartbeats 1600000 in
theorem all_ref {p pd : Nat → TypeId → Prop} {w : World} {v u : Value} {F : Dk.Files} {B : List Dk.Op} (h : FilesP p w v F) (h' : OpsP pd w u B) (ha : Dk.Asc F) (hk : Dk.Kinds B) (hs : Dk.wt F + 2 * Dk.wtB B ≤ 68719476736) :
    Calls Try.prog 16 #[v, u] w (FilesMade p w (Dk.all F B)) := by
  obtain ⟨bo, dap, rfl, hd1, hd2⟩ := h'.shape
  have hlB := Dk.len_wtB B
  obtain ⟨m, hm⟩ : ∃ m, m = B.length := ⟨_, rfl⟩
  have hl : m ≤ 1099511627776 := by omega
  obtain ⟨fo, fc, rfl, _, _⟩ := h.shape
  have H := Lib.hid h; have HA := Lib.hid ha; have HK := Lib.hid hk; have HS := Lib.hid hs; have HM := Lib.hid hm
  have HEL : Hid (∀ i, i < m → ∃ (b0 off : Nat) (x : Dk.Op) (ax : Option Addr) (cx : Nat), bo = some ⟨b0, off, none⟩ ∧ B[i]? = some x ∧
      ∀ W : World, Below w.heap.size w W → ReadsP pd W (.slice ax x.data.length cx) x.data ∧ W.cell? ⟨b0, off + i * 3, none⟩ = some (.int .i64 x.kind) ∧ W.cell? ⟨b0, off + i * 3 + 1, none⟩ = some (.int .i64 x.no) ∧ W.cell? ⟨b0, off + i * 3 + 2, none⟩ = some (.slice ax x.data.length cx)) := by
    intro i hi
    obtain ⟨b0, off, e, _, hp⟩ := h'.places cellO_first (by omega)
    obtain ⟨x, hx⟩ : ∃ x, B[i]? = some x := ⟨_, List.getElem?_eq_getElem (by omega)⟩
    obtain ⟨u, hu, hc⟩ := hp i x hx
    obtain ⟨ax, cx, rfl⟩ := hu.1.shape
    exact ⟨b0, off, x, ax, cx, e, hx, fun W hW => ⟨hu.keep (Keep.of_below hW), hc W hW 0 _ rfl, hc W hW 1 _ rfl, hc W hW 2 _ rfl⟩⟩
  rw [← hm] at hd1 ⊢
  clear h h' ha hk hs hm hlB
  go_enter Try.func16, Try.ntmps16
  go_wp2
  go_loopw [0, 5] (fun l x wr => ∃ i : Nat, x = .int .i64 (i : Int) ∧ i ≤ m ∧ Hid (FilesP (madeP p w.heap.size) wr l (Dk.all F (B.take i))) ∧ Below w.heap.size w wr) (fun _ x _ => m - (intOf x).toNat)
  case atStart => exact ⟨0, rfl, Nat.zero_le _, H.out.imp fun _ _ _ _ _ hp => .inl hp, Below.refl _ _⟩
  case round =>
    obtain ⟨i, rfl, him, hF, hB⟩ := hrel
    have HB := Lib.hid hB
    obtain ⟨lo, lc, rfl, _, _⟩ := hF.out.shape
    clear hB
    by_cases hlt : i < m
    · have hint : ((i : Nat) : Int) < (m : Int) := by omega
      obtain ⟨b0, off, ⟨k, n, data⟩, ax, cx, rfl, hx, hw⟩ := HEL.out i hlt
      obtain ⟨hr, c0, c1, c2⟩ := hw wr HB.out
      have hxm := List.mem_of_getElem? hx
      have hdone := done_ref (p := madeP p w.heap.size) hF.out (Dk.asc_all HA.out _) k n (.slice ax data.length cx) data hr (HK.out _ hxm).1 (by
        have h1 := Dk.wt_all (B.take i) F
        have h2 := Dk.wtB_split B i
        have h3 := Dk.wtB_mem hxm
        have h4 := HS.out
        simp only at h3
        omega)
      have HX := Lib.hid hx; have HD := Lib.hid hdone
      clear hx hr hw hdone hxm
      obtain ⟨q, hq⟩ : ∃ q, q = (Dk.all F (B.take i)).length := ⟨_, rfl⟩
      have HQ := Lib.hid hq
      rw [← hq] at HD ⊢
      clear hq
      go_wp2_with (go_at_call 23; refine HD.out.mono ?_; rintro e w2 ⟨v2, rfl, h2, hb2⟩; have H2 := Lib.hid h2; have HB2 := Lib.hid hb2; clear h2 hb2)
      go_roundw
      case rel =>
        refine ⟨i + 1, by simp, by omega, ?_, HB.out.trans (HB2.out.mono HB.out.size)⟩
        show FilesP _ _ _ _
        rw [Dk.all_step HX.out]
        have hs := HB.out.size
        exact H2.out.imp fun k _ t _ _ hp => by
          rcases hp with hp | hp
          · exact hp
          · exact .inr ⟨hp.1, by omega⟩
      case measure => simp [intOf]; omega
    · have hint : ¬ ((i : Nat) : Int) < (m : Int) := by omega
      have hi : i = m := by omega
      have HI := Lib.hid hi
      clear hi
      go_wp2
      go_ret
      have e : B.take i = B := List.take_of_length_le (by have := HI.out; have := HM.out; omega)
      have hF' := hF.out
      rw [e] at hF'
      exact ⟨_, rfl, by rw [e]; exact hF', HB.out⟩

end Go.Proofs.Ytffgfjfeoinnfaa
