/- Sessions found: what tells them, the search, what is found. -/
import Derived.Test.YtibpmhogapccoaaSeMem
namespace Go.Proofs.Ytibpmhogapccoaa
open Go.RowKit

/-- What tells the sessions of a client. -/
abbrev BelF (g : Nat) : Value := .func (.func 27) #[] #[.pointer (some ⟨g, 0, none⟩)]
theorem belongsTo_any (c : Int) (w : World) : Calls Try.prog 21 #[.int .i64 c] w fun e w' => e = .returned (BelF w.heap.size) ∧ Lies w' w.heap.size 3 #[.int .i64 c] ∧ Below w.heap.size w w' := by
  have hmf : ∀ (fn : Fn) (first cap : Array Value) (w : World), (Instr.makeFunc fn first cap).run Try.prog w = .ok (.func fn first cap) w := fun _ _ _ _ => rfl
  go_enter Try.func21, Try.ntmps21
  go_wp2
  go_ret
  exact ⟨rfl, Lies.new _ _ _, (Below.refl _ w).alloc (Nat.le_refl _) _⟩
theorem bel_any (s : Se.Ses) (c : Int) (g : Nat) (w : World) (hl : Lies w g 3 #[.int .i64 c]) : Calls Try.prog 27 #[.agg (Se.cells s), .pointer (some ⟨g, 0, none⟩)] w (Looks w (.bool (Se.is c s))) := by
  obtain ⟨w1, e1, hl1, hB1, hz1⟩ := box_ses w s
  obtain ⟨p0, _⟩ := Sess.eight hl1
  have hc : w1.cell? ⟨g, 0, none⟩ = some (.int .i64 c) := (hl.below hB1 hl.lt).cell 0 _ rfl
  have HB1 := Lib.hid hB1
  clear hl1 hB1 hz1 hl
  go_enter Try.func27, Try.ntmps27
  go_wp2
  go_ret
  exact ⟨rfl, HB1.out⟩

set_option maxRecDepth 4000 in
set_option maxHeartbeats 1600000 in
theorem indexBel_any (v : Value) (l : List Se.Ses) (c : Int) (g : Nat) (w : World) (hv : ReadsN w v l) (hl : Lies w g 3 #[.int .i64 c]) :
    Calls Try.prog 26 #[v, BelF g] w (Looks w (.int .i64 (Se.ix (Se.is c) l))) := by
  obtain ⟨ao, cap, rfl, hc1, hc2⟩ := ReadsN.shape hv
  have HP := Lib.hid (fun h => ReadsN.places hv h)
  have HL := Lib.hid hl
  obtain ⟨n, hnn⟩ : ∃ n, n = l.length := ⟨_, rfl⟩
  rw [← hnn] at hc1 ⊢
  have HN := Lib.hid hnn
  obtain ⟨r, hr⟩ : ∃ r, r = Se.ix (Se.is c) l := ⟨_, rfl⟩
  rw [← hr]
  have HR := Lib.hid hr
  have hnb : n < 9223372036854775808 := by omega
  clear hv hnn hr hl
  go_enter Try.func26, Try.ntmps26
  go_wp2
  go_loopw [8] (fun i wr => ∃ k : Nat, i = .int .i64 (k : Int) ∧ k ≤ n ∧ Hid (∀ (j : Nat) (e : Se.Ses), j < k → l[j]? = some e → Se.is c e = false) ∧ Below w.heap.size w wr) (fun i _ => n - (intOf i).toNat)
  case atStart => exact ⟨0, rfl, by omega, fun j e hj => by omega, Below.refl _ _⟩
  case round =>
    obtain ⟨k, rfl, hk, HI, hB⟩ := hrel
    have HB := Lib.hid hB
    clear hB
    by_cases hlt : k < n
    · obtain ⟨s, hs⟩ : ∃ s, l[k]? = some s := ⟨_, List.getElem?_eq_getElem (by have := HN.out; omega)⟩
      obtain ⟨b, off, rfl, hgl, hcell⟩ := HP.out (by have := HN.out; omega)
      have HC := Lib.hid (hcell wr HB.out k s hs)
      have HS := Lib.hid hs
      have hcall := bel_any s c g wr (HL.out.below HB.out HL.out.lt)
      obtain ⟨t, ht⟩ : ∃ t, t = Se.is c s := ⟨_, rfl⟩
      rw [← ht] at hcall
      have HT := Lib.hid ht
      clear hcell hs ht
      cases t with
      | true =>
        have HZ : Hid (r = (k : Int)) := by show _ = _; rw [HR.out]; exact (Se.ix_found HS.out HT.out.symm HI.out).1
        go_wp2_with (first | (refine load_ses rfl _ rfl b (off + k * 8) s rfl HC.out ?_) | (go_at_call 27; refine hcall.mono ?_; rintro e w' ⟨rfl, hB'⟩))
        go_ret
        exact ⟨by rw [HZ.out]; rfl, HB.out.trans (hB'.mono HB.out.size)⟩
      | false =>
        have HZ : Hid (∀ (j : Nat) (e : Se.Ses), j < k + 1 → l[j]? = some e → Se.is c e = false) := by
          intro j d hj hd
          by_cases hjk : j = k
          · subst hjk; rw [HS.out] at hd; cases hd; exact HT.out.symm
          · exact HI.out j d (by omega) hd
        go_wp2_with (first | (refine load_ses rfl _ rfl b (off + k * 8) s rfl HC.out ?_) | (go_at_call 27; refine hcall.mono ?_; rintro e w' ⟨rfl, hB'⟩))
        go_roundw
        case rel => exact ⟨k + 1, by go_num, by omega, HZ.out, HB.out.trans (hB'.mono HB.out.size)⟩
        case measure => simp [intOf]; omega
    · have HZ : Hid (r = -1) := by
        show _ = _
        rw [HR.out]
        exact (Se.ix_none fun j e he => HI.out j e (by have := HN.out; have := (List.getElem?_eq_some_iff.1 he).1; omega) he).1
      go_wp2
      go_ret
      exact ⟨by rw [HZ.out]; rfl, HB.out⟩

/-- What tells those of the clients behind one. -/
abbrev BeyF (g : Nat) : Value := .func (.func 33) #[] #[.pointer (some ⟨g, 0, none⟩)]
theorem beyond_any (c : Int) (w : World) : Calls Try.prog 28 #[.int .i64 c] w fun e w' => e = .returned (BeyF w.heap.size) ∧ Lies w' w.heap.size 3 #[.int .i64 c] ∧ Below w.heap.size w w' := by
  have hmf : ∀ (fn : Fn) (first cap : Array Value) (w : World), (Instr.makeFunc fn first cap).run Try.prog w = .ok (.func fn first cap) w := fun _ _ _ _ => rfl
  go_enter Try.func28, Try.ntmps28
  go_wp2
  go_ret
  exact ⟨rfl, Lies.new _ _ _, (Below.refl _ w).alloc (Nat.le_refl _) _⟩
theorem bey_any (s : Se.Ses) (c : Int) (g : Nat) (w : World) (hl : Lies w g 3 #[.int .i64 c]) : Calls Try.prog 33 #[.agg (Se.cells s), .pointer (some ⟨g, 0, none⟩)] w (Looks w (.bool (Se.past c s))) := by
  obtain ⟨w1, e1, hl1, hB1, hz1⟩ := box_ses w s
  obtain ⟨p0, _⟩ := Sess.eight hl1
  have hc : w1.cell? ⟨g, 0, none⟩ = some (.int .i64 c) := (hl.below hB1 hl.lt).cell 0 _ rfl
  have HB1 := Lib.hid hB1
  clear hl1 hB1 hz1 hl
  go_enter Try.func33, Try.ntmps33
  go_wp2
  go_ret
  exact ⟨rfl, HB1.out⟩

set_option maxRecDepth 4000 in
set_option maxHeartbeats 1600000 in
theorem indexBey_any (v : Value) (l : List Se.Ses) (c : Int) (g : Nat) (w : World) (hv : ReadsN w v l) (hl : Lies w g 3 #[.int .i64 c]) :
    Calls Try.prog 26 #[v, BeyF g] w (Looks w (.int .i64 (Se.ix (Se.past c) l))) := by
  obtain ⟨ao, cap, rfl, hc1, hc2⟩ := ReadsN.shape hv
  have HP := Lib.hid (fun h => ReadsN.places hv h)
  have HL := Lib.hid hl
  obtain ⟨n, hnn⟩ : ∃ n, n = l.length := ⟨_, rfl⟩
  rw [← hnn] at hc1 ⊢
  have HN := Lib.hid hnn
  obtain ⟨r, hr⟩ : ∃ r, r = Se.ix (Se.past c) l := ⟨_, rfl⟩
  rw [← hr]
  have HR := Lib.hid hr
  have hnb : n < 9223372036854775808 := by omega
  clear hv hnn hr hl
  go_enter Try.func26, Try.ntmps26
  go_wp2
  go_loopw [8] (fun i wr => ∃ k : Nat, i = .int .i64 (k : Int) ∧ k ≤ n ∧ Hid (∀ (j : Nat) (e : Se.Ses), j < k → l[j]? = some e → Se.past c e = false) ∧ Below w.heap.size w wr) (fun i _ => n - (intOf i).toNat)
  case atStart => exact ⟨0, rfl, by omega, fun j e hj => by omega, Below.refl _ _⟩
  case round =>
    obtain ⟨k, rfl, hk, HI, hB⟩ := hrel
    have HB := Lib.hid hB
    clear hB
    by_cases hlt : k < n
    · obtain ⟨s, hs⟩ : ∃ s, l[k]? = some s := ⟨_, List.getElem?_eq_getElem (by have := HN.out; omega)⟩
      obtain ⟨b, off, rfl, hgl, hcell⟩ := HP.out (by have := HN.out; omega)
      have HC := Lib.hid (hcell wr HB.out k s hs)
      have HS := Lib.hid hs
      have hcall := bey_any s c g wr (HL.out.below HB.out HL.out.lt)
      obtain ⟨t, ht⟩ : ∃ t, t = Se.past c s := ⟨_, rfl⟩
      rw [← ht] at hcall
      have HT := Lib.hid ht
      clear hcell hs ht
      cases t with
      | true =>
        have HZ : Hid (r = (k : Int)) := by show _ = _; rw [HR.out]; exact (Se.ix_found HS.out HT.out.symm HI.out).1
        go_wp2_with (first | (refine load_ses rfl _ rfl b (off + k * 8) s rfl HC.out ?_) | (go_at_call 33; refine hcall.mono ?_; rintro e w' ⟨rfl, hB'⟩))
        go_ret
        exact ⟨by rw [HZ.out]; rfl, HB.out.trans (hB'.mono HB.out.size)⟩
      | false =>
        have HZ : Hid (∀ (j : Nat) (e : Se.Ses), j < k + 1 → l[j]? = some e → Se.past c e = false) := by
          intro j d hj hd
          by_cases hjk : j = k
          · subst hjk; rw [HS.out] at hd; cases hd; exact HT.out.symm
          · exact HI.out j d (by omega) hd
        go_wp2_with (first | (refine load_ses rfl _ rfl b (off + k * 8) s rfl HC.out ?_) | (go_at_call 33; refine hcall.mono ?_; rintro e w' ⟨rfl, hB'⟩))
        go_roundw
        case rel => exact ⟨k + 1, by go_num, by omega, HZ.out, HB.out.trans (hB'.mono HB.out.size)⟩
        case measure => simp [intOf]; omega
    · have HZ : Hid (r = -1) := by
        show _ = _
        rw [HR.out]
        exact (Se.ix_none fun j e he => HI.out j e (by have := HN.out; have := (List.getElem?_eq_some_iff.1 he).1; omega) he).1
      go_wp2
      go_ret
      exact ⟨by rw [HZ.out]; rfl, HB.out⟩

set_option maxRecDepth 4000 in
set_option maxHeartbeats 1600000 in
theorem findSe_any (v : Value) (l : List Se.Ses) (c : Int) (g : Nat) (w : World) (hv : ReadsN w v l) (hl : Lies w g 3 #[.int .i64 c]) :
    Calls Try.prog 20 #[v, BelF g] w (Looks w (.tuple #[.agg (Se.cells (Se.get l c)), .bool (Se.has l c)])) := by
  obtain ⟨w1, e1, hl1, hB1, hz1⟩ := box_ses w Se.zero
  dsimp only [Se.cells, Se.zero, An.zero] at e1
  have hcall := indexBel_any v l c g w1 (hv.below hB1) (hl.below hB1 hl.lt)
  have HV1 := Lib.hid (hv.below hB1)
  have HL1 := Lib.hid hl1; have HB1 := Lib.hid hB1
  obtain ⟨ao, cap, rfl, hc1, hc2⟩ := ReadsN.shape hv
  obtain ⟨K, hK⟩ : ∃ K, K = l.findIdx (Se.is c) := ⟨_, rfl⟩
  obtain ⟨s, hs⟩ : ∃ s, s = Se.get l c := ⟨_, rfl⟩
  have hhas : Se.has l c = decide (K < l.length) := by rw [hK]; rfl
  rw [← hs]
  have HS := Lib.hid hs
  by_cases hlt : K < l.length
  · rw [Se.ix_yes (by rw [← hK]; exact hlt), ← hK] at hcall
    rw [hhas, decide_eq_true hlt]
    have HE : Hid (l[K]? = some s) := by
      show _ = _
      rw [HS.out, List.getElem?_eq_getElem hlt]
      unfold Se.get
      rw [← hK, List.getElem?_eq_getElem hlt]; rfl
    obtain ⟨n, hnn⟩ : ∃ n, n = l.length := ⟨_, rfl⟩
    rw [← hnn] at hcall hc1 HV1 hlt ⊢
    have HN := Lib.hid hnn
    obtain ⟨b, off, rfl, hgl, hcell⟩ := ReadsN.places HV1.out (by have := HN.out; omega)
    have HC := Lib.hid hcell
    clear hv hl hl1 hB1 hz1 hK hs hhas hnn hcell
    go_enter Try.func20, Try.ntmps20
    go_wp2_with (first
      | (refine load_ses rfl _ rfl b (off + K * 8) s rfl (HC.out _ HBH.out K s HE.out) ?_)
      | (refine store_ses (by rfl) _ _ (by rfl) w.heap.size Se.zero s (by rfl) (by rfl) HL2.out ?_; intro w6 hl6 hg6)
      | (go_at_call 26; refine hcall.mono ?_; rintro e w2 ⟨rfl, hB2⟩; have HBH := Lib.hid hB2; have HL2 := Lib.hid (HL1.out.below hB2 HL1.out.lt); have HB2 := Lib.hid (HB1.out.trans (hB2.mono HB1.out.size)); clear hB2))
    refine ret_ses2 rfl rfl hl6 rfl ?_
    exact ⟨rfl, HB2.out.grown hg6 HB2.out.size (by rintro j hj; cases hj; exact Nat.le_refl _)⟩
  · rw [Se.ix_no (by rw [← hK]; exact hlt)] at hcall
    rw [hhas, decide_eq_false hlt]
    have HE : Hid (s = Se.zero) := by show _ = _; rw [HS.out]; exact Se.get_no (by rw [← hK]; exact hlt)
    obtain ⟨n, hnn⟩ : ∃ n, n = l.length := ⟨_, rfl⟩
    rw [← hnn] at hcall hc1 HV1 hlt ⊢
    clear hv hl hl1 hB1 hz1 hK hs hhas hnn
    go_enter Try.func20, Try.ntmps20
    go_wp2_with (first
      | (refine store_ses (by rfl) _ _ (by rfl) w.heap.size Se.zero Se.zero (by rfl) (by rfl) HL2.out ?_; intro w6 hl6 hg6)
      | (go_at_call 26; refine hcall.mono ?_; rintro e w2 ⟨rfl, hB2⟩; have HL2 := Lib.hid (HL1.out.below hB2 HL1.out.lt); have HB2 := Lib.hid (HB1.out.trans (hB2.mono HB1.out.size)); clear hB2))
    refine ret_ses2 rfl rfl hl6 rfl ?_
    rw [HE.out]
    exact ⟨rfl, HB2.out.grown hg6 HB2.out.size (by rintro j hj; cases hj; exact Nat.le_refl _)⟩

end Go.Proofs.Ytibpmhogapccoaa
