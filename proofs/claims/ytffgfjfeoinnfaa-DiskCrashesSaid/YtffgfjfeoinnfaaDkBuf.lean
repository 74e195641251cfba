/- (*Disk).Buffered. Written by a program. -/
import Derived.Test.YtffgfjfeoinnfaaDkHeld
namespace Go.Proofs.Ytffgfjfeoinnfaa
open Go.RowKit

set_option maxRecDepth 4000 in
set_option maxHeartbeats 800000 in
theorem clone_ops (v : Value) (rs : List (Array Value)) (w : World) (hv : ReadsR w v 3 rs) (hz : Sized 3 rs) (hn : rs.length ≤ 1099511627776) :
    Calls Try.prog 26 #[v] w fun e w' => ∃ v', e = .returned v' ∧ OwnsR w' w.heap.size 53 3 v' rs ∧ Below w.heap.size w w' := by
  have hq : ∀ (w : World) (a : Option Addr) (n c n' c' : Nat), (binOp .eql 29 (.slice a n c) (.slice none n' c')).run Try.prog w = .ok (.bool a.isNone) w := fun w a n c n' c' => Lib.run_eql_slice_nil w _ _ a n c n' c' Try.underlying29
  obtain ⟨ao, cap, rfl, hc1, hc2⟩ := hv.shape
  cases ao with
  | none =>
    obtain ⟨_, h1, h2, _⟩ := ReadsR.len hv
    have h3 := h2 rfl
    obtain rfl : rs = [] := List.eq_nil_of_length_eq_zero (by omega)
    go_enter Try.func26, Try.ntmps26
    go_wp2
    go_ret
    exact ⟨_, rfl, OwnsR.empty _ _ _ _, Below.refl _ _⟩
  | some a =>
    have HV : Hid (ReadsR (w.alloc (.cells #[] 53)) (.slice (some a) rs.length cap) 3 rs) := ReadsR.below hv ((Below.refl _ w).alloc (Nat.le_refl _) _)
    obtain ⟨n, hnn⟩ : ∃ n, n = rs.length := ⟨_, rfl⟩
    rw [← hnn] at hn HV ⊢
    have HN := Lib.hid hnn; have HZ := Lib.hid hz
    clear hv hc1 hnn hz
    go_enter Try.func26, Try.ntmps26
    go_wp2_with (at_builtin; refine append_rows rfl _ _ 29 53 3 40 _ rfl Try.underlying29 info_op rfl (by decide) w.heap.size [] rs _ _ rfl rfl (World.ownsRow_made w #[] 0 (Nat.le_refl _) (Nat.zero_le _) (by simp)) HV.out HZ.out (by rw [← HN.out]; simp; omega) (by rw [← HN.out]; simp; omega) w ((Below.refl _ w).alloc (Nat.le_refl _) _) (Nat.le_refl _) ?_; intro v' w' ho' hb' _)
    all_goals
      rw [List.nil_append] at ho'
      obtain ⟨ao', cap', hs'⟩ := ho'.shape
      have HO := Lib.hid ho'
      rw [← HN.out] at hs'
      clear ho'
      subst hs'
      go_wp2
      go_ret
      exact ⟨_, rfl, HO.out, hb'⟩

theorem flat_set (u : Value) : ∀ (ps : List (Dk.Op × Value)) (i : Nat) (q : Dk.Op × Value), ps[i]? = some q → (flatR (rowsOf Dk.cellO ps)).set (i * 3 + 2) u = flatR (rowsOf Dk.cellO (ps.set i (q.1, u)))
  | [], i, q, h => by simp at h
  | p :: r, 0, q, h => by
    simp at h
    subst h
    rfl
  | p :: r, i + 1, q, h => by
    have ih := flat_set u r i q (by simpa using h)
    have e : flatR (rowsOf Dk.cellO (p :: r)) = (Dk.cellO p.1 p.2).toList ++ flatR (rowsOf Dk.cellO r) := rfl
    have e2 : flatR (rowsOf Dk.cellO ((p :: r).set (i + 1) (q.1, u))) = (Dk.cellO p.1 p.2).toList ++ flatR (rowsOf Dk.cellO (r.set i (q.1, u))) := rfl
    rw [e, e2, ← ih, List.set_append_right _ _ (by show 3 ≤ _; omega)]
    congr 2
    show (i + 1) * 3 + 2 - 3 = i * 3 + 2
    omega

/-- So far each has been given bytes of its own. -/
structure BufI (w : World) (g n cap : Nat) (qs : List (Dk.Op × Value)) (i : Nat) (ps : List (Dk.Op × Value)) (W : World) : Prop where
  own : OwnsR W w.heap.size 53 3 (.slice (some ⟨g, 0, none⟩) n cap) (rowsOf Dk.cellO ps)
  same : ps.map (·.1) = qs.map (·.1)
  new : ∀ (j : Nat) (q : Dk.Op × Value), j < i → ps[j]? = some q → ReadsP (fun k t => t = 5 ∧ w.heap.size ≤ k) W q.2 q.1.data
  left : ∀ j, i ≤ j → ps[j]? = qs[j]?
  below : Below w.heap.size w W
theorem BufI.cell {w W : World} {g n cap : Nat} {qs ps : List (Dk.Op × Value)} {i : Nat} (h : BufI w g n cap qs i ps W) (hz : Sized 3 (rowsOf Dk.cellO ps)) {q : Dk.Op × Value} (hq : ps[i]? = some q) : W.cell? ⟨g, i * 3 + 2, none⟩ = some q.2 := by
  have h1 : (flatR (rowsOf Dk.cellO ps))[i * 3 + 2]? = some q.2 := flatR_at hz (r := Dk.cellO q.1 q.2) (by simp [rowsOf, hq]) rfl
  have := World.ownsRow.cells h.own (g := g) rfl _ _ h1
  rwa [Addr.add_lit, Nat.zero_add] at this
theorem BufI.block {w W : World} {g n cap : Nat} {qs ps : List (Dk.Op × Value)} {i : Nat} (h : BufI w g n cap qs i ps W) : ∃ cur, Lies W g 53 cur ∧ cur.size = cap * 3 ∧ n ≤ cap ∧ cur.toList.take (n * 3) = flatR (rowsOf Dk.cellO ps) ∧ w.heap.size ≤ g ∧ cap ≤ maxLen := by
  rcases h.own.2 with ⟨e, _⟩ | ⟨g', cap', cur, e, hb, hg, hc, hm, hs, ht⟩
  · cases e
  · simp only [Value.slice.injEq, Option.some.injEq, Addr.mk.injEq, and_true] at e
    obtain ⟨rfl, e1, rfl⟩ := e
    rw [← e1] at hc ht
    exact ⟨cur, hg, hs, hc, ht, hb, hm⟩
/-- One more. W1: behind the clone of its bytes; W2: behind the store. -/
theorem BufI.step {w W W1 W2 : World} {g n cap : Nat} {qs ps : List (Dk.Op × Value)} {i : Nat} (h : BufI w g n cap qs i ps W) {q : Dk.Op × Value} (hq : ps[i]? = some q) (hn : n = qs.length) {u : Value} (hb1 : Below W.heap.size W W1) (ho1 : Owns W1 W.heap.size 5 u q.1.data) {cur : Array Value} (hcur : Lies W g 53 cur)
    (hl2 : Lies W2 g 53 (cur.setIfInBounds (i * 3 + 2) u)) (hg2 : W1.grownBy W2 (some g)) : BufI w g n cap qs (i + 1) (ps.set i (q.1, u)) W2 := by
  obtain ⟨cur', hc1, hsz, hnc, htk, hge, hmx⟩ := h.block
  have e2 : some (Obj.cells cur 53 (0, 0)) = some (Obj.cells cur' 53 (0, 0)) := (show W.heap[g]? = _ from hcur).symm.trans hc1
  cases e2
  have hil := (List.getElem?_eq_some_iff.1 hq).1
  have hpl : ps.length = n := by have := congrArg List.length h.same; simpa [hn] using this
  have hWs := h.below.size
  have h1s := hb1.size
  have keep1 : ∀ (j : Nat) (q' : Dk.Op × Value), j < i → ps[j]? = some q' → ReadsP (fun k t => t = 5 ∧ w.heap.size ≤ k) W2 q'.2 q'.1.data := fun j q' hj hq' =>
    ((h.new j q' hj hq').keep (Keep.of_below hb1)).keep (Keep.of_grown hg2 fun b cs t fr e hc hp => by
      simp only [Option.some.injEq] at e
      subst e
      have := (hb1.block g hcur.lt).trans hcur
      rw [this] at hc
      cases hc
      exact absurd hp.1 (by decide))
  refine ⟨?_, ?_, fun j q' hj hq' => ?_, fun j hj => ?_, h.below.trans ((hb1.mono hWs).grown hg2 (by omega) fun j e => by simp only [Option.some.injEq] at e; omega)⟩
  · refine ⟨?_, .inr ⟨g, cap, _, by simp [rowsOf, hpl], hge, hl2, by simp [rowsOf, hpl]; exact hnc, hmx, by simp [hsz], ?_⟩⟩
    · have := h.own.1
      have e := flat_set u ps i q hq
      rw [← e, List.length_set, this]
      simp [rowsOf]
    · rw [Array.toList_setIfInBounds, List.take_set, ← flat_set u ps i q hq]
      have : (rowsOf Dk.cellO (ps.set i (q.1, u))).length * 3 = n * 3 := by simp [rowsOf, hpl]
      rw [this, htk]
  · rw [← h.same]
    apply List.ext_getElem?
    intro j
    rw [List.getElem?_map, List.getElem?_map]
    by_cases hji : i = j
    · subst hji
      rw [List.getElem?_set_self hil, hq]
      rfl
    · rw [List.getElem?_set_ne hji]
  · by_cases hji : i = j
    · subst hji
      rw [List.getElem?_set_self hil] at hq'
      simp only [Option.some.injEq] at hq'
      subst hq'
      have ho2 : Owns W2 W.heap.size 5 u q.1.data := ho1.stays fun k e => by
        obtain ⟨cs, hc, hk⟩ := ho1.cells e
        refine hg2.block k (lt_of_obj hc) fun e' => ?_
        simp only [Option.some.injEq] at e'
        have := hcur.lt
        omega
      exact ReadsP.own ho2 fun k e => by obtain ⟨cs, hc, hk⟩ := ho2.cells e; exact ⟨rfl, by omega⟩
    · rw [List.getElem?_set_ne hji] at hq'
      exact keep1 j q' (by omega) hq'
  · rw [List.getElem?_set, if_neg (by omega)]
    exact h.left j (by omega)

/-- What Buffered leaves. -/
def BufferedAt (w : World) (B : List Dk.Op) (e : Ending) (w' : World) : Prop := ∃ v, e = .returned v ∧ OpsP (fun k _ => w.heap.size ≤ k) w' v B ∧ Below w.heap.size w w'
set_option maxRecDepth 4000 in
set_option maxHeartbeats 800000 in
theorem buffered_nil (w : World) : Calls Try.prog 14 #[.pointer none] w (Says w (.slice none 0 0)) := by
  go_enter Try.func14, Try.ntmps14
  go_wp2
  go_ret
  exact ⟨rfl, rfl⟩

set_option maxRecDepth 4000 in
set_option maxHeartbeats 1600000 in
theorem buffered_any {S : Nat → Prop} {w : World} {d : Nat} {F : Dk.Files} {B : List Dk.Op} (h : DiskAt S w d F B) (hs : Dk.wtB B ≤ 1099511627776) :
    Calls Try.prog 14 #[.pointer (some ⟨d, 0, none⟩)] w (BufferedAt w B) := by
  obtain ⟨mv, bv, zs, qs, h1, rfl, rfl⟩ := h
  have hq3 : (rowsOf Dk.cellO qs).length = qs.length := by simp [rowsOf]
  have hlw := Dk.len_wtB (qs.map (·.1))
  rw [List.length_map] at hlw
  have hcl := clone_ops bv _ w (h1.row.reads h1.sized) h1.sized (by rw [hq3]; omega)
  obtain ⟨ao, cap, rfl⟩ := h1.row.shape
  rw [hq3] at h1 hcl
  have c1 : w.cell? ⟨d, 1, none⟩ = some (.slice ao qs.length cap) := h1.lies.cell 1 _ rfl
  obtain ⟨n, hn⟩ : ∃ n, n = qs.length := ⟨_, rfl⟩
  rw [← hn] at c1 hcl hlw
  have H1 := Lib.hid h1; have HN := Lib.hid hn; have HS := Lib.hid hs; have HCL := Lib.hid hcl
  clear h1 hn hq3 hs hcl
  by_cases h0 : n = 0
  · subst h0
    have hq : qs = [] := List.eq_nil_of_length_eq_zero HN.out.symm
    subst hq
    go_enter Try.func14, Try.ntmps14
    go_wp2_with (go_at_call 26; refine HCL.out.mono ?_; rintro e w1 ⟨v1, rfl, ho1, hb1⟩; obtain ⟨ao1, cap1, rfl⟩ := ho1.shape)
    refine wp_loop_rounds 1 ?_
    rw [rounds_succ]
    go_wp2
    go_ret
    refine ⟨_, rfl, ⟨[], rfl, RowP.own ho1 (Sized.nil 3) fun g e => by obtain ⟨cs, hc, hg⟩ := ho1.cells e; exact hg, fun q hq => by simp at hq⟩, hb1⟩
  · go_enter Try.func14, Try.ntmps14
    go_wp2_with (go_at_call 26; refine HCL.out.mono ?_; rintro e w1 ⟨v1, rfl, ho1, hb1⟩; obtain ⟨g, cap1, rfl⟩ : ∃ g cap1, v1 = .slice (some ⟨g, 0, none⟩) n cap1 := (by
      rcases ho1.2 with ⟨_, e0⟩ | ⟨g, cp, cur, e, _⟩
      · exact absurd (by rw [HN.out, ← e0]; simp [rowsOf]) h0
      · exact ⟨g, cp, by rw [e, HN.out]; simp [rowsOf]⟩))
    have HI0 : Hid (BufI w g n cap1 qs 0 qs w1) := ⟨ho1, rfl, fun j q hj => by omega, fun j _ => rfl, hb1⟩
    have hn9 : n ≤ 1099511627776 := by have := HS.out; omega
    clear ho1 hb1 c1 hlw
    go_loopw [14] (fun x wr => ∃ (i : Nat) (ps : List (Dk.Op × Value)), x = .int .i64 (i : Int) ∧ i ≤ n ∧ BufI w g n cap1 qs i ps wr) (fun x _ => n - (intOf x).toNat)
    case atStart => exact ⟨0, qs, rfl, Nat.zero_le _, HI0.out⟩
    case round =>
      obtain ⟨i, ps, rfl, hin, hI⟩ := hrel
      have HI := Lib.hid hI
      clear hI HI0
      by_cases hlt : i < n
      · have hint : ((i : Nat) : Int) < (n : Int) := by omega
        obtain ⟨q, hq⟩ : ∃ q, qs[i]? = some q := ⟨_, List.getElem?_eq_getElem (by have := HN.out; omega)⟩
        have hp : ps[i]? = some q := (HI.out.left i (Nat.le_refl _)).trans hq
        have hd := (H1.out.data q (List.mem_of_getElem? hq)).1
        have hzs : Sized 3 (rowsOf Dk.cellO ps) := rowsOf_sized Dk.cellO_ok fun p hp' => by
          obtain ⟨j, hj⟩ := List.getElem?_of_mem hp'
          by_cases hji : j < i
          · exact (HI.out.new j p hji hj).one
          · have := (HI.out.left j (by omega)).symm.trans hj
            exact (H1.out.data p (List.mem_of_getElem? this)).one
        obtain ⟨x, u⟩ := q
        have hd : Reads w u x.data := hd
        obtain ⟨ax, cx, rfl⟩ := hd.shape
        have hdl : x.data.length ≤ 1099511627776 := by
          have hm : x ∈ qs.map (·.1) := List.mem_map.2 ⟨_, List.mem_of_getElem? hq, rfl⟩
          have := Dk.wtB_mem hm
          have := HS.out
          omega
        have ci : wr.cell? ⟨g, i * 3 + 2, none⟩ = some (.slice ax x.data.length cx) := HI.out.cell hzs hp
        obtain ⟨cur, hcur, hsz, hnc, _, hge, hmx⟩ := HI.out.block
        have HCUR := Lib.hid hcur; have HP := Lib.hid hp; have HD := Lib.hid (hd.below HI.out.below)
        clear hd hq hzs hp hcur
        go_wp2_with (first
          | (go_at_call 27; refine (clone_any (.slice ax x.data.length cx) x.data wr HD.out (by omega)).mono ?_; rintro e w3 ⟨v3, rfl, ho3, hb3⟩; obtain ⟨ao3, cap3, rfl⟩ := ho3.reads.shape; have HO3 := Lib.hid ho3; have HB3 := Lib.hid hb3; clear ho3 hb3)
          | (refine store_part rfl 33 _ _ rfl g (i * 3 + 2) 53 cur (cur.setIfInBounds (i * 3 + 2) (.slice ao3 x.data.length cap3)) (.slice ao3 x.data.length cap3) [(.slice ao3 x.data.length cap3)] rfl rfl rfl (by kernel_rfl) rfl (HCUR.out.below HB3.out HCUR.out.lt) (by simp; omega) (by rw [Array.toList_setIfInBounds, List.set_eq_take_append_cons_drop, if_pos (by simp; omega)]; simp) ?_; intro w6 hl6 hg6; have HI6 := Lib.hid (HI.out.step HP.out HN.out HB3.out HO3.out HCUR.out hl6 hg6); clear hl6 hg6))
        clear ci
        go_roundw
        case rel => exact ⟨i + 1, _, by simp, by omega, HI6.out⟩
        case measure => simp [intOf]; omega
      · have hint : ¬ ((i : Nat) : Int) < (n : Int) := by omega
        go_wp2
        go_ret
        have hI := HI.out
        have hpl : ps.length = n := by have := congrArg List.length hI.same; simpa [HN.out] using this
        have hall : ∀ q ∈ ps, ReadsP (fun k _ => w.heap.size ≤ k) wr q.2 q.1.data := fun q hq => by
          obtain ⟨j, hj⟩ := List.getElem?_of_mem hq
          have hjl := (List.getElem?_eq_some_iff.1 hj).1
          exact (hI.new j q (by omega) hj).imp fun k cs t fr _ hp => hp.2
        exact ⟨_, rfl, ⟨ps, hI.same.symm, RowP.own hI.own (rowsOf_sized Dk.cellO_ok fun q hq => (hall q hq).one) fun g e => by obtain ⟨cs, hc, hg⟩ := hI.own.cells e; exact hg, hall⟩, hI.below⟩

end Go.Proofs.Ytffgfjfeoinnfaa
