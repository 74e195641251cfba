/- Several texts of mine in one: MgMem MgChk. -/
import Derived.Test.YtammfmmpldahhaaGreatGSt
import Derived.Test.YtammfmmpldahhaaGreatGSu
import Derived.Test.YtammfmmpldahhaaGreatGSv
import Derived.Test.YtammfmmpldahhaaGreatPart
namespace Go.Proofs.YtammfmmpldahhaaGreat
open Go.RowKit

def Mg.cells (n : Int) (vp vs : Value) : Array Value := #[.int .i64 n, vp, vs]
/-- The two slices read as the state's. -/
structure StR (w : World) (s : Mg.St) (vp vs : Value) : Prop where
  kv : ReadsK w vp s.pairs
  ses : ReadsN w vs s.sess
theorem StR.below {w w' : World} {s : Mg.St} {vp vs : Value} (r : StR w s vp vs) (hb : Below w.heap.size w w') : StR w' s vp vs := ⟨r.kv.below hb, r.ses.below hb⟩
theorem StR.sl {w : World} {s : Mg.St} {vp vs : Value} (r : StR w s vp vs) : (∃ o k c, vp = .slice o k c) ∧ ∃ o k c, vs = .slice o k c := by
  obtain ⟨io, ic, e1, _⟩ := ReadsK.shape r.kv
  obtain ⟨ao, ac, e2, _⟩ := ReadsN.shape r.ses
  exact ⟨⟨_, _, _, e1⟩, ⟨_, _, _, e2⟩⟩
theorem StR.zero (w : World) : StR w Mg.zero (.slice none 0 0) (.slice none 0 0) := ⟨ReadsR.empty w 3, ReadsR.empty w 8⟩
theorem Mg.cells_ok (n : Int) {vp vs : Value} (h1 : vp.oneCell' = true) (h2 : vs.oneCell' = true) : (Mg.cells n vp vs).toList.all (·.oneCell') = true := by
  simp [Mg.cells, h1, h2]
  rfl
/-- A block of three such cells. -/
structure StAt (w : World) (g : Nat) (n : Int) (vp vs : Value) : Prop where
  lies : Lies w g 25 (Mg.cells n vp vs)
  vp : ∃ o k c, vp = .slice o k c
  vs : ∃ o k c, vs = .slice o k c
section
variable {w w' : World} {g : Nat} {n : Int} {vp vs : Value}
theorem StAt.ok (h : StAt w g n vp vs) : vp.oneCell' = true ∧ vs.oneCell' = true := by
  obtain ⟨_, _, _, rfl⟩ := h.vp
  obtain ⟨_, _, _, rfl⟩ := h.vs
  exact ⟨rfl, rfl⟩
theorem StAt.below {B : Nat} (h : StAt w g n vp vs) (hb : Below B w w') (hB : g < B) : StAt w' g n vp vs := ⟨h.lies.below hb hB, h.vp, h.vs⟩
theorem StAt.kept {o : Nat} (h : StAt w g n vp vs) (hg : w.grownBy w' (some o)) (hne : g ≠ o) : StAt w' g n vp vs := ⟨h.lies.kept hg (by simpa using hne), h.vp, h.vs⟩
/-- The three cells, told. -/
theorem StAt.all (h : StAt w g n vp vs) : w.cell? ⟨g, 0, none⟩ = some (.int .i64 n) ∧ w.cell? ⟨g, 1, none⟩ = some vp ∧ w.cell? ⟨g, 2, none⟩ = some vs :=
  ⟨h.lies.cell 0 _ rfl, h.lies.cell 1 _ rfl, h.lies.cell 2 _ rfl⟩
end
theorem box_st (w : World) (s : Mg.St) (n : Int) (vp vs : Value) (r : StR w s vp vs) : ∃ w1, w.alloc (.cells (Mg.cells n vp vs) 25) = w1 ∧ StAt w1 w.heap.size n vp vs ∧ Below w.heap.size w w1 ∧ w1.heap.size = w.heap.size + 1 :=
  ⟨_, rfl, ⟨Lies.new w _ _, r.sl.1, r.sl.2⟩, (Below.refl _ w).alloc (Nat.le_refl _) _, by simp⟩
theorem box_st0 (w : World) : ∃ w1, w.alloc (.cells (Mg.cells 0 (.slice none 0 0) (.slice none 0 0)) 25) = w1 ∧ StAt w1 w.heap.size 0 (.slice none 0 0) (.slice none 0 0) ∧ Below w.heap.size w w1 ∧ w1.heap.size = w.heap.size + 1 :=
  box_st w Mg.zero 0 _ _ (StR.zero w)

section
variable {ops : Array Oper} {rest : List Oper} {op : Oper} {a : Act} {w : World} {Q : Exit → Act → World → Prop} {g : Nat} {n : Int} {vp vs : Value}
theorem store_schema (hgd : op.guard = none) (x y : Operand) (ho : op.op = .store 3 x y) (c : Int) (hx : a.eval x = .pointer (some ⟨g, 0, none⟩)) (hy : a.eval y = .int .i64 c) (hl : StAt w g n vp vs)
    (h : ∀ w', StAt w' g c vp vs → w.grownBy w' (some g) → wpList Tryz.prog ops Q rest (a.put op.dst undef) w') : wpList Tryz.prog ops Q (op :: rest) a w :=
  store_part hgd _ x y ho g 0 25 _ (Mg.cells c vp vs) (.int .i64 c) [.int .i64 c] hx hy rfl (by kernel_rfl) rfl hl.lies (Nat.le_of_ble_eq_true rfl) rfl fun w' h1 h2 => h w' ⟨h1, hl.vp, hl.vs⟩ h2
theorem store_pairs (hgd : op.guard = none) (x y : Operand) (ho : op.op = .store 22 x y) (uo : Option Addr) (uk uc : Nat) (hx : a.eval x = .pointer (some ⟨g, 1, none⟩)) (hy : a.eval y = .slice uo uk uc) (hl : StAt w g n vp vs)
    (h : ∀ w', StAt w' g n (.slice uo uk uc) vs → w.grownBy w' (some g) → wpList Tryz.prog ops Q rest (a.put op.dst undef) w') : wpList Tryz.prog ops Q (op :: rest) a w :=
  store_part hgd _ x y ho g 1 25 _ (Mg.cells n (.slice uo uk uc) vs) (.slice uo uk uc) [.slice uo uk uc] hx hy rfl (by kernel_rfl) rfl hl.lies (Nat.le_of_ble_eq_true rfl) rfl fun w' h1 h2 => h w' ⟨h1, ⟨_, _, _, rfl⟩, hl.vs⟩ h2
theorem store_sess (hgd : op.guard = none) (x y : Operand) (ho : op.op = .store 23 x y) (uo : Option Addr) (uk uc : Nat) (hx : a.eval x = .pointer (some ⟨g, 2, none⟩)) (hy : a.eval y = .slice uo uk uc) (hl : StAt w g n vp vs)
    (h : ∀ w', StAt w' g n vp (.slice uo uk uc) → w.grownBy w' (some g) → wpList Tryz.prog ops Q rest (a.put op.dst undef) w') : wpList Tryz.prog ops Q (op :: rest) a w :=
  store_part hgd _ x y ho g 2 25 _ (Mg.cells n vp (.slice uo uk uc)) (.slice uo uk uc) [.slice uo uk uc] hx hy rfl (by kernel_rfl) rfl hl.lies (Nat.le_of_ble_eq_true rfl) rfl fun w' h1 h2 => h w' ⟨h1, hl.vp, ⟨_, _, _, rfl⟩⟩ h2
theorem store_st {m : Int} {up us : Value} (hgd : op.guard = none) (x y : Operand) (ho : op.op = .store 25 x y) (hx : a.eval x = .pointer (some ⟨g, 0, none⟩)) (hl : StAt w g n vp vs) (hu : (∃ o k c, up = .slice o k c) ∧ ∃ o k c, us = .slice o k c) (hy : a.eval y = .agg (Mg.cells m up us))
    (h : ∀ w', StAt w' g m up us → w.grownBy w' (some g) → wpList Tryz.prog ops Q rest (a.put op.dst undef) w') : wpList Tryz.prog ops Q (op :: rest) a w :=
  store_part hgd _ x y ho g 0 25 _ (Mg.cells m up us) (.agg (Mg.cells m up us)) (Mg.cells m up us).toList hx hy rfl (by kernel_rfl) (by obtain ⟨⟨_, _, _, rfl⟩, ⟨_, _, _, rfl⟩⟩ := hu; exact Mg.cells_ok m rfl rfl) hl.lies (Nat.le_of_ble_eq_true rfl) rfl fun w' h1 h2 => h w' ⟨h1, hu.1, hu.2⟩ h2
theorem load_st (hgd : op.guard = none) (x : Operand) (ho : op.op = .load 25 x) (hx : a.eval x = .pointer (some ⟨g, 0, none⟩)) (hl : StAt w g n vp vs)
    (h : wpList Tryz.prog ops Q rest (a.put op.dst (.agg (Mg.cells n vp vs))) w) : wpList Tryz.prog ops Q (op :: rest) a w :=
  wpList_load_mid hgd _ x ho g 0 hx (Mg.cells n vp vs).toList _ (fun j v hv => by rw [Nat.zero_add]; exact hl.lies.cell j v (by simpa using hv)) Tryz.underlying25 rfl (by kernel_rfl) h
/-- The revision of a pair of a row stored anew. -/
theorem store_rev (hgd : op.guard = none) (x y : Operand) (ho : op.op = .store 3 x y) (cap k : Nat) (l : List Kv.Item) (r : Int) (hx : a.eval x = .pointer (some ⟨g, k * 3 + 2, none⟩)) (hy : a.eval y = .int .i64 r) (hl : RowK w g cap l) {p : Kv.Item} (hp : l[k]? = some p)
    (h : ∀ w', RowK w' g cap (l.set k (Mg.rev r p)) → w.grownBy w' (some g) → wpList Tryz.prog ops Q rest (a.put op.dst undef) w') : wpList Tryz.prog ops Q (op :: rest) a w := by
  have hk := (List.getElem?_eq_some_iff.1 hp).1
  obtain ⟨cur, hg, hc, hm, hs, ht⟩ := hl
  have h0 : k * 3 + 2 < cur.size := by omega
  refine store_part hgd _ x y ho g (k * 3 + 2) 62 cur (cur.setIfInBounds (k * 3 + 2) (.int .i64 r)) (.int .i64 r) [.int .i64 r] hx hy rfl (by kernel_rfl) rfl hg (by simp; omega) ?_ fun w' h1 h2 => h w' ⟨_, h1, ?_, hm, ?_, ?_⟩ h2
  · rw [Array.toList_setIfInBounds, List.set_eq_take_append_cons_drop, if_pos (by simpa using h0)]
    simp
  · rw [List.length_set]; exact hc
  · simpa using hs
  · have hfl : (flatR (l.map Kv.cells)).length = l.length * 3 := by rw [flatR_len (Kv.sized l), List.length_map]
    have hfl' : (flatR ((l.set k (Mg.rev r p)).map Kv.cells)).length = l.length * 3 := by rw [flatR_len (Kv.sized _), List.length_map, List.length_set]
    rw [List.length_set]
    apply List.ext_getElem?
    intro m
    rw [List.getElem?_take]
    by_cases hml : m < l.length * 3
    · rw [if_pos hml, Array.getElem?_toList, Array.getElem?_setIfInBounds]
      have hme : m = m / 3 * 3 + m % 3 := by omega
      have hr := Nat.mod_lt m (show 0 < 3 by omega)
      obtain ⟨i, hi⟩ : ∃ i, i = m / 3 := ⟨_, rfl⟩
      obtain ⟨j, hj⟩ : ∃ j, j = m % 3 := ⟨_, rfl⟩
      rw [← hi, ← hj] at hme
      rw [← hj] at hr
      clear hi hj
      subst hme
      have hil : i < l.length := by omega
      have hold : ∀ (e : Kv.Item) (u : Value), l[i]? = some e → (Kv.cells e)[j]? = some u → cur[i * 3 + j]? = some u := fun e u he hu => by
        have e1 := flatR_at (Kv.sized l) (i := i) (r := Kv.cells e) (by rw [List.getElem?_map, he]; rfl) hu
        rwa [← ht, List.getElem?_take, if_pos (by omega), Array.getElem?_toList] at e1
      by_cases hik : i = k
      · subst hik
        have hnew : ∀ u : Value, (Kv.cells (Mg.rev r p))[j]? = some u → (flatR ((l.set i (Mg.rev r p)).map Kv.cells))[i * 3 + j]? = some u := fun u hu =>
          flatR_at (Kv.sized _) (by rw [List.getElem?_map, List.getElem?_set, if_pos rfl, if_pos hk]; rfl) hu
        match j, hr with
        | 0, _ => rw [if_neg (by omega), hnew _ rfl, hold p _ hp rfl]; rfl
        | 1, _ => rw [if_neg (by omega), hnew _ rfl, hold p _ hp rfl]; rfl
        | 2, _ => rw [if_pos rfl, if_pos h0, hnew _ rfl]; rfl
      · rw [if_neg (by omega)]
        obtain ⟨e, he⟩ : ∃ e, l[i]? = some e := ⟨_, List.getElem?_eq_getElem hil⟩
        obtain ⟨u, hu⟩ := Kv.cells_at e j hr
        rw [hold e u he hu]
        exact (flatR_at (Kv.sized (l.set k (Mg.rev r p))) (i := i) (r := Kv.cells e) (by rw [List.getElem?_map, List.getElem?_set, if_neg (fun h => hik h.symm), he]; rfl) hu).symm
    · rw [if_neg hml, List.getElem?_eq_none (by omega)]
end
theorem run_st (w : World) (g : Nat) (n : Int) (vp vs : Value) (h : StAt w g n vp vs) : (loadVar 25 ⟨g, 0, none⟩).run Tryz.prog w = .ok (.agg (Mg.cells n vp vs)) w :=
  run_loadVar_row w g _ _ (Mg.cells n vp vs) (0, 0) _ h.lies Tryz.underlying25 rfl (by kernel_rfl)
theorem ret_st1 {fn : Func} {R : Ending → World → Prop} {a : Act} {w : World} {t : Tmp} {g : Nat} {n : Int} {vp vs : Value} (h : fn.results = #[.cell t 25]) (hp : a.tmps.getD t undef = .pointer (some ⟨g, 0, none⟩))
    (hl : StAt w g n vp vs) (hd : a.defers = []) (hR : R (.returned (.agg (Mg.cells n vp vs))) w) : bodyPost Tryz.prog fn R .ret a w := by
  refine bodyPost_ret ?_ hd hR
  rw [results_one h, hp]
  simp [asAddr, Result.andThen, run_st w g n vp vs hl]
theorem ret_st2 {fn : Func} {R : Ending → World → Prop} {a : Act} {w : World} {t u : Tmp} {g : Nat} {n : Int} {vp vs : Value} (h : fn.results = #[.cell t 25, .tmp u]) (hp : a.tmps.getD t undef = .pointer (some ⟨g, 0, none⟩))
    (hl : StAt w g n vp vs) (hd : a.defers = []) (hR : R (.returned (.tuple #[.agg (Mg.cells n vp vs), a.tmps.getD u undef])) w) : bodyPost Tryz.prog fn R .ret a w := by
  refine bodyPost_ret ?_ hd hR
  rw [results_two h, hp]
  simp [asAddr, Result.andThen, run_st w g n vp vs hl]

/-- What a call leaves that gives a state. -/
def GivesSt (w : World) (s : Mg.St) (e : Ending) (w' : World) : Prop := ∃ vp vs, e = .returned (.agg (Mg.cells s.schema vp vs)) ∧ StR w' s vp vs ∧ Below w.heap.size w w'
/-- .. and an error. -/
def GivesUp (w : World) (s : Mg.St) (x : Int) (e : Ending) (w' : World) : Prop := ∃ vp vs, e = .returned (.tuple #[.agg (Mg.cells s.schema vp vs), .int .i64 x]) ∧ StR w' s vp vs ∧ Below w.heap.size w w'
end Go.Proofs.YtammfmmpldahhaaGreat


namespace Go.Proofs.YtammfmmpldahhaaGreat
open Go.RowKit

theorem Mg.ix_any (l : List Se.Ses) : (decide (0 ≤ Se.ix Mg.tells l)) = l.any Mg.tells := by
  by_cases h : l.findIdx Mg.tells < l.length
  · rw [Se.ix_yes h]
    have h1 : l.any Mg.tells = true := List.any_eq_true.2 ⟨_, List.getElem_mem h, List.findIdx_getElem (w := h)⟩
    rw [h1]
    exact decide_eq_true (by omega)
  · rw [Se.ix_no h]
    have h1 : l.any Mg.tells = false := by
      rw [List.any_eq_false]
      have h2 := Nat.le_antisymm (Se.idx_le Mg.tells l) (by omega)
      intro e he ht
      exact h (by have := List.findIdx_lt_length.2 ⟨e, he, ht⟩; omega)
    rw [h1]
    rfl

abbrev TellF : Value := .func (.func 74) #[] #[]
theorem tells_any (s : Se.Ses) (w : World) : Calls Tryz.prog 74 #[.agg (Se.cells s)] w (Looks w (.bool (Mg.tells s))) := by
  obtain ⟨w1, e1, hl1, hB1, hz1⟩ := box_ses w s
  obtain ⟨p0, p1, p2, p3, p4, p5, p6, p7⟩ := Sess.eight hl1
  have HB1 := Lib.hid hB1
  obtain ⟨t, ht⟩ : ∃ t, (s.last.rev != 0) = t := ⟨_, rfl⟩
  have HT : Hid (Mg.tells s = t) := ht
  clear hl1 hB1 hz1
  go_enter Tryz.func74, Tryz.ntmps74
  go_wp2
  go_ret
  exact ⟨by rw [HT.out]; rfl, HB1.out⟩

set_option maxRecDepth 4000 in
set_option maxHeartbeats 1600000 in
theorem indexTells_any (v : Value) (l : List Se.Ses) (w : World) (hv : ReadsN w v l) :
    Calls Tryz.prog 90 #[v, TellF] w (Looks w (.int .i64 (Se.ix Mg.tells l))) := by
  obtain ⟨ao, cap, rfl, hc1, hc2⟩ := ReadsN.shape hv
  have HP := Lib.hid (fun h => ReadsN.places hv h)
  obtain ⟨n, hnn⟩ : ∃ n, n = l.length := ⟨_, rfl⟩
  rw [← hnn] at hc1 ⊢
  have HN := Lib.hid hnn
  obtain ⟨r, hr⟩ : ∃ r, r = Se.ix Mg.tells l := ⟨_, rfl⟩
  rw [← hr]
  have HR := Lib.hid hr
  have hnb : n < 9223372036854775808 := by omega
  clear hv hnn hr
  go_enter Tryz.func90, Tryz.ntmps90
  go_wp2
  go_loopw [8] (fun i wr => ∃ k : Nat, i = .int .i64 (k : Int) ∧ k ≤ n ∧ Hid (∀ (j : Nat) (e : Se.Ses), j < k → l[j]? = some e → Mg.tells e = false) ∧ Below w.heap.size w wr) (fun i _ => n - (intOf i).toNat)
  case atStart => exact ⟨0, rfl, by omega, fun j e hj => by omega, Below.refl _ _⟩
  case round =>
    obtain ⟨k, rfl, hk, HI, hB⟩ := hrel
    have HB := Lib.hid hB
    clear hB
    by_cases hlt : k < n
    · obtain ⟨s, hs⟩ : ∃ s, l[k]? = some s := ⟨_, List.getElem?_eq_getElem (by have := HN.out; omega)⟩
      obtain ⟨b, off, rfl, hgl, hcell⟩ := HP.out (by have := HN.out; omega)
      have HC := Lib.hid (hcell wr HB.out k s hs)
      have HS := Lib.hid hs
      have hcall := tells_any s wr
      obtain ⟨t, ht⟩ : ∃ t, t = Mg.tells s := ⟨_, rfl⟩
      rw [← ht] at hcall
      have HT := Lib.hid ht
      clear hcell hs ht
      cases t with
      | true =>
        have HZ : Hid (r = (k : Int)) := by show _ = _; rw [HR.out]; exact (Se.ix_found HS.out HT.out.symm HI.out).1
        go_wp2_with (first | (refine load_ses rfl _ rfl b (off + k * 8) s rfl HC.out ?_) | (go_at_call 74; refine hcall.mono ?_; rintro e w' ⟨rfl, hB'⟩))
        go_ret
        exact ⟨by rw [HZ.out]; rfl, HB.out.trans (hB'.mono HB.out.size)⟩
      | false =>
        have HZ : Hid (∀ (j : Nat) (e : Se.Ses), j < k + 1 → l[j]? = some e → Mg.tells e = false) := by
          intro j d hj hd
          by_cases hjk : j = k
          · subst hjk; rw [HS.out] at hd; cases hd; exact HT.out.symm
          · exact HI.out j d (by omega) hd
        go_wp2_with (first | (refine load_ses rfl _ rfl b (off + k * 8) s rfl HC.out ?_) | (go_at_call 74; refine hcall.mono ?_; rintro e w' ⟨rfl, hB'⟩))
        go_roundw
        case rel => exact ⟨k + 1, by go_num, by omega, HZ.out, HB.out.trans (hB'.mono HB.out.size)⟩
        case measure => simp [intOf]; omega
    · have HZ : Hid (r = -1) := by
        show _ = _
        rw [HR.out]
        exact (Se.ix_none fun j e he => HI.out j e (by have := HN.out; have := (List.getElem?_eq_some_iff.1 he).1; omega) he).1
      go_wp2
      go_ret
      exact ⟨by rw [HZ.out]; rfl, HB.out⟩

theorem anyTells_any (v : Value) (l : List Se.Ses) (w : World) (hv : ReadsN w v l) :
    Calls Tryz.prog 73 #[v, TellF] w (Looks w (.bool (l.any Mg.tells))) := by
  have hcall := indexTells_any v l w hv
  obtain ⟨ao, cap, rfl, hc1, hc2⟩ := ReadsN.shape hv
  have HX := Lib.hid (Mg.ix_any l)
  obtain ⟨x, hx⟩ : ∃ x, x = Se.ix Mg.tells l := ⟨_, rfl⟩
  rw [← hx] at hcall HX
  obtain ⟨n, hn⟩ : ∃ n, n = l.length := ⟨_, rfl⟩
  rw [← hn] at hcall ⊢
  clear hx hv hc1 hc2 hn
  go_enter Tryz.func73, Tryz.ntmps73
  go_wp2_with fail
  refine hcall.mono ?_
  rintro e w2 ⟨rfl, hB2⟩
  go_wp2
  go_ret
  exact ⟨by rw [← HX.out]; rfl, hB2⟩

set_option maxRecDepth 4000 in
theorem areSessions_any (n : Int) (v : Value) (l : List Se.Ses) (w : World) (hv : ReadsN w v l) (hs : ∀ s ∈ l, s.last.val.length ≤ 140737488355328) :
    Calls Tryz.prog 45 #[.int .i64 n, v] w (Looks w (.bool (Mg.sessOk n l))) := by
  have HA := Lib.hid (anyTells_any v l w hv)
  have HC := Lib.hid (fun W h => checkSe_any v l W h hs)
  have HV := Lib.hid hv
  obtain ⟨D, hD⟩ : ∃ D, D = Mg.sessOk n l := ⟨_, rfl⟩
  rw [← hD]
  unfold Mg.sessOk at hD
  rw [Se.check_ref] at HC
  obtain ⟨t, ht⟩ : ∃ t, t = l.any Mg.tells := ⟨_, rfl⟩
  rw [← ht] at HA hD
  obtain ⟨r, hr⟩ : ∃ r, r = Se.refCheck l := ⟨_, rfl⟩
  rw [← hr] at HC hD
  obtain ⟨ao, cap, rfl, hc1, hc2⟩ := ReadsN.shape hv
  obtain ⟨k, hk⟩ : ∃ k, k = l.length := ⟨_, rfl⟩
  rw [← hk] at HA HC HV ⊢
  clear hv hs ht hr hc1 hc2 hk
  by_cases h1 : n = 1
  · subst h1
    cases t with
    | true =>
      rw [if_pos ⟨rfl, rfl⟩] at hD
      have HD := Lib.hid hD
      clear hD
      go_enter Tryz.func45, Tryz.ntmps45
      go_wp2_with fail
      refine HA.out.mono ?_
      rintro e w2 ⟨rfl, hB2⟩
      go_wp2
      go_ret
      exact ⟨by rw [HD.out]; rfl, hB2⟩
    | false =>
      rw [if_neg (fun h => absurd h.2 (by decide))] at hD
      have HD := Lib.hid hD
      clear hD
      go_enter Tryz.func45, Tryz.ntmps45
      go_wp2_with fail
      refine HA.out.mono ?_
      rintro e w2 ⟨rfl, hB2⟩
      have HB2 := Lib.hid hB2
      clear hB2
      go_wp2_with fail
      refine (HC.out w2 (HV.out.below HB2.out)).mono ?_
      rintro e w3 ⟨rfl, hB3⟩
      have HB3 := Lib.hid (HB2.out.trans (hB3.mono HB2.out.size))
      clear hB3
      cases r <;> (
        go_wp2
        go_ret
        exact ⟨by rw [HD.out]; rfl, HB3.out⟩)
  · have d1 : (n == 1) = false := by simpa using h1
    rw [if_neg (fun h => h1 h.1)] at hD
    have HD := Lib.hid hD
    clear hD h1
    go_enter Tryz.func45, Tryz.ntmps45
    go_wp2_with fail
    refine (HC.out w HV.out).mono ?_
    rintro e w3 ⟨rfl, hB3⟩
    have HB3 := Lib.hid hB3
    clear hB3
    cases r <;> (
      go_wp2
      go_ret
      exact ⟨by rw [HD.out]; rfl, HB3.out⟩)

set_option maxRecDepth 4000 in
theorem arePairs_any (n : Int) (v : Value) (l : List Kv.Item) (w : World) (hv : ReadsK w v l) (hn : l.length ≤ 1000000) (hs : ∀ s ∈ l, s.key.length ≤ 140737488355328 ∧ s.val.length ≤ 140737488355328) :
    Calls Tryz.prog 44 #[.int .i64 n, v] w (Looks w (.bool (Mg.pairsOk n l))) := by
  have H1 := Lib.hid (checkKv_any v l w hv hs)
  have H2 := Lib.hid (check2Kv_any v l w hv hn hs)
  obtain ⟨D, hD⟩ : ∃ D, D = Mg.pairsOk n l := ⟨_, rfl⟩
  rw [← hD]
  unfold Mg.pairsOk at hD
  obtain ⟨r, hr⟩ : ∃ r, r = Kv.refCheck l := ⟨_, rfl⟩
  rw [← hr] at H1 hD
  obtain ⟨q, hq⟩ : ∃ q, q = Kv.refCheck2 l := ⟨_, rfl⟩
  rw [← hq] at H2 hD
  obtain ⟨ao, cap, rfl, hc1, hc2⟩ := ReadsK.shape hv
  obtain ⟨k, hk⟩ : ∃ k, k = l.length := ⟨_, rfl⟩
  rw [← hk] at H1 H2 ⊢
  clear hv hs hr hq hc1 hc2 hn hk
  by_cases h1 : n = 1
  · subst h1
    rw [if_pos rfl] at hD
    have HD := Lib.hid hD
    clear hD
    go_enter Tryz.func44, Tryz.ntmps44
    go_wp2_with fail
    refine H1.out.mono ?_
    rintro e w2 ⟨rfl, hB2⟩
    cases r <;> (
      go_wp2
      go_ret
      exact ⟨by rw [HD.out]; rfl, hB2⟩)
  · by_cases h2 : n = 2
    · subst h2
      rw [if_neg (by decide), if_pos rfl] at hD
      have HD := Lib.hid hD
      clear hD h1
      go_enter Tryz.func44, Tryz.ntmps44
      go_wp2_with fail
      refine H2.out.mono ?_
      rintro e w2 ⟨rfl, hB2⟩
      cases q <;> (
        go_wp2
        go_ret
        exact ⟨by rw [HD.out]; rfl, hB2⟩)
    · rw [if_neg h1, if_neg h2] at hD
      have d1 : (n == 1) = false := by simpa using h1
      have d2 : (n == 2) = false := by simpa using h2
      have HD := Lib.hid hD
      clear hD h1 h2
      go_enter Tryz.func44, Tryz.ntmps44
      go_wp2
      go_ret
      exact ⟨by rw [HD.out]; rfl, Below.refl _ _⟩

/-- What a walk asks of a state's lengths. -/
structure Mg.St.Few (s : Mg.St) : Prop where
  len : s.pairs.length ≤ 1000000
  str : ∀ e ∈ s.pairs, e.key.length ≤ 140737488355328 ∧ e.val.length ≤ 140737488355328
  ses : ∀ e ∈ s.sess, e.last.val.length ≤ 140737488355328
  num : s.sess.length ≤ 1000000
theorem Mg.few {s : Mg.St} (h : Mg.large s = false) : s.Few := by
  obtain ⟨h1, h2⟩ := Mg.large_no h
  obtain ⟨a1, a2⟩ := Se.small h1
  obtain ⟨b1, b2⟩ := Kv.small h2
  exact ⟨by omega, fun e he => ⟨by have := (b2 e he).1; omega, by have := (b2 e he).2; omega⟩, fun e he => by have := a2 e he; omega, by omega⟩
theorem Mg.few_revd {s : Mg.St} (a b : Int) (h : s.Few) : (Mg.revd s a b).Few := by
  refine ⟨by show (s.pairs.map _).length ≤ _; rw [List.length_map]; exact h.len, fun e he => ?_, h.ses, h.num⟩
  obtain ⟨p, hp, rfl⟩ := List.mem_map.1 (show e ∈ s.pairs.map (Mg.rev b) from he)
  exact h.str p hp

set_option maxRecDepth 4000 in
theorem checkSt_any (s : Mg.St) (vp vs : Value) (w : World) (hr : StR w s vp vs) (hf : s.Few) :
    Calls Tryz.prog 22 #[.agg (Mg.cells s.schema vp vs)] w (Looks w (.int .i64 (if Mg.check s = true then 0 else 3))) := by
  obtain ⟨w1, e1, hx1, hB1, hz1⟩ := box_st w s s.schema vp vs hr
  have HB := Lib.hid hB1
  have HX := Lib.hid hx1
  have HR := Lib.hid (hr.below hB1)
  have HF := Lib.hid hf
  obtain ⟨c0, c1, c2⟩ := hx1.all
  have HP := Lib.hid (arePairs_any s.schema vp s.pairs w1 HR.out.kv hf.len hf.str)
  have HS := Lib.hid (fun W h => areSessions_any s.schema vs s.sess W h hf.ses)
  obtain ⟨y, hy⟩ : ∃ y : Int, y = if Mg.check s = true then 0 else 3 := ⟨_, rfl⟩
  rw [← hy]
  unfold Mg.check at hy
  obtain ⟨a, ha⟩ : ∃ a, a = Mg.pairsOk s.schema s.pairs := ⟨_, rfl⟩
  rw [← ha] at HP hy
  obtain ⟨b, hb⟩ : ∃ b, b = Mg.sessOk s.schema s.sess := ⟨_, rfl⟩
  rw [← hb] at HS hy
  have HY := Lib.hid hy
  obtain ⟨n, l, m⟩ := s
  dsimp only at *
  clear hy ha hb hx1 hB1 hz1 hr hf
  go_enter Tryz.func22, Tryz.ntmps22
  go_wp2_with fail
  refine HP.out.mono ?_
  rintro e w2 ⟨rfl, hB2⟩
  have HB2 := Lib.hid (HB.out.trans (hB2.mono HB.out.size))
  have HR2 := Lib.hid (HR.out.below hB2)
  obtain ⟨m0, _, m2⟩ := (HX.out.below hB2 HX.out.lies.lt).all
  clear hB2 c0 c1 c2
  cases a with
  | false =>
    go_wp2
    go_ret
    exact ⟨by rw [HY.out]; rfl, HB2.out⟩
  | true =>
    go_wp2_with fail
    refine (HS.out _ HR2.out.ses).mono ?_
    rintro e w3 ⟨rfl, hB3⟩
    have HB3 := Lib.hid (HB2.out.trans (hB3.mono HB2.out.size))
    clear hB3
    cases b <;> (
      go_wp2
      go_ret
      exact ⟨by rw [HY.out]; rfl, HB3.out⟩)

end Go.Proofs.YtammfmmpldahhaaGreat
