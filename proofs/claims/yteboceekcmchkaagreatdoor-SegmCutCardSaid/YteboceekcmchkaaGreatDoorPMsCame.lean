/- Several texts of mine in one: GHa MsCame. -/
import Derived.Test.YteboceekcmchkaaGreatDoorPGBm
import Derived.Test.YteboceekcmchkaaGreatDoorGEr
import Derived.Test.YteboceekcmchkaaGreatDoorGRe
import Derived.Test.YteboceekcmchkaaGreatDoorPGMa
import Derived.Lib.LaidU8
namespace Go.Proofs.YteboceekcmchkaaGreatDoor
open Go.RowKit
set_option maxHeartbeats 3200000
set_option maxRecDepth 4000
def Hd.cells (h : Hd.Hard) (vi va vc : Value) : Array Value := #[.int .i64 h.prom.round, .int .i64 h.prom.node, .int .i64 h.base, vi, va, vc]
abbrev Hards (w : World) (g : Nat) (h : Hd.Hard) (vi va vc : Value) : Prop := Lies w g 27 (Hd.cells h vi va vc)
structure HardR (w : World) (h : Hd.Hard) (vi va vc : Value) : Prop where
 img : Reads w vi h.img
 acc : ReadsE w va h.acc
 chs : ReadsE w vc h.chs
theorem HardR.below {w w' : World} {h : Hd.Hard} {vi va vc : Value} (r : HardR w h vi va vc) (hb : Below w.heap.size w w') : HardR w' h vi va vc := ⟨r.img.below hb, r.acc.below hb, r.chs.below hb⟩
theorem box_hard (w : World) (h : Hd.Hard) (vi va vc : Value) : ∃ w1, w.alloc (.cells (Hd.cells h vi va vc) 27) = w1 ∧ Hards w1 w.heap.size h vi va vc ∧ Below w.heap.size w w1 ∧ w1.heap.size = w.heap.size + 1 :=
 ⟨_, rfl, Lies.new w _ _, (Below.refl _ w).alloc (Nat.le_refl _) _, by simp⟩
theorem box_hards (w : World) (h : Hd.Hard) (vi va vc : Value) (k : Hd.Hard) (ui ua uc : Value) : ∃ w1, (w.alloc (.cells (Hd.cells h vi va vc) 27)).alloc (.cells (Hd.cells k ui ua uc) 27) = w1 ∧ Hards w1 w.heap.size h vi va vc ∧ Hards w1 (w.heap.size + 1) k ui ua uc ∧ Below w.heap.size w w1 := by
 obtain ⟨w1, e1, h1, b1, s1⟩ := box_hard w h vi va vc
 obtain ⟨w2, e2, h2, b2, s2⟩ := box_hard w1 k ui ua uc
 rw [s1] at h2
 exact ⟨w2, by rw [e1, e2], h1.below b2 (by omega), h2, b1.trans (b2.mono b1.size)⟩
theorem sameH_any (h k : Hd.Hard) (vi va vc ui ua uc : Value) (w : World) (hr : HardR w h vi va vc) (kr : HardR w k ui ua uc) :
 Calls Tryz.prog 19 #[.agg (Hd.cells h vi va vc), .agg (Hd.cells k ui ua uc)] w (Looks w (.bool (decide (h = k)))) := by
 obtain ⟨w1, e1, hl1, hl2, hB1⟩ := box_hards w h vi va vc k ui ua uc
 have c0 : w1.cell? ⟨w.heap.size, 0, none⟩ = some (.int .i64 h.prom.round) := hl1.cell 0 _ rfl
 have c1 : w1.cell? ⟨w.heap.size, 1, none⟩ = some (.int .i64 h.prom.node) := hl1.cell 1 _ rfl
 have c2 : w1.cell? ⟨w.heap.size, 2, none⟩ = some (.int .i64 h.base) := hl1.cell 2 _ rfl
 have c3 : w1.cell? ⟨w.heap.size, 3, none⟩ = some (vi) := hl1.cell 3 _ rfl
 have c4 : w1.cell? ⟨w.heap.size, 4, none⟩ = some (va) := hl1.cell 4 _ rfl
 have c5 : w1.cell? ⟨w.heap.size, 5, none⟩ = some (vc) := hl1.cell 5 _ rfl
 have d0 : w1.cell? ⟨w.heap.size + 1, 0, none⟩ = some (.int .i64 k.prom.round) := hl2.cell 0 _ rfl
 have d1 : w1.cell? ⟨w.heap.size + 1, 1, none⟩ = some (.int .i64 k.prom.node) := hl2.cell 1 _ rfl
 have d2 : w1.cell? ⟨w.heap.size + 1, 2, none⟩ = some (.int .i64 k.base) := hl2.cell 2 _ rfl
 have d3 : w1.cell? ⟨w.heap.size + 1, 3, none⟩ = some (ui) := hl2.cell 3 _ rfl
 have d4 : w1.cell? ⟨w.heap.size + 1, 4, none⟩ = some (ua) := hl2.cell 4 _ rfl
 have d5 : w1.cell? ⟨w.heap.size + 1, 5, none⟩ = some (uc) := hl2.cell 5 _ rfl
 have hgd := guard_bal
 have heq := fun W => run_eql_bal W h.prom k.prom
 obtain ⟨t, ht⟩ : ∃ t, t = decide (h.prom = k.prom) := ⟨_, rfl⟩
 rw [← ht] at heq
 obtain ⟨r, hb⟩ : ∃ r, (h.base == k.base) = r := ⟨_, rfl⟩
 obtain ⟨q, hq⟩ : ∃ q, (h.img == k.img) = q := ⟨_, rfl⟩
 obtain ⟨s, hs⟩ : ∃ s, decide (h.acc = k.acc) = s := ⟨_, rfl⟩
 obtain ⟨u, hu⟩ : ∃ u, decide (h.chs = k.chs) = u := ⟨_, rfl⟩
 have HM : Hid (decide (h = k) = (t && (r && (q && (s && u))))) := by
  show _ = _
  rw [ht, ← hb, ← hq, ← hs, ← hu]
  obtain ⟨p1, b1, i1, a1, x1⟩ := h
  obtain ⟨p2, b2, i2, a2, x2⟩ := k
  rw [Bool.eq_iff_iff]
  simp
 have HL1 := Lib.hid hl1; have HL2 := Lib.hid hl2
 have HR := Lib.hid (hr.below hB1); have KR := Lib.hid (kr.below hB1); have HB := Lib.hid hB1
 have HQ := Lib.hid hq; have HS := Lib.hid hs; have HU := Lib.hid hu
 clear ht hq hs hu hl1 hl2 hB1 hr kr
 dsimp only [Bl.cells] at heq
 go_enter Tryz.func19, Tryz.ntmps19
 cases t with
 | false =>
  go_wp2
  go_ret
  exact ⟨by rw [HM.out]; rfl, HB.out⟩
 | true =>
  cases r with
  | false =>
   go_wp2
   go_ret
   exact ⟨by rw [HM.out]; rfl, HB.out⟩
  | true =>
   go_wp2_with fail
   refine (same_any _ _ h.img k.img _ HR.out.img KR.out.img).mono ?_
   rintro e w2 ⟨rfl, n2, rfl⟩
   rw [HQ.out]
   have HB2 : Hid (Below w1.heap.size w1 (w1.drewN n2)) := drawn w1 n2
   obtain ⟨w2, hw2⟩ : ∃ w2, w2 = w1.drewN n2 := ⟨_, rfl⟩
   rw [← hw2] at HB2 ⊢
   clear hw2
   cases q with
   | false =>
    go_wp2
    go_ret
    exact ⟨by rw [HM.out]; rfl, HB.out.trans (HB2.out.mono HB.out.size)⟩
   | true =>
    have m4 : w2.cell? ⟨w.heap.size, 4, none⟩ = some va := (HL1.out.below HB2.out HL1.out.lt).cell 4 _ rfl
    have n4 : w2.cell? ⟨w.heap.size + 1, 4, none⟩ = some ua := (HL2.out.below HB2.out HL2.out.lt).cell 4 _ rfl
    go_wp2_with fail
    refine (sameE_any _ _ h.acc k.acc _ (HR.out.acc.below HB2.out) (KR.out.acc.below HB2.out)).mono ?_
    rintro e w3 ⟨rfl, hb3⟩
    rw [HS.out]
    have HB3 := Lib.hid (HB2.out.trans (hb3.mono HB2.out.size))
    clear hb3
    cases s with
    | false =>
     go_wp2
     go_ret
     exact ⟨by rw [HM.out]; rfl, HB.out.trans (HB3.out.mono HB.out.size)⟩
    | true =>
     have m5 : w3.cell? ⟨w.heap.size, 5, none⟩ = some vc := (HL1.out.below HB3.out HL1.out.lt).cell 5 _ rfl
     have n5 : w3.cell? ⟨w.heap.size + 1, 5, none⟩ = some uc := (HL2.out.below HB3.out HL2.out.lt).cell 5 _ rfl
     go_wp2_with fail
     refine (sameE_any _ _ h.chs k.chs _ (HR.out.chs.below HB3.out) (KR.out.chs.below HB3.out)).mono ?_
     rintro e w4 ⟨rfl, hb4⟩
     rw [HU.out]
     have HB4 := Lib.hid (HB3.out.trans (hb4.mono HB3.out.size))
     clear hb4
     go_wp2
     go_ret
     exact ⟨by rw [HM.out]; rfl, HB.out.trans (HB4.out.mono HB.out.size)⟩
theorem heavyH_any (h : Hd.Hard) (vi va vc : Value) (w : World) (hr : HardR w h vi va vc) (ha : ∀ e ∈ h.acc, e.cmd.Short 9223372036854775807) (hc : ∀ e ∈ h.chs, e.cmd.Short 9223372036854775807) :
 Calls Tryz.prog 7 #[.agg (Hd.cells h vi va vc)] w (Looks w (.bool (decide (300 < h.img.length) || (En.large h.acc || En.large h.chs)))) := by
 obtain ⟨io, ic, rfl⟩ := hr.img.shape
 obtain ⟨w1, e1, hl1, hB1, _⟩ := box_hard w h (.slice io h.img.length ic) va vc
 have c2 : w1.cell? ⟨w.heap.size, 3, none⟩ = some (.slice io h.img.length ic) := hl1.cell 3 _ rfl
 have c4 : w1.cell? ⟨w.heap.size, 4, none⟩ = some va := hl1.cell 4 _ rfl
 obtain ⟨n, hn⟩ : ∃ n, n = h.img.length := ⟨_, rfl⟩
 obtain ⟨s, hs⟩ : ∃ s, En.large h.acc = s := ⟨_, rfl⟩
 obtain ⟨u, hu⟩ : ∃ u, En.large h.chs = u := ⟨_, rfl⟩
 have HR := Lib.hid (hr.below hB1); have HB := Lib.hid hB1; have HL := Lib.hid hl1; have HA := Lib.hid ha; have HC := Lib.hid hc
 rw [← hn] at c2 HR HL e1
 rw [← hn]
 have HS := Lib.hid hs; have HU := Lib.hid hu
 rw [hs, hu]
 clear hs hu hn hr hl1 hB1 ha hc
 go_enter Tryz.func7, Tryz.ntmps7
 by_cases h3 : 300 < n
 ·have d3 : decide (300 < n) = true := decide_eq_true h3
  go_wp2
  go_ret
  exact ⟨by simp, HB.out⟩
 ·have d3 : decide (300 < n) = false := decide_eq_false h3
  go_wp2_with fail
  refine (largeE_any _ h.acc _ HR.out.acc HA.out).mono ?_
  rintro e w2 ⟨rfl, hb2⟩
  rw [HS.out]
  have HB2 := Lib.hid hb2
  clear hb2
  cases s with
  | true =>
   go_wp2
   go_ret
   exact ⟨by simp, HB.out.trans (HB2.out.mono HB.out.size)⟩
  | false =>
   have m5 : w2.cell? ⟨w.heap.size, 5, none⟩ = some vc := (HL.out.below HB2.out HL.out.lt).cell 5 _ rfl
   go_wp2_with fail
   refine (largeE_any _ h.chs _ (HR.out.chs.below HB2.out) HC.out).mono ?_
   rintro e w3 ⟨rfl, hb3⟩
   rw [HU.out]
   have HB3 := Lib.hid (HB2.out.trans (hb3.mono HB2.out.size))
   clear hb3
   go_wp2
   go_ret
   exact ⟨by rw [show decide ((300 : Int) < (n : Int)) = false from decide_eq_false (by omega), d3]; rfl, HB.out.trans (HB3.out.mono HB.out.size)⟩
section
def Hd.six (p : Bl.Bal) (b : Int) (vi va vc : Value) : Array Value := #[.int .i64 p.round, .int .i64 p.node, .int .i64 b, vi, va, vc]
theorem Hd.six_ok (p : Bl.Bal) (b : Int) {vi va vc : Value} (h1 : vi.oneCell' = true) (h2 : va.oneCell' = true) (h3 : vc.oneCell' = true) : (Hd.six p b vi va vc).toList.all (·.oneCell') = true := by
 simp [Hd.six, h1, h2, h3]
 exact ⟨rfl, rfl, rfl⟩
theorem Hd.six_no8 (p : Bl.Bal) (b : Int) (io : Option Addr) (ik ic : Nat) (ao : Option Addr) (ak ac : Nat) (co : Option Addr) (ck cc : Nat) (x : Int) : ∀ j : Nat, (Hd.six p b (.slice io ik ic) (.slice ao ak ac) (.slice co ck cc))[j]? ≠ some (.int .u8 x)
 | 0 => by simp [Hd.six]
 | 1 => by simp [Hd.six]
 | 2 => by simp [Hd.six]
 | 3 => by simp [Hd.six]
 | 4 => by simp [Hd.six]
 | 5 => by simp [Hd.six]
 | j + 6 => by simp [Hd.six]
theorem Hd.six_nostr (p : Bl.Bal) (b : Int) (io : Option Addr) (ik ic : Nat) (ao : Option Addr) (ak ac : Nat) (co : Option Addr) (ck cc : Nat) (x : ByteArray) : ∀ j : Nat, (Hd.six p b (.slice io ik ic) (.slice ao ak ac) (.slice co ck cc))[j]? ≠ some (.string x)
 | 0 => by simp [Hd.six]
 | 1 => by simp [Hd.six]
 | 2 => by simp [Hd.six]
 | 3 => by simp [Hd.six]
 | 4 => by simp [Hd.six]
 | 5 => by simp [Hd.six]
 | j + 6 => by simp [Hd.six]
structure SixAt (w : World) (g : Nat) (T : TypeId) (p : Bl.Bal) (b : Int) (vi va vc : Value) : Prop where
 lies : Lies w g T (Hd.six p b vi va vc)
 vi : ∃ o k c, vi = .slice o k c
 va : ∃ o k c, va = .slice o k c
 vc : ∃ o k c, vc = .slice o k c
theorem HardR.sl {w : World} {h : Hd.Hard} {vi va vc : Value} (r : HardR w h vi va vc) : (∃ o k c, vi = .slice o k c) ∧ (∃ o k c, va = .slice o k c) ∧ (∃ o k c, vc = .slice o k c) := by
 obtain ⟨io, ic, e1⟩ := r.img.shape
 obtain ⟨ao, ac, e2, _⟩ := ReadsE.shape r.acc
 obtain ⟨co, cc, e3, _⟩ := ReadsE.shape r.chs
 exact ⟨⟨_, _, _, e1⟩, ⟨_, _, _, e2⟩, ⟨_, _, _, e3⟩⟩
theorem SixAt.of {w W : World} {g : Nat} {T : TypeId} {h : Hd.Hard} {vi va vc : Value} (hl : Lies W g T (Hd.cells h vi va vc)) (r : HardR w h vi va vc) : SixAt W g T h.prom h.base vi va vc := ⟨hl, r.sl.1, r.sl.2.1, r.sl.2.2⟩
theorem SixAt.no8 {w : World} {g : Nat} {T : TypeId} {p : Bl.Bal} {b : Int} {vi va vc : Value} (h : SixAt w g T p b vi va vc) (j : Nat) (x : Int) : (Hd.six p b vi va vc)[j]? ≠ some (.int .u8 x) := by
 obtain ⟨_, _, _, rfl⟩ := h.vi
 obtain ⟨_, _, _, rfl⟩ := h.va
 obtain ⟨_, _, _, rfl⟩ := h.vc
 exact Hd.six_no8 _ _ _ _ _ _ _ _ _ _ _ _ _
theorem SixAt.nostr {w : World} {g : Nat} {T : TypeId} {p : Bl.Bal} {b : Int} {vi va vc : Value} (h : SixAt w g T p b vi va vc) (j : Nat) (x : ByteArray) : (Hd.six p b vi va vc)[j]? ≠ some (.string x) := by
 obtain ⟨_, _, _, rfl⟩ := h.vi
 obtain ⟨_, _, _, rfl⟩ := h.va
 obtain ⟨_, _, _, rfl⟩ := h.vc
 exact Hd.six_nostr _ _ _ _ _ _ _ _ _ _ _ _ _
theorem SixAt.ok {w : World} {g : Nat} {T : TypeId} {p : Bl.Bal} {b : Int} {vi va vc : Value} (h : SixAt w g T p b vi va vc) : vi.oneCell' = true ∧ va.oneCell' = true ∧ vc.oneCell' = true := by
 obtain ⟨_, _, _, rfl⟩ := h.vi
 obtain ⟨_, _, _, rfl⟩ := h.va
 obtain ⟨_, _, _, rfl⟩ := h.vc
 exact ⟨rfl, rfl, rfl⟩
theorem SixAt.below {w w' : World} {B g : Nat} {T : TypeId} {p : Bl.Bal} {b : Int} {vi va vc : Value} (h : SixAt w g T p b vi va vc) (hb : Below B w w') (hB : g < B) : SixAt w' g T p b vi va vc := ⟨h.lies.below hb hB, h.vi, h.va, h.vc⟩
theorem SixAt.kept {w w' : World} {o : Nat} {g : Nat} {T : TypeId} {p : Bl.Bal} {b : Int} {vi va vc : Value} (h : SixAt w g T p b vi va vc) (hg : w.grownBy w' (some o)) (hne : g ≠ o) : SixAt w' g T p b vi va vc := ⟨h.lies.kept hg (by simpa using hne), h.vi, h.va, h.vc⟩
theorem SixAt.all {w : World} {g : Nat} {T : TypeId} {p : Bl.Bal} {b : Int} {vi va vc : Value} (h : SixAt w g T p b vi va vc) : w.cell? ⟨g, 0, none⟩ = some (.int .i64 p.round) ∧ w.cell? ⟨g, 1, none⟩ = some (.int .i64 p.node) ∧ w.cell? ⟨g, 2, none⟩ = some (.int .i64 b) ∧ w.cell? ⟨g, 3, none⟩ = some vi ∧ w.cell? ⟨g, 4, none⟩ = some va ∧ w.cell? ⟨g, 5, none⟩ = some vc :=
 ⟨h.lies.cell 0 _ rfl, h.lies.cell 1 _ rfl, h.lies.cell 2 _ rfl, h.lies.cell 3 _ rfl, h.lies.cell 4 _ rfl, h.lies.cell 5 _ rfl⟩
theorem HardR.over {w w' : World} {h : Hd.Hard} {ui ua uc : Value} {g : Nat} {T : TypeId} {p : Bl.Bal} {b : Int} {vi va vc : Value} (r : HardR w h ui ua uc) (s : SixAt w g T p b vi va vc) (hg : w.grownBy w' (some g)) : HardR w' h ui ua uc :=
 ⟨r.img.kept_of s.lies s.no8 hg, r.acc.kept_of s.lies s.nostr hg, r.chs.kept_of s.lies s.nostr hg⟩
section
variable {T : TypeId} {ops : Array Oper} {rest : List Oper} {op : Oper} {a : Act} {w : World} {Q : Exit → Act → World → Prop} {g : Nat} {p : Bl.Bal} {b : Int} {vi va vc : Value}
theorem store_prom (hgd : op.guard = none) (x y : Operand) (ho : op.op = .store 23 x y) (q : Bl.Bal) (hx : a.eval x = .pointer (some ⟨g, 0, none⟩)) (hy : a.eval y = .agg (Bl.cells q)) (hl : SixAt w g T p b vi va vc)
 (h : ∀ w', SixAt w' g T q b vi va vc → w.grownBy w' (some g) → wpList Tryz.prog ops Q rest (a.put op.dst undef) w') : wpList Tryz.prog ops Q (op :: rest) a w :=
 store_part hgd _ x y ho g 0 T _ (Hd.six q b vi va vc) (.agg (Bl.cells q)) (Bl.cells q).toList hx hy rfl (by kernel_rfl) rfl hl.lies (Nat.le_of_ble_eq_true rfl) rfl fun w' h1 h2 => h w' ⟨h1, hl.vi, hl.va, hl.vc⟩ h2
theorem store_base (hgd : op.guard = none) (x y : Operand) (ho : op.op = .store 3 x y) (c : Int) (hx : a.eval x = .pointer (some ⟨g, 2, none⟩)) (hy : a.eval y = .int .i64 c) (hl : SixAt w g T p b vi va vc)
 (h : ∀ w', SixAt w' g T p c vi va vc → w.grownBy w' (some g) → wpList Tryz.prog ops Q rest (a.put op.dst undef) w') : wpList Tryz.prog ops Q (op :: rest) a w :=
 store_part hgd _ x y ho g 2 T _ (Hd.six p c vi va vc) (.int .i64 c) [.int .i64 c] hx hy rfl (by kernel_rfl) rfl hl.lies (Nat.le_of_ble_eq_true rfl) rfl fun w' h1 h2 => h w' ⟨h1, hl.vi, hl.va, hl.vc⟩ h2
theorem store_img (hgd : op.guard = none) (x y : Operand) (ho : op.op = .store 24 x y) (uo : Option Addr) (uk uc : Nat) (hx : a.eval x = .pointer (some ⟨g, 3, none⟩)) (hy : a.eval y = .slice uo uk uc) (hl : SixAt w g T p b vi va vc)
 (h : ∀ w', SixAt w' g T p b (.slice uo uk uc) va vc → w.grownBy w' (some g) → wpList Tryz.prog ops Q rest (a.put op.dst undef) w') : wpList Tryz.prog ops Q (op :: rest) a w :=
 store_part hgd _ x y ho g 3 T _ (Hd.six p b (.slice uo uk uc) va vc) (.slice uo uk uc) [.slice uo uk uc] hx hy rfl (by kernel_rfl) rfl hl.lies (Nat.le_of_ble_eq_true rfl) rfl fun w' h1 h2 => h w' ⟨h1, ⟨_, _, _, rfl⟩, hl.va, hl.vc⟩ h2
theorem store_acc (hgd : op.guard = none) (x y : Operand) (ho : op.op = .store 25 x y) (uo : Option Addr) (uk uc : Nat) (hx : a.eval x = .pointer (some ⟨g, 4, none⟩)) (hy : a.eval y = .slice uo uk uc) (hl : SixAt w g T p b vi va vc)
 (h : ∀ w', SixAt w' g T p b vi (.slice uo uk uc) vc → w.grownBy w' (some g) → wpList Tryz.prog ops Q rest (a.put op.dst undef) w') : wpList Tryz.prog ops Q (op :: rest) a w :=
 store_part hgd _ x y ho g 4 T _ (Hd.six p b vi (.slice uo uk uc) vc) (.slice uo uk uc) [.slice uo uk uc] hx hy rfl (by kernel_rfl) rfl hl.lies (Nat.le_of_ble_eq_true rfl) rfl fun w' h1 h2 => h w' ⟨h1, hl.vi, ⟨_, _, _, rfl⟩, hl.vc⟩ h2
theorem store_chs (hgd : op.guard = none) (x y : Operand) (ho : op.op = .store 25 x y) (uo : Option Addr) (uk uc : Nat) (hx : a.eval x = .pointer (some ⟨g, 5, none⟩)) (hy : a.eval y = .slice uo uk uc) (hl : SixAt w g T p b vi va vc)
 (h : ∀ w', SixAt w' g T p b vi va (.slice uo uk uc) → w.grownBy w' (some g) → wpList Tryz.prog ops Q rest (a.put op.dst undef) w') : wpList Tryz.prog ops Q (op :: rest) a w :=
 store_part hgd _ x y ho g 5 T _ (Hd.six p b vi va (.slice uo uk uc)) (.slice uo uk uc) [.slice uo uk uc] hx hy rfl (by kernel_rfl) rfl hl.lies (Nat.le_of_ble_eq_true rfl) rfl fun w' h1 h2 => h w' ⟨h1, hl.vi, hl.va, ⟨_, _, _, rfl⟩⟩ h2
variable {q : Bl.Bal} {c : Int} {ui ua uc : Value}
theorem store_hard (hgd : op.guard = none) (x y : Operand) (ho : op.op = .store 27 x y) (hx : a.eval x = .pointer (some ⟨g, 0, none⟩)) (hl : SixAt w g T p b vi va vc) {w0 : World} {g0 : Nat} {T0 : TypeId} (hu : SixAt w0 g0 T0 q c ui ua uc) (hy : a.eval y = .agg (Hd.six q c ui ua uc))
 (h : ∀ w', SixAt w' g T q c ui ua uc → w.grownBy w' (some g) → wpList Tryz.prog ops Q rest (a.put op.dst undef) w') : wpList Tryz.prog ops Q (op :: rest) a w :=
 store_part hgd _ x y ho g 0 T _ (Hd.six q c ui ua uc) (.agg (Hd.six q c ui ua uc)) (Hd.six q c ui ua uc).toList hx hy rfl (by kernel_rfl) (Hd.six_ok q c hu.ok.1 hu.ok.2.1 hu.ok.2.2) hl.lies (Nat.le_of_ble_eq_true rfl) rfl fun w' h1 h2 => h w' ⟨h1, hu.vi, hu.va, hu.vc⟩ h2
theorem store_state (hgd : op.guard = none) (x y : Operand) (ho : op.op = .store 108 x y) (hx : a.eval x = .pointer (some ⟨g, 0, none⟩)) (hl : SixAt w g T p b vi va vc) {w0 : World} {g0 : Nat} {T0 : TypeId} (hu : SixAt w0 g0 T0 q c ui ua uc) (hy : a.eval y = .agg (Hd.six q c ui ua uc))
 (h : ∀ w', SixAt w' g T q c ui ua uc → w.grownBy w' (some g) → wpList Tryz.prog ops Q rest (a.put op.dst undef) w') : wpList Tryz.prog ops Q (op :: rest) a w :=
 store_part hgd _ x y ho g 0 T _ (Hd.six q c ui ua uc) (.agg (Hd.six q c ui ua uc)) (Hd.six q c ui ua uc).toList hx hy rfl (by kernel_rfl) (Hd.six_ok q c hu.ok.1 hu.ok.2.1 hu.ok.2.2) hl.lies (Nat.le_of_ble_eq_true rfl) rfl fun w' h1 h2 => h w' ⟨h1, hu.vi, hu.va, hu.vc⟩ h2
theorem load_hard (hgd : op.guard = none) (x : Operand) (ho : op.op = .load 27 x) (hx : a.eval x = .pointer (some ⟨g, 0, none⟩)) (hl : SixAt w g T p b vi va vc)
 (h : wpList Tryz.prog ops Q rest (a.put op.dst (.agg (Hd.six p b vi va vc))) w) : wpList Tryz.prog ops Q (op :: rest) a w :=
 wpList_load_mid hgd _ x ho g 0 hx (Hd.six p b vi va vc).toList _ (fun j v hv => by rw [Nat.zero_add]; exact hl.lies.cell j v (by simpa using hv)) Tryz.underlying27 rfl (by kernel_rfl) h
theorem load_state (hgd : op.guard = none) (x : Operand) (ho : op.op = .load 108 x) (hx : a.eval x = .pointer (some ⟨g, 0, none⟩)) (hl : SixAt w g T p b vi va vc)
 (h : wpList Tryz.prog ops Q rest (a.put op.dst (.agg (Hd.six p b vi va vc))) w) : wpList Tryz.prog ops Q (op :: rest) a w :=
 wpList_load_mid hgd _ x ho g 0 hx (Hd.six p b vi va vc).toList _ (fun j v hv => by rw [Nat.zero_add]; exact hl.lies.cell j v (by simpa using hv)) Tryz.underlying108 rfl (by kernel_rfl) h
end
theorem run_hard (w : World) (g : Nat) (p : Bl.Bal) (b : Int) (vi va vc : Value) (h : SixAt w g 27 p b vi va vc) : (loadVar 27 ⟨g, 0, none⟩).run Tryz.prog w = .ok (.agg (Hd.six p b vi va vc)) w :=
 run_loadVar_row w g _ _ (Hd.six p b vi va vc) (0, 0) _ h.lies Tryz.underlying27 rfl (by kernel_rfl)
theorem run_state (w : World) (g : Nat) (p : Bl.Bal) (b : Int) (vi va vc : Value) (h : SixAt w g 108 p b vi va vc) : (loadVar 108 ⟨g, 0, none⟩).run Tryz.prog w = .ok (.agg (Hd.six p b vi va vc)) w :=
 run_loadVar_row w g _ _ (Hd.six p b vi va vc) (0, 0) _ h.lies Tryz.underlying108 rfl (by kernel_rfl)
theorem ret_hard1 {fn : Func} {R : Ending → World → Prop} {a : Act} {w : World} {t : Tmp} {g : Nat} {p : Bl.Bal} {b : Int} {vi va vc : Value} (h : fn.results = #[.cell t 27]) (hp : a.tmps.getD t undef = .pointer (some ⟨g, 0, none⟩))
 (hl : SixAt w g 27 p b vi va vc) (hd : a.defers = []) (hR : R (.returned (.agg (Hd.six p b vi va vc))) w) : bodyPost Tryz.prog fn R .ret a w := by
 refine bodyPost_ret ?_ hd hR
 rw [results_one h, hp]
 simp [asAddr, Result.andThen, run_hard w g p b vi va vc hl]
theorem ret_state1 {fn : Func} {R : Ending → World → Prop} {a : Act} {w : World} {t : Tmp} {g : Nat} {p : Bl.Bal} {b : Int} {vi va vc : Value} (h : fn.results = #[.cell t 108]) (hp : a.tmps.getD t undef = .pointer (some ⟨g, 0, none⟩))
 (hl : SixAt w g 108 p b vi va vc) (hd : a.defers = []) (hR : R (.returned (.agg (Hd.six p b vi va vc))) w) : bodyPost Tryz.prog fn R .ret a w := by
 refine bodyPost_ret ?_ hd hR
 rw [results_one h, hp]
 simp [asAddr, Result.andThen, run_state w g p b vi va vc hl]
def MadeH (w : World) (h : Hd.Hard) (e : Ending) (w' : World) : Prop := ∃ vi va vc, e = .returned (.agg (Hd.cells h vi va vc)) ∧ HardR w' h vi va vc ∧ Below w.heap.size w w'
theorem ReadsR.lit {w : World} {g k : Nat} {E : TypeId} {rs : List (Array Value)} (h : Lies w g E (flatR rs).toArray) (hs : Sized k rs) (hn : rs.length ≤ 1000) : ReadsR w (.slice (some ⟨g, 0, none⟩) rs.length rs.length) k rs := by
 refine ⟨_, _, rfl, Nat.le_refl _, by unfold maxLen; omega, by simp, fun x hx i r hr j u hu => ?_⟩
 cases hx
 have hj : (flatR rs).toArray[i * k + j]? = some u := by simpa using flatR_at hs hr hu
 have := h.cell (i * k + j) u hj
 unfold Addr.add
 by_cases h0 : i * k + j = 0
 ·rw [if_pos h0]
  rw [h0] at this
  exact this
 ·rw [if_neg h0, Nat.zero_add]
  exact this
end
end Go.Proofs.YteboceekcmchkaaGreatDoor

namespace Go.Proofs.YteboceekcmchkaaGreatDoor
open Go.RowKit
set_option maxRecDepth 20000
section
theorem el_rows {α H : Type} {enc : TypeId × Value → H} {P : Program} {w : World} {base : Nat} {held : Bool} {t e : TypeId} {k : Nat} {fuel : Nat} {cs : List Value} {y : DataW H × List MemPlace} (cells : α → Array Value) (fit : α → Prop)
 (ht : P.underlying t = some (.slice e)) (hce : P.cellsOf e = k)
 (hel : ∀ (m : Nat) (cs : List Value) (y : DataW H × List MemPlace), DataW.trod enc P w base (fun _ => true) held m e cs = some y → ∃ a, cs = (cells a).toList ∧ fit a)
 (hf : DataW.trod enc P w base (fun _ => true) held fuel t cs = some y) : ∃ (u : Value) (l : List α), cs = [u] ∧ ReadsR w u k (l.map cells) ∧ ∀ a ∈ l, fit a := by
 rcases Deep.open_slice ht hf with ⟨rfl, _⟩ | ⟨x, l, c, m, n, D, Pl, rfl, _, hl, hm, hmm, _, hi⟩
 ·exact ⟨_, [], rfl, ReadsR.empty w k, fun a ha => by simp at ha⟩
 ·have each : ∀ i, i < l → ∃ f : α, (∀ (j : Nat) (u : Value), (cells f)[j]? = some u → w.cell? (x.add (i * k + j)) = some u) ∧ fit f := by
   intro i hil
   obtain ⟨cs', hc, ht'⟩ := hi i (by rw [hmm]; simp; omega)
   rw [hce] at hc
   obtain ⟨f, rfl, hfit⟩ := hel _ _ _ ht'
   obtain ⟨_, hcl, hat⟩ := World.cells?_some hc
   refine ⟨f, fun j u hu => ?_, hfit⟩
   have hjl : j < k := by have := (Array.getElem?_eq_some_iff.1 hu).1; rw [Array.length_toList] at hcl; omega
   have := hat j hjl
   rw [← Deep.add_add, this]
   simpa using hu
  obtain ⟨fs, hfl, hfq⟩ := pick _ l each
  refine ⟨_, fs, rfl, ⟨some x, c, by rw [List.length_map, hfl], by rw [List.length_map]; omega, hm, (fun h => by cases h), fun y hy i r hr j u hu => ?_⟩, fun f hf => ?_⟩
  ·cases hy
   rw [List.getElem?_map, Option.map_eq_some_iff] at hr
   obtain ⟨f, hf, rfl⟩ := hr
   exact (hfq i f hf).1 j u hu
  ·obtain ⟨i, hi⟩ := List.getElem?_of_mem hf
   exact (hfq i f hi).2
section
variable {H : Type} {enc : TypeId × Value → H} {w : World} {b0 base : Nat} {held : Bool}
theorem el_bytes (m : Nat) (cs : List Value) (y : DataW H × List MemPlace) (h : DataW.trod enc Tryz.prog w base (fun _ => true) held m 24 cs = some y) : ∃ u l, cs = [u] ∧ Reads w u l := by
 rcases ChangeShapes.open_ints Tryz.underlying24 Tryz.underlying5 (by kernel_rfl) h with ⟨rfl, _⟩ | ⟨x, l, c, zs, rfl, _, hl, hm, hz, _, hcell, hwz⟩
 ·exact ⟨_, [], rfl, Reads.empty w⟩
 ·exact ⟨_, _, rfl, reads_row (zs := zs) (.inr ⟨_, rfl, hl, hm, by simpa using hz, hcell, hwz⟩)⟩
end
end
end Go.Proofs.YteboceekcmchkaaGreatDoor
