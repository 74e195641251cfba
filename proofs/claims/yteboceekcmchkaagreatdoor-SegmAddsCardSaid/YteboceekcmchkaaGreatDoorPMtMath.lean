/- Several texts of mine in one: GEw GHb MtMath. -/
import Derived.Test.YteboceekcmchkaaGreatDoorGEf
import Derived.Deep.QuietTactic
import Derived.BigQuiet
import Derived.Test.YteboceekcmchkaaGreatDoorPGMa
import Derived.Test.YteboceekcmchkaaGreatDoorGMb
import Derived.Test.YteboceekcmchkaaGreatDoorGHa
import Derived.Test.YteboceekcmchkaaGreatDoorReCame
import Derived.Test.YteboceekcmchkaaGreatDoorGRh
import Derived.Test.YteboceekcmchkaaGreatDoorDkList
import Derived.Test.YteboceekcmchkaaGreatDoorGPl
namespace Go.Proofs.YteboceekcmchkaaGreatDoor
open Go.RowKit
theorem En.w1 (s : List En.Ent) (e a : En.Ent) (h : a.index = e.index) : En.wstep e (s, true) a = (s, true) := by unfold En.wstep En.ahead; simp [h]
theorem En.w2 (s : List En.Ent) (e a : En.Ent) (h : ¬ a.index = e.index) : En.wstep e (s, true) a = (s ++ [a], true) := by unfold En.wstep En.ahead; simp [h]
theorem En.w3 (s : List En.Ent) (e a : En.Ent) (h : a.index = e.index) : En.wstep e (s, false) a = (s ++ [e], true) := by unfold En.wstep En.ahead; simp [h]
theorem En.w4 (s : List En.Ent) (e a : En.Ent) (h1 : e.index ≤ a.index) (h : ¬ a.index = e.index) : En.wstep e (s, false) a = (s ++ [e] ++ [a], true) := by unfold En.wstep En.ahead; simp [h, h1]
theorem En.w5 (s : List En.Ent) (e a : En.Ent) (h1 : ¬ e.index ≤ a.index) : En.wstep e (s, false) a = (s ++ [a], false) := by unfold En.wstep En.ahead; rw [if_pos (by omega), if_neg (fun h => h1 h.2)]
end Go.Proofs.YteboceekcmchkaaGreatDoor

namespace Go.Proofs.YteboceekcmchkaaGreatDoor
open Go.RowKit
set_option maxHeartbeats 1600000
set_option maxRecDepth 4000
section
abbrev RecsP (p : Nat → TypeId → Prop) (w : World) (v : Value) (l : List Re.Rec) : Prop := ListP 12 Re.cells Re.Rec.img p w v l
theorem cellR_first (a : Re.Rec) (u : Value) : ∃ v, (Re.cells a u)[0]? = some v := ⟨_, rfl⟩
theorem cellR_ok (a : Re.Rec) (u : Value) : (Re.cells a u).size = 12 ∧ (u.oneCell' = true → (Re.cells a u).all (·.oneCell') = true) := ⟨rfl, fun h => by simp [Re.cells, h]; repeat' (first | rfl | constructor)⟩
section
variable {H : Type} {enc : TypeId × Value → H} {w : World} {b0 base : Nat} {held : Bool}
end
def LargishR (w : World) (l : List Re.Rec) (e : Ending) (w' : World) : Prop := ∃ b : Bool, e = .returned (.bool b) ∧ Below w.heap.size w w' ∧ (b = false → l.length ≤ 40 ∧ ∀ x ∈ l, Re.large x = false ∧ x.img.length ≤ 300)
theorem largeH_any {p : Nat → TypeId → Prop} (v : Value) (l : List Re.Rec) (w : World) (hv : RecsP p w v l) (hs : ∀ x ∈ l, x.cmd.Short 9223372036854775807) : Calls Tryz.prog 15 #[v] w (LargishR w l) := by
 obtain ⟨ao, cap, rfl, hc1, hc2⟩ := ListP.shape hv
 have HP := Lib.hid (fun h => ListP.places hv cellR_first h)
 obtain ⟨n, hn⟩ : ∃ n, n = l.length := ⟨_, rfl⟩
 rw [← hn] at hc1 HP ⊢
 have HN := Lib.hid hn; have HS := Lib.hid hs
 have hnb : n < 9223372036854775808 := by omega
 clear hv hn hs
 go_enter Tryz.func15, Tryz.ntmps15
 go_wp2
 go_loopw [3] (fun i wr => ∃ k : Nat, i = .int .i64 (k : Int) ∧ k ≤ n ∧ Hid (∀ c ∈ l.take k, Re.large c = false ∧ c.img.length ≤ 300) ∧ Hid (k ≤ 40) ∧ Hid (Below w.heap.size w wr)) (fun i _ => n - (intOf i).toNat)
 case atStart => exact ⟨0, rfl, by omega, by show ∀ c ∈ _, _; simp, by show 0 ≤ 40; omega, Below.refl _ _⟩
 case round =>
  obtain ⟨k, rfl, hk, HI, HK, HB⟩ := hrel
  by_cases hlt : k < n
  ·have d1 : decide (k < n) = true := decide_eq_true hlt
   by_cases h40 : k < 40
   ·have d2 : decide ((k : Int) < 40) = true := decide_eq_true (by omega)
    have h40' : (k : Int) < 40 := by omega
    obtain ⟨c, hcl⟩ : ∃ c, l[k]? = some c := ⟨_, List.getElem?_eq_getElem (by have := HN.out; omega)⟩
    obtain ⟨g, off, rfl, _, hc⟩ := HP.out (by have := HN.out; omega)
    obtain ⟨u, hu, hcell⟩ := hc k c hcl
    obtain ⟨uo, uc, rfl⟩ := hu.1.shape
    have hcw := hcell wr HB.out
    have m0 : wr.cell? ⟨g, off + k * 12, none⟩ = some (.int .i64 c.kind) := hcw 0 _ rfl
    have m1 : wr.cell? ⟨g, off + k * 12 + 1, none⟩ = some (.int .i64 c.bal.round) := hcw 1 _ rfl
    have m2 : wr.cell? ⟨g, off + k * 12 + 2, none⟩ = some (.int .i64 c.bal.node) := hcw 2 _ rfl
    have m3 : wr.cell? ⟨g, off + k * 12 + 3, none⟩ = some (.int .i64 c.index) := hcw 3 _ rfl
    have m4 : wr.cell? ⟨g, off + k * 12 + 4, none⟩ = some (.int .i64 c.cmd.kind) := hcw 4 _ rfl
    have m5 : wr.cell? ⟨g, off + k * 12 + 5, none⟩ = some (.int .i64 c.cmd.client) := hcw 5 _ rfl
    have m6 : wr.cell? ⟨g, off + k * 12 + 6, none⟩ = some (.int .i64 c.cmd.seq) := hcw 6 _ rfl
    have m7 : wr.cell? ⟨g, off + k * 12 + 7, none⟩ = some (.string ⟨c.cmd.key.toArray⟩) := hcw 7 _ rfl
    have m8 : wr.cell? ⟨g, off + k * 12 + 8, none⟩ = some (.string ⟨c.cmd.val.toArray⟩) := hcw 8 _ rfl
    have m9 : wr.cell? ⟨g, off + k * 12 + 9, none⟩ = some (.string ⟨c.cmd.old.toArray⟩) := hcw 9 _ rfl
    have m10 : wr.cell? ⟨g, off + k * 12 + 10, none⟩ = some (.int .i64 c.cmd.node) := hcw 10 _ rfl
    have m11 : wr.cell? ⟨g, off + k * 12 + 11, none⟩ = some (.slice uo c.img.length uc) := hcw 11 _ rfl
    have hlr := largeRe_any c (.slice uo c.img.length uc) wr (hu.1.below HB.out) (HS.out c (List.mem_of_getElem? hcl))
    have HCL := Lib.hid hcl; have HC := Lib.hid hcell
    clear hc hcl hcell hu hcw
    go_wp2_with fail
    refine hlr.mono ?_
    rintro e w2 ⟨rfl, hb2⟩
    have HB2 := Lib.hid (HB.out.trans (hb2.mono HB.out.size))
    clear hlr hb2 m0 m1 m2 m3 m4 m5 m6 m7 m8 m9 m10 m11
    have m11 : w2.cell? ⟨g, off + k * 12 + 11, none⟩ = some (.slice uo c.img.length uc) := HC.out w2 HB2.out 11 _ rfl
    obtain ⟨m, hm⟩ : ∃ m, m = c.img.length := ⟨_, rfl⟩
    rw [← hm] at m11
    obtain ⟨t, ht⟩ : ∃ t, t = Re.large c := ⟨_, rfl⟩
    rw [← ht]
    have HM := Lib.hid hm; have HT := Lib.hid ht
    clear hm ht HC
    cases t with
    | true =>
     go_wp2
     go_ret
     exact ⟨true, rfl, HB2.out, fun h => by cases h⟩
    | false =>
     by_cases hb : 300 < m
     ·go_wp2
      go_ret
      exact ⟨true, rfl, HB2.out, fun h => by cases h⟩
     ·have HI2 : Hid (∀ c ∈ l.take (k + 1), Re.large c = false ∧ c.img.length ≤ 300) := by
       intro d hd
       rw [List.take_add_one, HCL.out] at hd
       rcases List.mem_append.1 hd with hd | hd
       ·exact HI.out d hd
       ·simp at hd; subst hd; exact ⟨HT.out.symm, by have := HM.out; omega⟩
      go_wp2
      go_roundw
      case rel => exact ⟨k + 1, by go_num, by omega, HI2.out, by show k + 1 ≤ 40; omega, HB2⟩
      case measure => simp [intOf]; omega
   ·have d2 : decide ((k : Int) < 40) = false := decide_eq_false (by omega)
    have h40' : ¬ (k : Int) < 40 := by omega
    have hb : 40 < n := by have := HK.out; omega
    go_wp2
    go_ret
    exact ⟨true, by simp; omega, HB.out, fun h => by cases h⟩
  ·obtain rfl : k = n := by omega
   have hb : ¬ 40 < k := by have := HK.out; omega
   go_wp2
   go_ret
   refine ⟨false, by simp; omega, HB.out, fun _ => ⟨by have := HN.out; omega, fun c hc => HI.out c ?_⟩⟩
   rw [List.take_of_length_le (by have := HN.out; omega)]
   exact hc
end
theorem Hd.two_len (b : Int) (s : List En.Ent × List En.Ent) (x : Re.Rec) : (Hd.two b s x).1.length ≤ s.1.length + 1 ∧ (Hd.two b s x).2.length ≤ s.2.length + 1 := by
 have h1 := En.put_len s.1 (Hd.ent x)
 have h2 := En.put_len s.2 (Hd.ent x)
 unfold Hd.two
 split
 ·exact ⟨by omega, by omega⟩
 ·split
  ·exact ⟨h1, by show s.2.length ≤ _; omega⟩
  ·split
   ·exact ⟨by omega, by omega⟩
   ·exact ⟨by show s.1.length ≤ _; omega, h2⟩
theorem Hd.take_snoc {l : List Re.Rec} {k : Nat} {x : Re.Rec} (h : l[k]? = some x) : l.take (k + 1) = l.take k ++ [x] := by rw [List.take_add_one, h]; rfl
theorem load_rec_at {ops : Array Oper} {rest : List Oper} {op : Oper} {a : Act} {w : World} {Q : Exit → Act → World → Prop} (hgd : op.guard = none) (x : Operand) (ho : op.op = .load 42 x)
 (g o : Nat) (r : Re.Rec) (vi : Value) (hx : a.eval x = .pointer (some ⟨g, o, none⟩)) (hl : ∀ j v, (Re.cells r vi)[j]? = some v → w.cell? ⟨g, o + j, none⟩ = some v)
 (h : wpList Tryz.prog ops Q rest (a.put op.dst (.agg (Re.cells r vi))) w) : wpList Tryz.prog ops Q (op :: rest) a w :=
 wpList_load_mid hgd _ x ho g o hx (Re.cells r vi).toList _ (fun j v hv => hl j v (by simpa using hv)) Tryz.underlying42 rfl (by kernel_rfl) h
abbrev Nil : Value := .slice none 0 0
theorem box_zero (w : World) (T : TypeId) : ∃ w1, w.alloc (.cells #[.int .i64 0, .int .i64 0, .int .i64 0, .slice none 0 0, .slice none 0 0, .slice none 0 0] T) = w1 ∧ SixAt w1 w.heap.size T Bl.zero 0 Nil Nil Nil ∧ Below w.heap.size w w1 ∧ w1.heap.size = w.heap.size + 1 :=
 ⟨_, rfl, ⟨Lies.new w _ _, ⟨_, _, _, rfl⟩, ⟨_, _, _, rfl⟩, ⟨_, _, _, rfl⟩⟩, (Below.refl _ w).alloc (Nat.le_refl _) _, by simp⟩
end Go.Proofs.YteboceekcmchkaaGreatDoor

namespace Go.Proofs.YteboceekcmchkaaGreatDoor
open Go.RowKit
namespace Mt
def part (t : Bool) (l : List UInt8) : List UInt8 := if t = true then l else []
def one (e : En.Ent) : List UInt8 := enc e.index.toNat ++ Cm.bytes 2 e.cmd
def ents (m : Ms.Msg) : List UInt8 := if m.kind = 5 then m.ents.flatMap one else part (Ms.he m.kind) (En.bytes 2 m.ents)
def bytes (m : Ms.Msg) : List UInt8 :=
 Ms.nbytes [m.kind, m.frm, m.dst] ++ (part (Ms.hb m.kind) (enc m.bal.round.toNat) ++ (part (Ms.hb m.kind) (enc m.bal.node.toNat) ++ (part (Ms.hi m.kind) (enc m.index.toNat) ++ (part (Ms.hc m.kind) (enc m.commit.toNat) ++ (part (Ms.hv m.kind) (enc m.version.toNat) ++ (ents m ++ part (Ms.hm m.kind) (Pk.text m.img)))))))
def num (t : Bool) (b : List UInt8) (s : Nat × Int) : Int × Nat × Int := if t = true then ((Cm.rnum b s.1 s.2).1, (Cm.rnum b s.1 s.2).2.1.toNat, (Cm.rnum b s.1 s.2).2.2) else (0, s)
def list (k : Int) (bal : Bl.Bal) (b : List UInt8) (s : Nat × Int) : List En.Ent × Nat × Int :=
 if k = 5 then ([⟨(Cm.rnum b s.1 s.2).1, bal, (Cm.get 2 b (Cm.rnum b s.1 s.2).2.1.toNat (Cm.rnum b s.1 s.2).2.2).1⟩], (Cm.get 2 b (Cm.rnum b s.1 s.2).2.1.toNat (Cm.rnum b s.1 s.2).2.2).2)
 else if Ms.he k = true then En.get 2 b s.1 s.2 else ([], s)
def img (t : Bool) (b : List UInt8) (s : Nat × Int) : List UInt8 × Nat × Int := if t = true then ((Ms.raw b s.1 s.2).1, (Ms.raw b s.1 s.2).2.1.toNat, (Ms.raw b s.1 s.2).2.2) else ([], s)
def kindOf (b : List UInt8) : Int := Ms.nth (Ms.rnums b 3).1 0
def r1 (b : List UInt8) := num (Ms.hb (kindOf b)) b (Ms.rnums b 3).2
def r2 (b : List UInt8) := num (Ms.hb (kindOf b)) b (r1 b).2
def r3 (b : List UInt8) := num (Ms.hi (kindOf b)) b (r2 b).2
def r4 (b : List UInt8) := num (Ms.hc (kindOf b)) b (r3 b).2
def r5 (b : List UInt8) := num (Ms.hv (kindOf b)) b (r4 b).2
def r6 (b : List UInt8) := list (kindOf b) ⟨(r1 b).1, (r2 b).1⟩ b (r5 b).2
def r7 (b : List UInt8) := img (Ms.hm (kindOf b)) b (r6 b).2
def gotM (b : List UInt8) : Ms.Msg := ⟨kindOf b, Ms.nth (Ms.rnums b 3).1 1, Ms.nth (Ms.rnums b 3).1 2, ⟨(r1 b).1, (r2 b).1⟩, (r3 b).1, (r4 b).1, (r5 b).1, (r6 b).1, (r7 b).1⟩
def decode (b : List UInt8) : Ms.Msg × Int :=
 if (Ms.rnums b 3).2.2 ≠ 0 then (Ms.zero, (Ms.rnums b 3).2.2)
 else if Ms.known (kindOf b) = false then (Ms.zero, 3)
 else if Cm.done b (r7 b).2.1 (r7 b).2.2 ≠ 0 then (Ms.zero, Cm.done b (r7 b).2.1 (r7 b).2.2)
 else if Ms.check (gotM b) ≠ 0 then (Ms.zero, Ms.check (gotM b)) else (gotM b, 0)
theorem part_yes (l : List UInt8) : part true l = l := rfl
theorem part_no (l : List UInt8) : part false l = [] := rfl
theorem num_at (t : Bool) (pre post : List UInt8) {n : Int} (h0 : 0 ≤ n) (h1 : n ≤ 9223372036854775807) (hz : t = false → n = 0) :
 num t (pre ++ (part t (enc n.toNat) ++ post)) (pre.length, 0) = (n, (pre ++ part t (enc n.toNat)).length, 0) := by
 cases t with
 | true =>
  rw [part_yes]
  unfold num
  rw [if_pos rfl, Cm.rnum_at pre post (by omega), Int.toNat_of_nonneg h0]
  simp
  omega
 | false =>
  rw [part_no, hz rfl]
  simp [num]
theorem num_ok (t : Bool) (b : List UInt8) (s : Nat × Int) (hs : s.1 ≤ b.length) (h : (num t b s).2.2 = 0) :
 s.2 = 0 ∧ (num t b s).2.1 ≤ b.length ∧ b.take (num t b s).2.1 = b.take s.1 ++ part t (enc (num t b s).1.toNat) := by
 cases t with
 | true =>
  unfold num at h ⊢
  rw [if_pos rfl] at h ⊢
  obtain ⟨h1, _, _, h4, h5⟩ := Cm.rnum_ok b s.1 s.2 h
  exact ⟨h1, h4, h5⟩
 | false =>
  unfold num at h ⊢
  rw [if_neg (by simp)] at h ⊢
  exact ⟨h, hs, by rw [part_no, List.append_nil]⟩
theorem num_le (t : Bool) (b : List UInt8) (s : Nat × Int) (hs : s.1 ≤ b.length) : (num t b s).2.1 ≤ b.length := by
 unfold num
 split
 ·exact Cm.rnum_le b s.1 s.2 hs
 ·exact hs
theorem img_at (t : Bool) (pre post : List UInt8) {l : List UInt8} (h : l.length ≤ 32768) (hz : t = false → l = []) :
 img t (pre ++ (part t (Pk.text l) ++ post)) (pre.length, 0) = (l, (pre ++ part t (Pk.text l)).length, 0) := by
 cases t with
 | true =>
  rw [part_yes]
  unfold img
  rw [if_pos rfl, Ms.raw_at pre post h]
  simp
  omega
 | false =>
  rw [part_no, hz rfl]
  simp [img]
theorem img_ok (t : Bool) (b : List UInt8) (s : Nat × Int) (hs : s.1 ≤ b.length) (h : (img t b s).2.2 = 0) :
 s.2 = 0 ∧ (img t b s).2.1 ≤ b.length ∧ b.take (img t b s).2.1 = b.take s.1 ++ part t (Pk.text (img t b s).1) := by
 cases t with
 | true =>
  unfold img at h ⊢
  rw [if_pos rfl] at h ⊢
  rcases Ms.raw_cases b s.1 s.2 hs with ⟨e, q, he, _, hr⟩ | ⟨x, q, h0, hq, _, hr, ht⟩
  ·rw [hr] at h; exact absurd h he
  ·rw [hr] at h ⊢
   simp only [Int.toNat_natCast]
   exact ⟨h0, hq, ht⟩
 | false =>
  unfold img at h ⊢
  rw [if_neg (by simp)] at h ⊢
  exact ⟨h, hs, by rw [part_no, List.append_nil]⟩
theorem has_two {k : Int} (h : Cm.known k = true) : Vs.has 2 k = true := by
 unfold Cm.known at h
 simp only [Bool.and_eq_true, decide_eq_true_eq] at h
 rcases Vs.kinds k with rfl | rfl | rfl | rfl | rfl | rfl | rfl | rfl | h'
 rotate_right
 ·omega
 all_goals decide
theorem cmd_two {c : Cm.Cmd} (h : Cm.check c = 0) : Cm.restrict 2 c = c := by
 refine Cm.restrict_ok 2 c ?_
 unfold Cm.checkIn
 rw [if_neg (by decide), if_neg (by simpa using h), if_neg (by rw [has_two (Cm.check_ok h).1]; simp)]
theorem ent_two {e : En.Ent} (h : Cm.check e.cmd = 0) : En.restrict 2 e = e := by
 unfold En.restrict
 rw [cmd_two h]
theorem list_at {m : Ms.Msg} (hg : Ms.Good m) (hf : ∀ e ∈ m.ents, e.Fits) {s : Nat} (hs : ∀ e ∈ m.ents, e.cmd.Short s) (hs2 : s ≤ 9223372036854775807) (pre post : List UInt8) :
 list m.kind m.bal (pre ++ (ents m ++ post)) (pre.length, 0) = (m.ents, (pre ++ ents m).length, 0) := by
 have hents : ∀ e ∈ m.ents, e.Pos ∧ e.Fits ∧ En.restrict 2 e = e := fun e he => by
  obtain ⟨h1, h2⟩ := Ms.ents_ok _ _ hg.ents e he
  exact ⟨Ms.ent_pos h1 h2, hf e he, ent_two h2⟩
 unfold list ents
 by_cases h5 : m.kind = 5
 ·rw [if_pos h5, if_pos h5]
  have hw := hg.whole
  unfold Ms.whole at hw
  rw [if_pos h5] at hw
  unfold Ms.sole at hw
  obtain ⟨e, he, hb⟩ : ∃ e, m.ents = [e] ∧ e.bal = m.bal := by
   match hm : m.ents, hw with
   | [e], hw => exact ⟨e, rfl, of_decide_eq_true hw⟩
  obtain ⟨hp, hfe, hre⟩ := hents e (by rw [he]; simp)
  have h1 := hp.i; have h2 := hfe.i1
  have hre2 : Cm.restrict 2 e.cmd = e.cmd := by have := congrArg En.Ent.cmd hre; exact this
  rw [he]
  have e1 : [e].flatMap one = enc e.index.toNat ++ Cm.bytes 2 e.cmd := by simp [one]
  have e2 : pre ++ ([e].flatMap one ++ post) = pre ++ (enc e.index.toNat ++ (Cm.bytes 2 e.cmd ++ post)) := by rw [e1]; simp
  have a1 := Cm.rnum_at pre (Cm.bytes 2 e.cmd ++ post) (n := e.index.toNat) (by omega)
  have a2 := Cm.get_at 2 e.cmd hp.c hfe.cmd (hs e (by rw [he]; simp)) hs2 (pre ++ enc e.index.toNat) post
  have e3 : pre ++ enc e.index.toNat ++ (Cm.bytes 2 e.cmd ++ post) = pre ++ (enc e.index.toNat ++ (Cm.bytes 2 e.cmd ++ post)) := by simp
  rw [e3, hre2] at a2
  rw [e2]
  dsimp only
  rw [a1]
  simp only [Int.toNat_natCast]
  rw [a2, e1, Int.toNat_of_nonneg h1, ← hb]
  simp
 ·rw [if_neg h5, if_neg h5]
  by_cases he : Ms.he m.kind = true
  ·rw [if_pos he, he, part_yes]
   have h2 := En.get_at 2 m.ents (Ms.good_len hg).1 (fun e he => ⟨(hents e he).1, (hents e he).2.1⟩) hs hs2 pre post
   rw [show m.ents.map (En.restrict 2) = m.ents from by
    conv => rhs; rw [← List.map_id m.ents]
    exact List.map_congr_left fun e he => (hents e he).2.2] at h2
   exact h2
  ·have hz : m.ents = [] := by
    have := congrArg Ms.Msg.ents hg.own
    rw [← this]
    exact if_neg he
   rw [if_neg he, Bool.not_eq_true] at *
   rw [he, part_no, hz]
   simp
theorem list_ok {k : Int} (bal : Bl.Bal) (b : List UInt8) (s : Nat × Int) (hs : s.1 ≤ b.length) (h : (list k bal b s).2.2 = 0) :
 s.2 = 0 ∧ (list k bal b s).2.1 ≤ b.length ∧ b.take (list k bal b s).2.1 = b.take s.1 ++ (if k = 5 then (list k bal b s).1.flatMap one else part (Ms.he k) (En.bytes 2 (list k bal b s).1)) := by
 unfold list at h ⊢
 by_cases h5 : k = 5
 ·rw [if_pos h5] at h
  simp only [if_pos h5]
  have l1 := Cm.rnum_le b s.1 s.2 hs
  obtain ⟨g0, g1, g2⟩ := Cm.get_ok 2 b _ _ h l1
  obtain ⟨z1, _, _, _, b1⟩ := Cm.rnum_ok b s.1 s.2 g0
  refine ⟨z1, g1, ?_⟩
  rw [g2, b1]
  simp [one]
 ·rw [if_neg h5] at h
  simp only [if_neg h5]
  by_cases he : Ms.he k = true
  ·rw [if_pos he] at h
   simp only [if_pos he]
   obtain ⟨z, _, ht⟩ := En.get_ok 2 b s.1 s.2 h hs
   exact ⟨z, En.get_le 2 b s.1 s.2 hs, by rw [ht, he, part_yes]⟩
  ·rw [if_neg he] at h
   simp only [if_neg he]
   rw [Bool.not_eq_true] at he
   exact ⟨h, hs, by rw [he, part_no, List.append_nil]⟩
theorem list_le (k : Int) (bal : Bl.Bal) (b : List UInt8) (s : Nat × Int) (hs : s.1 ≤ b.length) : (list k bal b s).2.1 ≤ b.length := by
 unfold list
 split
 ·exact Cm.get_le 2 b _ _ (Cm.rnum_le b s.1 s.2 hs)
 ·split
  ·exact En.get_le 2 b s.1 s.2 hs
  ·exact hs
theorem decode_back {m : Ms.Msg} (h : Ms.check m = 0) (hf : m.Fits) {s : Nat} (hs : ∀ e ∈ m.ents, e.cmd.Short s) (hs2 : s ≤ 9223372036854775807) : decode (bytes m) = (m, 0) := by
 have hg := Ms.check_good h
 have hpos := Ms.good_pos hg
 obtain ⟨hl, hl2⟩ := Ms.good_len hg
 have hown := hg.own
 have zb : Ms.hb m.kind = false → m.bal = Bl.zero := fun q => by have := congrArg Ms.Msg.bal hown; rw [← this]; exact if_neg (by rw [q]; simp)
 have zi : Ms.hi m.kind = false → m.index = 0 := fun q => by have := congrArg Ms.Msg.index hown; rw [← this]; exact if_neg (by rw [q]; simp)
 have zc : Ms.hc m.kind = false → m.commit = 0 := fun q => by have := congrArg Ms.Msg.commit hown; rw [← this]; exact if_neg (by rw [q]; simp)
 have zv : Ms.hv m.kind = false → m.version = 0 := fun q => by have := congrArg Ms.Msg.version hown; rw [← this]; exact if_neg (by rw [q]; simp)
 have zm : Ms.hm m.kind = false → m.img = [] := fun q => by have := congrArg Ms.Msg.img hown; rw [← this]; exact if_neg (by rw [q]; simp)
 have hver : 0 ≤ m.version ∧ m.version ≤ 2 := by
  by_cases hk : Ms.hv m.kind = true
  ·have hr := hg.ranged
   unfold Ms.ranged at hr
   rw [hk] at hr
   simp only [Bool.true_and, Bool.and_eq_true, Bool.not_eq_true', Bool.not_eq_false'] at hr
   rcases Vs.may_or m.version with ⟨_, h1 | h1⟩ | ⟨h1, _, _⟩
   ·omega
   ·omega
   ·rw [h1] at hr; simp at hr
  ·rw [zv (by simpa using hk)]; omega
 have q0 := hpos m.kind (by simp [Ms.nums]); have q3 := hpos m.bal.round (by simp [Ms.nums]); have q4 := hpos m.bal.node (by simp [Ms.nums])
 have q5 := hpos m.index (by simp [Ms.nums]); have q6 := hpos m.commit (by simp [Ms.nums])
 obtain ⟨B, hB⟩ : ∃ B, B = bytes m := ⟨_, rfl⟩
 obtain ⟨A0, hA0⟩ : ∃ A, A = Ms.nbytes [m.kind, m.frm, m.dst] := ⟨_, rfl⟩
 obtain ⟨A1, hA1⟩ : ∃ A, A = part (Ms.hb m.kind) (enc m.bal.round.toNat) := ⟨_, rfl⟩
 obtain ⟨A2, hA2⟩ : ∃ A, A = part (Ms.hb m.kind) (enc m.bal.node.toNat) := ⟨_, rfl⟩
 obtain ⟨A3, hA3⟩ : ∃ A, A = part (Ms.hi m.kind) (enc m.index.toNat) := ⟨_, rfl⟩
 obtain ⟨A4, hA4⟩ : ∃ A, A = part (Ms.hc m.kind) (enc m.commit.toNat) := ⟨_, rfl⟩
 obtain ⟨A5, hA5⟩ : ∃ A, A = part (Ms.hv m.kind) (enc m.version.toNat) := ⟨_, rfl⟩
 obtain ⟨A6, hA6⟩ : ∃ A, A = ents m := ⟨_, rfl⟩
 obtain ⟨A7, hA7⟩ : ∃ A, A = part (Ms.hm m.kind) (Pk.text m.img) := ⟨_, rfl⟩
 have hBB : B = A0 ++ (A1 ++ (A2 ++ (A3 ++ (A4 ++ (A5 ++ (A6 ++ A7)))))) := by rw [hB, hA0, hA1, hA2, hA3, hA4, hA5, hA6, hA7]; rfl
 have g0 := Ms.rnums_at [m.kind, m.frm, m.dst] (fun x hx => hpos x (by simp [Ms.nums] at hx ⊢; rcases hx with h | h | h <;> simp [h])) B (A1 ++ (A2 ++ (A3 ++ (A4 ++ (A5 ++ (A6 ++ A7)))))) (by rw [← hA0]; exact hBB) 3 (Nat.le_refl _)
 rw [show [m.kind, m.frm, m.dst].take 3 = [m.kind, m.frm, m.dst] from rfl, ← hA0] at g0
 have hk : kindOf B = m.kind := by unfold kindOf; rw [g0]; rfl
 have g1 : r1 B = (m.bal.round, (A0 ++ A1).length, 0) := by
  have := num_at (Ms.hb m.kind) A0 (A2 ++ (A3 ++ (A4 ++ (A5 ++ (A6 ++ A7))))) q3.1 q3.2 (fun q => by rw [zb q]; rfl)
  rw [← hA1, ← hBB] at this
  unfold r1; rw [hk, g0]; exact this
 have g2 : r2 B = (m.bal.node, (A0 ++ A1 ++ A2).length, 0) := by
  have := num_at (Ms.hb m.kind) (A0 ++ A1) (A3 ++ (A4 ++ (A5 ++ (A6 ++ A7)))) q4.1 q4.2 (fun q => by rw [zb q]; rfl)
  rw [← hA2, show A0 ++ A1 ++ (A2 ++ (A3 ++ (A4 ++ (A5 ++ (A6 ++ A7))))) = B by rw [hBB]; simp] at this
  unfold r2; rw [hk, g1]; exact this
 have g3 : r3 B = (m.index, (A0 ++ A1 ++ A2 ++ A3).length, 0) := by
  have := num_at (Ms.hi m.kind) (A0 ++ A1 ++ A2) (A4 ++ (A5 ++ (A6 ++ A7))) q5.1 q5.2 zi
  rw [← hA3, show A0 ++ A1 ++ A2 ++ (A3 ++ (A4 ++ (A5 ++ (A6 ++ A7)))) = B by rw [hBB]; simp] at this
  unfold r3; rw [hk, g2]; exact this
 have g4 : r4 B = (m.commit, (A0 ++ A1 ++ A2 ++ A3 ++ A4).length, 0) := by
  have := num_at (Ms.hc m.kind) (A0 ++ A1 ++ A2 ++ A3) (A5 ++ (A6 ++ A7)) q6.1 q6.2 zc
  rw [← hA4, show A0 ++ A1 ++ A2 ++ A3 ++ (A4 ++ (A5 ++ (A6 ++ A7))) = B by rw [hBB]; simp] at this
  unfold r4; rw [hk, g3]; exact this
 have g5 : r5 B = (m.version, (A0 ++ A1 ++ A2 ++ A3 ++ A4 ++ A5).length, 0) := by
  have := num_at (Ms.hv m.kind) (A0 ++ A1 ++ A2 ++ A3 ++ A4) (A6 ++ A7) hver.1 (by omega) zv
  rw [← hA5, show A0 ++ A1 ++ A2 ++ A3 ++ A4 ++ (A5 ++ (A6 ++ A7)) = B by rw [hBB]; simp] at this
  unfold r5; rw [hk, g4]; exact this
 have g6 : r6 B = (m.ents, (A0 ++ A1 ++ A2 ++ A3 ++ A4 ++ A5 ++ A6).length, 0) := by
  have := list_at hg hf.e hs hs2 (A0 ++ A1 ++ A2 ++ A3 ++ A4 ++ A5) A7
  rw [← hA6, show A0 ++ A1 ++ A2 ++ A3 ++ A4 ++ A5 ++ (A6 ++ A7) = B by rw [hBB]; simp] at this
  unfold r6; rw [hk, g5, g1, g2]; exact this
 have g7 : r7 B = (m.img, B.length, 0) := by
  have := img_at (Ms.hm m.kind) (A0 ++ A1 ++ A2 ++ A3 ++ A4 ++ A5 ++ A6) [] hl2 zm
  rw [← hA7, List.append_nil, show A0 ++ A1 ++ A2 ++ A3 ++ A4 ++ A5 ++ A6 ++ A7 = B by rw [hBB]; simp] at this
  unfold r7; rw [hk, g6]; exact this
 have gm : gotM B = m := by
  unfold gotM
  rw [hk, g0, g1, g2, g3, g4, g5, g6, g7]
  rfl
 rw [← hB]
 unfold decode
 rw [hk, gm, g7, if_neg (by rw [g0]; simp), if_neg (by rw [hg.kind]; simp)]
 dsimp only
 rw [Cm.done_end, if_neg (by simp), if_neg (by simpa using h)]
theorem decode_ok (b : List UInt8) (h : (decode b).2 = 0) : (decode b).1 = gotM b ∧ Ms.check (gotM b) = 0 ∧ bytes (gotM b) = b := by
 unfold decode at h ⊢
 by_cases h1 : (Ms.rnums b 3).2.2 = 0
 ·rw [if_neg (by simpa using h1)] at h ⊢
  by_cases h2 : Ms.known (kindOf b) = false
  ·rw [if_pos h2] at h; simp at h
  ·rw [if_neg h2] at h ⊢
   by_cases h3 : Cm.done b (r7 b).2.1 (r7 b).2.2 = 0
   ·rw [if_neg (by simpa using h3)] at h ⊢
    by_cases h4 : Ms.check (gotM b) = 0
    ·rw [if_neg (by simpa using h4)]
     refine ⟨rfl, h4, ?_⟩
     have her : (r7 b).2.2 = 0 := by
      unfold Cm.done at h3
      split at h3
      ·rename_i hne; exact absurd h3 hne
      ·rename_i hne; simpa using hne
     have hpl : ¬ (r7 b).2.1 < b.length := by
      unfold Cm.done at h3
      rw [if_neg (by simpa using her)] at h3
      intro hlt
      rw [if_pos hlt] at h3
      omega
     have l0 := Ms.rnums_le b 3
     have l1 := num_le (Ms.hb (kindOf b)) b (Ms.rnums b 3).2 l0
     have l2 := num_le (Ms.hb (kindOf b)) b (r1 b).2 l1
     have l3 := num_le (Ms.hi (kindOf b)) b (r2 b).2 l2
     have l4 := num_le (Ms.hc (kindOf b)) b (r3 b).2 l3
     have l5 := num_le (Ms.hv (kindOf b)) b (r4 b).2 l4
     have l6 := list_le (kindOf b) ⟨(r1 b).1, (r2 b).1⟩ b (r5 b).2 l5
     obtain ⟨z6, _, t7⟩ := img_ok (Ms.hm (kindOf b)) b (r6 b).2 l6 her
     obtain ⟨z5, _, t6⟩ := list_ok (k := kindOf b) ⟨(r1 b).1, (r2 b).1⟩ b (r5 b).2 l5 z6
     obtain ⟨z4, _, t5⟩ := num_ok (Ms.hv (kindOf b)) b (r4 b).2 l4 z5
     obtain ⟨z3, _, t4⟩ := num_ok (Ms.hc (kindOf b)) b (r3 b).2 l3 z4
     obtain ⟨z2, _, t3⟩ := num_ok (Ms.hi (kindOf b)) b (r2 b).2 l2 z3
     obtain ⟨z1, _, t2⟩ := num_ok (Ms.hb (kindOf b)) b (r1 b).2 l1 z2
     obtain ⟨z0, _, t1⟩ := num_ok (Ms.hb (kindOf b)) b (Ms.rnums b 3).2 l0 z1
     have t0 := Ms.rnums_ok b 3 z0
     have h3n : [kindOf b, Ms.nth (Ms.rnums b 3).1 1, Ms.nth (Ms.rnums b 3).1 2] = (Ms.rnums b 3).1 := by
      have hl := Ms.rnums_len b 3
      unfold kindOf
      match (Ms.rnums b 3).1, hl with
      | [a, c, d], _ => rfl
     have hb : b = b.take (r7 b).2.1 := (List.take_of_length_le (by omega)).symm
     conv => rhs; rw [hb]
     rw [show b.take (r7 b).2.1 = b.take (r6 b).2.1 ++ part (Ms.hm (kindOf b)) (Pk.text (r7 b).1) from t7]
     rw [show b.take (r6 b).2.1 = b.take (r5 b).2.1 ++ (if kindOf b = 5 then (r6 b).1.flatMap one else part (Ms.he (kindOf b)) (En.bytes 2 (r6 b).1)) from t6]
     rw [show b.take (r5 b).2.1 = b.take (r4 b).2.1 ++ part (Ms.hv (kindOf b)) (enc (r5 b).1.toNat) from t5]
     rw [show b.take (r4 b).2.1 = b.take (r3 b).2.1 ++ part (Ms.hc (kindOf b)) (enc (r4 b).1.toNat) from t4]
     rw [show b.take (r3 b).2.1 = b.take (r2 b).2.1 ++ part (Ms.hi (kindOf b)) (enc (r3 b).1.toNat) from t3]
     rw [show b.take (r2 b).2.1 = b.take (r1 b).2.1 ++ part (Ms.hb (kindOf b)) (enc (r2 b).1.toNat) from t2]
     rw [show b.take (r1 b).2.1 = b.take (Ms.rnums b 3).2.1 ++ part (Ms.hb (kindOf b)) (enc (r1 b).1.toNat) from t1, t0]
     unfold bytes ents
     rw [show (gotM b).kind = kindOf b from rfl, show [kindOf b, (gotM b).frm, (gotM b).dst] = (Ms.rnums b 3).1 from h3n]
     simp only [List.append_assoc]
     rfl
    ·rw [if_pos h4] at h; exact absurd h h4
   ·rw [if_pos h3] at h; exact absurd h h3
 ·rw [if_pos h1] at h; exact absurd h h1
theorem cmd_less {c : Cm.Cmd} (h : Vs.has 1 c.kind = true) : (Cm.bytes 2 c).length ≤ (Cm.bytes 1 c).length := by
 have h1 : Cm.encoded 1 c.kind = [.client, .seq, .key, .val, .node] := rfl
 have h2 : Cm.encoded 2 c.kind = Cm.fields c.kind := rfl
 unfold Cm.bytes
 rw [h1, h2]
 rcases Vs.kinds c.kind with q | q | q | q | q | q | q | q | q
 rotate_right
 ·rw [Cm.fields_no (by omega) (by omega) (by omega) (by omega) (by omega) (by omega)]; simp
 all_goals (rw [q] at h ⊢; first | exact absurd h (by decide) | (simp [Cm.fields] <;> omega))
theorem ents_less (l : List En.Ent) (h : En.has 1 l = true) : (l.flatMap (En.ebytes 2)).length ≤ (l.flatMap (En.ebytes 1)).length := by
 induction l with
 | nil => simp
 | cons e r ih =>
  unfold En.has at h
  rw [List.all_cons, Bool.and_eq_true] at h
  have h1 := ih h.2
  have h2 := cmd_less h.1
  rw [List.flatMap_cons, List.flatMap_cons, List.length_append, List.length_append]
  unfold En.ebytes at h1 ⊢
  simp only [List.length_append] at h1 ⊢
  omega
theorem part_le (t : Bool) (l : List UInt8) : (part t l).length ≤ l.length := by cases t <;> simp [part]
theorem less {m : Ms.Msg} (h : Ms.older m = 0) : (bytes m).length ≤ (Ms.bytes m).length := by
 obtain ⟨hc, hn⟩ := Ms.older_good h
 have hg := Ms.check_good hc
 have hhas : En.has 1 m.ents = true := by unfold Ms.newer at hn; simp at hn; exact hn.2
 have he := ents_less m.ents hhas
 have p1 := part_le (Ms.hb m.kind) (enc m.bal.round.toNat); have p2 := part_le (Ms.hb m.kind) (enc m.bal.node.toNat)
 have p3 := part_le (Ms.hi m.kind) (enc m.index.toNat); have p4 := part_le (Ms.hc m.kind) (enc m.commit.toNat)
 have p7 := part_le (Ms.hm m.kind) (Pk.text m.img)
 have e0 := enc_pos m.ents.length
 have e1 := enc_pos m.img.length
 have e2 := enc_pos m.index.toNat
 have hv : (part (Ms.hv m.kind) (enc m.version.toNat)).length + (part (Ms.hi m.kind) (enc m.index.toNat)).length ≤ (enc m.index.toNat).length := by
  cases hk : Ms.hv m.kind with
  | false => rw [part_no]; simpa using p3
  | true =>
   have hver := Ms.good_version hg hn
   rw [hk, if_pos rfl] at hver
   have hi : Ms.hi m.kind = false := by
    have hk' : m.kind = 1 ∨ m.kind = 2 := by unfold Ms.hv at hk; simpa using hk
    rcases hk' with q | q <;> rw [q] <;> decide
   rw [hver, hi, part_no, part_yes]
   have : (enc (1 : Int).toNat).length = 1 := by decide +kernel
   simp only [List.length_nil]
   omega
 have hen : (ents m).length ≤ (En.bytes 1 m.ents).length := by
  unfold ents En.bytes
  by_cases h5 : m.kind = 5
  ·rw [if_pos h5]
   have hl : (m.ents.flatMap one).length ≤ (m.ents.flatMap (En.ebytes 2)).length := by
    generalize m.ents = l
    induction l with
    | nil => simp
    | cons e r ih =>
     rw [List.flatMap_cons, List.flatMap_cons, List.length_append, List.length_append]
     unfold one En.ebytes at *
     simp only [List.length_append] at *
     omega
   rw [List.length_append]
   omega
  ·rw [if_neg h5]
   have := part_le (Ms.he m.kind) (enc m.ents.length ++ m.ents.flatMap (En.ebytes 2))
   rw [List.length_append] at this ⊢
   omega
 unfold bytes Ms.bytes
 have n1 : (Ms.nbytes (Ms.nums m)).length = (Ms.nbytes [m.kind, m.frm, m.dst]).length + ((enc m.bal.round.toNat).length + ((enc m.bal.node.toNat).length + ((enc m.index.toNat).length + (enc m.commit.toNat).length))) := by
  simp [Ms.nbytes, Ms.nums]; omega
 simp only [List.length_append]
 rw [n1]
 omega
end Mt
end Go.Proofs.YteboceekcmchkaaGreatDoor
