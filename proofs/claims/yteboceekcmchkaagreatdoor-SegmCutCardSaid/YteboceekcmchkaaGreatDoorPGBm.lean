/- Several texts of mine in one: HdMath GBm. -/
import Derived.Test.YteboceekcmchkaaGreatDoorGRe
import Derived.Test.YteboceekcmchkaaGreatDoorGPl
import Derived.Test.YteboceekcmchkaaGreatDoorPGBl
import Derived.Test.YteboceekcmchkaaGreatDoorGMb
namespace Go.Proofs.YteboceekcmchkaaGreatDoor
open Go.RowKit
namespace En
theorem put_nil (e : Ent) : put [] e = [e] := rfl
theorem put_eq {a e : Ent} {r : List Ent} (hp : Asc (a :: r)) (h : a.index = e.index) : put (a :: r) e = e :: r := by
 unfold put; rw [upto_same hp h, below_none hp (by omega)]; rfl
theorem put_more {a e : Ent} {r : List Ent} (hp : Asc (a :: r)) (h : e.index < a.index) : put (a :: r) e = e :: a :: r := by
 unfold put; rw [upto_more hp h, below_none hp (by omega)]; rfl
theorem mem_put {e a : Ent} : ∀ {l : List Ent}, Asc l → (a ∈ put l e ↔ a = e ∨ (a ∈ l ∧ a.index ≠ e.index))
 | [], _ => by rw [put_nil]; simp
 | b :: r, hp => by
  obtain ⟨h1, h2⟩ := List.pairwise_cons.1 hp
  rcases Int.lt_trichotomy b.index e.index with h | h | h
  ·rw [put_less r h, List.mem_cons, mem_put h2, List.mem_cons]
   constructor
   ·rintro (rfl | rfl | ⟨h3, h4⟩)
    ·exact .inr ⟨.inl rfl, by omega⟩
    ·exact .inl rfl
    ·exact .inr ⟨.inr h3, h4⟩
   ·rintro (rfl | ⟨rfl | h3, h4⟩)
    ·exact .inr (.inl rfl)
    ·exact .inl rfl
    ·exact .inr (.inr ⟨h3, h4⟩)
  ·rw [put_eq hp h, List.mem_cons, List.mem_cons]
   constructor
   ·rintro (rfl | h3)
    ·exact .inl rfl
    ·exact .inr ⟨.inr h3, by have := h1 a h3; omega⟩
   ·rintro (rfl | ⟨rfl | h3, h4⟩)
    ·exact .inl rfl
    ·exact absurd h h4
    ·exact .inr h3
  ·rw [put_more hp h, List.mem_cons, List.mem_cons]
   constructor
   ·rintro (rfl | rfl | h3)
    ·exact .inl rfl
    ·exact .inr ⟨.inl rfl, by omega⟩
    ·exact .inr ⟨.inr h3, by have := h1 a h3; omega⟩
   ·rintro (rfl | ⟨h3, _⟩)
    ·exact .inl rfl
    ·exact .inr h3
theorem put_last {e : Ent} : ∀ {l : List Ent}, (∀ a ∈ l, a.index < e.index) → put l e = l ++ [e]
 | [], _ => rfl
 | a :: r, h => by
  rw [put_less r (h a (by simp)), put_last fun b hb => h b (List.mem_cons_of_mem _ hb)]
  rfl
theorem found_iff {l : List Ent} (hp : Asc l) {x : Int} : found l x = true ↔ ∃ e ∈ l, e.index = x := by
 constructor
 ·intro h
  obtain ⟨e, he, hx⟩ := found_at h
  exact ⟨e, List.mem_of_getElem? he, hx⟩
 ·rintro ⟨e, he, rfl⟩
  obtain ⟨k, hk⟩ := List.getElem?_of_mem he
  exact (at_found hp hk).1
theorem check_iff : ∀ (l : List Ent) (b : Int), check b l = 0 ↔ Asc l ∧ ∀ e ∈ l, ranged e = true ∧ Cm.check e.cmd = 0 ∧ b < e.index
 | [], b => by simp [check, Asc]
 | a :: r, b => by
  have ih := check_iff r a.index
  have ho : one b a = 0 ↔ ranged a = true ∧ Cm.check a.cmd = 0 ∧ b < a.index := by
   unfold one
   cases hr : ranged a
   ·simp
   ·by_cases hc : Cm.check a.cmd = 0
    ·by_cases hb : a.index ≤ b
     ·simp [hc, hb] <;> omega
     ·simp [hc, hb] <;> omega
    ·simp [hc]
  unfold check
  constructor
  ·intro h
   split at h
   ·rename_i h0; exact absurd h h0
   ·rename_i h0
    have h0 : one b a = 0 := by omega
    obtain ⟨h1, h2⟩ := ih.1 h
    obtain ⟨o1, o2, o3⟩ := ho.1 h0
    refine ⟨List.pairwise_cons.2 ⟨fun c hc => (h2 c hc).2.2, h1⟩, fun e he => ?_⟩
    rcases List.mem_cons.1 he with rfl | he
    ·exact ⟨o1, o2, o3⟩
    ·obtain ⟨p1, p2, p3⟩ := h2 e he
     exact ⟨p1, p2, by omega⟩
  ·rintro ⟨h1, h2⟩
   obtain ⟨h3, h4⟩ := List.pairwise_cons.1 h1
   rw [if_neg (by rw [ho.2 (h2 a (by simp))]; simp)]
   exact ih.2 ⟨h4, fun e he => ⟨(h2 e (List.mem_cons_of_mem _ he)).1, (h2 e (List.mem_cons_of_mem _ he)).2.1, h3 e he⟩⟩
def cut (b : Int) (l : List Ent) : List Ent := l.filter fun e => decide (b < e.index)
theorem mem_cut {b : Int} {l : List Ent} {e : Ent} : e ∈ cut b l ↔ e ∈ l ∧ b < e.index := by unfold cut; rw [List.mem_filter]; simp
theorem cut_asc {b : Int} {l : List Ent} (h : Asc l) : Asc (cut b l) := List.Pairwise.filter _ h
theorem cut_all {b : Int} {l : List Ent} (h : ∀ e ∈ l, b < e.index) : cut b l = l := List.filter_eq_self.2 fun e he => by simpa using h e he
theorem cut_cons (b : Int) (a : Ent) (r : List Ent) : cut b (a :: r) = if b < a.index then a :: cut b r else cut b r := by
 unfold cut
 rw [List.filter_cons]
 by_cases h : b < a.index <;> simp [h]
theorem cut_put (b : Int) (e : Ent) : ∀ {l : List Ent}, Asc l → cut b (put l e) = if b < e.index then put (cut b l) e else cut b l
 | [], _ => by rw [put_nil, cut_cons]; rfl
 | a :: r, hp => by
  obtain ⟨h1, h2⟩ := List.pairwise_cons.1 hp
  have ih := cut_put b e h2
  have hp2 : Asc (a :: cut b r) := List.pairwise_cons.2 ⟨fun c hc => h1 c (mem_cut.1 hc).1, cut_asc h2⟩
  rcases Int.lt_trichotomy a.index e.index with h | h | h
  ·rw [put_less r h, cut_cons, cut_cons, ih]
   by_cases ha : b < a.index
   ·rw [if_pos ha, if_pos ha, if_pos (by omega), if_pos (by omega), put_less _ h]
   ·rw [if_neg ha, if_neg ha]
  ·rw [put_eq hp h, cut_cons, cut_cons]
   by_cases ha : b < e.index
   ·rw [if_pos ha, if_pos ha, if_pos (by omega), put_eq hp2 h]
   ·rw [if_neg ha, if_neg ha, if_neg (by omega)]
  ·rw [put_more hp h, cut_cons]
   by_cases ha : b < e.index
   ·rw [if_pos ha, if_pos ha, cut_cons, if_pos (by omega), put_more hp2 h]
   ·rw [if_neg ha, if_neg ha]
theorem found_cut {b x : Int} {l : List Ent} (hp : Asc l) (h : b < x) : found (cut b l) x = found l x := by
 rw [Bool.eq_iff_iff, found_iff (cut_asc hp), found_iff hp]
 constructor
 ·rintro ⟨e, he, hx⟩; exact ⟨e, (mem_cut.1 he).1, hx⟩
 ·rintro ⟨e, he, hx⟩; exact ⟨e, mem_cut.2 ⟨he, by omega⟩, hx⟩
end En
namespace Hd
structure Hard where
 prom : Bl.Bal
 base : Int
 img : List UInt8
 acc : List En.Ent
 chs : List En.Ent
 deriving DecidableEq
def zero : Hard := ⟨Bl.zero, 0, [], [], []⟩
def ent (x : Re.Rec) : En.Ent := ⟨x.index, x.bal, x.cmd⟩
def proms (p : Bl.Bal) (x : Re.Rec) : Bl.Bal := if Re.hb x.kind = true ∧ Bl.less p x.bal = true then x.bal else p
def two (b : Int) (s : List En.Ent × List En.Ent) (x : Re.Rec) : List En.Ent × List En.Ent :=
 if Re.check x ≠ 0 ∨ x.index ≤ b ∨ Re.hc x.kind = false then s
 else if x.kind = 2 then (En.put s.1 (ent x), s.2) else if En.found s.2 x.index = true then s else (s.1, En.put s.2 (ent x))
def apply (h : Hard) (x : Re.Rec) : Hard :=
 if Re.check x ≠ 0 then h
 else if x.kind = 4 ∧ h.base < x.index then ⟨h.prom, x.index, x.img, En.cut x.index h.acc, En.cut x.index h.chs⟩
 else ⟨proms h.prom x, h.base, h.img, (two h.base (h.acc, h.chs) x).1, (two h.base (h.acc, h.chs) x).2⟩
def of (l : List Re.Rec) : Hard := l.foldl apply zero
def one (s : Bl.Bal × Int × List UInt8) (x : Re.Rec) : Bl.Bal × Int × List UInt8 :=
 if Re.check x ≠ 0 then s else (proms s.1 x, if x.kind = 4 ∧ s.2.1 < x.index then (x.index, x.img) else s.2)
def tops (l : List Re.Rec) : Bl.Bal × Int × List UInt8 := l.foldl one (Bl.zero, 0, [])
def rows (b : Int) (l : List Re.Rec) : List En.Ent × List En.Ent := l.foldl (two b) ([], [])
def refOf (l : List Re.Rec) : Hard := ⟨(tops l).1, (tops l).2.1, (tops l).2.2, (rows (tops l).2.1 l).1, (rows (tops l).2.1 l).2⟩
theorem snoc_ind {α : Type} {P : List α → Prop} (h0 : P []) (h1 : ∀ l x, P l → P (l ++ [x])) (l : List α) : P l := by
 have : ∀ m : List α, P m.reverse := fun m => by
  induction m with
  | nil => exact h0
  | cons a r ih => rw [List.reverse_cons]; exact h1 _ _ ih
 have h := this l.reverse
 rwa [List.reverse_reverse] at h
theorem of_snoc (l : List Re.Rec) (x : Re.Rec) : of (l ++ [x]) = apply (of l) x := by simp [of, List.foldl_append]
theorem tops_snoc (l : List Re.Rec) (x : Re.Rec) : tops (l ++ [x]) = one (tops l) x := by simp [tops, List.foldl_append]
theorem rows_snoc (b : Int) (l : List Re.Rec) (x : Re.Rec) : rows b (l ++ [x]) = two b (rows b l) x := by simp [rows, List.foldl_append]
def Asc2 (s : List En.Ent × List En.Ent) : Prop := En.Asc s.1 ∧ En.Asc s.2
def cut2 (b : Int) (s : List En.Ent × List En.Ent) : List En.Ent × List En.Ent := (En.cut b s.1, En.cut b s.2)
theorem two_asc {b : Int} {s : List En.Ent × List En.Ent} (h : Asc2 s) (x : Re.Rec) : Asc2 (two b s x) := by
 unfold two
 split
 ·exact h
 ·split
  ·exact ⟨En.put_asc _ _ h.1, h.2⟩
  ·split
   ·exact h
   ·exact ⟨h.1, En.put_asc _ _ h.2⟩
theorem rows_asc (b : Int) (l : List Re.Rec) : Asc2 (rows b l) := by
 induction l using snoc_ind with
 | h0 => exact ⟨List.Pairwise.nil, List.Pairwise.nil⟩
 | h1 l x ih => rw [rows_snoc]; exact two_asc ih x
theorem two_out {b : Int} (s : List En.Ent × List En.Ent) {x : Re.Rec} (h : Re.check x ≠ 0 ∨ x.index ≤ b ∨ Re.hc x.kind = false) : two b s x = s := by unfold two; rw [if_pos h]
theorem two_in {b : Int} (s : List En.Ent × List En.Ent) {x : Re.Rec} (hk : Re.check x = 0) (hb : b < x.index) (hh : Re.hc x.kind = true) :
 two b s x = if x.kind = 2 then (En.put s.1 (ent x), s.2) else if En.found s.2 x.index = true then s else (s.1, En.put s.2 (ent x)) := by
 unfold two
 rw [if_neg]
 rintro (h | h | h)
 ·exact h hk
 ·omega
 ·rw [hh] at h; cases h
theorem cut_two {b c : Int} (hbc : b ≤ c) {s : List En.Ent × List En.Ent} (h : Asc2 s) (x : Re.Rec) : cut2 c (two b s x) = two c (cut2 c s) x := by
 by_cases hk : Re.check x = 0
 ·cases hh : Re.hc x.kind
  ·rw [two_out _ (.inr (.inr hh)), two_out _ (.inr (.inr hh))]
  ·by_cases hb : x.index ≤ b
   ·rw [two_out _ (.inr (.inl hb)), two_out _ (.inr (.inl (by omega)))]
   ·rw [two_in s hk (by omega) hh]
    by_cases hc : x.index ≤ c
    ·rw [two_out _ (.inr (.inl hc))]
     split
     ·show (En.cut c (En.put s.1 (ent x)), En.cut c s.2) = _
      rw [En.cut_put c (ent x) h.1, if_neg (by show ¬ c < x.index; omega)]
      rfl
     ·split
      ·rfl
      ·show (En.cut c s.1, En.cut c (En.put s.2 (ent x))) = _
       rw [En.cut_put c (ent x) h.2, if_neg (by show ¬ c < x.index; omega)]
       rfl
    ·rw [two_in _ hk (by omega) hh]
     have hf : En.found (cut2 c s).2 x.index = En.found s.2 x.index := En.found_cut h.2 (by omega)
     rw [hf]
     split
     ·show (En.cut c (En.put s.1 (ent x)), En.cut c s.2) = (En.put (En.cut c s.1) (ent x), En.cut c s.2)
      rw [En.cut_put c (ent x) h.1, if_pos (by show c < x.index; omega)]
     ·split
      ·rfl
      ·show (En.cut c s.1, En.cut c (En.put s.2 (ent x))) = (En.cut c s.1, En.put (En.cut c s.2) (ent x))
       rw [En.cut_put c (ent x) h.2, if_pos (by show c < x.index; omega)]
 ·rw [two_out _ (.inl hk), two_out _ (.inl hk)]
theorem cut_rows {b c : Int} (hbc : b ≤ c) (l : List Re.Rec) : cut2 c (rows b l) = rows c l := by
 induction l using snoc_ind with
 | h0 => rfl
 | h1 l x ih => rw [rows_snoc, rows_snoc, cut_two hbc (rows_asc b l), ih]
theorem of_ref (l : List Re.Rec) : of l = refOf l := by
 induction l using snoc_ind with
 | h0 => rfl
 | h1 l x ih =>
  rw [of_snoc, ih]
  show apply (refOf l) x = ⟨(tops (l ++ [x])).1, (tops (l ++ [x])).2.1, (tops (l ++ [x])).2.2, (rows (tops (l ++ [x])).2.1 (l ++ [x])).1, (rows (tops (l ++ [x])).2.1 (l ++ [x])).2⟩
  rw [tops_snoc, rows_snoc]
  by_cases hc : Re.check x ≠ 0
  ·have e1 : one (tops l) x = tops l := by unfold one; rw [if_pos hc]
   rw [e1, two_out _ (.inl hc)]
   unfold apply
   rw [if_pos hc]
   rfl
  ·by_cases h4 : x.kind = 4 ∧ (tops l).2.1 < x.index
   ·have hp : proms (tops l).1 x = (tops l).1 := by unfold proms; rw [if_neg (by rw [h4.1]; simp [Re.hb])]
    have e1 : one (tops l) x = ((tops l).1, x.index, x.img) := by unfold one; rw [if_neg hc, if_pos h4, hp]
    rw [e1]
    simp only
    rw [two_out _ (.inr (.inl (Int.le_refl _))), ← cut_rows (b := (tops l).2.1) (by omega) l]
    unfold apply
    rw [if_neg hc, if_pos (show x.kind = 4 ∧ (refOf l).base < x.index from h4)]
    rfl
   ·have e1 : one (tops l) x = (proms (tops l).1 x, (tops l).2) := by unfold one; rw [if_neg hc, if_neg h4]
    rw [e1]
    unfold apply
    rw [if_neg hc, if_neg (show ¬ (x.kind = 4 ∧ (refOf l).base < x.index) from h4)]
    rfl
theorem check_known {x : Re.Rec} (h : Re.check x = 0) : 1 ≤ x.kind ∧ x.kind ≤ 4 := by
 unfold Re.check at h
 cases hk : Re.known x.kind
 ·rw [if_pos hk] at h; cases h
 ·simpa [Re.known] using hk
structure Fine (x : Re.Rec) : Prop where
 kind : 1 ≤ x.kind ∧ x.kind ≤ 4
 bal : Re.hb x.kind = true → Bl.may x.bal = true ∧ x.bal ≠ Bl.zero
 index : Re.hi x.kind = true → 1 ≤ x.index ∧ x.index ≤ 4294967296
 img : Re.hm x.kind = true → x.img ≠ [] ∧ x.img.length ≤ 32768
 cmd : Re.hc x.kind = true → Cm.check x.cmd = 0
 own : Re.own x = x
theorem check_fine {x : Re.Rec} : Re.check x = 0 ↔ Fine x := by
 constructor
 ·intro h
  have hkn := check_known h
  unfold Re.check at h
  rw [if_neg (by simp [Re.known]; omega)] at h
  split at h
  ·cases h
  ·rename_i hr
   split at h
   ·cases h
   ·rename_i hi
    split at h
    ·rename_i hc; exact absurd h hc.2
    ·rename_i hc
     split at h
     ·cases h
     ·rename_i ho
      replace hr : Re.ranged x = true := by simpa using hr
      replace ho : (decide (Re.own x = x) && Re.whole x) = true := by simpa using ho
      simp only [Re.ranged, Ms.owned, Ms.within, Bool.and_eq_true, Bool.not_eq_true', Bool.and_eq_false_iff, Bool.not_eq_false', decide_eq_true_eq] at hr
      simp only [Re.whole, Bool.and_eq_true, decide_eq_true_eq, Bool.not_eq_true', Bool.and_eq_false_iff, decide_eq_false_iff_not] at ho
      simp only [Bool.and_eq_true, decide_eq_true_eq, not_and] at hi
      refine ⟨hkn, fun h => ?_, fun h => ?_, fun h => ⟨?_, ?_⟩, fun h => ?_, ho.1⟩
      ·rcases hr.1 with h2 | h2
       ·rw [h] at h2; cases h2
       ·exact h2
      ·rcases hr.2 with h2 | h2
       ·rw [h] at h2; cases h2
       ·exact h2
      ·rcases ho.2 with h2 | h2
       ·rw [h] at h2; cases h2
       ·exact h2
      ·have := hi h; omega
      ·exact Decidable.byContradiction fun h2 => hc ⟨h, h2⟩
 ·rintro ⟨h1, h2, h3, h4, h5, h6⟩
  unfold Re.check
  have e1 : Re.known x.kind = true := by simp [Re.known]; omega
  have e2 : Re.ranged x = true := by
   simp only [Re.ranged, Ms.owned, Ms.within, Bool.and_eq_true, Bool.not_eq_true', Bool.and_eq_false_iff, Bool.not_eq_false', decide_eq_true_eq]
   constructor
   ·cases hb : Re.hb x.kind
    ·exact .inl rfl
    ·exact .inr (h2 hb)
   ·cases hb : Re.hi x.kind
    ·exact .inl rfl
    ·exact .inr (h3 hb)
  have e3 : (Re.hm x.kind && decide (32768 < x.img.length)) = false := by
   cases hb : Re.hm x.kind
   ·rfl
   ·have := (h4 hb).2; simpa using this
  have e5 : Re.whole x = true := by
   unfold Re.whole
   cases hb : Re.hm x.kind
   ·rfl
   ·have := (h4 hb).1; simpa using this
  rw [if_neg (by rw [e1]; simp), if_neg (by rw [e2]; simp), if_neg (by rw [e3]; simp), if_neg (fun h => h.2 (h5 h.1)), if_neg (by rw [h6, e5]; simp)]
structure Valid (h : Hard) : Prop where
 prom : Bl.may h.prom = true
 base : 0 ≤ h.base ∧ h.base ≤ 4294967296
 img : h.img.length ≤ 32768
 both : 0 < h.base ↔ h.img ≠ []
 acc : En.check 0 h.acc = 0
 chs : En.check 0 h.chs = 0
 accs : ∀ e ∈ h.acc, h.base < e.index ∧ e.bal.round ≠ 0 ∧ Bl.less h.prom e.bal = false
 chss : ∀ e ∈ h.chs, h.base < e.index ∧ e.bal.round = 0
theorem Valid.ascA {h : Hard} (v : Valid h) : En.Asc h.acc := ((En.check_iff _ _).1 v.acc).1
theorem Valid.ascC {h : Hard} (v : Valid h) : En.Asc h.chs := ((En.check_iff _ _).1 v.chs).1
theorem valid_zero : Valid zero := ⟨rfl, ⟨by decide, by decide⟩, by decide, by simp [zero], rfl, rfl, fun e he => by simp [zero] at he, fun e he => by simp [zero] at he⟩
theorem check_put {l : List En.Ent} (h : En.check 0 l = 0) {e : En.Ent} (h1 : En.ranged e = true) (h2 : Cm.check e.cmd = 0) : En.check 0 (En.put l e) = 0 := by
 obtain ⟨ha, hl⟩ := (En.check_iff _ _).1 h
 refine (En.check_iff _ _).2 ⟨En.put_asc _ _ ha, fun a hm => ?_⟩
 rcases (En.mem_put ha).1 hm with rfl | ⟨hm, _⟩
 ·refine ⟨h1, h2, ?_⟩
  simp only [En.ranged, Bool.and_eq_true, decide_eq_true_eq] at h1
  omega
 ·exact hl a hm
theorem check_cut {l : List En.Ent} (h : En.check 0 l = 0) (b : Int) : En.check 0 (En.cut b l) = 0 := by
 obtain ⟨ha, hl⟩ := (En.check_iff _ _).1 h
 exact (En.check_iff _ _).2 ⟨En.cut_asc ha, fun a hm => hl a (En.mem_cut.1 hm).1⟩
theorem round_pos {b : Bl.Bal} (h : Bl.may b = true) : b ≠ Bl.zero ↔ b.round ≠ 0 := by
 rcases Bl.may_cases b h with rfl | h2
 ·simp [Bl.zero]
 ·constructor
  ·intro _; omega
  ·rintro _ rfl; simp [Bl.zero] at h2
theorem proms_may {p : Bl.Bal} {x : Re.Rec} (h : Bl.may p = true) (f : Fine x) : Bl.may (proms p x) = true := by
 unfold proms
 split
 ·rename_i h2; exact (f.bal h2.1).1
 ·exact h
theorem proms_less {p b : Bl.Bal} {x : Re.Rec} (h : Bl.less p b = false) : Bl.less (proms p x) b = false := by
 unfold proms
 split
 ·rename_i h2
  have h3 : Bl.less x.bal p = false := by
   rcases Bl.less_or p x.bal with h4 | h4 | h4
   ·exact h4.2.1
   ·rw [h4.1] at h2; cases h2.2
   ·exact h4.2.1
  exact Bl.less_trans _ _ _ h h3
 ·exact h
theorem proms_self (p : Bl.Bal) {x : Re.Rec} (h : Re.hb x.kind = true) : Bl.less (proms p x) x.bal = false := by
 unfold proms
 split
 ·exact Bl.less_irr _
 ·rename_i h2
  cases h3 : Bl.less p x.bal
  ·rfl
  ·exact absurd ⟨h, h3⟩ h2
theorem own_bal {x : Re.Rec} (f : Fine x) (h : Re.hb x.kind = false) : x.bal = Bl.zero := by
 have := congrArg Re.Rec.bal f.own
 simp only [Re.own, h] at this
 simpa using this.symm
theorem valid_apply {h : Hard} (v : Valid h) (x : Re.Rec) : Valid (apply h x) := by
 unfold apply
 split
 ·exact v
 ·rename_i hck
  have f := check_fine.1 (Decidable.not_not.1 hck)
  split
  ·rename_i h4
   have hi := f.index (by simp [Re.hi, h4.1])
   have hm := f.img (by simp [Re.hm, h4.1])
   exact ⟨v.prom, ⟨by show 0 ≤ x.index; omega, hi.2⟩, hm.2, ⟨fun _ => hm.1, fun _ => by show 0 < x.index; omega⟩, check_cut v.acc _, check_cut v.chs _, fun e he => ⟨(En.mem_cut.1 he).2, (v.accs e (En.mem_cut.1 he).1).2⟩, fun e he => ⟨(En.mem_cut.1 he).2, (v.chss e (En.mem_cut.1 he).1).2⟩⟩
  ·have hold : ∀ e ∈ h.acc, h.base < e.index ∧ e.bal.round ≠ 0 ∧ Bl.less (proms h.prom x) e.bal = false := fun e he => ⟨(v.accs e he).1, (v.accs e he).2.1, proms_less (v.accs e he).2.2⟩
   by_cases ht : x.index ≤ h.base ∨ Re.hc x.kind = false
   ·rw [two_out _ (.inr ht)]
    exact ⟨proms_may v.prom f, v.base, v.img, v.both, v.acc, v.chs, hold, v.chss⟩
   ·have hb : h.base < x.index := Int.not_le.1 fun h2 => ht (.inl h2)
    have hh : Re.hc x.kind = true := by cases h2 : Re.hc x.kind; exact absurd (.inr h2) ht; rfl
    rw [two_in _ (Decidable.not_not.1 hck) hb hh]
    have hi : Re.hi x.kind = true := by
     simp only [Re.hc, Bool.or_eq_true, decide_eq_true_eq] at hh
     simp only [Re.hi, Bool.or_eq_true, decide_eq_true_eq]; omega
    have hi := f.index hi
    have hcm := f.cmd hh
    split
    ·rename_i h2
     have hb2 : Re.hb x.kind = true := by simp [Re.hb, h2]
     have hbal := f.bal hb2
     have hr : En.ranged (ent x) = true := by simp [En.ranged, ent, hbal.1, hi]
     refine ⟨proms_may v.prom f, v.base, v.img, v.both, check_put v.acc hr hcm, v.chs, fun e he => ?_, v.chss⟩
     rcases (En.mem_put v.ascA).1 he with rfl | ⟨he, _⟩
     ·exact ⟨hb, (round_pos hbal.1).1 hbal.2, proms_self _ hb2⟩
     ·exact hold e he
    ·split
     ·exact ⟨proms_may v.prom f, v.base, v.img, v.both, v.acc, v.chs, hold, v.chss⟩
     ·rename_i h2 h3
      have hb2 : Re.hb x.kind = false := by
       simp only [Re.hc, Bool.or_eq_true, decide_eq_true_eq] at hh
       simp only [Re.hb, Bool.or_eq_false_iff, decide_eq_false_iff_not]; omega
      have hz := own_bal f hb2
      have hr : En.ranged (ent x) = true := by
       have : Bl.may x.bal = true := by rw [hz]; rfl
       simp [En.ranged, ent, this, hi]
      refine ⟨proms_may v.prom f, v.base, v.img, v.both, v.acc, check_put v.chs hr hcm, hold, fun e he => ?_⟩
      rcases (En.mem_put v.ascC).1 he with rfl | ⟨he, _⟩
      ·exact ⟨hb, by show x.bal.round = 0; rw [hz]; rfl⟩
      ·exact v.chss e he
theorem valid_of (l : List Re.Rec) : Valid (of l) := by
 induction l using snoc_ind with
 | h0 => exact valid_zero
 | h1 l x ih => rw [of_snoc]; exact valid_apply ih x
def recA (e : En.Ent) : Re.Rec := ⟨2, e.bal, e.index, e.cmd, []⟩
def recC (e : En.Ent) : Re.Rec := ⟨3, Bl.zero, e.index, e.cmd, []⟩
def recI (h : Hard) : Re.Rec := ⟨4, Bl.zero, h.base, Cm.zero, h.img⟩
def recP (h : Hard) : Re.Rec := ⟨1, h.prom, 0, Cm.zero, []⟩
def recs (h : Hard) : List Re.Rec := (if 0 < h.base then [recI h] else []) ++ (if h.prom ≠ Bl.zero then [recP h] else []) ++ h.acc.map recA ++ h.chs.map recC
theorem apply_bad {h : Hard} {x : Re.Rec} (hx : Re.check x ≠ 0) : apply h x = h := by unfold apply; rw [if_pos hx]
end Hd
end Go.Proofs.YteboceekcmchkaaGreatDoor

namespace Go.Proofs.YteboceekcmchkaaGreatDoor
open Go.RowKit
set_option maxHeartbeats 1600000
set_option maxRecDepth 4000
theorem Bl.most_take {x c : Bl.Bal} {r : List Bl.Bal} {k : Nat} (h : r[k]? = some c) : Bl.most (x :: r.take (k + 1)) = Bl.top (Bl.most (x :: r.take k)) c := by
 rw [List.take_add_one, h]
 exact Bl.most_snoc x _ c
theorem bmax_any (v : Value) (l : List Bl.Bal) (w : World) (hv : ReadsB w v l) : Calls Tryz.prog 107 #[v] w (Looks w (.agg (Bl.cells (Bl.most l)))) := by
 obtain ⟨ao, cap, rfl, hc1, hc2⟩ := hv.shape
 rw [List.length_map] at hc1 ⊢
 cases l with
 | nil =>
  obtain ⟨w1, e1, hl1, hB1, hz1⟩ := box_bal w Bl.zero
  have HL1 := Lib.hid hl1; have HB1 := Lib.hid hB1
  dsimp only [Bl.cells, Bl.zero] at e1
  clear hl1 hB1 hz1
  go_enter Tryz.func107, Tryz.ntmps107
  go_wp2_with (refine store_bal (by rfl) _ _ (by rfl) w.heap.size Bl.zero Bl.zero (by rfl) (by rfl) HL1.out ?_; intro w2 hl2 hg2)
  refine ret_bal1 rfl rfl hl2 rfl ?_
  exact ⟨rfl, HB1.out.grown hg2 HB1.out.size (by rintro j hj; cases hj; omega)⟩
 | cons x r =>
  obtain ⟨b, off, rfl, hlt, hc⟩ := ReadsB.places hv (by simp)
  obtain ⟨n, hn⟩ : ∃ n, n = r.length := ⟨_, rfl⟩
  rw [show (x :: r).length = n + 1 by rw [hn]; rfl] at hc1 ⊢
  have hv' : ReadsB w (.slice (some ⟨b, off, none⟩) (n + 1) cap) (x :: r) := by rw [hn]; simpa using hv
  obtain ⟨ao2, hsl, hr⟩ := ReadsR.rest hv' 1 (by omega)
  rw [show n + 1 - 1 = n by omega] at hsl hr
  have hr' : ReadsB w (.slice ao2 n (cap - 1)) r := hr
  have hslice : ∀ W : World, (Instr.slice 153 (.slice (some ⟨b, off, none⟩) (n + 1) cap) (some (.int .i64 1)) none none).run Tryz.prog W = .ok (.slice ao2 n (cap - 1)) W := fun W => (run_rest_bal W _ _ _ 1 (by omega)).trans (by rw [hsl])
  obtain ⟨w1, e1, hl1, hk1, hB1, hz1⟩ := box_bals w Bl.zero x
  obtain ⟨w0, e0⟩ : ∃ w0, w.alloc (.cells #[.int .i64 0, .int .i64 0] 23) = w0 := ⟨_, rfl⟩
  have hb0 : Below w.heap.size w w0 := by rw [← e0]; exact (Below.refl _ w).alloc (Nat.le_refl _) _
  have hs0 : w0.heap.size = w.heap.size + 1 := by rw [← e0]; simp
  have hx0 := hc w0 hb0 0 x rfl
  rw [Nat.zero_mul, Nat.add_zero] at hx0
  obtain ⟨hx0, hx1⟩ := hx0
  dsimp only [Bl.cells, Bl.zero] at e1
  rw [e0] at e1
  rw [← hs0] at hk1
  have hnb : n < 9223372036854775807 := by omega
  have hsl0 : w.heap.size < w0.heap.size := by omega
  have HB1 := Lib.hid hB1
  have HL1 := Lib.hid hl1; have HK1 := Lib.hid hk1
  have HN := Lib.hid hn
  obtain ⟨m, hm⟩ : ∃ m, m = n + 1 := ⟨_, rfl⟩
  have hm0 : ((m : Int) == 0) = false := by simp; omega
  have hm1 : 0 < m := by omega
  rw [← hm] at hslice ⊢
  have HR := Lib.hid hr'
  clear hv hv' hsl hr hr' hc hn hB1 hl1 hk1 hz1 hb0 hc2 hm hlt hc1 hs0
  go_enter Tryz.func107, Tryz.ntmps107
  go_wp2
  go_loopw [16] (fun y wr => ∃ k : Nat, y = .int .i64 (k : Int) ∧ k ≤ n ∧ Bals wr w0.heap.size (Bl.most (x :: r.take k)) ∧ Bals wr w.heap.size Bl.zero ∧ Below w.heap.size w wr) (fun y _ => n - (intOf y).toNat)
  case atStart => exact ⟨0, rfl, by omega, HK1.out, HL1.out, HB1.out⟩
  case round =>
   obtain ⟨k, rfl, hk, hG, hO, hB⟩ := hrel
   have HG := Lib.hid hG; have HO := Lib.hid hO; have HB := Lib.hid hB
   clear hG hO hB
   by_cases hlt : k < n
   ·obtain ⟨c, hcr⟩ : ∃ c, r[k]? = some c := ⟨_, List.getElem?_eq_getElem (by have := HN.out; omega)⟩
    obtain ⟨b2, off2, rfl, hblt, hc⟩ := ReadsB.places HR.out (by have := HN.out; omega)
    obtain ⟨c0, c1⟩ := hc wr HB.out k c hcr
    obtain ⟨g, hg⟩ : ∃ g, g = Bl.most (x :: r.take k) := ⟨_, rfl⟩
    rw [← hg] at HG
    have HNX : Hid (Bl.most (x :: r.take (k + 1)) = Bl.top g c) := by show _ = _; rw [hg]; exact Bl.most_take hcr
    obtain ⟨w3, e3, hl3, hB3, hz3⟩ := box_bal wr c
    have hG3 := HG.out.below hB3 HG.out.lt
    obtain ⟨g0, g1⟩ := Bals.both hG3
    obtain ⟨d0, d1⟩ := Bals.both hl3
    have HG3 := Lib.hid hG3; have HC3 := Lib.hid hl3
    have HO3 := Lib.hid (HO.out.below hB3 HO.out.lt)
    have HB3 := Lib.hid (HB.out.trans (hB3.mono HB.out.size))
    dsimp only [Bl.cells] at e3
    clear hcr hc hg hG3 hl3 hB3 hz3 hblt
    go_wp2_with fail
    refine (bless_any g c _).mono ?_
    rintro e w4 ⟨rfl, hB4⟩
    have hG4 := HG3.out.below hB4 HG3.out.lt
    have HC4 := Lib.hid (HC3.out.below hB4 HC3.out.lt)
    have HG4 := Lib.hid hG4
    have HO4 := Lib.hid (HO3.out.below hB4 HO3.out.lt)
    have HB4 := Lib.hid (HB3.out.trans (hB4.mono HB3.out.size))
    obtain ⟨m0, m1⟩ := Bals.both HC4.out
    obtain ⟨t, ht⟩ : ∃ t, t = Bl.less g c := ⟨_, rfl⟩
    rw [← ht]
    have HT := Lib.hid ht
    clear ht hG4 hB4 g0 g1 d0 d1 c0 c1
    cases t with
    | false =>
     have HTP : Hid (Bl.top g c = g) := by show _ = _; rw [Bl.top, ← HT.out]; rfl
     go_wp2
     go_roundw
     case rel => exact ⟨k + 1, by go_num, by omega, by rw [HNX.out, HTP.out]; exact HG4.out, HO4.out, HB4.out⟩
     case measure => simp [intOf]; omega
    | true =>
     have HTP : Hid (Bl.top g c = c) := by show _ = _; rw [Bl.top, ← HT.out]; rfl
     go_wp2_with (refine store_bal (by rfl) _ _ (by rfl) w0.heap.size g c (by rfl) (by rfl) HG4.out ?_; intro w5 hl5 hg5)
     have HO5 := Lib.hid (HO4.out.kept hg5 (by simp; omega))
     have HB5 := Lib.hid (HB4.out.grown hg5 HB4.out.size (by rintro j hj; cases hj; omega))
     go_roundw
     case rel => exact ⟨k + 1, by go_num, by omega, by rw [HNX.out, HTP.out]; exact hl5, HO5.out, HB5.out⟩
     case measure => simp [intOf]; omega
   ·obtain rfl : k = n := by omega
    obtain ⟨g, hg⟩ : ∃ g, g = Bl.most (x :: r) := ⟨_, rfl⟩
    have hgt : Bl.most (x :: r.take k) = g := by rw [hg, HN.out, List.take_length]
    rw [hgt] at HG
    obtain ⟨g0, g1⟩ := Bals.both HG.out
    have HGG := Lib.hid hg
    clear hgt hg
    go_wp2_with (refine store_bal (by rfl) _ _ (by rfl) w.heap.size Bl.zero g (by rfl) (by rfl) HO.out ?_; intro w5 hl5 hg5)
    refine ret_bal1 rfl rfl hl5 rfl ?_
    exact ⟨by rw [HGG.out], HB.out.grown hg5 HB.out.size (by rintro j hj; cases hj; omega)⟩
end Go.Proofs.YteboceekcmchkaaGreatDoor
