/- Files in a map, each in a row of its own; a disk in memory; steps that came in. -/
import Derived.Test.YtffgfjfeoinnfaaDkMap
import Derived.Test.YtffgfjfeoinnfaaDkList
import Derived.Test.YtffgfjfeoinnfaaPart
namespace Go.Proofs.Ytffgfjfeoinnfaa
open Go.RowKit

def Dk.cellF (f : Int × List UInt8) (u : Value) : Array Value := #[.int .i64 f.1, u]
def Dk.cellO (x : Dk.Op) (u : Value) : Array Value := #[.int .i64 x.kind, .int .i64 x.no, u]
def Dk.cellS (s : Dk.Step) (u : Value) : Array Value := #[.int .i64 s.kind, .int .i64 s.no, .int .i64 s.n, u]
theorem Dk.cellF_ok (a : Int × List UInt8) (u : Value) : (Dk.cellF a u).size = 2 ∧ (u.oneCell' = true → (Dk.cellF a u).all (·.oneCell') = true) := ⟨rfl, fun h => by simp [Dk.cellF, h]; rfl⟩
theorem Dk.cellO_ok (a : Dk.Op) (u : Value) : (Dk.cellO a u).size = 3 ∧ (u.oneCell' = true → (Dk.cellO a u).all (·.oneCell') = true) := ⟨rfl, fun h => by simp [Dk.cellO, h]; exact ⟨rfl, rfl⟩⟩
theorem Dk.cellS_ok (a : Dk.Step) (u : Value) : (Dk.cellS a u).size = 4 ∧ (u.oneCell' = true → (Dk.cellS a u).all (·.oneCell') = true) := ⟨rfl, fun h => by simp [Dk.cellS, h]; exact ⟨rfl, rfl, rfl⟩⟩

abbrev FilesP (p : Nat → TypeId → Prop) (w : World) (v : Value) (F : Dk.Files) : Prop := ListP 2 Dk.cellF (·.2) p w v F
abbrev FilesO (p : Nat → TypeId → Prop) (w : World) (base : Nat) (v : Value) (F : Dk.Files) : Prop := ListO 2 Dk.cellF (·.2) p w base 47 v F
abbrev OpsP (p : Nat → TypeId → Prop) (w : World) (v : Value) (B : List Dk.Op) : Prop := ListP 3 Dk.cellO Dk.Op.data p w v B
abbrev OpsO (p : Nat → TypeId → Prop) (w : World) (base : Nat) (v : Value) (B : List Dk.Op) : Prop := ListO 3 Dk.cellO Dk.Op.data p w base 53 v B
abbrev StepsP (p : Nat → TypeId → Prop) (w : World) (v : Value) (l : List Dk.Step) : Prop := ListP 4 Dk.cellS Dk.Step.data p w v l
theorem info_file : (Try.prog.info? 47).map (fun i => (i.zero, i.size, i.bytes)) = some (some (.agg #[.int .i64 0, .slice none 0 0]), 2, 32) := by kernel_rfl
theorem info_op : (Try.prog.info? 53).map (fun i => (i.zero, i.size, i.bytes)) = some (some (.agg #[.int .i64 0, .int .i64 0, .slice none 0 0]), 3, 40) := by kernel_rfl

/-- A file's row: its number, the slice's value, what it holds. -/
abbrev Row := Int × (Value × List UInt8)
/-- The blocks of the files' rows. -/
def Bl (zs : List Row) (k : Nat) : Prop := ∃ z ∈ zs, z.2.1.ownBlock = some k
/-- The map in block b holds these files, each in a row of its own. -/
structure FilesIn (w : World) (b : Nat) (zs : List Row) : Prop where
  map : MapAt w b (Dk.onto (·.1) zs)
  own : ∀ z ∈ zs, Owns w 0 5 z.2.1 z.2.2
  apart : ∀ x ∈ zs, ∀ y ∈ zs, x.1 ≠ y.1 → ∀ g, x.2.1.ownBlock = some g → y.2.1.ownBlock ≠ some g
  range : ∀ z ∈ zs, 1 ≤ z.1 ∧ z.1 ≤ 4294967296
theorem FilesIn.asc {w : World} {b : Nat} {zs : List Row} (h : FilesIn w b zs) : Dk.Asc zs := (Dk.asc_onto _).1 h.map.asc
theorem FilesIn.asc2 {w : World} {b : Nat} {zs : List Row} (h : FilesIn w b zs) : Dk.Asc (Dk.onto (·.2) zs) := (Dk.asc_onto _).2 h.asc
theorem FilesIn.cells {w : World} {b : Nat} {zs : List Row} (h : FilesIn w b zs) {k : Nat} (hk : Bl zs k) : ∃ cs, w.heap[k]? = some (.cells cs 5 (0, 0)) := by
  obtain ⟨z, hz, e⟩ := hk
  obtain ⟨cs, hc, _⟩ := (h.own z hz).cells e
  exact ⟨cs, hc⟩
theorem FilesIn.lt {w : World} {b : Nat} {zs : List Row} (h : FilesIn w b zs) {k : Nat} (hk : Bl zs k) : k < w.heap.size := by
  obtain ⟨cs, hc⟩ := h.cells hk
  exact lt_of_obj hc
theorem FilesIn.not_map {w : World} {b : Nat} {zs : List Row} (h : FilesIn w b zs) : ¬ Bl zs b := fun hk => by
  obtain ⟨cs, hc⟩ := h.cells hk
  exact h.map.no_cells hc
theorem FilesIn.stays {w w' : World} {b : Nat} {zs : List Row} (h : FilesIn w b zs) (hb : w'.heap[b]? = w.heap[b]?) (hz : ∀ k, Bl zs k → w'.heap[k]? = w.heap[k]?) : FilesIn w' b zs :=
  ⟨h.map.of_block hb, fun z hz' => (h.own z hz').stays fun g e => hz g ⟨z, hz', e⟩, h.apart, h.range⟩
theorem FilesIn.below {w w' : World} {b B : Nat} {zs : List Row} (h : FilesIn w b zs) (hb : Below B w w') (hB : w.heap.size ≤ B) : FilesIn w' b zs :=
  h.stays (hb.block b (Nat.lt_of_lt_of_le h.map.lt hB)) fun k hk => hb.block k (Nat.lt_of_lt_of_le (h.lt hk) hB)
theorem FilesIn.new (w : World) : FilesIn (w.alloc (.map #[] 0)) w.heap.size [] := ⟨MapAt.new w, fun z hz => by simp at hz, fun x hx => by simp at hx, fun z hz => by simp at hz⟩
theorem FilesIn.len {w : World} {b : Nat} {zs : List Row} (_ : FilesIn w b zs) : (Dk.onto (·.1) zs).length = zs.length := by simp [Dk.onto]

/-- A file stored: its row has grown, or is new. -/
theorem FilesIn.put {w w1 w2 : World} {b : Nat} {zs : List Row} (h : FilesIn w b zs) (n : Int) (hn : 1 ≤ n ∧ n ≤ 4294967296) (v : Value) (d : List UInt8) (row : Option Nat) (hg1 : w.grownBy w1 row)
    (hrow : ∀ g, row = some g → ∃ old, Dk.get zs n = some old ∧ old.1.ownBlock = some g) (hown : Owns w1 0 5 v d) (hv : ∀ g, v.ownBlock = some g → row = some g ∨ w.heap.size ≤ g)
    (hm : MapAt w2 b (Dk.put (Dk.onto (·.1) zs) n v)) (hg2 : w1.grownBy w2 (some b)) :
    FilesIn w2 b (Dk.put zs n (v, d)) ∧ Kp (fun k _ => k ≠ b ∧ ¬ Bl zs k) w w2 ∧ ∀ k, Bl (Dk.put zs n (v, d)) k → Bl zs k ∨ w.heap.size ≤ k := by
  have hrowB : ∀ g, row = some g → Bl zs g := fun g e => by
    obtain ⟨old, ho, eo⟩ := hrow g e
    exact ⟨_, Dk.get_mem ho, eo⟩
  have hrb : some b ≠ row := fun e => h.not_map (hrowB b e.symm)
  have hm1 := h.map.kept hg1 hrb
  have hz : ∀ z ∈ zs, z.1 ≠ n → Owns w2 0 5 z.2.1 z.2.2 := fun z hz hne => (h.own z hz).stays fun g e => by
    obtain ⟨cs, hc, _⟩ := (h.own z hz).cells e
    have hgb : g ≠ b := fun e' => h.map.no_cells (e' ▸ hc)
    have hgr : some g ≠ row := fun e' => by
      obtain ⟨old, ho, eo⟩ := hrow g e'.symm
      exact h.apart (n, old) (Dk.get_mem ho) z hz (Ne.symm hne) g eo e
    rw [hg2.block g (Nat.lt_of_lt_of_le (lt_of_obj hc) hg1.size) (by simpa using hgb), hg1.block g (lt_of_obj hc) hgr]
  have hvy : ∀ y ∈ zs, y.1 ≠ n → ∀ g, v.ownBlock = some g → y.2.1.ownBlock ≠ some g := fun y hy hne g e e' => by
    rcases hv g e with hr | hr
    · obtain ⟨old, ho, eo⟩ := hrow g hr
      exact h.apart (n, old) (Dk.get_mem ho) y hy (Ne.symm hne) g eo e'
    · have := h.lt ⟨y, hy, e'⟩
      omega
  refine ⟨⟨?_, fun z hz' => ?_, fun x hx y hy hne g e e' => ?_, fun z hz' => ?_⟩, ?_, fun k hk => ?_⟩
  · rw [Dk.onto_put]; exact hm
  · rcases Dk.mem_put.1 hz' with rfl | ⟨hz', hne⟩
    · refine hown.stays fun g e => hg2.block g ?_ ?_
      · obtain ⟨cs, hc, _⟩ := hown.cells e; exact lt_of_obj hc
      · intro e'
        obtain ⟨cs, hc, _⟩ := hown.cells e
        simp only [Option.some.injEq] at e'
        subst e'
        exact hm1.no_cells hc
    · exact hz z hz' hne
  · rcases Dk.mem_put.1 hx with rfl | ⟨hx, hxn⟩ <;> rcases Dk.mem_put.1 hy with rfl | ⟨hy, hyn⟩
    · exact hne rfl
    · exact hvy y hy hyn g e e'
    · exact hvy x hx hxn g e' e
    · exact h.apart x hx y hy hne g e e'
  · rcases Dk.mem_put.1 hz' with rfl | ⟨hz', _⟩
    · exact hn
    · exact h.range z hz'
  · exact (Kp.of_grown hg1 fun g o e _ hq => hq.2 (hrowB g e)).trans (Kp.of_grown hg2 fun g o e _ hq => hq.1 (by simpa using e.symm))
  · obtain ⟨z, hz', e⟩ := hk
    rcases Dk.mem_put.1 hz' with rfl | ⟨hz', _⟩
    · rcases hv k e with hr | hr
      · exact .inl (hrowB k hr)
      · exact .inr hr
    · exact .inl ⟨z, hz', e⟩
/-- A file struck. -/
theorem FilesIn.del {w w2 : World} {b : Nat} {zs : List Row} (h : FilesIn w b zs) (n : Int) (hm : MapAt w2 b (Dk.del (Dk.onto (·.1) zs) n)) (hg2 : w.grownBy w2 (some b)) :
    FilesIn w2 b (Dk.del zs n) ∧ Kp (fun k _ => k ≠ b ∧ ¬ Bl zs k) w w2 ∧ ∀ k, Bl (Dk.del zs n) k → Bl zs k ∨ w.heap.size ≤ k := by
  refine ⟨⟨by rw [Dk.onto_del]; exact hm, fun z hz => (h.own z (Dk.mem_del.1 hz).1).stays fun g e => hg2.block g (h.lt ⟨z, (Dk.mem_del.1 hz).1, e⟩) (fun e' => h.not_map (by simp only [Option.some.injEq] at e'; subst e'; exact ⟨z, (Dk.mem_del.1 hz).1, e⟩)), fun x hx y hy => h.apart x (Dk.mem_del.1 hx).1 y (Dk.mem_del.1 hy).1, fun z hz => h.range z (Dk.mem_del.1 hz).1⟩, Kp.of_grown hg2 fun g o e _ hq => hq.1 (by simpa using e.symm), fun k hk => ?_⟩
  obtain ⟨z, hz, e⟩ := hk
  exact .inl ⟨z, (Dk.mem_del.1 hz).1, e⟩

/-- What is kept but for a map and its files: of cells. -/
theorem FilesIn.keep {w w' : World} {b : Nat} {zs : List Row} (h : FilesIn w b zs) (hk : Kp (fun k _ => k ≠ b ∧ ¬ Bl zs k) w w') : Keep (fun k _ => ¬ Bl zs k) w w' :=
  hk.keep fun k cs t fr e hp => ⟨fun e' => by subst e'; exact h.map.no_cells e, hp⟩

/-- A map's value and its files, the nil one too. -/
def FilesOr (w : World) (mv : Option Nat) (zs : List Row) : Prop := (mv = none ∧ zs = []) ∨ ∃ b, mv = some b ∧ FilesIn w b zs
theorem FilesOr.map {w : World} {mv : Option Nat} {zs : List Row} (h : FilesOr w mv zs) : MapOr w (.map mv) (Dk.onto (·.1) zs) := by
  rcases h with ⟨rfl, rfl⟩ | ⟨b, rfl, h⟩
  · exact .inl ⟨rfl, rfl⟩
  · exact .inr ⟨b, rfl, h.map⟩
theorem FilesOr.below {w w' : World} {mv : Option Nat} {zs : List Row} (h : FilesOr w mv zs) (hb : Below w.heap.size w w') : FilesOr w' mv zs := by
  rcases h with ⟨rfl, rfl⟩ | ⟨b, rfl, h⟩
  · exact .inl ⟨rfl, rfl⟩
  · exact .inr ⟨b, rfl, h.below hb (Nat.le_refl _)⟩
theorem FilesOr.own {w : World} {mv : Option Nat} {zs : List Row} (h : FilesOr w mv zs) : ∀ z ∈ zs, Owns w 0 5 z.2.1 z.2.2 := by
  rcases h with ⟨rfl, rfl⟩ | ⟨b, rfl, h⟩
  · intro z hz; simp at hz
  · exact h.own
theorem FilesOr.asc {w : World} {mv : Option Nat} {zs : List Row} (h : FilesOr w mv zs) : Dk.Asc zs := by
  rcases h with ⟨rfl, rfl⟩ | ⟨b, rfl, h⟩
  · exact Dk.Asc.nil
  · exact h.asc
theorem FilesOr.range {w : World} {mv : Option Nat} {zs : List Row} (h : FilesOr w mv zs) : ∀ z ∈ zs, 1 ≤ z.1 ∧ z.1 ≤ 4294967296 := by
  rcases h with ⟨rfl, rfl⟩ | ⟨b, rfl, h⟩
  · intro z hz; simp at hz
  · exact h.range

/-- A disk in block d, all of it in blocks of which S speaks: files, and what is buffered. -/
structure DiskP (S : Nat → Prop) (w : World) (d : Nat) (mv : Option Nat) (bv : Value) (zs : List Row) (qs : List (Dk.Op × Value)) : Prop where
  lies : Lies w d 51 #[.map mv, bv]
  here : S d
  map : (mv = none ∧ zs = [] ∧ qs = []) ∨ ∃ b, mv = some b ∧ S b ∧ FilesIn w b zs
  blk : ∀ k, Bl zs k → S k
  row : OwnsR w 0 53 3 bv (rowsOf Dk.cellO qs)
  rowS : ∀ g, bv.ownBlock = some g → S g
  data : ∀ q ∈ qs, ReadsP (fun k t => t = 5 ∧ S k ∧ ¬ Bl zs k) w q.2 q.1.data
def DiskAt (S : Nat → Prop) (w : World) (d : Nat) (F : Dk.Files) (B : List Dk.Op) : Prop :=
  ∃ mv bv zs qs, DiskP S w d mv bv zs qs ∧ F = Dk.onto (·.2) zs ∧ B = qs.map (·.1)
theorem DiskP.files {S : Nat → Prop} {w : World} {d : Nat} {mv : Option Nat} {bv : Value} {zs : List Row} {qs : List (Dk.Op × Value)} (h : DiskP S w d mv bv zs qs) : FilesOr w mv zs := by
  rcases h.map with ⟨rfl, rfl, _⟩ | ⟨b, rfl, _, h⟩
  · exact .inl ⟨rfl, rfl⟩
  · exact .inr ⟨b, rfl, h⟩
theorem DiskP.sized {S : Nat → Prop} {w : World} {d : Nat} {mv : Option Nat} {bv : Value} {zs : List Row} {qs : List (Dk.Op × Value)} (h : DiskP S w d mv bv zs qs) : Sized 3 (rowsOf Dk.cellO qs) := rowsOf_sized Dk.cellO_ok fun q hq => (h.data q hq).one
/-- All that the disk lies in is kept. -/
theorem DiskP.keep {S : Nat → Prop} {w w' : World} {d : Nat} {mv : Option Nat} {bv : Value} {zs : List Row} {qs : List (Dk.Op × Value)} (h : DiskP S w d mv bv zs qs) (hk : Kp (fun k _ => S k) w w') : DiskP S w' d mv bv zs qs := by
  have hb : ∀ k, S k → k < w.heap.size → w'.heap[k]? = w.heap[k]? := fun k hs hlt => hk.block hlt fun _ => hs
  refine ⟨hk.lies h.lies fun _ => h.here, h.here, ?_, h.blk, h.row.stays fun g e => ?_, h.rowS, fun q hq => (h.data q hq).keep (hk.keep fun k cs t fr e hp => hp.2.1)⟩
  · rcases h.map with h' | ⟨b, e, hs, h'⟩
    · exact .inl h'
    · exact .inr ⟨b, e, hs, h'.stays (hb b hs h'.map.lt) fun k hk' => hb k (h.blk k hk') (h'.lt hk')⟩
  · obtain ⟨cs, hc, _⟩ := h.row.cells e
    exact hb g (h.rowS g e) (lt_of_obj hc)
theorem DiskP.imp {S S' : Nat → Prop} {w : World} {d : Nat} {mv : Option Nat} {bv : Value} {zs : List Row} {qs : List (Dk.Op × Value)} (h : DiskP S w d mv bv zs qs) (hs : ∀ k, k < w.heap.size → S k → S' k) : DiskP S' w d mv bv zs qs := by
  refine ⟨h.lies, hs _ h.lies.lt h.here, ?_, fun k hk => ?_, h.row, fun g e => ?_, fun q hq => (h.data q hq).imp fun k cs t fr e hp => ⟨hp.1, hs k (lt_of_obj e) hp.2.1, hp.2.2⟩⟩
  · rcases h.map with h' | ⟨b, e, hb, h'⟩
    · exact .inl h'
    · exact .inr ⟨b, e, hs b h'.map.lt hb, h'⟩
  · refine hs k ?_ (h.blk k hk)
    rcases h.map with ⟨_, rfl, _⟩ | ⟨b, e, _, h'⟩
    · obtain ⟨z, hz, _⟩ := hk; simp at hz
    · exact h'.lt hk
  · obtain ⟨cs, hc, _⟩ := h.row.cells e
    exact hs g (lt_of_obj hc) (h.rowS g e)
theorem DiskAt.keep {S : Nat → Prop} {w w' : World} {d : Nat} {F : Dk.Files} {B : List Dk.Op} (h : DiskAt S w d F B) (hk : Kp (fun k _ => S k) w w') : DiskAt S w' d F B := by
  obtain ⟨mv, bv, zs, qs, h1, h2⟩ := h
  exact ⟨mv, bv, zs, qs, h1.keep hk, h2⟩
theorem DiskAt.imp {S S' : Nat → Prop} {w : World} {d : Nat} {F : Dk.Files} {B : List Dk.Op} (h : DiskAt S w d F B) (hs : ∀ k, k < w.heap.size → S k → S' k) : DiskAt S' w d F B := by
  obtain ⟨mv, bv, zs, qs, h1, h2⟩ := h
  exact ⟨mv, bv, zs, qs, h1.imp hs, h2⟩
theorem DiskAt.below {S : Nat → Prop} {w w' : World} {d : Nat} {F : Dk.Files} {B : List Dk.Op} (h : DiskAt S w d F B) (hb : Below w.heap.size w w') : DiskAt S w' d F B := h.keep (Kp.all hb)

end Go.Proofs.Ytffgfjfeoinnfaa
