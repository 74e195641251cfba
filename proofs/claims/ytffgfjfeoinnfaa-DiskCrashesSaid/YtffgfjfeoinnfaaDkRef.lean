/- The document's files: place, Done, All. Written by a program. -/
import Derived.Test.YtffgfjfeoinnfaaDkMem
import Derived.Test.YtffgfjfeoinnfaaClone
import Derived.Test.YtffgfjfeoinnfaaOnce
import Derived.Deep.RegionHeld
namespace Go.Proofs.Ytffgfjfeoinnfaa
open Go.RowKit

theorem cellF_first (a : Int × List UInt8) (u : Value) : ∃ v, (Dk.cellF a u)[0]? = some v := ⟨_, rfl⟩
theorem cellO_first (a : Dk.Op) (u : Value) : ∃ v, (Dk.cellO a u)[0]? = some v := ⟨_, rfl⟩
theorem cellS_first (a : Dk.Step) (u : Value) : ∃ v, (Dk.cellS a u)[0]? = some v := ⟨_, rfl⟩

/-- Where a file is. -/
def Placed (F : Dk.Files) (n : Int) (r : Int) : Prop := (∃ (j : Nat) (f : Int × List UInt8), r = (j : Int) ∧ F[j]? = some f ∧ f.1 = n) ∨ (r = -1 ∧ ∀ f ∈ F, f.1 ≠ n)
theorem Placed.some_iff {F : Dk.Files} {n r : Int} (h : Placed F n r) : decide (0 ≤ r) = (Dk.get F n).isSome := by
  rcases h with ⟨j, f, rfl, hf, rfl⟩ | ⟨rfl, h⟩
  · cases hg : Dk.get F f.1 with
    | none => exact absurd rfl (Dk.get_none.1 hg f (List.mem_of_getElem? hf))
    | some d => simp
  · rw [Dk.get_none.2 h]
    rfl
theorem Placed.at {F : Dk.Files} {n r : Int} (h : Placed F n r) (ha : Dk.Asc F) {i : Nat} {f : Int × List UInt8} (hf : F[i]? = some f) : ((i : Int) = r ↔ f.1 = n) := by
  rcases h with ⟨j, g, rfl, hg, rfl⟩ | ⟨rfl, h⟩
  · constructor
    · intro e
      have : i = j := by omega
      subst this
      rw [hf] at hg
      cases hg
      rfl
    · intro e
      obtain ⟨hi1, hi2⟩ := List.getElem?_eq_some_iff.1 hf
      obtain ⟨hj1, hj2⟩ := List.getElem?_eq_some_iff.1 hg
      rcases Nat.lt_trichotomy i j with hlt | heq | hlt
      · have := List.pairwise_iff_getElem.1 ha i j hi1 hj1 hlt
        rw [hi2, hj2] at this
        omega
      · omega
      · have := List.pairwise_iff_getElem.1 ha j i hj1 hi1 hlt
        rw [hi2, hj2] at this
        omega
  · constructor
    · intro e; omega
    · intro e; exact absurd e (h f (List.mem_of_getElem? hf))

set_option maxRecDepth 4000 in
set_option maxHeartbeats 800000 in
theorem place_ref {p : Nat → TypeId → Prop} {w : World} {v : Value} {F : Dk.Files} (h : FilesP p w v F) (n : Int) (hl : F.length ≤ 1099511627776) :
    Calls Try.prog 32 #[v, .int .i64 n] w fun e w' => ∃ r : Int, e = .returned (.int .i64 r) ∧ w = w' ∧ Placed F n r := by
  obtain ⟨ao, cap, rfl, hc1, hc2⟩ := h.shape
  by_cases h0 : F.length = 0
  · obtain rfl : F = [] := List.eq_nil_of_length_eq_zero h0
    clear h
    go_enter Try.func32, Try.ntmps32
    go_wp2
    refine wp_loop_rounds 1 ?_
    rw [rounds_succ]
    go_wp2
    go_ret
    exact ⟨_, rfl, by trivial, .inr ⟨rfl, fun f hf => by simp at hf⟩⟩
  · obtain ⟨b, off, rfl, _, hp⟩ := h.places cellF_first (by omega)
    have HP := Lib.hid hp
    obtain ⟨m, hm⟩ : ∃ m, m = F.length := ⟨_, rfl⟩
    rw [← hm] at hl hc1 ⊢
    have HM := Lib.hid hm
    clear h hp hm h0
    go_enter Try.func32, Try.ntmps32
    go_wp2
    go_loopw [5] (fun x wr => ∃ i : Nat, x = .int .i64 (i : Int) ∧ i ≤ m ∧ wr = w ∧ Hid (∀ (j : Nat) (f : Int × List UInt8), j < i → F[j]? = some f → f.1 ≠ n)) (fun x _ => m - (intOf x).toNat)
    case atStart => exact ⟨0, rfl, Nat.zero_le _, rfl, fun j f hj => by omega⟩
    case round =>
      obtain ⟨i, rfl, him, rfl, hne⟩ := hrel
      by_cases hlt : i < m
      · have hint : ((i : Nat) : Int) < (m : Int) := by omega
        obtain ⟨f, hf⟩ : ∃ f, F[i]? = some f := ⟨_, List.getElem?_eq_getElem (by have := HM.out; omega)⟩
        obtain ⟨u, _, hc⟩ := HP.out i f hf
        have c0 : wr.cell? ⟨b, off + i * 2, none⟩ = some (.int .i64 f.1) := hc wr (Below.refl _ _) 0 _ rfl
        have HF := Lib.hid hf
        clear hf hc
        by_cases he : f.1 = n
        · have hb : (f.1 == n) = true := by simpa using he
          have HE := Lib.hid he
          clear he
          go_wp2
          go_ret
          exact ⟨_, rfl, by trivial, .inl ⟨i, f, rfl, HF.out, HE.out⟩⟩
        · have hb : (f.1 == n) = false := by simpa using he
          have HE := Lib.hid he
          clear he
          go_wp2
          go_roundw
          case rel =>
            refine ⟨i + 1, by simp, by omega, by trivial, fun j g hj hg => ?_⟩
            by_cases hji : j = i
            · subst hji
              rw [HF.out] at hg
              cases hg
              exact HE.out
            · exact hne j g (by omega) hg
          case measure => simp [intOf]; omega
      · have hint : ¬ ((i : Nat) : Int) < (m : Int) := by omega
        go_wp2
        go_ret
        refine ⟨_, rfl, by trivial, .inr ⟨rfl, fun f hf => ?_⟩⟩
        obtain ⟨j, hj⟩ := List.getElem?_of_mem hf
        have := (List.getElem?_eq_some_iff.1 hj).1
        exact hne j f (by have := HM.out; omega) hj

/-- Blocks that there were, of which p speaks; bytes that are new. -/
def upP (p : Nat → TypeId → Prop) (n0 : Nat) (k : Nat) (t : TypeId) : Prop := (k < n0 ∧ p k t) ∨ (t = 5 ∧ n0 ≤ k)
theorem upP_file {p : Nat → TypeId → Prop} {n0 : Nat} : ∀ g, n0 ≤ g → ¬ upP p n0 g 47 := fun g hg h => by
  rcases h with h | h
  · omega
  · exact absurd h.1 (by decide)
theorem ReadsP.up {p : Nat → TypeId → Prop} {w W : World} {v : Value} {l : List UInt8} (h : ReadsP p w v l) (hb : Below w.heap.size w W) : ReadsP (upP p w.heap.size) W v l :=
  (h.imp fun k _ t _ e hp => show upP p w.heap.size k t from .inl ⟨lt_of_obj e, hp⟩).keep (Keep.of_below hb)
theorem ListP.up {α : Type} {k : Nat} {cells : α → Value → Array Value} {bytes : α → List UInt8} {p : Nat → TypeId → Prop} {w W : World} {v : Value} {l : List α} (h : ListP k cells bytes p w v l) (hb : Below w.heap.size w W) : ListP k cells bytes (upP p w.heap.size) W v l :=
  (h.imp fun k _ t _ e hp => show upP p w.heap.size k t from .inl ⟨lt_of_obj e, hp⟩).keep (Keep.of_below hb)

/-- append of one file that lies in a block of its own. -/
theorem step_push {w : World} {ops : Array Oper} {rest : List Oper} {o : Oper} {a : Act} {Q : Exit → Act → World → Prop} (hg : o.guard = none) (s x : Operand) (ho : o.op = .call { callee := .builtin .append, args := #[s, x], argTypes := #[28, 28] })
    {p : Nat → TypeId → Prop} (base : Nat) (out : Value) (G : Dk.Files) (hs : a.eval s = out) (hown : FilesO p w base out G) (f : Int × List UInt8) (u : Value) (g : Nat) (hx : a.eval x = .slice (some ⟨g, 0, none⟩) 1 1) (hl : Lies w g 47 (Dk.cellF f u)) (hu : ReadsP p w u f.2)
    (hlen : G.length ≤ 1099511627776) (hp : ∀ g, base ≤ g → ¬ p g 47) (hbase : base ≤ w.heap.size) (hK : ∀ v' w', FilesO p w' base v' (G ++ [f]) → w.grownBy w' out.ownBlock → wpList Try.prog ops Q rest (a.put o.dst v') w') : wpList Try.prog ops Q (o :: rest) a w := by
  obtain ⟨v', w', hrun, h1, h2, _⟩ := hown.snoc (P := Try.prog) (t := 28) o.type Dk.cellF_ok Try.underlying28 info_file rfl (by decide) hbase f u hl hu (by omega) (by omega) hp
  exact step_append hg s x 28 ho out _ v' hs hx hrun (hK v' w' h1 h2)
theorem filesO_shape {p : Nat → TypeId → Prop} {w : World} {base : Nat} {v : Value} {F : Dk.Files} (h : FilesO p w base v F) : ∃ ao cap, v = .slice ao F.length cap := by
  obtain ⟨ps, e, h1, _⟩ := h
  obtain ⟨ao, cap, e2⟩ := OwnsR.shape h1
  rw [rowsOf_len, ← e] at e2
  exact ⟨ao, cap, e2⟩

theorem filesO_form {p : Nat → TypeId → Prop} {w : World} {base : Nat} {v : Value} {F : Dk.Files} (h : FilesO p w base v F) : ∃ ao n cap, v = .slice ao n cap := by
  obtain ⟨ao, cap, e⟩ := filesO_shape h
  exact ⟨ao, _, cap, e⟩
/-- What is there while Done goes on. -/
structure Outs (p : Nat → TypeId → Prop) (w : World) (x : Dk.Op) (dv : Value) (G : Dk.Files) (out : Value) (W : World) : Prop where
  own : FilesO (upP p w.heap.size) W w.heap.size out G
  below : Below w.heap.size w W
  box : Lies W w.heap.size 53 (Dk.cellO x dv)
theorem Outs.behind {p : Nat → TypeId → Prop} {w W W' : World} {x : Dk.Op} {dv out : Value} {G : Dk.Files} (h : Outs p w x dv G out W) (hb : Below W.heap.size W W') : Outs p w x dv G out W' :=
  ⟨h.own.below hb, h.below.trans (hb.mono h.below.size), h.box.below hb h.box.lt⟩
/-- A file is appended: W has its cells laid; W2 is behind the append. -/
theorem Outs.push {p : Nat → TypeId → Prop} {w W W2 : World} {x : Dk.Op} {dv out v' : Value} {G : Dk.Files} (h : Outs p w x dv G out W) {f : Int × List UInt8} (h2 : FilesO (upP p w.heap.size) W2 w.heap.size v' (G ++ [f])) (hg : W.grownBy W2 out.ownBlock) : Outs p w x dv (G ++ [f]) v' W2 := by
  have hs := h.below.size
  refine ⟨h2, h.below.grown hg hs fun k e => ?_, h.box.kept hg fun e => ?_⟩
  · obtain ⟨cs, hc, hb⟩ := h.own.blocks e
    exact hb
  · obtain ⟨cs, hc, hb⟩ := h.own.blocks e.symm
    rw [show W.heap[w.heap.size]? = _ from h.box] at hc
    cases hc
/-- A block elsewhere is kept by an append to what the call has made. -/
theorem Outs.cell {p : Nat → TypeId → Prop} {w W W2 : World} {x : Dk.Op} {dv out : Value} {G : Dk.Files} (h : Outs p w x dv G out W) (hg : W.grownBy W2 out.ownBlock) {b j : Nat} {u : Value} (hb : b < w.heap.size) (hc : W.cell? ⟨b, j, none⟩ = some u) : W2.cell? ⟨b, j, none⟩ = some u := by
  rw [← hc]
  refine World.cell?_of_block (hg.block b (by have := h.below.size; omega) fun e => ?_)
  obtain ⟨cs, hc', hb'⟩ := h.own.blocks e.symm
  omega
/-- What Done's loop knows. -/
structure DoneI (p : Nat → TypeId → Prop) (w : World) (F : Dk.Files) (x : Dk.Op) (dv : Value) (i : Nat) (d : Bool) (G : Dk.Files) (out : Value) (W : World) : Prop where
  outs : Outs p w x dv G out W
  is : Dk.done F x = G ++ Dk.rest x d (F.drop i)
  len : G.length ≤ 2 * i
section
variable {x : Dk.Op} {f : Int × List UInt8} {d : Bool}
theorem ahead_no (h : d = true ∨ f.1 ≤ x.no) : (if !d && decide (f.1 > x.no) then [(x.no, ([] : List UInt8))] else []) = [] := by
  refine if_neg fun e => ?_
  simp only [Bool.and_eq_true, Bool.not_eq_true', decide_eq_true_eq] at e
  rcases h with h | h
  · rw [h] at e; exact absurd e.1 (by decide)
  · have := e.2
    omega
theorem add_new (h : x.no < f.1) : (if !false && decide (f.1 > x.no) then [(x.no, [])] else []) ++ (if f.1 ≠ x.no then [f] else if x.kind = 2 then [(x.no, f.2 ++ x.data)] else if x.kind = 1 then [f] else []) = [(x.no, []), f] := by
  rw [if_pos (by simpa using h), if_pos (by omega)]
  rfl
theorem add_same (h : d = true ∨ f.1 ≤ x.no) (hne : f.1 ≠ x.no) : (if !d && decide (f.1 > x.no) then [(x.no, [])] else []) ++ (if f.1 ≠ x.no then [f] else if x.kind = 2 then [(x.no, f.2 ++ x.data)] else if x.kind = 1 then [f] else []) = [f] := by
  rw [ahead_no h, if_pos hne]
  rfl
theorem add_data (h : d = true ∨ f.1 ≤ x.no) (he : f.1 = x.no) (hk : x.kind = 2) : (if !d && decide (f.1 > x.no) then [(x.no, [])] else []) ++ (if f.1 ≠ x.no then [f] else if x.kind = 2 then [(x.no, f.2 ++ x.data)] else if x.kind = 1 then [f] else []) = [(x.no, f.2 ++ x.data)] := by
  rw [ahead_no h, if_neg (fun e => e he), if_pos hk]
  rfl
theorem add_make (h : d = true ∨ f.1 ≤ x.no) (he : f.1 = x.no) (hk : x.kind = 1) : (if !d && decide (f.1 > x.no) then [(x.no, [])] else []) ++ (if f.1 ≠ x.no then [f] else if x.kind = 2 then [(x.no, f.2 ++ x.data)] else if x.kind = 1 then [f] else []) = [f] := by
  rw [ahead_no h, if_neg (fun e => e he), if_neg (by omega), if_pos hk]
  rfl
theorem add_drop (h : d = true ∨ f.1 ≤ x.no) (he : f.1 = x.no) (hk : x.kind = 3) : (if !d && decide (f.1 > x.no) then [(x.no, [])] else []) ++ (if f.1 ≠ x.no then [f] else if x.kind = 2 then [(x.no, f.2 ++ x.data)] else if x.kind = 1 then [f] else []) = [] := by
  rw [ahead_no h, if_neg (fun e => e he), if_neg (by omega), if_neg (by omega)]
  rfl
theorem flag_gt (h : x.no < f.1) : (d || decide (f.1 > x.no)) = true := by
  rw [decide_eq_true (show f.1 > x.no from h), Bool.or_true]
theorem flag_not (h : f.1 ≤ x.no) : (d || decide (f.1 > x.no)) = d := by
  rw [decide_eq_false (show ¬ f.1 > x.no by omega), Bool.or_false]
end
theorem rest_at {x : Dk.Op} {d : Bool} {F : Dk.Files} {i : Nat} {f : Int × List UInt8} (hf : F[i]? = some f) :
    Dk.rest x d (F.drop i) = (if !d && decide (f.1 > x.no) then [(x.no, [])] else []) ++ (if f.1 ≠ x.no then [f] else if x.kind = 2 then [(x.no, f.2 ++ x.data)] else if x.kind = 1 then [f] else []) ++ Dk.rest x (d || decide (f.1 > x.no)) (F.drop (i + 1)) := by
  rw [List.drop_eq_getElem_cons (List.getElem?_eq_some_iff.1 hf).1, (List.getElem?_eq_some_iff.1 hf).2]
  rfl

theorem DoneI.next {p : Nat → TypeId → Prop} {w W W' : World} {F G : Dk.Files} {x : Dk.Op} {dv out out' : Value} {i : Nat} {d d' : Bool} (h : DoneI p w F x dv i d G out W) {f : Int × List UInt8} (hf : F[i]? = some f) (add : Dk.Files)
    (hadd : (if !d && decide (f.1 > x.no) then [(x.no, [])] else []) ++ (if f.1 ≠ x.no then [f] else if x.kind = 2 then [(x.no, f.2 ++ x.data)] else if x.kind = 1 then [f] else []) = add) (hd : (d || decide (f.1 > x.no)) = d') (ho : Outs p w x dv (G ++ add) out' W') (hl : add.length ≤ 2) : DoneI p w F x dv (i + 1) d' (G ++ add) out' W' :=
  ⟨ho, by rw [h.is, rest_at hf, hadd, hd, List.append_assoc], by have := h.len; rw [List.length_append]; omega⟩

/-- Blocks that there were, of which p speaks; new ones, of files and bytes. -/
def madeP (p : Nat → TypeId → Prop) (n0 : Nat) (k : Nat) (t : TypeId) : Prop := p k t ∨ ((t = 5 ∨ t = 47) ∧ n0 ≤ k)
/-- What a call that makes a list of files leaves. -/
def FilesMade (p : Nat → TypeId → Prop) (w : World) (F : Dk.Files) (e : Ending) (w' : World) : Prop := ∃ v, e = .returned v ∧ FilesP (madeP p w.heap.size) w' v F ∧ Below w.heap.size w w'
theorem DoneI.made2 {p : Nat → TypeId → Prop} {w W : World} {F G : Dk.Files} {x : Dk.Op} {dv out : Value} (h : Outs p w x dv G out W) (e : Dk.done F x = G) : FilesMade p w (Dk.done F x) (.returned out) W := by
  rw [e]
  have h2 : FilesO (madeP p w.heap.size) W w.heap.size out G := h.own.imp fun k cs t fr _ hp => by
    rcases hp with hp | hp
    · exact .inl hp.2
    · exact .inr ⟨.inl hp.1, hp.2⟩
  exact ⟨out, rfl, h2.reads Dk.cellF_ok fun g e => by obtain ⟨cs, hc, hb⟩ := h2.blocks e; exact .inr ⟨.inr rfl, hb⟩, h.below⟩

set_option maxRecDepth 8000 in
set_option maxHeartbeats 3200000 in
theorem done_make {p pd : Nat → TypeId → Prop} {w : World} {v : Value} {F : Dk.Files} (h : FilesP p w v F) (ha : Dk.Asc F) (n : Int) (dv : Value) (data : List UInt8) (hd : ReadsP pd w dv data) (hs : Dk.wt F + data.length ≤ 68719476736) :
    Calls Try.prog 23 #[v, .agg #[.int .i64 1, .int .i64 n, dv]] w (FilesMade p w (Dk.done F ⟨1, n, data⟩)) := by
  obtain ⟨ao, cap, rfl, hc1, hc2⟩ := h.shape
  obtain ⟨m, hm⟩ : ∃ m, m = F.length := ⟨_, rfl⟩
  have hlm : m ≤ 68719476736 := by have := Dk.len_wt F; omega
  rw [← hm] at h hc1 ⊢
  obtain ⟨bo, cd, rfl⟩ := hd.1.shape
  obtain ⟨w1, hw1⟩ : ∃ w1, w.alloc (.cells #[.int .i64 1, .int .i64 n, .slice bo data.length cd] 53) = w1 := ⟨_, rfl⟩
  have hb1 : Below w.heap.size w w1 := by rw [← hw1]; exact (Below.refl _ w).alloc (Nat.le_refl _) _
  have hL1 : Lies w1 w.heap.size 53 (Dk.cellO ⟨1, n, data⟩ (.slice bo data.length cd)) := by rw [← hw1]; exact Lies.new w _ _
  have hpl := place_ref (h.below hb1) n (by omega)
  have c0 : w1.cell? ⟨w.heap.size, 0, none⟩ = some (.int .i64 1) := hL1.cell 0 _ rfl
  have c1 : w1.cell? ⟨w.heap.size, 1, none⟩ = some (.int .i64 n) := hL1.cell 1 _ rfl
  -- an element, in whatever world is behind
  have HEL : Hid (∀ i, i < m → ∃ (b0 off : Nat) (f : Int × List UInt8) (ax : Option Addr) (cx : Nat), ao = some ⟨b0, off, none⟩ ∧ b0 < w.heap.size ∧ F[i]? = some f ∧ f.2.length + data.length ≤ 1099511627776 ∧
      ∀ W : World, Below w.heap.size w W → ReadsP (upP p w.heap.size) W (.slice ax f.2.length cx) f.2 ∧ W.cell? ⟨b0, off + i * 2, none⟩ = some (.int .i64 f.1) ∧ W.cell? ⟨b0, off + i * 2 + 1, none⟩ = some (.slice ax f.2.length cx)) := by
    intro i hi
    obtain ⟨b0, off, e, hlt, hp⟩ := h.places cellF_first (by omega)
    obtain ⟨f, hf⟩ : ∃ f, F[i]? = some f := ⟨_, List.getElem?_eq_getElem (by omega)⟩
    obtain ⟨u, hu, hc⟩ := hp i f hf
    obtain ⟨ax, cx, rfl⟩ := hu.1.shape
    have hw := Dk.wt_mem (List.mem_of_getElem? hf)
    exact ⟨b0, off, f, ax, cx, e, hlt, hf, by omega, fun W hW => ⟨hu.up hW, hc W hW 0 _ rfl, hc W hW 1 _ rfl⟩⟩
  have HM := Lib.hid hm; have HA := Lib.hid ha; have HB1 := Lib.hid hb1; have HL1 := Lib.hid hL1; have HDR := Lib.hid hd; have HPL := Lib.hid hpl
  clear hm ha hb1 hL1 hd h hs hpl
  go_enter Try.func23, Try.ntmps23
  go_wp2_with (go_at_call 32; refine HPL.out.mono ?_; rintro e w' ⟨r, rfl, rfl, hr⟩; have HR := Lib.hid hr; clear hr)
  go_loopw [6, 7, 8] (fun o q x wr => ∃ (i : Nat) (d : Bool) (G : Dk.Files), x = .int .i64 (i : Int) ∧ q = .bool d ∧ i ≤ m ∧ Hid (DoneI p w F ⟨1, n, data⟩ (.slice bo data.length cd) i d G o wr)) (fun _ _ x _ => m - (intOf x).toNat)
  case atStart =>
      refine ⟨0, _, [], rfl, rfl, Nat.zero_le _, ⟨⟨ListO.bare _ _ _ _, HB1.out, HL1.out⟩, ?_, by simp⟩⟩
      rw [List.drop_zero, List.nil_append, ← Dk.rest_is ⟨1, n, data⟩ HA.out (.inl rfl), ← HR.out.some_iff]
      congr 1
  case round =>
    obtain ⟨i, d, G, rfl, rfl, him, hI⟩ := hrel
    obtain ⟨oo, oc, rfl⟩ := filesO_shape hI.out.outs.own
    have HI := hI
    have q0 : wr.cell? ⟨w.heap.size, 0, none⟩ = some (.int .i64 1) := hI.out.outs.box.cell 0 _ rfl
    have q1 : wr.cell? ⟨w.heap.size, 1, none⟩ = some (.int .i64 n) := hI.out.outs.box.cell 1 _ rfl
    have hGl : G.length ≤ 274877906944 := by have := hI.out.len; omega
    clear c0 c1
    by_cases hlt : i < m
    · have hint : ((i : Nat) : Int) < (m : Int) := by omega
      obtain ⟨b0, off, ⟨fn, fd⟩, ax, cx, rfl, hb0, hf, hfl, hfw⟩ := HEL.out i hlt
      simp only at hfl hfw
      have hat := HR.out.at HA.out hf
      simp only at hat
      have HF := Lib.hid hf; have HFL := Lib.hid hfl; have HFW := Lib.hid hfw; have HAT := Lib.hid hat
      clear hf hat hfw
      have k0 : ∀ p : Behind wr, p.world.cell? ⟨b0, off + i * 2, none⟩ = some (.int .i64 fn) := fun p => (HFW.out _ (hI.out.outs.below.trans (p.below.mono hI.out.outs.below.size))).2.1
      have k1 : ∀ p : Behind wr, p.world.cell? ⟨w.heap.size, 1, none⟩ = some (.int .i64 n) := fun p => (hI.out.outs.behind p.below).box.cell 1 _ rfl
      by_cases hgt : n < fn
      · have hne : fn ≠ n := by omega
        have hnat : ¬ ((i : Nat) : Int) = r := fun e => hne (HAT.out.1 e)
        have hbn : (((i : Nat) : Int) != r) = true := by simpa using hnat
        have hd1 : decide (n < fn) = true := by simpa using hgt
        have HGT := Lib.hid hgt; have HNE := Lib.hid hne
        clear hne hnat
        cases d
        · go_wp2
          refine wp_region_behind (by kernel_rfl) (by kernel_rfl) ?_
          repeat (go_big_quiet_step (fail))
          refine wpQuiet_nil ?_
          rintro w5 ⟨⟨w5, hB5⟩, rfl⟩
          (try dsimp only)
          have HO5 := Lib.hid (hI.out.outs.behind hB5)
          have HB5 := Lib.hid (hI.out.outs.below.trans (hB5.mono hI.out.outs.below.size))
          have e0 : w5.cell? ⟨w.heap.size, 0, none⟩ = some (.int .i64 1) := HO5.out.box.cell 0 _ rfl
          have e1 : w5.cell? ⟨w.heap.size, 1, none⟩ = some (.int .i64 n) := HO5.out.box.cell 1 _ rfl
          have e2 : w5.cell? ⟨w.heap.size, 2, none⟩ = some (.slice bo data.length cd) := HO5.out.box.cell 2 _ rfl
          have g0 : w5.cell? ⟨b0, off + i * 2, none⟩ = some (.int .i64 fn) := (HFW.out w5 HB5.out).2.1
          have g1 : w5.cell? ⟨b0, off + i * 2 + 1, none⟩ = some (.slice ax fd.length cx) := (HFW.out w5 HB5.out).2.2
          clear k0 k1 hB5 q0 q1
          go_wp2_with (first
            | (at_builtin; refine step_push rfl _ _ rfl w.heap.size (.slice oo G.length oc) G rfl ((HO5.out.behind ((Below.refl _ w5).alloc (Nat.le_refl _) _)).own) (n, []) (.slice none 0 0) w5.heap.size rfl (Lies.new w5 47 (Dk.cellF (n, []) (.slice none 0 0))) (ReadsP.none _ _) (by first | omega | (simp; omega)) upP_file (Nat.le_trans HO5.out.below.size (by simp)) ?_; intro v2 w6 hw6 hgw6; have HOw6 := Lib.hid ((HO5.out.behind ((Below.refl _ w5).alloc (Nat.le_refl _) _)).push hw6 hgw6); have HSw6 := Lib.hid (filesO_form hw6); clear hw6 hgw6; obtain ⟨o6, n6, c6, rfl⟩ := HSw6.out; have y0 : w6.cell? ⟨b0, off + i * 2, none⟩ = some (.int .i64 fn) := (HFW.out w6 HOw6.out.below).2.1; have y1 : w6.cell? ⟨b0, off + i * 2 + 1, none⟩ = some (.slice ax fd.length cx) := (HFW.out w6 HOw6.out.below).2.2)
            | (at_builtin; refine step_push rfl _ _ rfl w.heap.size (.slice o6 n6 c6) (G ++ [(n, [])]) rfl ((HOw6.out.behind ((Below.refl _ w6).alloc (Nat.le_refl _) _)).own) (fn, fd) (.slice ax fd.length cx) w6.heap.size rfl (Lies.new w6 47 (Dk.cellF (fn, fd) (.slice ax fd.length cx))) ((HFW.out w6 HOw6.out.below).1.keep (Keep.alloc _ _ _)) (by first | omega | (simp; omega)) upP_file (Nat.le_trans HOw6.out.below.size (by simp)) ?_; intro v3 w7 hw7 hgw7; have HOw7 := Lib.hid ((HOw6.out.behind ((Below.refl _ w6).alloc (Nat.le_refl _) _)).push hw7 hgw7); have HSw7 := Lib.hid (filesO_form hw7); clear hw7 hgw7))
          have HX : Hid (Outs p w ⟨1, n, data⟩ (.slice bo data.length cd) (G ++ [(n, []), (fn, fd)]) v3 w7) := by show Outs _ _ _ _ _ _ _; have := HOw7.out; rwa [List.append_assoc] at this
          go_roundw
          case rel => exact ⟨i + 1, true, G ++ [(n, []), (fn, fd)], by simp, rfl, by omega, HI.out.next HF.out [(n, []), (fn, fd)] (add_new HGT.out) (flag_gt HGT.out) HX.out (by simp)⟩
          case measure => simp [intOf]; omega
        · go_wp2
          refine wp_region_behind (by kernel_rfl) (by kernel_rfl) ?_
          repeat (go_big_quiet_step (fail))
          refine wpQuiet_nil ?_
          rintro w5 ⟨⟨w5, hB5⟩, rfl⟩
          (try dsimp only)
          have HO5 := Lib.hid (hI.out.outs.behind hB5)
          have HB5 := Lib.hid (hI.out.outs.below.trans (hB5.mono hI.out.outs.below.size))
          have e0 : w5.cell? ⟨w.heap.size, 0, none⟩ = some (.int .i64 1) := HO5.out.box.cell 0 _ rfl
          have e1 : w5.cell? ⟨w.heap.size, 1, none⟩ = some (.int .i64 n) := HO5.out.box.cell 1 _ rfl
          have e2 : w5.cell? ⟨w.heap.size, 2, none⟩ = some (.slice bo data.length cd) := HO5.out.box.cell 2 _ rfl
          have g0 : w5.cell? ⟨b0, off + i * 2, none⟩ = some (.int .i64 fn) := (HFW.out w5 HB5.out).2.1
          have g1 : w5.cell? ⟨b0, off + i * 2 + 1, none⟩ = some (.slice ax fd.length cx) := (HFW.out w5 HB5.out).2.2
          clear k0 k1 hB5 q0 q1
          go_wp2_with (at_builtin; refine step_push rfl _ _ rfl w.heap.size (.slice oo G.length oc) G rfl ((HO5.out.behind ((Below.refl _ w5).alloc (Nat.le_refl _) _)).own) (fn, fd) (.slice ax fd.length cx) w5.heap.size rfl (Lies.new w5 47 (Dk.cellF (fn, fd) (.slice ax fd.length cx))) ((HFW.out w5 HO5.out.below).1.keep (Keep.alloc _ _ _)) (by first | omega | (simp; omega)) upP_file (Nat.le_trans HO5.out.below.size (by simp)) ?_; intro v2 w6 hw6 hgw6; have HOw6 := Lib.hid ((HO5.out.behind ((Below.refl _ w5).alloc (Nat.le_refl _) _)).push hw6 hgw6); have HSw6 := Lib.hid (filesO_form hw6); clear hw6 hgw6)
          go_roundw
          case rel => exact ⟨i + 1, true, G ++ [(fn, fd)], by simp, rfl, by omega, HI.out.next HF.out [(fn, fd)] (add_same (.inl rfl) HNE.out) (flag_gt HGT.out) HOw6.out (by simp)⟩
          case measure => simp [intOf]; omega
      · have hd1 : decide (n < fn) = false := decide_eq_false hgt
        have HGT : Hid (fn ≤ n) := Int.not_lt.1 hgt
        by_cases hne : fn = n
        · have hnat : ((i : Nat) : Int) = r := HAT.out.2 hne
          have hbn : (((i : Nat) : Int) != r) = false := by simp [hnat]
          have HNE := Lib.hid hne
          clear hne hnat
          cases d
          · go_wp2
            refine wp_region_behind (by kernel_rfl) (by kernel_rfl) ?_
            repeat (go_big_quiet_step (fail))
            refine wpQuiet_nil ?_
            rintro w5 ⟨⟨w5, hB5⟩, rfl⟩
            (try dsimp only)
            have HO5 := Lib.hid (hI.out.outs.behind hB5)
            have HB5 := Lib.hid (hI.out.outs.below.trans (hB5.mono hI.out.outs.below.size))
            have e0 : w5.cell? ⟨w.heap.size, 0, none⟩ = some (.int .i64 1) := HO5.out.box.cell 0 _ rfl
            have e1 : w5.cell? ⟨w.heap.size, 1, none⟩ = some (.int .i64 n) := HO5.out.box.cell 1 _ rfl
            have e2 : w5.cell? ⟨w.heap.size, 2, none⟩ = some (.slice bo data.length cd) := HO5.out.box.cell 2 _ rfl
            have g0 : w5.cell? ⟨b0, off + i * 2, none⟩ = some (.int .i64 fn) := (HFW.out w5 HB5.out).2.1
            have g1 : w5.cell? ⟨b0, off + i * 2 + 1, none⟩ = some (.slice ax fd.length cx) := (HFW.out w5 HB5.out).2.2
            clear k0 k1 hB5 q0 q1
            go_wp2_with (at_builtin; refine step_push rfl _ _ rfl w.heap.size (.slice oo G.length oc) G rfl ((HO5.out.behind ((Below.refl _ w5).alloc (Nat.le_refl _) _)).own) (fn, fd) (.slice ax fd.length cx) w5.heap.size rfl (Lies.new w5 47 (Dk.cellF (fn, fd) (.slice ax fd.length cx))) ((HFW.out w5 HO5.out.below).1.keep (Keep.alloc _ _ _)) (by first | omega | (simp; omega)) upP_file (Nat.le_trans HO5.out.below.size (by simp)) ?_; intro v2 w6 hw6 hgw6; have HOw6 := Lib.hid ((HO5.out.behind ((Below.refl _ w5).alloc (Nat.le_refl _) _)).push hw6 hgw6); have HSw6 := Lib.hid (filesO_form hw6); clear hw6 hgw6)
            go_roundw
            case rel => exact ⟨i + 1, false, G ++ [(fn, fd)], by simp, rfl, by omega, HI.out.next HF.out [(fn, fd)] (add_make (.inr HGT.out) HNE.out rfl) (flag_not HGT.out) HOw6.out (by simp)⟩
            case measure => simp [intOf]; omega
          · go_wp2
            refine wp_region_behind (by kernel_rfl) (by kernel_rfl) ?_
            repeat (go_big_quiet_step (fail))
            refine wpQuiet_nil ?_
            rintro w5 ⟨⟨w5, hB5⟩, rfl⟩
            (try dsimp only)
            have HO5 := Lib.hid (hI.out.outs.behind hB5)
            have HB5 := Lib.hid (hI.out.outs.below.trans (hB5.mono hI.out.outs.below.size))
            have e0 : w5.cell? ⟨w.heap.size, 0, none⟩ = some (.int .i64 1) := HO5.out.box.cell 0 _ rfl
            have e1 : w5.cell? ⟨w.heap.size, 1, none⟩ = some (.int .i64 n) := HO5.out.box.cell 1 _ rfl
            have e2 : w5.cell? ⟨w.heap.size, 2, none⟩ = some (.slice bo data.length cd) := HO5.out.box.cell 2 _ rfl
            have g0 : w5.cell? ⟨b0, off + i * 2, none⟩ = some (.int .i64 fn) := (HFW.out w5 HB5.out).2.1
            have g1 : w5.cell? ⟨b0, off + i * 2 + 1, none⟩ = some (.slice ax fd.length cx) := (HFW.out w5 HB5.out).2.2
            clear k0 k1 hB5 q0 q1
            go_wp2_with (at_builtin; refine step_push rfl _ _ rfl w.heap.size (.slice oo G.length oc) G rfl ((HO5.out.behind ((Below.refl _ w5).alloc (Nat.le_refl _) _)).own) (fn, fd) (.slice ax fd.length cx) w5.heap.size rfl (Lies.new w5 47 (Dk.cellF (fn, fd) (.slice ax fd.length cx))) ((HFW.out w5 HO5.out.below).1.keep (Keep.alloc _ _ _)) (by first | omega | (simp; omega)) upP_file (Nat.le_trans HO5.out.below.size (by simp)) ?_; intro v2 w6 hw6 hgw6; have HOw6 := Lib.hid ((HO5.out.behind ((Below.refl _ w5).alloc (Nat.le_refl _) _)).push hw6 hgw6); have HSw6 := Lib.hid (filesO_form hw6); clear hw6 hgw6)
            go_roundw
            case rel => exact ⟨i + 1, true, G ++ [(fn, fd)], by simp, rfl, by omega, HI.out.next HF.out [(fn, fd)] (add_make (.inr HGT.out) HNE.out rfl) (flag_not HGT.out) HOw6.out (by simp)⟩
            case measure => simp [intOf]; omega
        · have hnat : ¬ ((i : Nat) : Int) = r := fun e => hne (HAT.out.1 e)
          have hbn : (((i : Nat) : Int) != r) = true := by simpa using hnat
          have HNE := Lib.hid hne
          clear hne hnat
          cases d
          · go_wp2
            refine wp_region_behind (by kernel_rfl) (by kernel_rfl) ?_
            repeat (go_big_quiet_step (fail))
            refine wpQuiet_nil ?_
            rintro w5 ⟨⟨w5, hB5⟩, rfl⟩
            (try dsimp only)
            have HO5 := Lib.hid (hI.out.outs.behind hB5)
            have HB5 := Lib.hid (hI.out.outs.below.trans (hB5.mono hI.out.outs.below.size))
            have e0 : w5.cell? ⟨w.heap.size, 0, none⟩ = some (.int .i64 1) := HO5.out.box.cell 0 _ rfl
            have e1 : w5.cell? ⟨w.heap.size, 1, none⟩ = some (.int .i64 n) := HO5.out.box.cell 1 _ rfl
            have e2 : w5.cell? ⟨w.heap.size, 2, none⟩ = some (.slice bo data.length cd) := HO5.out.box.cell 2 _ rfl
            have g0 : w5.cell? ⟨b0, off + i * 2, none⟩ = some (.int .i64 fn) := (HFW.out w5 HB5.out).2.1
            have g1 : w5.cell? ⟨b0, off + i * 2 + 1, none⟩ = some (.slice ax fd.length cx) := (HFW.out w5 HB5.out).2.2
            clear k0 k1 hB5 q0 q1
            go_wp2_with (at_builtin; refine step_push rfl _ _ rfl w.heap.size (.slice oo G.length oc) G rfl ((HO5.out.behind ((Below.refl _ w5).alloc (Nat.le_refl _) _)).own) (fn, fd) (.slice ax fd.length cx) w5.heap.size rfl (Lies.new w5 47 (Dk.cellF (fn, fd) (.slice ax fd.length cx))) ((HFW.out w5 HO5.out.below).1.keep (Keep.alloc _ _ _)) (by first | omega | (simp; omega)) upP_file (Nat.le_trans HO5.out.below.size (by simp)) ?_; intro v2 w6 hw6 hgw6; have HOw6 := Lib.hid ((HO5.out.behind ((Below.refl _ w5).alloc (Nat.le_refl _) _)).push hw6 hgw6); have HSw6 := Lib.hid (filesO_form hw6); clear hw6 hgw6)
            go_roundw
            case rel => exact ⟨i + 1, false, G ++ [(fn, fd)], by simp, rfl, by omega, HI.out.next HF.out [(fn, fd)] (add_same (.inr HGT.out) HNE.out) (flag_not HGT.out) HOw6.out (by simp)⟩
            case measure => simp [intOf]; omega
          · go_wp2
            refine wp_region_behind (by kernel_rfl) (by kernel_rfl) ?_
            repeat (go_big_quiet_step (fail))
            refine wpQuiet_nil ?_
            rintro w5 ⟨⟨w5, hB5⟩, rfl⟩
            (try dsimp only)
            have HO5 := Lib.hid (hI.out.outs.behind hB5)
            have HB5 := Lib.hid (hI.out.outs.below.trans (hB5.mono hI.out.outs.below.size))
            have e0 : w5.cell? ⟨w.heap.size, 0, none⟩ = some (.int .i64 1) := HO5.out.box.cell 0 _ rfl
            have e1 : w5.cell? ⟨w.heap.size, 1, none⟩ = some (.int .i64 n) := HO5.out.box.cell 1 _ rfl
            have e2 : w5.cell? ⟨w.heap.size, 2, none⟩ = some (.slice bo data.length cd) := HO5.out.box.cell 2 _ rfl
            have g0 : w5.cell? ⟨b0, off + i * 2, none⟩ = some (.int .i64 fn) := (HFW.out w5 HB5.out).2.1
            have g1 : w5.cell? ⟨b0, off + i * 2 + 1, none⟩ = some (.slice ax fd.length cx) := (HFW.out w5 HB5.out).2.2
            clear k0 k1 hB5 q0 q1
            go_wp2_with (at_builtin; refine step_push rfl _ _ rfl w.heap.size (.slice oo G.length oc) G rfl ((HO5.out.behind ((Below.refl _ w5).alloc (Nat.le_refl _) _)).own) (fn, fd) (.slice ax fd.length cx) w5.heap.size rfl (Lies.new w5 47 (Dk.cellF (fn, fd) (.slice ax fd.length cx))) ((HFW.out w5 HO5.out.below).1.keep (Keep.alloc _ _ _)) (by first | omega | (simp; omega)) upP_file (Nat.le_trans HO5.out.below.size (by simp)) ?_; intro v2 w6 hw6 hgw6; have HOw6 := Lib.hid ((HO5.out.behind ((Below.refl _ w5).alloc (Nat.le_refl _) _)).push hw6 hgw6); have HSw6 := Lib.hid (filesO_form hw6); clear hw6 hgw6)
            go_roundw
            case rel => exact ⟨i + 1, true, G ++ [(fn, fd)], by simp, rfl, by omega, HI.out.next HF.out [(fn, fd)] (add_same (.inr HGT.out) HNE.out) (flag_not HGT.out) HOw6.out (by simp)⟩
            case measure => simp [intOf]; omega
    · have hint : ¬ ((i : Nat) : Int) < (m : Int) := by omega
      have hdrop : F.drop i = [] := List.drop_eq_nil_of_le (by have := HM.out; omega)
      have HDR0 := Lib.hid hdrop
      clear hdrop
      cases d
      · go_wp2_with (at_builtin; refine step_push rfl _ _ rfl w.heap.size (.slice oo G.length oc) G rfl ((HI.out.outs.behind ((Below.refl _ wr).alloc (Nat.le_refl _) _)).own) (n, []) (.slice none 0 0) wr.heap.size rfl (Lies.new wr 47 (Dk.cellF (n, []) (.slice none 0 0))) (ReadsP.none _ _) (by first | omega | (simp; omega)) upP_file (Nat.le_trans HI.out.outs.below.size (by simp)) ?_; intro v2 w6 hw6 hgw6; have HOw6 := Lib.hid ((HI.out.outs.behind ((Below.refl _ wr).alloc (Nat.le_refl _) _)).push hw6 hgw6); have HSw6 := Lib.hid (filesO_form hw6); clear hw6 hgw6)
        obtain ⟨o6, n6, c6, rfl⟩ := HSw6.out
        go_wp2
        go_ret
        exact DoneI.made2 HOw6.out (by rw [HI.out.is, HDR0.out]; rfl)
      · go_wp2
        go_ret
        exact DoneI.made2 HI.out.outs (by rw [HI.out.is, HDR0.out]; simp [Dk.rest])

set_option maxRecDepth 8000 in
set_option maxHeartbeats 3200000 in
theorem done_other {p pd : Nat → TypeId → Prop} {w : World} {v : Value} {F : Dk.Files} (h : FilesP p w v F) (ha : Dk.Asc F) (k : Int) (n : Int) (dv : Value) (data : List UInt8) (hd : ReadsP pd w dv data) (hk : k = 2 ∨ k = 3) (hs : Dk.wt F + data.length ≤ 68719476736) :
    Calls Try.prog 23 #[v, .agg #[.int .i64 k, .int .i64 n, dv]] w (FilesMade p w (Dk.done F ⟨k, n, data⟩)) := by
  obtain ⟨ao, cap, rfl, hc1, hc2⟩ := h.shape
  obtain ⟨m, hm⟩ : ∃ m, m = F.length := ⟨_, rfl⟩
  have hlm : m ≤ 68719476736 := by have := Dk.len_wt F; omega
  rw [← hm] at h hc1 ⊢
  obtain ⟨bo, cd, rfl⟩ := hd.1.shape
  obtain ⟨w1, hw1⟩ : ∃ w1, w.alloc (.cells #[.int .i64 k, .int .i64 n, .slice bo data.length cd] 53) = w1 := ⟨_, rfl⟩
  have hb1 : Below w.heap.size w w1 := by rw [← hw1]; exact (Below.refl _ w).alloc (Nat.le_refl _) _
  have hL1 : Lies w1 w.heap.size 53 (Dk.cellO ⟨k, n, data⟩ (.slice bo data.length cd)) := by rw [← hw1]; exact Lies.new w _ _
  have hpl := place_ref (h.below hb1) n (by omega)
  have c0 : w1.cell? ⟨w.heap.size, 0, none⟩ = some (.int .i64 k) := hL1.cell 0 _ rfl
  have c1 : w1.cell? ⟨w.heap.size, 1, none⟩ = some (.int .i64 n) := hL1.cell 1 _ rfl
  -- an element, in whatever world is behind
  have HEL : Hid (∀ i, i < m → ∃ (b0 off : Nat) (f : Int × List UInt8) (ax : Option Addr) (cx : Nat), ao = some ⟨b0, off, none⟩ ∧ b0 < w.heap.size ∧ F[i]? = some f ∧ f.2.length + data.length ≤ 1099511627776 ∧
      ∀ W : World, Below w.heap.size w W → ReadsP (upP p w.heap.size) W (.slice ax f.2.length cx) f.2 ∧ W.cell? ⟨b0, off + i * 2, none⟩ = some (.int .i64 f.1) ∧ W.cell? ⟨b0, off + i * 2 + 1, none⟩ = some (.slice ax f.2.length cx)) := by
    intro i hi
    obtain ⟨b0, off, e, hlt, hp⟩ := h.places cellF_first (by omega)
    obtain ⟨f, hf⟩ : ∃ f, F[i]? = some f := ⟨_, List.getElem?_eq_getElem (by omega)⟩
    obtain ⟨u, hu, hc⟩ := hp i f hf
    obtain ⟨ax, cx, rfl⟩ := hu.1.shape
    have hw := Dk.wt_mem (List.mem_of_getElem? hf)
    exact ⟨b0, off, f, ax, cx, e, hlt, hf, by omega, fun W hW => ⟨hu.up hW, hc W hW 0 _ rfl, hc W hW 1 _ rfl⟩⟩
  have HK := Lib.hid hk
  have hk1 : (k != 1) = true := by rcases hk with rfl | rfl <;> rfl
  have HM := Lib.hid hm; have HA := Lib.hid ha; have HB1 := Lib.hid hb1; have HL1 := Lib.hid hL1; have HDR := Lib.hid hd; have HPL := Lib.hid hpl
  clear hm ha hk hb1 hL1 hd h hs hpl
  go_enter Try.func23, Try.ntmps23
  go_wp2_with (go_at_call 32; refine HPL.out.mono ?_; rintro e w' ⟨r, rfl, rfl, hr⟩; have HR := Lib.hid hr; clear hr)
  go_loopw [6, 7, 8] (fun o q x wr => ∃ (i : Nat) (d : Bool) (G : Dk.Files), x = .int .i64 (i : Int) ∧ q = .bool d ∧ i ≤ m ∧ Hid (DoneI p w F ⟨k, n, data⟩ (.slice bo data.length cd) i d G o wr)) (fun _ _ x _ => m - (intOf x).toNat)
  case atStart =>
      refine ⟨0, _, [], rfl, rfl, Nat.zero_le _, ⟨⟨ListO.bare _ _ _ _, HB1.out, HL1.out⟩, ?_, by simp⟩⟩
      rw [List.drop_zero, List.nil_append, ← Dk.rest_is ⟨k, n, data⟩ HA.out (.inr HK.out), ← HR.out.some_iff]
      congr 1
      rcases HK.out with e | e <;> simp [e]
  case round =>
    obtain ⟨i, d, G, rfl, rfl, him, hI⟩ := hrel
    obtain ⟨oo, oc, rfl⟩ := filesO_shape hI.out.outs.own
    have HI := hI
    have q0 : wr.cell? ⟨w.heap.size, 0, none⟩ = some (.int .i64 k) := hI.out.outs.box.cell 0 _ rfl
    have q1 : wr.cell? ⟨w.heap.size, 1, none⟩ = some (.int .i64 n) := hI.out.outs.box.cell 1 _ rfl
    have hGl : G.length ≤ 274877906944 := by have := hI.out.len; omega
    clear c0 c1
    by_cases hlt : i < m
    · have hint : ((i : Nat) : Int) < (m : Int) := by omega
      obtain ⟨b0, off, ⟨fn, fd⟩, ax, cx, rfl, hb0, hf, hfl, hfw⟩ := HEL.out i hlt
      simp only at hfl hfw
      have hat := HR.out.at HA.out hf
      simp only at hat
      have HF := Lib.hid hf; have HFL := Lib.hid hfl; have HFW := Lib.hid hfw; have HAT := Lib.hid hat
      clear hf hat hfw
      have k0 : ∀ p : Behind wr, p.world.cell? ⟨b0, off + i * 2, none⟩ = some (.int .i64 fn) := fun p => (HFW.out _ (hI.out.outs.below.trans (p.below.mono hI.out.outs.below.size))).2.1
      have k1 : ∀ p : Behind wr, p.world.cell? ⟨w.heap.size, 1, none⟩ = some (.int .i64 n) := fun p => (hI.out.outs.behind p.below).box.cell 1 _ rfl
      by_cases hgt : n < fn
      · have hne : fn ≠ n := by omega
        have hnat : ¬ ((i : Nat) : Int) = r := fun e => hne (HAT.out.1 e)
        have hbn : (((i : Nat) : Int) != r) = true := by simpa using hnat
        have hd1 : decide (n < fn) = true := by simpa using hgt
        have HGT := Lib.hid hgt; have HNE := Lib.hid hne
        clear hne hnat
        cases d
        · go_wp2
          refine wp_region_behind (by kernel_rfl) (by kernel_rfl) ?_
          repeat (go_big_quiet_step (fail))
          refine wpQuiet_nil ?_
          rintro w5 ⟨⟨w5, hB5⟩, rfl⟩
          (try dsimp only)
          have HO5 := Lib.hid (hI.out.outs.behind hB5)
          have HB5 := Lib.hid (hI.out.outs.below.trans (hB5.mono hI.out.outs.below.size))
          have e0 : w5.cell? ⟨w.heap.size, 0, none⟩ = some (.int .i64 k) := HO5.out.box.cell 0 _ rfl
          have e1 : w5.cell? ⟨w.heap.size, 1, none⟩ = some (.int .i64 n) := HO5.out.box.cell 1 _ rfl
          have e2 : w5.cell? ⟨w.heap.size, 2, none⟩ = some (.slice bo data.length cd) := HO5.out.box.cell 2 _ rfl
          have g0 : w5.cell? ⟨b0, off + i * 2, none⟩ = some (.int .i64 fn) := (HFW.out w5 HB5.out).2.1
          have g1 : w5.cell? ⟨b0, off + i * 2 + 1, none⟩ = some (.slice ax fd.length cx) := (HFW.out w5 HB5.out).2.2
          clear k0 k1 hB5 q0 q1
          go_wp2_with (first
            | (at_builtin; refine step_push rfl _ _ rfl w.heap.size (.slice oo G.length oc) G rfl ((HO5.out.behind ((Below.refl _ w5).alloc (Nat.le_refl _) _)).own) (n, []) (.slice none 0 0) w5.heap.size rfl (Lies.new w5 47 (Dk.cellF (n, []) (.slice none 0 0))) (ReadsP.none _ _) (by first | omega | (simp; omega)) upP_file (Nat.le_trans HO5.out.below.size (by simp)) ?_; intro v2 w6 hw6 hgw6; have HOw6 := Lib.hid ((HO5.out.behind ((Below.refl _ w5).alloc (Nat.le_refl _) _)).push hw6 hgw6); have HSw6 := Lib.hid (filesO_form hw6); clear hw6 hgw6; obtain ⟨o6, n6, c6, rfl⟩ := HSw6.out; have y0 : w6.cell? ⟨b0, off + i * 2, none⟩ = some (.int .i64 fn) := (HFW.out w6 HOw6.out.below).2.1; have y1 : w6.cell? ⟨b0, off + i * 2 + 1, none⟩ = some (.slice ax fd.length cx) := (HFW.out w6 HOw6.out.below).2.2)
            | (at_builtin; refine step_push rfl _ _ rfl w.heap.size (.slice o6 n6 c6) (G ++ [(n, [])]) rfl ((HOw6.out.behind ((Below.refl _ w6).alloc (Nat.le_refl _) _)).own) (fn, fd) (.slice ax fd.length cx) w6.heap.size rfl (Lies.new w6 47 (Dk.cellF (fn, fd) (.slice ax fd.length cx))) ((HFW.out w6 HOw6.out.below).1.keep (Keep.alloc _ _ _)) (by first | omega | (simp; omega)) upP_file (Nat.le_trans HOw6.out.below.size (by simp)) ?_; intro v3 w7 hw7 hgw7; have HOw7 := Lib.hid ((HOw6.out.behind ((Below.refl _ w6).alloc (Nat.le_refl _) _)).push hw7 hgw7); have HSw7 := Lib.hid (filesO_form hw7); clear hw7 hgw7))
          have HX : Hid (Outs p w ⟨k, n, data⟩ (.slice bo data.length cd) (G ++ [(n, []), (fn, fd)]) v3 w7) := by show Outs _ _ _ _ _ _ _; have := HOw7.out; rwa [List.append_assoc] at this
          go_roundw
          case rel => exact ⟨i + 1, true, G ++ [(n, []), (fn, fd)], by simp, rfl, by omega, HI.out.next HF.out [(n, []), (fn, fd)] (add_new HGT.out) (flag_gt HGT.out) HX.out (by simp)⟩
          case measure => simp [intOf]; omega
        · go_wp2
          refine wp_region_behind (by kernel_rfl) (by kernel_rfl) ?_
          repeat (go_big_quiet_step (fail))
          refine wpQuiet_nil ?_
          rintro w5 ⟨⟨w5, hB5⟩, rfl⟩
          (try dsimp only)
          have HO5 := Lib.hid (hI.out.outs.behind hB5)
          have HB5 := Lib.hid (hI.out.outs.below.trans (hB5.mono hI.out.outs.below.size))
          have e0 : w5.cell? ⟨w.heap.size, 0, none⟩ = some (.int .i64 k) := HO5.out.box.cell 0 _ rfl
          have e1 : w5.cell? ⟨w.heap.size, 1, none⟩ = some (.int .i64 n) := HO5.out.box.cell 1 _ rfl
          have e2 : w5.cell? ⟨w.heap.size, 2, none⟩ = some (.slice bo data.length cd) := HO5.out.box.cell 2 _ rfl
          have g0 : w5.cell? ⟨b0, off + i * 2, none⟩ = some (.int .i64 fn) := (HFW.out w5 HB5.out).2.1
          have g1 : w5.cell? ⟨b0, off + i * 2 + 1, none⟩ = some (.slice ax fd.length cx) := (HFW.out w5 HB5.out).2.2
          clear k0 k1 hB5 q0 q1
          go_wp2_with (at_builtin; refine step_push rfl _ _ rfl w.heap.size (.slice oo G.length oc) G rfl ((HO5.out.behind ((Below.refl _ w5).alloc (Nat.le_refl _) _)).own) (fn, fd) (.slice ax fd.length cx) w5.heap.size rfl (Lies.new w5 47 (Dk.cellF (fn, fd) (.slice ax fd.length cx))) ((HFW.out w5 HO5.out.below).1.keep (Keep.alloc _ _ _)) (by first | omega | (simp; omega)) upP_file (Nat.le_trans HO5.out.below.size (by simp)) ?_; intro v2 w6 hw6 hgw6; have HOw6 := Lib.hid ((HO5.out.behind ((Below.refl _ w5).alloc (Nat.le_refl _) _)).push hw6 hgw6); have HSw6 := Lib.hid (filesO_form hw6); clear hw6 hgw6)
          go_roundw
          case rel => exact ⟨i + 1, true, G ++ [(fn, fd)], by simp, rfl, by omega, HI.out.next HF.out [(fn, fd)] (add_same (.inl rfl) HNE.out) (flag_gt HGT.out) HOw6.out (by simp)⟩
          case measure => simp [intOf]; omega
      · have hd1 : decide (n < fn) = false := decide_eq_false hgt
        have HGT : Hid (fn ≤ n) := Int.not_lt.1 hgt
        by_cases hne : fn = n
        · have hnat : ((i : Nat) : Int) = r := HAT.out.2 hne
          have hbn : (((i : Nat) : Int) != r) = false := by simp [hnat]
          have HNE := Lib.hid hne
          clear hne hnat
          rcases HK.out with rfl | rfl
          · cases d
            · go_wp2
              refine wp_region_behind (by kernel_rfl) (by kernel_rfl) ?_
              repeat (go_big_quiet_step (fail))
              refine wpQuiet_nil ?_
              rintro w5 ⟨⟨w5, hB5⟩, rfl⟩
              (try dsimp only)
              have HO5 := Lib.hid (hI.out.outs.behind hB5)
              have HB5 := Lib.hid (hI.out.outs.below.trans (hB5.mono hI.out.outs.below.size))
              have e0 : w5.cell? ⟨w.heap.size, 0, none⟩ = some (.int .i64 2) := HO5.out.box.cell 0 _ rfl
              have e1 : w5.cell? ⟨w.heap.size, 1, none⟩ = some (.int .i64 n) := HO5.out.box.cell 1 _ rfl
              have e2 : w5.cell? ⟨w.heap.size, 2, none⟩ = some (.slice bo data.length cd) := HO5.out.box.cell 2 _ rfl
              have g0 : w5.cell? ⟨b0, off + i * 2, none⟩ = some (.int .i64 fn) := (HFW.out w5 HB5.out).2.1
              have g1 : w5.cell? ⟨b0, off + i * 2 + 1, none⟩ = some (.slice ax fd.length cx) := (HFW.out w5 HB5.out).2.2
              clear k0 k1 hB5 q0 q1
              go_wp2
              refine wp_region_held_drew (S := fun W => W.cell? ⟨w.heap.size, 1, none⟩ = some (.int .i64 n) ∧ W.cell? ⟨w.heap.size, 2, none⟩ = some (.slice bo data.length cd) ∧ W.cell? ⟨b0, off + i * 2 + 1, none⟩ = some (.slice ax fd.length cx)) (by kernel_rfl) (⟨e1, e2, g1⟩) (fun hHeld => ?_)
              refine wpAnyH_take (i := 0) (v := ?v02a) rfl (by kernel_rfl) (by kernel_rfl) (by kernel_rfl) (fun _ _ _ h => h) (Or.inl ⟨by rfl, ?hy02a⟩) hHeld ?rest02a
              case hy02a => (intro W hSw; obtain ⟨s1, s2, s3⟩ := hSw; go_simp; (try with_reducible rfl))
              refine wpAnyH_take (i := 1) (v := ?v12a) rfl (by kernel_rfl) (by kernel_rfl) (by kernel_rfl) (fun _ _ _ h => h) (Or.inl ⟨by rfl, ?hy12a⟩) hHeld ?rest12a
              case hy12a => (intro W hSw; obtain ⟨s1, s2, s3⟩ := hSw; go_simp; (try with_reducible rfl))
              refine wpAnyH_take (i := 2) (v := ?v22a) rfl (by kernel_rfl) (by kernel_rfl) (by kernel_rfl) (fun _ _ _ h => h) (Or.inl ⟨by rfl, ?hy22a⟩) hHeld ?rest22a
              case hy22a => (intro W hSw; obtain ⟨s1, s2, s3⟩ := hSw; go_simp; (try with_reducible rfl))
              refine wpAnyH_take (i := 4) (v := ?v42a) rfl (by kernel_rfl) (by kernel_rfl) (by kernel_rfl) (fun _ _ _ h => h) (Or.inl ⟨by rfl, ?hy42a⟩) hHeld ?rest42a
              case hy42a => (intro W hSw; obtain ⟨s1, s2, s3⟩ := hSw; go_simp; (try with_reducible rfl))
              refine wpAnyH_take (i := 5) (v := ?v52a) rfl (by kernel_rfl) (by kernel_rfl) (by kernel_rfl) (fun _ _ _ h => h) (Or.inl ⟨by rfl, ?hy52a⟩) hHeld ?rest52a
              case hy52a => (intro W hSw; obtain ⟨s1, s2, s3⟩ := hSw; go_simp; (try with_reducible rfl))
              refine wpAnyH_take (i := 6) (v := ?v62a) rfl (by kernel_rfl) (by kernel_rfl) (by kernel_rfl) (fun _ _ _ h => h) (Or.inl ⟨by rfl, ?hy62a⟩) hHeld ?rest62a
              case hy62a => (intro W hSw; obtain ⟨s1, s2, s3⟩ := hSw; go_simp; (try with_reducible rfl))
              refine wpAnyH_take (i := 7) (v := ?v72a) rfl (by kernel_rfl) (by kernel_rfl) (by kernel_rfl) (fun _ _ _ h => h) (Or.inl ⟨by rfl, ?hy72a⟩) hHeld ?rest72a
              case hy72a => (intro W hSw; obtain ⟨s1, s2, s3⟩ := hSw; go_simp; (try with_reducible rfl))
              refine wpAnyH_take (i := 8) (v := ?v82a) rfl (by kernel_rfl) (by kernel_rfl) (by kernel_rfl) (fun _ _ _ h => h) (Or.inl ⟨by rfl, ?hy82a⟩) hHeld ?rest82a
              case hy82a => (intro W hSw; obtain ⟨s1, s2, s3⟩ := hSw; go_simp; (try with_reducible rfl))
              refine wpAnyH_take (i := 10) (v := ?v102a) rfl (by kernel_rfl) (by kernel_rfl) (by kernel_rfl) (fun _ _ _ h => h) (Or.inl ⟨by rfl, ?hy102a⟩) hHeld ?rest102a
              case hy102a => (intro W hSw; obtain ⟨s1, s2, s3⟩ := hSw; go_simp; (try with_reducible rfl))
              refine wpAnyH_take (i := 11) (v := ?v112a) rfl (by kernel_rfl) (by kernel_rfl) (by kernel_rfl) (fun _ _ _ h => h) (Or.inl ⟨by rfl, ?hy112a⟩) hHeld ?rest112a
              case hy112a => (intro W hSw; obtain ⟨s1, s2, s3⟩ := hSw; go_simp; (try with_reducible rfl))
              have HBA : Hid (Below w5.heap.size w5 (w5.drew.alloc (.cells #[] 5))) := (drawn w5 1).alloc (Nat.le_refl _) _
              have HOA := Lib.hid (HO5.out.behind HBA.out)
              have KA := (⟨HOA.out.box.cell 1 _ rfl, HOA.out.box.cell 2 _ rfl, (HFW.out _ HOA.out.below).2.2⟩ : _ ∧ _ ∧ _)
              refine wpAnyH_ready (rs := [3]) (by kernel_rfl) (by simp) ?_
              refine AllReadyH.cons rfl (fun K hK => ?_) AllReadyH.nil
              rw [if_pos (by rfl)]
              go_simp
              refine hK.out _ _ KA (fun hHeld => ?_)
              clear hK K KA
              obtain ⟨vb, w6, hrun, hob, hgb, _⟩ := run_append_bytes_at (P := Try.prog) (w := w5.drew.alloc (.cells #[] 5)) 33 33 5 Try.underlying33 info_u8 w5.heap.size [] fd _ _ (Owns.lit0 w5.drew _) (HFW.out _ HOA.out.below).1.1 (by simp; omega) (by simp)
              rw [List.nil_append] at hob
              obtain ⟨vo, vc, rfl⟩ := hob.reads.shape
              have HB6 : Hid (Below w5.heap.size w5 w6) := HBA.out.grown hgb (by simp) (fun j e => by simp [Value.ownBlock] at e; exact Nat.le_of_eq e)
              have HO6 := Lib.hid (HO5.out.behind HB6.out)
              have HR6 := Lib.hid hob
              have KA := (⟨HO6.out.box.cell 1 _ rfl, HO6.out.box.cell 2 _ rfl, (HFW.out _ HO6.out.below).2.2⟩ : _ ∧ _ ∧ _)
              refine wpAnyH_ready (rs := [9]) (by kernel_rfl) (by simp) ?_
              refine ready_append 9 (.tmp 60) (.tmp 65) 33 rfl rfl rfl (.slice (some ⟨w5.heap.size, 0, none⟩) 0 0) (.slice ax fd.length cx) (.slice vo fd.length vc) w6 ?s92a ?x92a hrun ⟨KA, fun hHeld => ?_⟩
              case s92a => kernel_rfl
              case x92a => kernel_rfl
              clear hrun hob hgb KA
              obtain ⟨vd, w7, hrun, hod, hgd, _⟩ := run_append_bytes_at (P := Try.prog) (w := w6) 33 33 5 Try.underlying33 info_u8 w5.heap.size fd data _ _ HR6.out (HDR.out.up HO6.out.below).1 (by omega) HB6.out.size
              obtain ⟨vo2, L2, vc2, rfl⟩ : ∃ a l c, vd = .slice a l c := (by obtain ⟨a, c, e⟩ := hod.reads.shape; exact ⟨a, _, c, e⟩)
              have HB7 : Hid (Below w5.heap.size w5 w7) := HB6.out.grown hgd HB6.out.size (fun j e => by obtain ⟨cs, hc, hb⟩ := HR6.out.cells e; exact hb)
              have HO7 := Lib.hid (HO5.out.behind HB7.out)
              have HR7 := Lib.hid hod
              have KA := (⟨HO7.out.box.cell 1 _ rfl, HO7.out.box.cell 2 _ rfl, (HFW.out _ HO7.out.below).2.2⟩ : _ ∧ _ ∧ _)
              refine wpAnyH_ready (rs := [12]) (by kernel_rfl) (by simp) ?_
              refine ready_append 12 (.tmp 66) (.tmp 68) 33 rfl rfl rfl (.slice vo fd.length vc) (.slice bo data.length cd) (.slice vo2 L2 vc2) w7 ?s122a ?x122a hrun ⟨KA, fun hHeld => ?_⟩
              case s122a => kernel_rfl
              case x122a => kernel_rfl
              clear hrun hod hgd KA
              refine wpAnyH_take (i := 13) (v := ?v132a) rfl (by kernel_rfl) (by kernel_rfl) (by kernel_rfl) (fun _ _ _ h => h) (Or.inl ⟨by rfl, ?hy132a⟩) hHeld ?rest132a
              case hy132a => (intro W hSw; go_simp; (try with_reducible rfl))
              have HOZ : Hid (Outs p w _ _ G (.slice oo G.length oc) (w7.alloc (.cells (Dk.cellF (n, fd ++ data) (.slice vo2 L2 vc2)) 47))) := HO7.out.behind ((Below.refl _ w7).alloc (Nat.le_refl _) _)
              have KA := (⟨HOZ.out.box.cell 1 _ rfl, HOZ.out.box.cell 2 _ rfl, (HFW.out _ HOZ.out.below).2.2⟩ : _ ∧ _ ∧ _)
              refine wpAnyH_ready (rs := [14]) (by kernel_rfl) (by simp) ?_
              refine AllReadyH.cons rfl (fun K hK => ?_) AllReadyH.nil
              rw [if_pos (by rfl)]
              go_simp
              refine hK.out _ _ KA (fun hHeld => ?_)
              clear hK K KA
              have hrz : ReadsP (upP p w.heap.size) (w7.alloc (.cells (Dk.cellF (n, fd ++ data) (.slice vo2 L2 vc2)) 47)) (.slice vo2 L2 vc2) (fd ++ data) := ReadsP.own (HR7.out.alloc _) (fun g e => by obtain ⟨cs, hc, hb⟩ := HR7.out.cells e; exact .inr ⟨rfl, Nat.le_trans HO5.out.below.size hb⟩)
              obtain ⟨v8, w8, hrun, ho8, hg8, _⟩ := HOZ.out.own.snoc (P := Try.prog) (t := 28) 28 Dk.cellF_ok Try.underlying28 info_file rfl (by decide) HOZ.out.below.size (n, fd ++ data) (.slice vo2 L2 vc2) (Lies.new w7 47 (Dk.cellF (n, fd ++ data) (.slice vo2 L2 vc2))) hrz (by omega) (by omega) upP_file
              have HO8 := Lib.hid (HOZ.out.push ho8 hg8)
              have KA := (⟨HO8.out.box.cell 1 _ rfl, HO8.out.box.cell 2 _ rfl, (HFW.out _ HO8.out.below).2.2⟩ : _ ∧ _ ∧ _)
              refine wpAnyH_ready (rs := [15]) (by kernel_rfl) (by simp) ?_
              refine ready_append 15 (.tmp 57) (.tmp 71) 28 rfl rfl rfl (.slice oo G.length oc) (.slice (some ⟨w7.heap.size, 0, none⟩) 1 1) v8 w8 ?s152a ?x152a hrun ⟨KA, fun hHeld => ?_⟩
              case s152a => kernel_rfl
              case x152a => kernel_rfl
              clear hrun ho8 hg8 hrz KA
              refine wpAnyH_take (i := 16) (v := ?v162a) rfl (by kernel_rfl) (by kernel_rfl) (by kernel_rfl) (fun _ _ _ h => h) (Or.inl ⟨by rfl, ?hy162a⟩) hHeld ?rest162a
              case hy162a => (intro W hSw; go_simp; (try with_reducible rfl))
              refine wpAnyH_done (by kernel_rfl) ?_ _
              clear hHeld e0 e1 e2 g0 g1
              have z0 : w8.cell? ⟨w.heap.size, 0, none⟩ = some (.int .i64 2) := HO8.out.box.cell 0 _ rfl
              go_wp2
              go_roundw
              case rel => exact ⟨i + 1, false, G ++ [(n, fd ++ data)], by simp, rfl, by omega, HI.out.next HF.out [(n, fd ++ data)] (add_data (.inr HGT.out) HNE.out rfl) (flag_not HGT.out) HO8.out (by simp)⟩
              case measure => simp [intOf]; omega
            · go_wp2
              refine wp_region_behind (by kernel_rfl) (by kernel_rfl) ?_
              repeat (go_big_quiet_step (fail))
              refine wpQuiet_nil ?_
              rintro w5 ⟨⟨w5, hB5⟩, rfl⟩
              (try dsimp only)
              have HO5 := Lib.hid (hI.out.outs.behind hB5)
              have HB5 := Lib.hid (hI.out.outs.below.trans (hB5.mono hI.out.outs.below.size))
              have e0 : w5.cell? ⟨w.heap.size, 0, none⟩ = some (.int .i64 2) := HO5.out.box.cell 0 _ rfl
              have e1 : w5.cell? ⟨w.heap.size, 1, none⟩ = some (.int .i64 n) := HO5.out.box.cell 1 _ rfl
              have e2 : w5.cell? ⟨w.heap.size, 2, none⟩ = some (.slice bo data.length cd) := HO5.out.box.cell 2 _ rfl
              have g0 : w5.cell? ⟨b0, off + i * 2, none⟩ = some (.int .i64 fn) := (HFW.out w5 HB5.out).2.1
              have g1 : w5.cell? ⟨b0, off + i * 2 + 1, none⟩ = some (.slice ax fd.length cx) := (HFW.out w5 HB5.out).2.2
              clear k0 k1 hB5 q0 q1
              go_wp2
              refine wp_region_held_drew (S := fun W => W.cell? ⟨w.heap.size, 1, none⟩ = some (.int .i64 n) ∧ W.cell? ⟨w.heap.size, 2, none⟩ = some (.slice bo data.length cd) ∧ W.cell? ⟨b0, off + i * 2 + 1, none⟩ = some (.slice ax fd.length cx)) (by kernel_rfl) (⟨e1, e2, g1⟩) (fun hHeld => ?_)
              refine wpAnyH_take (i := 0) (v := ?v02b) rfl (by kernel_rfl) (by kernel_rfl) (by kernel_rfl) (fun _ _ _ h => h) (Or.inl ⟨by rfl, ?hy02b⟩) hHeld ?rest02b
              case hy02b => (intro W hSw; obtain ⟨s1, s2, s3⟩ := hSw; go_simp; (try with_reducible rfl))
              refine wpAnyH_take (i := 1) (v := ?v12b) rfl (by kernel_rfl) (by kernel_rfl) (by kernel_rfl) (fun _ _ _ h => h) (Or.inl ⟨by rfl, ?hy12b⟩) hHeld ?rest12b
              case hy12b => (intro W hSw; obtain ⟨s1, s2, s3⟩ := hSw; go_simp; (try with_reducible rfl))
              refine wpAnyH_take (i := 2) (v := ?v22b) rfl (by kernel_rfl) (by kernel_rfl) (by kernel_rfl) (fun _ _ _ h => h) (Or.inl ⟨by rfl, ?hy22b⟩) hHeld ?rest22b
              case hy22b => (intro W hSw; obtain ⟨s1, s2, s3⟩ := hSw; go_simp; (try with_reducible rfl))
              refine wpAnyH_take (i := 4) (v := ?v42b) rfl (by kernel_rfl) (by kernel_rfl) (by kernel_rfl) (fun _ _ _ h => h) (Or.inl ⟨by rfl, ?hy42b⟩) hHeld ?rest42b
              case hy42b => (intro W hSw; obtain ⟨s1, s2, s3⟩ := hSw; go_simp; (try with_reducible rfl))
              refine wpAnyH_take (i := 5) (v := ?v52b) rfl (by kernel_rfl) (by kernel_rfl) (by kernel_rfl) (fun _ _ _ h => h) (Or.inl ⟨by rfl, ?hy52b⟩) hHeld ?rest52b
              case hy52b => (intro W hSw; obtain ⟨s1, s2, s3⟩ := hSw; go_simp; (try with_reducible rfl))
              refine wpAnyH_take (i := 6) (v := ?v62b) rfl (by kernel_rfl) (by kernel_rfl) (by kernel_rfl) (fun _ _ _ h => h) (Or.inl ⟨by rfl, ?hy62b⟩) hHeld ?rest62b
              case hy62b => (intro W hSw; obtain ⟨s1, s2, s3⟩ := hSw; go_simp; (try with_reducible rfl))
              refine wpAnyH_take (i := 7) (v := ?v72b) rfl (by kernel_rfl) (by kernel_rfl) (by kernel_rfl) (fun _ _ _ h => h) (Or.inl ⟨by rfl, ?hy72b⟩) hHeld ?rest72b
              case hy72b => (intro W hSw; obtain ⟨s1, s2, s3⟩ := hSw; go_simp; (try with_reducible rfl))
              refine wpAnyH_take (i := 8) (v := ?v82b) rfl (by kernel_rfl) (by kernel_rfl) (by kernel_rfl) (fun _ _ _ h => h) (Or.inl ⟨by rfl, ?hy82b⟩) hHeld ?rest82b
              case hy82b => (intro W hSw; obtain ⟨s1, s2, s3⟩ := hSw; go_simp; (try with_reducible rfl))
              refine wpAnyH_take (i := 10) (v := ?v102b) rfl (by kernel_rfl) (by kernel_rfl) (by kernel_rfl) (fun _ _ _ h => h) (Or.inl ⟨by rfl, ?hy102b⟩) hHeld ?rest102b
              case hy102b => (intro W hSw; obtain ⟨s1, s2, s3⟩ := hSw; go_simp; (try with_reducible rfl))
              refine wpAnyH_take (i := 11) (v := ?v112b) rfl (by kernel_rfl) (by kernel_rfl) (by kernel_rfl) (fun _ _ _ h => h) (Or.inl ⟨by rfl, ?hy112b⟩) hHeld ?rest112b
              case hy112b => (intro W hSw; obtain ⟨s1, s2, s3⟩ := hSw; go_simp; (try with_reducible rfl))
              have HBA : Hid (Below w5.heap.size w5 (w5.drew.alloc (.cells #[] 5))) := (drawn w5 1).alloc (Nat.le_refl _) _
              have HOA := Lib.hid (HO5.out.behind HBA.out)
              have KA := (⟨HOA.out.box.cell 1 _ rfl, HOA.out.box.cell 2 _ rfl, (HFW.out _ HOA.out.below).2.2⟩ : _ ∧ _ ∧ _)
              refine wpAnyH_ready (rs := [3]) (by kernel_rfl) (by simp) ?_
              refine AllReadyH.cons rfl (fun K hK => ?_) AllReadyH.nil
              rw [if_pos (by rfl)]
              go_simp
              refine hK.out _ _ KA (fun hHeld => ?_)
              clear hK K KA
              obtain ⟨vb, w6, hrun, hob, hgb, _⟩ := run_append_bytes_at (P := Try.prog) (w := w5.drew.alloc (.cells #[] 5)) 33 33 5 Try.underlying33 info_u8 w5.heap.size [] fd _ _ (Owns.lit0 w5.drew _) (HFW.out _ HOA.out.below).1.1 (by simp; omega) (by simp)
              rw [List.nil_append] at hob
              obtain ⟨vo, vc, rfl⟩ := hob.reads.shape
              have HB6 : Hid (Below w5.heap.size w5 w6) := HBA.out.grown hgb (by simp) (fun j e => by simp [Value.ownBlock] at e; exact Nat.le_of_eq e)
              have HO6 := Lib.hid (HO5.out.behind HB6.out)
              have HR6 := Lib.hid hob
              have KA := (⟨HO6.out.box.cell 1 _ rfl, HO6.out.box.cell 2 _ rfl, (HFW.out _ HO6.out.below).2.2⟩ : _ ∧ _ ∧ _)
              refine wpAnyH_ready (rs := [9]) (by kernel_rfl) (by simp) ?_
              refine ready_append 9 (.tmp 60) (.tmp 65) 33 rfl rfl rfl (.slice (some ⟨w5.heap.size, 0, none⟩) 0 0) (.slice ax fd.length cx) (.slice vo fd.length vc) w6 ?s92b ?x92b hrun ⟨KA, fun hHeld => ?_⟩
              case s92b => kernel_rfl
              case x92b => kernel_rfl
              clear hrun hob hgb KA
              obtain ⟨vd, w7, hrun, hod, hgd, _⟩ := run_append_bytes_at (P := Try.prog) (w := w6) 33 33 5 Try.underlying33 info_u8 w5.heap.size fd data _ _ HR6.out (HDR.out.up HO6.out.below).1 (by omega) HB6.out.size
              obtain ⟨vo2, L2, vc2, rfl⟩ : ∃ a l c, vd = .slice a l c := (by obtain ⟨a, c, e⟩ := hod.reads.shape; exact ⟨a, _, c, e⟩)
              have HB7 : Hid (Below w5.heap.size w5 w7) := HB6.out.grown hgd HB6.out.size (fun j e => by obtain ⟨cs, hc, hb⟩ := HR6.out.cells e; exact hb)
              have HO7 := Lib.hid (HO5.out.behind HB7.out)
              have HR7 := Lib.hid hod
              have KA := (⟨HO7.out.box.cell 1 _ rfl, HO7.out.box.cell 2 _ rfl, (HFW.out _ HO7.out.below).2.2⟩ : _ ∧ _ ∧ _)
              refine wpAnyH_ready (rs := [12]) (by kernel_rfl) (by simp) ?_
              refine ready_append 12 (.tmp 66) (.tmp 68) 33 rfl rfl rfl (.slice vo fd.length vc) (.slice bo data.length cd) (.slice vo2 L2 vc2) w7 ?s122b ?x122b hrun ⟨KA, fun hHeld => ?_⟩
              case s122b => kernel_rfl
              case x122b => kernel_rfl
              clear hrun hod hgd KA
              refine wpAnyH_take (i := 13) (v := ?v132b) rfl (by kernel_rfl) (by kernel_rfl) (by kernel_rfl) (fun _ _ _ h => h) (Or.inl ⟨by rfl, ?hy132b⟩) hHeld ?rest132b
              case hy132b => (intro W hSw; go_simp; (try with_reducible rfl))
              have HOZ : Hid (Outs p w _ _ G (.slice oo G.length oc) (w7.alloc (.cells (Dk.cellF (n, fd ++ data) (.slice vo2 L2 vc2)) 47))) := HO7.out.behind ((Below.refl _ w7).alloc (Nat.le_refl _) _)
              have KA := (⟨HOZ.out.box.cell 1 _ rfl, HOZ.out.box.cell 2 _ rfl, (HFW.out _ HOZ.out.below).2.2⟩ : _ ∧ _ ∧ _)
              refine wpAnyH_ready (rs := [14]) (by kernel_rfl) (by simp) ?_
              refine AllReadyH.cons rfl (fun K hK => ?_) AllReadyH.nil
              rw [if_pos (by rfl)]
              go_simp
              refine hK.out _ _ KA (fun hHeld => ?_)
              clear hK K KA
              have hrz : ReadsP (upP p w.heap.size) (w7.alloc (.cells (Dk.cellF (n, fd ++ data) (.slice vo2 L2 vc2)) 47)) (.slice vo2 L2 vc2) (fd ++ data) := ReadsP.own (HR7.out.alloc _) (fun g e => by obtain ⟨cs, hc, hb⟩ := HR7.out.cells e; exact .inr ⟨rfl, Nat.le_trans HO5.out.below.size hb⟩)
              obtain ⟨v8, w8, hrun, ho8, hg8, _⟩ := HOZ.out.own.snoc (P := Try.prog) (t := 28) 28 Dk.cellF_ok Try.underlying28 info_file rfl (by decide) HOZ.out.below.size (n, fd ++ data) (.slice vo2 L2 vc2) (Lies.new w7 47 (Dk.cellF (n, fd ++ data) (.slice vo2 L2 vc2))) hrz (by omega) (by omega) upP_file
              have HO8 := Lib.hid (HOZ.out.push ho8 hg8)
              have KA := (⟨HO8.out.box.cell 1 _ rfl, HO8.out.box.cell 2 _ rfl, (HFW.out _ HO8.out.below).2.2⟩ : _ ∧ _ ∧ _)
              refine wpAnyH_ready (rs := [15]) (by kernel_rfl) (by simp) ?_
              refine ready_append 15 (.tmp 57) (.tmp 71) 28 rfl rfl rfl (.slice oo G.length oc) (.slice (some ⟨w7.heap.size, 0, none⟩) 1 1) v8 w8 ?s152b ?x152b hrun ⟨KA, fun hHeld => ?_⟩
              case s152b => kernel_rfl
              case x152b => kernel_rfl
              clear hrun ho8 hg8 hrz KA
              refine wpAnyH_take (i := 16) (v := ?v162b) rfl (by kernel_rfl) (by kernel_rfl) (by kernel_rfl) (fun _ _ _ h => h) (Or.inl ⟨by rfl, ?hy162b⟩) hHeld ?rest162b
              case hy162b => (intro W hSw; go_simp; (try with_reducible rfl))
              refine wpAnyH_done (by kernel_rfl) ?_ _
              clear hHeld e0 e1 e2 g0 g1
              have z0 : w8.cell? ⟨w.heap.size, 0, none⟩ = some (.int .i64 2) := HO8.out.box.cell 0 _ rfl
              go_wp2
              go_roundw
              case rel => exact ⟨i + 1, true, G ++ [(n, fd ++ data)], by simp, rfl, by omega, HI.out.next HF.out [(n, fd ++ data)] (add_data (.inr HGT.out) HNE.out rfl) (flag_not HGT.out) HO8.out (by simp)⟩
              case measure => simp [intOf]; omega
          · cases d
            · go_wp2
              refine wp_region_behind (by kernel_rfl) (by kernel_rfl) ?_
              repeat (go_big_quiet_step (fail))
              refine wpQuiet_nil ?_
              rintro w5 ⟨⟨w5, hB5⟩, rfl⟩
              (try dsimp only)
              have HO5 := Lib.hid (hI.out.outs.behind hB5)
              have HB5 := Lib.hid (hI.out.outs.below.trans (hB5.mono hI.out.outs.below.size))
              have e0 : w5.cell? ⟨w.heap.size, 0, none⟩ = some (.int .i64 3) := HO5.out.box.cell 0 _ rfl
              have e1 : w5.cell? ⟨w.heap.size, 1, none⟩ = some (.int .i64 n) := HO5.out.box.cell 1 _ rfl
              have e2 : w5.cell? ⟨w.heap.size, 2, none⟩ = some (.slice bo data.length cd) := HO5.out.box.cell 2 _ rfl
              have g0 : w5.cell? ⟨b0, off + i * 2, none⟩ = some (.int .i64 fn) := (HFW.out w5 HB5.out).2.1
              have g1 : w5.cell? ⟨b0, off + i * 2 + 1, none⟩ = some (.slice ax fd.length cx) := (HFW.out w5 HB5.out).2.2
              clear k0 k1 hB5 q0 q1
              go_wp2
              have HX : Hid (Outs p w ⟨3, n, data⟩ (.slice bo data.length cd) (G ++ []) (.slice oo G.length oc) w5) := by show Outs _ _ _ _ _ _ _; have := HO5.out; rwa [List.append_nil]
              go_roundw
              case rel => exact ⟨i + 1, false, G ++ [], by simp, rfl, by omega, HI.out.next HF.out [] (add_drop (.inr HGT.out) HNE.out rfl) (flag_not HGT.out) HX.out (by simp)⟩
              case measure => simp [intOf]; omega
            · go_wp2
              refine wp_region_behind (by kernel_rfl) (by kernel_rfl) ?_
              repeat (go_big_quiet_step (fail))
              refine wpQuiet_nil ?_
              rintro w5 ⟨⟨w5, hB5⟩, rfl⟩
              (try dsimp only)
              have HO5 := Lib.hid (hI.out.outs.behind hB5)
              have HB5 := Lib.hid (hI.out.outs.below.trans (hB5.mono hI.out.outs.below.size))
              have e0 : w5.cell? ⟨w.heap.size, 0, none⟩ = some (.int .i64 3) := HO5.out.box.cell 0 _ rfl
              have e1 : w5.cell? ⟨w.heap.size, 1, none⟩ = some (.int .i64 n) := HO5.out.box.cell 1 _ rfl
              have e2 : w5.cell? ⟨w.heap.size, 2, none⟩ = some (.slice bo data.length cd) := HO5.out.box.cell 2 _ rfl
              have g0 : w5.cell? ⟨b0, off + i * 2, none⟩ = some (.int .i64 fn) := (HFW.out w5 HB5.out).2.1
              have g1 : w5.cell? ⟨b0, off + i * 2 + 1, none⟩ = some (.slice ax fd.length cx) := (HFW.out w5 HB5.out).2.2
              clear k0 k1 hB5 q0 q1
              go_wp2
              have HX : Hid (Outs p w ⟨3, n, data⟩ (.slice bo data.length cd) (G ++ []) (.slice oo G.length oc) w5) := by show Outs _ _ _ _ _ _ _; have := HO5.out; rwa [List.append_nil]
              go_roundw
              case rel => exact ⟨i + 1, true, G ++ [], by simp, rfl, by omega, HI.out.next HF.out [] (add_drop (.inr HGT.out) HNE.out rfl) (flag_not HGT.out) HX.out (by simp)⟩
              case measure => simp [intOf]; omega
        · have hnat : ¬ ((i : Nat) : Int) = r := fun e => hne (HAT.out.1 e)
          have hbn : (((i : Nat) : Int) != r) = true := by simpa using hnat
          have HNE := Lib.hid hne
          clear hne hnat
          cases d
          · go_wp2
            refine wp_region_behind (by kernel_rfl) (by kernel_rfl) ?_
            repeat (go_big_quiet_step (fail))
            refine wpQuiet_nil ?_
            rintro w5 ⟨⟨w5, hB5⟩, rfl⟩
            (try dsimp only)
            have HO5 := Lib.hid (hI.out.outs.behind hB5)
            have HB5 := Lib.hid (hI.out.outs.below.trans (hB5.mono hI.out.outs.below.size))
            have e0 : w5.cell? ⟨w.heap.size, 0, none⟩ = some (.int .i64 k) := HO5.out.box.cell 0 _ rfl
            have e1 : w5.cell? ⟨w.heap.size, 1, none⟩ = some (.int .i64 n) := HO5.out.box.cell 1 _ rfl
            have e2 : w5.cell? ⟨w.heap.size, 2, none⟩ = some (.slice bo data.length cd) := HO5.out.box.cell 2 _ rfl
            have g0 : w5.cell? ⟨b0, off + i * 2, none⟩ = some (.int .i64 fn) := (HFW.out w5 HB5.out).2.1
            have g1 : w5.cell? ⟨b0, off + i * 2 + 1, none⟩ = some (.slice ax fd.length cx) := (HFW.out w5 HB5.out).2.2
            clear k0 k1 hB5 q0 q1
            go_wp2_with (at_builtin; refine step_push rfl _ _ rfl w.heap.size (.slice oo G.length oc) G rfl ((HO5.out.behind ((Below.refl _ w5).alloc (Nat.le_refl _) _)).own) (fn, fd) (.slice ax fd.length cx) w5.heap.size rfl (Lies.new w5 47 (Dk.cellF (fn, fd) (.slice ax fd.length cx))) ((HFW.out w5 HO5.out.below).1.keep (Keep.alloc _ _ _)) (by first | omega | (simp; omega)) upP_file (Nat.le_trans HO5.out.below.size (by simp)) ?_; intro v2 w6 hw6 hgw6; have HOw6 := Lib.hid ((HO5.out.behind ((Below.refl _ w5).alloc (Nat.le_refl _) _)).push hw6 hgw6); have HSw6 := Lib.hid (filesO_form hw6); clear hw6 hgw6)
            go_roundw
            case rel => exact ⟨i + 1, false, G ++ [(fn, fd)], by simp, rfl, by omega, HI.out.next HF.out [(fn, fd)] (add_same (.inr HGT.out) HNE.out) (flag_not HGT.out) HOw6.out (by simp)⟩
            case measure => simp [intOf]; omega
          · go_wp2
            refine wp_region_behind (by kernel_rfl) (by kernel_rfl) ?_
            repeat (go_big_quiet_step (fail))
            refine wpQuiet_nil ?_
            rintro w5 ⟨⟨w5, hB5⟩, rfl⟩
            (try dsimp only)
            have HO5 := Lib.hid (hI.out.outs.behind hB5)
            have HB5 := Lib.hid (hI.out.outs.below.trans (hB5.mono hI.out.outs.below.size))
            have e0 : w5.cell? ⟨w.heap.size, 0, none⟩ = some (.int .i64 k) := HO5.out.box.cell 0 _ rfl
            have e1 : w5.cell? ⟨w.heap.size, 1, none⟩ = some (.int .i64 n) := HO5.out.box.cell 1 _ rfl
            have e2 : w5.cell? ⟨w.heap.size, 2, none⟩ = some (.slice bo data.length cd) := HO5.out.box.cell 2 _ rfl
            have g0 : w5.cell? ⟨b0, off + i * 2, none⟩ = some (.int .i64 fn) := (HFW.out w5 HB5.out).2.1
            have g1 : w5.cell? ⟨b0, off + i * 2 + 1, none⟩ = some (.slice ax fd.length cx) := (HFW.out w5 HB5.out).2.2
            clear k0 k1 hB5 q0 q1
            go_wp2_with (at_builtin; refine step_push rfl _ _ rfl w.heap.size (.slice oo G.length oc) G rfl ((HO5.out.behind ((Below.refl _ w5).alloc (Nat.le_refl _) _)).own) (fn, fd) (.slice ax fd.length cx) w5.heap.size rfl (Lies.new w5 47 (Dk.cellF (fn, fd) (.slice ax fd.length cx))) ((HFW.out w5 HO5.out.below).1.keep (Keep.alloc _ _ _)) (by first | omega | (simp; omega)) upP_file (Nat.le_trans HO5.out.below.size (by simp)) ?_; intro v2 w6 hw6 hgw6; have HOw6 := Lib.hid ((HO5.out.behind ((Below.refl _ w5).alloc (Nat.le_refl _) _)).push hw6 hgw6); have HSw6 := Lib.hid (filesO_form hw6); clear hw6 hgw6)
            go_roundw
            case rel => exact ⟨i + 1, true, G ++ [(fn, fd)], by simp, rfl, by omega, HI.out.next HF.out [(fn, fd)] (add_same (.inr HGT.out) HNE.out) (flag_not HGT.out) HOw6.out (by simp)⟩
            case measure => simp [intOf]; omega
    · have hint : ¬ ((i : Nat) : Int) < (m : Int) := by omega
      have hdrop : F.drop i = [] := List.drop_eq_nil_of_le (by have := HM.out; omega)
      have HDR0 := Lib.hid hdrop
      clear hdrop
      cases d
      · go_wp2_with (at_builtin; refine step_push rfl _ _ rfl w.heap.size (.slice oo G.length oc) G rfl ((HI.out.outs.behind ((Below.refl _ wr).alloc (Nat.le_refl _) _)).own) (n, []) (.slice none 0 0) wr.heap.size rfl (Lies.new wr 47 (Dk.cellF (n, []) (.slice none 0 0))) (ReadsP.none _ _) (by first | omega | (simp; omega)) upP_file (Nat.le_trans HI.out.outs.below.size (by simp)) ?_; intro v2 w6 hw6 hgw6; have HOw6 := Lib.hid ((HI.out.outs.behind ((Below.refl _ wr).alloc (Nat.le_refl _) _)).push hw6 hgw6); have HSw6 := Lib.hid (filesO_form hw6); clear hw6 hgw6)
        obtain ⟨o6, n6, c6, rfl⟩ := HSw6.out
        go_wp2
        go_ret
        exact DoneI.made2 HOw6.out (by rw [HI.out.is, HDR0.out]; rfl)
      · go_wp2
        go_ret
        exact DoneI.made2 HI.out.outs (by rw [HI.out.is, HDR0.out]; simp [Dk.rest])

theorem done_ref {p pd : Nat → TypeId → Prop} {w : World} {v : Value} {F : Dk.Files} (h : FilesP p w v F) (ha : Dk.Asc F) (k n : Int) (dv : Value) (data : List UInt8) (hd : ReadsP pd w dv data) (hk : Dk.isKind k) (hs : Dk.wt F + data.length ≤ 68719476736) :
    Calls Try.prog 23 #[v, .agg #[.int .i64 k, .int .i64 n, dv]] w (FilesMade p w (Dk.done F ⟨k, n, data⟩)) := by
  rcases hk with rfl | hk
  · exact done_make h ha n dv data hd hs
  · exact done_other h ha k n dv data hd hk hs

end Go.Proofs.Ytffgfjfeoinnfaa
