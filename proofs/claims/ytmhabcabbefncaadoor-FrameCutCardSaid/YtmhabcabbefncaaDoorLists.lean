/- Lists of slices of bytes: what came in; one more appended; two lists held against each other (changeoverref03.Lists); the document's own Scan. -/
import Derived.Test.YtmhabcabbefncaaDoorFrmRef
import Derived.ChangeOld
import Derived.Maps.AppendAt
namespace Go.Proofs.YtmhabcabbefncaaDoor
open Go.RowKit

theorem picks {α β : Type} (q : Nat → α → β → Prop) : ∀ n : Nat, (∀ i, i < n → ∃ a b, q i a b) → ∃ (xs : List α) (bs : List β), xs.length = n ∧ bs.length = n ∧ ∀ i a b, xs[i]? = some a → bs[i]? = some b → q i a b := by
  intro n
  induction n with
  | zero => intro _; exact ⟨[], [], rfl, rfl, fun i a b h => by simp at h⟩
  | succ n ih =>
    intro h
    obtain ⟨xs, bs, h1, h2, h3⟩ := ih (fun i hi => h i (by omega))
    obtain ⟨a, b, hab⟩ := h n (by omega)
    refine ⟨xs ++ [a], bs ++ [b], by simp [h1], by simp [h2], fun i x y hx hy => ?_⟩
    by_cases hi : i < n
    · rw [List.getElem?_append_left (by omega)] at hx hy
      exact h3 i x y hx hy
    · have e : i = n := by have := (List.getElem?_eq_some_iff.1 hx).1; simp at this; omega
      subst e
      rw [List.getElem?_append_right (by omega), h1, Nat.sub_self] at hx
      rw [List.getElem?_append_right (by omega), h2, Nat.sub_self] at hy
      simp at hx hy
      subst hx hy
      exact hab

/-- A list of slices of bytes that came in. -/
theorem came_lists {H : Type} {enc : TypeId × Value → H} {P : Program} {w : World} {b0 base : Nat} {held : Bool} {t e b : TypeId} {v : Value} {d : DataW H} {p : List MemPlace} (ht : P.underlying t = some (.slice e)) (he : P.underlying e = some (.slice b)) (hb : P.underlying b = some (.int .u8))
    (hce : P.cellsOf e = 1) (hcb : P.cellsOf b = 1) (hv : Value.okWide P w .any b0 t v) (h : DataW.Trod enc P w base (fun _ => true) held t v d p) : ∃ ls, ReadsL w v ls := by
  obtain ⟨a, len, cap, rfl⟩ := WideShapes.okWide_slice ht hv
  obtain ⟨fuel, hf⟩ := h
  rcases DataW.trod_slice ht hf with ⟨hcs, _⟩ | ⟨x, l, c, elems, rest, n, _, hcs, _, _, hl, hm, hlen, hel, _, _⟩
  · simp [Value.cells] at hcs
    obtain ⟨rfl, rfl, rfl⟩ := hcs
    exact ⟨[], ReadsL.empty w⟩
  · simp [Value.cells] at hcs
    obtain ⟨rfl, rfl, rfl⟩ := hcs
    have each : ∀ i, i < len → ∃ (u : Value) (bs : List UInt8), w.cell? (x.add i) = some u ∧ Reads w u bs := by
      intro i hi
      have h1 := hel i hi
      rw [List.getElem?_eq_getElem (by omega), hce, Nat.mul_one, Option.bind_eq_some_iff] at h1
      obtain ⟨cs', hcs', hy⟩ := h1
      rcases ChangeShapes.open_ints he hb hcb hy with ⟨rfl, _⟩ | ⟨y, l', c', zs, rfl, _, hl', hm', hz, _, hcell, hwz⟩
      · exact ⟨_, [], ChangeShapes.cell_of_cells?_one hcs', Reads.empty w⟩
      · exact ⟨_, _, ChangeShapes.cell_of_cells?_one hcs', reads_row (zs := zs) (.inr ⟨y, rfl, hl', hm', by simpa using hz, hcell, hwz⟩)⟩
    obtain ⟨us, ls, h1, h2, h3⟩ := picks _ len each
    refine ⟨ls, some x, cap, us, by rw [h2], by omega, hm, by omega, fun y hy j u hu => ?_, (fun h => by cases h), fun j u l hu hl' => (h3 j u l hu hl').2⟩
    cases hy
    have hj := (List.getElem?_eq_some_iff.1 hu).1
    exact (h3 j u _ hu (List.getElem?_eq_getElem (by omega))).1

theorem info_bytes : (Tryd.prog.info? 22).map (fun i => (i.zero, i.size, i.bytes)) = some (some (.slice none 0 0), 1, 24) := by kernel_rfl

/-- append(out, u) where out is a row of slices of the call's own. -/
theorem append_list {P : Program} {w : World} {ops : Array Oper} {rest : List Oper} {o : Oper} {a : Act} {Q : Exit → Act → World → Prop} (hgd : o.guard = none) (s x : Operand) (t E : TypeId)
    (ho : o.op = .call { callee := .builtin .append, args := #[s, x], argTypes := #[t, t] }) (ht : P.underlying t = some (.slice E))
    (hi : (P.info? E).map (fun i => (i.zero, i.size, i.bytes)) = some (some (.slice none 0 0), 1, 24))
    (p : Nat → TypeId → Prop) (base : Nat) (ls : List (List UInt8)) (l : List UInt8) (v : Value) (uo : Option Addr) (un uc : Nat) (hs : a.eval s = v) (hx : a.eval x = .slice (some ⟨w.heap.size, 0, none⟩) 1 1) (hown : OwnsL p w base E v ls) (hr : ReadsP p w (.slice uo un uc) l)
    (hp : ∀ g, base ≤ g → ¬ p g E) (hlen : ls.length ≤ 1048576) (w0 : World) (hb : Below base w0 w) (hbase : base ≤ w0.heap.size)
    (h : ∀ v' w', OwnsL p w' base E v' (ls ++ [l]) → Keep p w w' → Below base w0 w' → wpList P ops Q rest (a.put o.dst v') w') : wpList P ops Q (o :: rest) a (w.alloc (.cells #[.slice uo un uc] E)) := by
  obtain ⟨i, h1, h2, h3, h4⟩ := info_parts hi
  obtain ⟨us, hrow, hul, hus⟩ := hown
  have hsz := hb.size
  refine wpList_append_own _ hgd s x t ho base E i (.slice none 0 0) 1 24 ht h1 h2 h3 h4 rfl (by decide) v ls.length us hs (hrow.alloc _) ⟨w.heap.size, 0, none⟩ 1 1 [.slice uo un uc] hx rfl (cell_one_new _ _ _) (by simp [Value.oneCell']) (by unfold maxLen; omega) (by omega) (by simp; omega) fun v' w' h5 h6 _ => ?_
  obtain ⟨hL, hK⟩ := OwnsL.snoc hrow hus hul hr h5 h6 hp
  exact h v' w' hL hK ((hb.alloc (by omega) _).grown h6 (by simp; omega) fun j ej => by have := (hrow.lt j ej).1; exact this)

set_option maxRecDepth 4000 in
set_option maxHeartbeats 1600000 in
theorem lists_any (v u : Value) (ls ms : List (List UInt8)) (w : World) (hv : ReadsL w v ls) (hu : ReadsL w u ms) :
    Calls Tryd.prog 16 #[v, u] w (Tells w (.bool (ls == ms))) := by
  obtain ⟨ao, cap, rfl, hc1, hc2⟩ := hv.shape
  obtain ⟨bo, dap, rfl, hd1, hd2⟩ := hu.shape
  by_cases hlen : ls.length = ms.length
  · by_cases h0 : ls.length = 0
    · obtain rfl : ls = [] := List.eq_nil_of_length_eq_zero h0
      obtain rfl : ms = [] := List.eq_nil_of_length_eq_zero (by omega)
      clear hv hu hlen h0
      go_enter Tryd.func16, Tryd.ntmps16
      go_wp2
      refine wp_loop_rounds 1 ?_
      rw [rounds_succ]
      go_wp2
      go_ret
      exact ⟨rfl, 0, rfl⟩
    · obtain ⟨b, off, rfl, hc⟩ := hv.place (by omega)
      obtain ⟨b', off', rfl, hd⟩ := hu.place (by omega)
      obtain ⟨n, hn⟩ : ∃ n, n = ls.length := ⟨_, rfl⟩
      have hn' : ms.length = n := by omega
      rw [← hn] at hc1 ⊢
      rw [hn'] at hd1 ⊢
      have HN := Lib.hid hn; have HM := Lib.hid hn'
      have HC := Lib.hid hc; have HD := Lib.hid hd
      clear hn hn' hlen hc hd h0 hv hu
      go_enter Tryd.func16, Tryd.ntmps16
      go_wp2
      go_loopw [5] (fun x wr => ∃ i : Nat, x = .int .i64 (i : Int) ∧ i ≤ n ∧ Hid (ls.take i = ms.take i) ∧ ∃ q, wr = w.drewN q) (fun x _ => n - (intOf x).toNat)
      case atStart => exact ⟨0, rfl, by omega, rfl, 0, rfl⟩
      case round =>
        obtain ⟨i, rfl, hi, HE, q, rfl⟩ := hrel
        by_cases hlt : i < n
        · obtain ⟨c, hlc⟩ : ∃ c, ls[i]? = some c := ⟨_, List.getElem?_eq_getElem (by have := HN.out; omega)⟩
          obtain ⟨d, hmd⟩ : ∃ d, ms[i]? = some d := ⟨_, List.getElem?_eq_getElem (by have := HM.out; omega)⟩
          obtain ⟨x, hx, hrx⟩ := HC.out i c hlc
          obtain ⟨y, hy, hry⟩ := HD.out i d hmd
          obtain ⟨xo, xc, rfl⟩ := hrx.shape
          obtain ⟨yo, yc, rfl⟩ := hry.shape
          have HLC := Lib.hid hlc; have HMD := Lib.hid hmd
          clear hlc hmd
          obtain ⟨t, ht⟩ : ∃ t, t = (c == d) := ⟨_, rfl⟩
          have HTT := Lib.hid ht
          have HCALL : Hid (∀ k, Calls Tryd.prog 10 #[.slice xo c.length xc, .slice yo d.length yc] (w.drewN (q + k)) (fun e w' => e = .returned (.bool t) ∧ ∃ m, w' = w.drewN (q + m))) := by
            intro k
            rw [ht]
            refine (same_any _ _ _ _ (w.drewN (q + k)) hrx hry).mono ?_
            rintro e w' ⟨rfl, m, rfl⟩
            exact ⟨rfl, k + m, by rw [World.drewN_drewN, Nat.add_assoc]⟩
          clear ht hrx hry
          go_wp2
          go_quiet (first | (go_at_call 10; exact HCALL.out _))
          cases t with
          | true =>
            go_wp2
            go_roundw
            case rel => exact ⟨i + 1, by go_num, by omega, by show _ = _; rw [List.take_add_one, List.take_add_one, HLC.out, HMD.out, HE.out, (by simpa using HTT.out.symm : c = d)], _, rfl⟩
            case measure => simp [intOf]; omega
          | false =>
            go_wp2
            go_ret
            exact ⟨ret_bool (by simp; intro h; have h1 := HLC.out; have h2 := HMD.out; rw [h, h2] at h1; have h3 := HTT.out; simp at h1 h3; exact h3 h1.symm), _, World.drewN_drewN _ _ _⟩
        · go_wp2
          go_ret
          exact ⟨ret_bool (by simp; have h := HE.out; rwa [List.take_of_length_le (by have := HN.out; omega), List.take_of_length_le (by have := HM.out; omega)] at h), _, rfl⟩
  · have h1 : ((ls.length : Int) == (ms.length : Int)) = false := by simp; omega
    have h2 : ((ls.length : Int) != (ms.length : Int)) = true := by simp; omega
    go_enter Tryd.func16, Tryd.ntmps16
    go_wp2
    go_ret
    exact ⟨ret_bool (by simp; exact fun h => hlen (by rw [h])), 0, rfl⟩

/-- What Scan leaves: the frames' bodies from the beginning on, and the place at which it stops. -/
def Scanned (w : World) (l : List UInt8) (e : Ending) (w' : World) : Prop :=
  ∃ (x : Value) (ls : List (List UInt8)) (c : Nat), e = .returned (.tuple #[x, .int .i64 (c : Int)]) ∧ Frm.Path l 0 ls c ∧ (Frm.next l c).2.2 ≠ 0 ∧ ReadsL w' x ls ∧ Below w.heap.size w w'

theorem Keep.base {B : Nat} {w w' : World} (h : Below B w w') : Keep (fun b _ => b < B) w w' :=
  ⟨h.size, fun b _ _ _ e hb => (h.block b hb).trans e⟩

set_option maxRecDepth 4000 in
set_option maxHeartbeats 1600000 in
theorem refScan_any (v : Value) (l : List UInt8) (w : World) (hv : Reads w v l) (hlen : l.length ≤ 1048576) :
    Calls Tryd.prog 15 #[v] w (Scanned w l) := by
  obtain ⟨ao, cap, rfl⟩ := hv.shape
  go_enter Tryd.func15, Tryd.ntmps15
  go_wp2
  go_loopw [4, 5] (fun x i wr => ∃ (ls : List (List UInt8)) (c : Nat), i = .int .i64 (c : Int) ∧ c ≤ l.length ∧ OwnsL (fun b _ => b < w.heap.size) wr w.heap.size 22 x ls ∧ Frm.Path l 0 ls c ∧ Below w.heap.size w wr) (fun _ i _ => l.length - (intOf i).toNat)
  case atStart => exact ⟨[], 0, rfl, by omega, OwnsL.none _ _ _ _, .nil 0, Below.refl _ _⟩
  case round =>
    obtain ⟨ls, c, rfl, hc, ho, hpath, hb⟩ := hrel
    obtain ⟨q, hq⟩ : ∃ q, q = Frm.next l c := ⟨_, rfl⟩
    have hnx := refNext_any (.slice ao l.length cap) l c wr (hv.below hb) (by omega)
    rw [← hq] at hnx
    have HQ := Lib.hid hq
    obtain ⟨qb, qe, qr⟩ := q
    have hll : ls.length ≤ 1048576 := by have := hpath.bound.1; omega
    have HP := Lib.hid hpath
    clear hq hpath
    go_wp2_with fail
    refine hnx.mono ?_
    rintro e w2 ⟨x2, rfl, hx2, hb2⟩
    have ho2 := ho.below hb2
    have hbw2 : Below w.heap.size w w2 := hb.trans (hb2.mono hb.size)
    by_cases h0 : qr = 0
    · subst h0
      obtain ⟨c', hc', h6, hcl, _, _⟩ := Frm.next_ok HQ.out.symm
      subst hc'
      have hr2 : ReadsP (fun b _ => b < w.heap.size) w2 x2 qb := (ReadsP.of_reads (hx2 w hv) (fun b t h => h)).keep (Keep.base hbw2)
      obtain ⟨xo, xc, rfl⟩ := hr2.1.shape
      have HPS : Hid (Frm.Path l 0 (ls ++ [qb]) c') := HP.out.snoc HQ.out.symm
      clear hx2 hnx
      go_wp2_with (at_builtin; refine append_list rfl _ _ 32 22 rfl Tryd.underlying32 info_bytes (fun b _ => b < w.heap.size) w.heap.size ls qb u4 xo qb.length xc rfl rfl ho2 hr2 (fun g h1 h2 => Nat.not_lt.2 h1 h2) hll w hbw2 (Nat.le_refl _) ?_; intro v' w' ho' _ hb')
      go_roundw
      case rel => exact ⟨_, c', rfl, hcl, ho', HPS.out, hb'⟩
      case measure => simp [intOf]; omega
    · have hg : (qr != 0) = true := by simpa using h0
      clear hx2 hnx
      go_wp2_with fail
      go_ret2
      exact ⟨_, ls, c, rfl, HP.out, by rw [← HQ.out]; exact h0, ho2.reads, hbw2⟩
end Go.Proofs.YtmhabcabbefncaaDoor
