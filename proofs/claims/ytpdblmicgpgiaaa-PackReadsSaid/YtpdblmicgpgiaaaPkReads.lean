/- PackReads' walk. -/
import Derived.Test.YtpdblmicgpgiaaaPkLawRead
import Derived.Test.YtpdblmicgpgiaaaPkAwake
import Derived.Deep.MidRow
namespace Go.Proofs.Ytpdblmicgpgiaaa
open Go.RowKit

theorem Pk.num_res (b : List UInt8) (p : Nat) (most : Int) : ∃ (n : Int) (q : Nat) (e : Int), Pk.num b p most = (n, (q : Int), e) ∧ (e ≠ 0 → n = 0) := by
  rcases Pk.num_cases b p most with ⟨e, he, _, hn⟩ | ⟨n, q, _, _, _, _, _, hn⟩ | ⟨n, q, _, _, _, _, _, hn⟩
  · exact ⟨_, _, _, hn, fun _ => rfl⟩
  · exact ⟨_, _, _, hn, fun _ => rfl⟩
  · exact ⟨_, _, _, hn, fun h => absurd rfl h⟩
theorem Pk.cnt_res (b : List UInt8) (p : Nat) (most : Int) : ∃ (n : Int) (q : Nat) (e : Int), Pk.cnt b p most = (n, (q : Int), e) ∧ (e ≠ 0 → n = 0) := by
  rcases Pk.cnt_cases b p most with ⟨e, he, _, hn⟩ | ⟨n, q, _, _, _, _, hn⟩ | ⟨n, q, _, _, hn⟩
  · exact ⟨_, _, _, hn, fun _ => rfl⟩
  · exact ⟨_, _, _, hn, fun _ => rfl⟩
  · exact ⟨_, _, _, hn, fun h => absurd rfl h⟩
theorem Pk.txt_res (b : List UInt8) (p : Nat) (most : Int) (hp : p ≤ b.length) : ∃ (x : List UInt8) (q : Nat) (e : Int), Pk.txt b p most = (x, (q : Int), e) ∧ (e ≠ 0 → x = []) ∧ x.length ≤ b.length := by
  rcases Pk.txt_cases b p most hp with ⟨e, q, he, _, _, hn⟩ | ⟨n, q, _, _, hn⟩
  · exact ⟨_, _, _, hn, fun _ => rfl, by simp⟩
  · exact ⟨_, _, _, hn, fun h => absurd rfl h, by simp; omega⟩
theorem Pk.flg_res (b : List UInt8) (p : Nat) : ∃ (x : Bool) (q : Nat) (e : Int), Pk.flg b p = (x, (q : Int), e) ∧ (e ≠ 0 → x = false) := by
  unfold Pk.flg
  rw [Int.toNat_natCast]
  split
  · exact ⟨_, _, _, rfl, fun _ => rfl⟩
  · split
    · exact ⟨false, p + 1, 3, by simp, fun _ => rfl⟩
    · exact ⟨_, p + 1, 0, by simp; rfl, fun h => absurd rfl h⟩

/-- A reading where there may be an error already; the kind as the law tells it. -/
def Pk.stp (b : List UInt8) (a : Int) (er k most : Int) : Fld × Int × Int := if er ≠ 0 then (Pk.zero, a, er) else Pk.read b a k most
def Pk.kk (k : Int) : Int := if k = 5 then 2 else k
def Pk.fld (k : Int) (f : Fld) : Fld := ⟨Pk.kk k, f.n, f.s, f.is⟩

theorem lawread_any (k most a : Int) (w : World) (B o : Nat) (v : Value) (b : List UInt8) (p : Nat) (er : Int) (hB : B ≤ w.heap.size) (hr : Rdr w B o v b p er) (hk0 : 1 ≤ k) (hk1 : k ≤ 5) (ha : er = 0 → a = p) :
    Calls Try.prog 13 #[.pointer (some ⟨o, 0, none⟩), .int .i64 k, .int .i64 most] w
      fun en w' => ∃ q : Nat, Field1 w B o v b q (Pk.stp b a er k most).2.2 (Pk.fld k (Pk.stp b a er k most).1) en w' ∧ ((Pk.stp b a er k most).2.2 = 0 → (Pk.stp b a er k most).2.1 = q) := by
  have hin := hr.inn
  have hsm := hr.small
  unfold Pk.stp
  by_cases he : er = 0
  · subst he
    obtain rfl := ha rfl
    rw [if_neg (by simp)]
    rcases (show k = 1 ∨ k = 2 ∨ k = 3 ∨ k = 4 ∨ k = 5 by omega) with rfl | rfl | rfl | rfl | rfl
    · obtain ⟨n, q, e, hn, hx⟩ := Pk.num_res b p most
      refine (lawread_num most n w B o v b p 0 q e hB hr fun w1 h1 => rnum_is most w1 B o v b p n q e h1 hx hn).mono fun en w' h => ⟨q, ?_, ?_⟩
      · unfold Pk.read
        rw [hn]
        by_cases h0 : e = 0
        · subst h0; simpa [Pk.fld, Pk.kk] using h
        · obtain rfl := hx h0; simpa [Pk.fld, Pk.kk, h0, Pk.zero] using h
      · unfold Pk.read
        rw [hn]
        by_cases h0 : e = 0
        · subst h0; simp
        · simp [h0]
    · obtain ⟨x, q, e, hn, hx, hl⟩ := Pk.txt_res b p most hin
      refine (lawread_text most x w B o v b p 0 q e hB hr fun w1 h1 => rtext_is most w1 B o v b p x q e h1 hx hn).mono fun en w' h => ⟨q, ?_, ?_⟩
      · unfold Pk.read
        rw [hn]
        by_cases h0 : e = 0
        · subst h0; simpa [Pk.fld, Pk.kk] using h
        · obtain rfl := hx h0; simpa [Pk.fld, Pk.kk, h0, Pk.zero] using h
      · unfold Pk.read
        rw [hn]
        by_cases h0 : e = 0
        · subst h0; simp
        · simp [h0]
    · obtain ⟨x, q, e, hn, hx⟩ := Pk.flg_res b p
      refine (lawread_flag most x w B o v b p 0 q e hB hr fun w1 h1 => rflag_is w1 B o v b p x q e h1 hx hn).mono fun en w' h => ⟨q, ?_, ?_⟩
      · unfold Pk.read
        rw [hn]
        by_cases h0 : e = 0
        · subst h0; simpa [Pk.fld, Pk.kk] using h
        · obtain rfl := hx h0; simpa [Pk.fld, Pk.kk, h0, Pk.zero] using h
      · unfold Pk.read
        rw [hn]
        by_cases h0 : e = 0
        · subst h0; simp
        · simp [h0]
    · obtain ⟨n, q, e, hn, hx⟩ := Pk.cnt_res b p most
      refine (lawread_cnt most n w B o v b p 0 q e hB hr fun w1 h1 => rcnt_is most w1 B o v b p n q e h1 hx hn).mono fun en w' h => ⟨q, ?_, ?_⟩
      · unfold Pk.read
        rw [hn]
        by_cases h0 : e = 0
        · subst h0; simpa [Pk.fld, Pk.kk] using h
        · obtain rfl := hx h0; simpa [Pk.fld, Pk.kk, h0, Pk.zero] using h
      · unfold Pk.read
        rw [hn]
        by_cases h0 : e = 0
        · subst h0; simp
        · simp [h0]
    · obtain ⟨x, q, e, hn, hx, hl⟩ := Pk.txt_res b p most hin
      refine (lawread_raw most x w B o v b p 0 q e hB hr fun w1 h1 => rraw_is most w1 B o v b p x q e h1 hx (by omega) hn).mono fun en w' h => ⟨q, ?_, ?_⟩
      · unfold Pk.read
        rw [hn]
        by_cases h0 : e = 0
        · subst h0; simpa [Pk.fld, Pk.kk] using h
        · obtain rfl := hx h0; simpa [Pk.fld, Pk.kk, h0, Pk.zero] using h
      · unfold Pk.read
        rw [hn]
        by_cases h0 : e = 0
        · subst h0; simp
        · simp [h0]
  · rw [if_pos he]
    rcases (show k = 1 ∨ k = 2 ∨ k = 3 ∨ k = 4 ∨ k = 5 by omega) with rfl | rfl | rfl | rfl | rfl
    · exact (lawread_num most 0 w B o v b p er p er hB hr fun w1 h1 => rnum_err most er w1 B o v b p h1 he).mono fun en w' h => ⟨p, h, fun h0 => absurd h0 he⟩
    · exact (lawread_text most [] w B o v b p er p er hB hr fun w1 h1 => rtext_err most er w1 B o v b p h1 he).mono fun en w' h => ⟨p, h, fun h0 => absurd h0 he⟩
    · exact (lawread_flag most false w B o v b p er p er hB hr fun w1 h1 => rflag_err er w1 B o v b p h1 he).mono fun en w' h => ⟨p, h, fun h0 => absurd h0 he⟩
    · exact (lawread_cnt most 0 w B o v b p er p er hB hr fun w1 h1 => rcnt_err most er w1 B o v b p h1 he).mono fun en w' h => ⟨p, h, fun h0 => absurd h0 he⟩
    · exact (lawread_raw most [] w B o v b p er p er hB hr fun w1 h1 => (rraw_err most er w1 B o v b p h1 he).mono fun en w' h => ⟨_, h, Reads.empty _⟩).mono fun en w' h => ⟨p, h, fun h0 => absurd h0 he⟩

/-- A field is itself. -/
theorem run_neq_field (w : World) (k n : Int) (s : ByteArray) (t : Bool) :
    (binOp .neq 32 (.agg #[.int .i64 k, .int .i64 n, .string s, .bool t]) (.agg #[.int .i64 k, .int .i64 n, .string s, .bool t])).run Try.prog w = .ok (.bool false) w := by
  have hu := Try.underlying32
  go_simp
theorem guard_field : Try.prog.eqGuardType Try.prog.depth 32 = false := by kernel_rfl
theorem Pk.read_five (b : List UInt8) (a most : Int) : Pk.read b a 5 most = Pk.read b a 2 most := by unfold Pk.read; simp
theorem Pk.stp_five (b : List UInt8) (a er most : Int) : Pk.stp b a er 5 most = Pk.stp b a er 2 most := by unfold Pk.stp; rw [Pk.read_five]

theorem Rdr.set {w : World} {B o j i : Nat} {x v : Value} {b : List UInt8} {p : Nat} {er : Int} (hj : j ≠ o) (hv : v.ownBlock ≠ some j) (h : Rdr w B o v b p er) : Rdr (w.setCell ⟨j, i, none⟩ x) B o v b p er :=
  h.beside (grown_set w j i x) hj hv
theorem below_set {B : Nat} {a w : World} {j i : Nat} {x : Value} (hj : B ≤ j) (h : Below B a w) (hB : B ≤ a.heap.size) : Below B a (w.setCell ⟨j, i, none⟩ x) :=
  h.grown (grown_set w j i x) (Nat.le_trans hB h.size) (by rintro k hk; cases hk; exact hj)

/-- A field stored whole into a block of its own: the world behind it has a name. -/
theorem store_whole {ops : Array Oper} {rest : List Oper} {op : Oper} {a : Act} {w : World} {Q : Exit → Act → World → Prop} (hgd : op.guard = none) (x y : Operand) (ho : op.op = .store 32 x y)
    (g : Nat) {a0 a1 a2 a3 c0 c1 c2 c3 : Value} (hx : a.eval x = .pointer (some ⟨g, 0, none⟩)) (hy : a.eval y = .agg #[c0, c1, c2, c3]) (hl : Lies w g 32 #[a0, a1, a2, a3]) (h1 : (#[c0, c1, c2, c3] : Array Value).all (·.oneCell') = true)
    (h : ∀ w', Lies w' g 32 #[c0, c1, c2, c3] → w.grownBy w' (some g) → wpList Try.prog ops Q rest (a.put op.dst undef) w') : wpList Try.prog ops Q (op :: rest) a w := by
  refine wpList_store_mid hgd _ x y ho g 0 #[c0, c1, c2, c3] hx hy (fun j hj => ?_) (by kernel_rfl) h1 (h _ ?_ ?_)
  · rw [Nat.zero_add]
    refine ⟨?_, hl.free j⟩
    match j, hj with
    | 0, _ => rw [hl.cell 0 _ rfl]; rfl
    | 1, _ => rw [hl.cell 1 _ rfl]; rfl
    | 2, _ => rw [hl.cell 2 _ rfl]; rfl
    | 3, _ => rw [hl.cell 3 _ rfl]; rfl
  · exact (((hl.set 0 c0).set 1 c1).set 2 c2).set 3 c3
  · exact grown_on (grown_on (grown_on (grown_set w g 0 c0) (grown_set _ g 1 c1)) (grown_set _ g 2 c2)) (grown_set _ g 3 c3)

/-- The same, read whole. -/
theorem load_whole {ops : Array Oper} {rest : List Oper} {op : Oper} {a : Act} {w : World} {Q : Exit → Act → World → Prop} (hgd : op.guard = none) (x : Operand) (ho : op.op = .load 32 x)
    (g : Nat) {c0 c1 c2 c3 : Value} (hx : a.eval x = .pointer (some ⟨g, 0, none⟩)) (hl : Lies w g 32 #[c0, c1, c2, c3])
    (h : wpList Try.prog ops Q rest (a.put op.dst (.agg #[c0, c1, c2, c3])) w) : wpList Try.prog ops Q (op :: rest) a w :=
  wpList_load_mid hgd _ x ho g 0 hx [c0, c1, c2, c3] _ (fun j v hv => by rw [Nat.zero_add]; exact hl.cell j v (by simpa using hv)) Try.underlying32 rfl (by kernel_rfl) h

/-- The two blocks that the law lays behind its read. -/
theorem field_blocks (w : World) (a0 a1 a2 a3 c0 c1 c2 c3 : Value) : Below w.heap.size w ((w.alloc (.cells #[a0, a1, a2, a3] 32)).alloc (.cells #[c0, c1, c2, c3] 32)) ∧
    Lies ((w.alloc (.cells #[a0, a1, a2, a3] 32)).alloc (.cells #[c0, c1, c2, c3] 32)) w.heap.size 32 #[a0, a1, a2, a3] ∧
    Lies ((w.alloc (.cells #[a0, a1, a2, a3] 32)).alloc (.cells #[c0, c1, c2, c3] 32)) (w.heap.size + 1) 32 #[c0, c1, c2, c3] := by
  refine ⟨((Below.refl _ w).alloc (Nat.le_refl _) _).alloc (by simp) _, (Lies.new w _ _).alloc _, ?_⟩
  have := Lies.new (w.alloc (.cells #[a0, a1, a2, a3] 32)) 32 #[c0, c1, c2, c3]
  simpa using this

/-- A slice of bytes, read in every world behind. -/
theorem Reads.places {w : World} {ao : Option Addr} {n cap : Nat} {l : List UInt8} (h : Reads w (.slice ao n cap) l) (hl : 0 < l.length) :
    ∃ b off, ao = some ⟨b, off, none⟩ ∧ ∀ w', Below w.heap.size w w' → ∀ (j : Nat) (c : UInt8), l[j]? = some c → w'.cell? ⟨b, off + j, none⟩ = some (.int .u8 (c.toNat : Int)) := by
  obtain ⟨b, off, rfl, _⟩ := h.place hl
  refine ⟨b, off, rfl, fun w' hb => ?_⟩
  obtain ⟨b', off', he, hc⟩ := (h.below hb).place hl
  cases he
  exact hc

set_option maxRecDepth 4000 in
set_option maxHeartbeats 3200000 in
theorem packReads_any (v u : Value) (b ks : List UInt8) (most : Int) (w : World) (hv : Reads w v b) (hu : Reads w u ks) : Calls Try.prog 4 #[v, u, .int .i64 most] w (Truly w) := by
  obtain ⟨ao, cap, rfl⟩ := hv.shape
  obtain ⟨bo, dap, rfl⟩ := hu.shape
  have hbl := hv.len.2
  have hul := hu.len.2
  have hgd := guard_field
  rcases (show 500 < b.length ∨ (b.length ≤ 500 ∧ 60 < ks.length) ∨ (b.length ≤ 500 ∧ ks.length ≤ 60) by omega) with h1 | ⟨h1, h2⟩ | ⟨h1, h2⟩
  · have h1' : decide ((500 : Int) < (b.length : Int)) = true := by simp; omega
    go_enter Try.func4, Try.ntmps4
    go_wp2_with fail
    refine (awake_any _).mono ?_
    rintro e w1 ⟨rfl, hb⟩
    go_wp2
    go_ret
    exact ⟨rfl, hb⟩
  · have h1' : decide ((500 : Int) < (b.length : Int)) = false := by simp; omega
    have h2' : decide ((60 : Int) < (ks.length : Int)) = true := by simp; omega
    go_enter Try.func4, Try.ntmps4
    go_wp2_with fail
    refine (awake_any _).mono ?_
    rintro e w1 ⟨rfl, hb⟩
    go_wp2
    go_ret
    exact ⟨rfl, hb⟩
  · have h1' : decide ((500 : Int) < (b.length : Int)) = false := by simp; omega
    have h2' : decide ((60 : Int) < (ks.length : Int)) = false := by simp; omega
    obtain ⟨n, hn⟩ : ∃ n, n = ks.length := ⟨_, rfl⟩
    have hpl : 0 < ks.length → ∃ g off, bo = some ⟨g, off, none⟩ ∧ ∀ w', Below w.heap.size w w' → ∀ (j : Nat) (c : UInt8), ks[j]? = some c → w'.cell? ⟨g, off + j, none⟩ = some (.int .u8 (c.toNat : Int)) := fun h => hu.places h
    rw [← hn] at h2' hul ⊢
    have HN := Lib.hid hn
    have HP := Lib.hid hpl
    clear hn hpl hu h2
    go_enter Try.func4, Try.ntmps4
    go_wp2_with fail
    refine (newreader_any _ _ _ w.heap.size (Nat.le_refl _) hv (by omega)).mono ?_
    rintro e2 w2 ⟨o, rv, rfl, hoo, hr0, hb2⟩
    go_wp2
    go_loopw [8, 9, 10] (fun x y z wr => ∃ (i p : Nat) (a er : Int), x = .int .i64 a ∧ y = .int .i64 er ∧ z = .int .i64 (i : Int) ∧ i ≤ n ∧ Rdr wr w.heap.size o rv b p er ∧ (er = 0 → a = p) ∧ Below w.heap.size w wr) (fun _ _ z _ => n - (intOf z).toNat)
    case atStart => exact ⟨0, 0, 0, 0, rfl, rfl, rfl, by omega, hr0, fun _ => rfl, hb2⟩
    case round =>
      clear hr0 hb2
      obtain ⟨i, p, a, er, rfl, rfl, rfl, hi, hr, ha, hb⟩ := hrel
      by_cases hlt : i < n
      · obtain ⟨c, hc⟩ : ∃ c, ks[i]? = some c := ⟨_, List.getElem?_eq_getElem (by have := HN.out; omega)⟩
        obtain ⟨g, off, rfl, hcell⟩ := HP.out (by have := HN.out; omega)
        have hcc := hcell _ hb i c hc
        clear hcell
        have hu8 : (c.toNat : Int) < 256 := by have := c.toNat_lt; omega
        obtain ⟨k, hk⟩ : ∃ k : Int, (c.toNat : Int) % 5 + 1 = k := ⟨_, rfl⟩
        have hk0 : 1 ≤ k := by omega
        have hk1 : k ≤ 5 := by omega
        obtain ⟨F, A2, E2, hst⟩ : ∃ F A2 E2, Pk.stp b a er k most = (F, A2, E2) := ⟨_, _, _, rfl⟩
        have hcall : ∀ w', w.heap.size ≤ w'.heap.size → Rdr w' w.heap.size o rv b p er → Calls Try.prog 13 #[.pointer (some ⟨o, 0, none⟩), .int .i64 k, .int .i64 most] w' fun en w2 => ∃ q : Nat, Field1 w' w.heap.size o rv b q E2 (Pk.fld k F) en w2 ∧ (E2 = 0 → A2 = q) := by
          intro w' hB hr'
          have := lawread_any k most a w' w.heap.size o rv b p er hB hr' hk0 hk1 ha
          rw [hst] at this
          exact this
        have hin := hr.inn
        have href : er = 0 → ∀ w', Below w.heap.size w w' → Calls Try.prog 14 #[.slice ao b.length cap, .int .i64 a, .int .i64 (Pk.kk k), .int .i64 most] w' (Read3 w' (F, A2, E2)) := by
          intro h0 w' hb'
          subst h0
          obtain rfl := ha rfl
          have := refRead_any _ b p (Pk.kk k) most w' (hv.below hb') hin (by omega)
          have he : Pk.read b p (Pk.kk k) most = (F, A2, E2) := by
            rw [← hst, show Pk.stp b p 0 k most = Pk.read b p k most by unfold Pk.stp; simp]
            unfold Pk.kk
            split
            · rename_i h5; subst h5; exact (Pk.read_five b p most).symm
            · rfl
          rw [he] at this
          exact this
        have hers : er ≠ 0 → F = Pk.zero ∧ A2 = a ∧ E2 = er := by
          intro h0
          unfold Pk.stp at hst
          rw [if_pos h0] at hst
          simp only [Prod.mk.injEq] at hst
          exact ⟨hst.1.symm, hst.2.1.symm, hst.2.2.symm⟩
        obtain ⟨fk, fn, fs, fi⟩ := F
        have hob : w.heap.size ≤ o := hr.base
        have hsz := hb.size
        have hro := World.ownsRow.lt hr.owns
        have hol := hr.lies.lt
        have HST := Lib.hid href
        have HERS := Lib.hid hers
        have HCALL := Lib.hid hcall
        have HRO := Lib.hid hro
        clear hst href hers hcall hro
        have hfc : ∀ kk, kk = Pk.kk k → (Pk.fld k ⟨fk, fn, fs, fi⟩).cells.toArray = #[.int .i64 kk, .int .i64 fn, .string ⟨fs.toArray⟩, .bool fi] := fun kk h => by subst h; rfl
        obtain ⟨kk, hkk⟩ : ∃ kk, kk = Pk.kk k := ⟨_, rfl⟩
        have hfc := hfc kk hkk
        have HFC := Lib.hid hfc
        have HKK := Lib.hid hkk
        obtain ⟨S, hS⟩ : ∃ S : ByteArray, S = ⟨fs.toArray⟩ := ⟨_, rfl⟩
        have HS := Lib.hid hS
        clear hfc hkk hS
        have hcase : k = 5 ∧ kk = 2 ∨ k ≠ 5 ∧ kk = k := by have := HKK.out; unfold Pk.kk at this; split at this <;> omega
        by_cases he : er = 0
        · subst he
          obtain rfl := ha rfl
          clear ha
          have hRR := HST.out rfl
          rw [← HKK.out] at hRR
          have HRR := Lib.hid hRR
          clear hRR HST HERS
          rcases hcase with ⟨rfl, rfl⟩ | ⟨hk5, rfl⟩
          · -- a slice of bytes: the law calls it a text
            go_wp2_with fail
            refine (HCALL.out _ hsz hr).mono ?_
            rintro e3 w3 ⟨q, ⟨rfl, hr3, hb3⟩, hq⟩
            rw [HFC.out, ← HS.out]
            have hB3 := hb.trans hb3
            have hz3 := hb3.size
            have hz3' : w.heap.size ≤ w3.heap.size := hB3.size
            go_wp2_with fail
            obtain ⟨hbA, kf, kw⟩ := field_blocks w3 (.int .i64 2) (.int .i64 fn) (.string S) (.bool fi) (.int .i64 0) (.int .i64 0) (.string ⟨#[]⟩) (.bool false)
            have hr5 := hr3.kept hbA
            have hB5 := hB3.trans (hbA.mono hz3')
            refine (HRR.out _ hB5).mono ?_
            rintro e4 w6 ⟨rfl, hb6⟩
            have kf6 := kf.below hb6 kf.lt
            have kw6 := kw.below hb6 kw.lt
            have hr6 := hr5.kept hb6
            have hB6 := hB5.trans (hb6.mono hB5.size)
            have hz6 := kw6.lt
            have hol3 : o < w3.heap.size := by omega
            have hv3 : ∀ j, w3.heap.size ≤ j → rv.ownBlock ≠ some j := fun j hj h => by have := (HRO.out j h).2; omega
            have HV3 := Lib.hid hv3
            have HR6 := Lib.hid hr6
            have HB6 := Lib.hid hB6
            have HQ := Lib.hid hq
            have hneq := fun W => run_neq_field W 2 fn S fi
            have hone : (#[.int .i64 fk, .int .i64 fn, .string S, .bool fi] : Array Value).all (·.oneCell') = true := by simp [Value.oneCell']
            have HKF := Lib.hid kf6; have HKW := Lib.hid kw6
            clear kf kw kf6 kw6 hb6 hr5 hB5 hbA hr6 hB6 hv3 hq hr3 hb3
            dsimp only [Fld.cells]
            rw [← HS.out]
            go_wp2_with (first
              | (refine store_whole (by rfl) _ _ (by rfl) (w3.heap.size + 1) (by rfl) (by rfl) (HKW.out.alloc _) hone ?_; intro w7 k7 g7
                 have c7 := k7.cell 0 (.int .i64 fk) rfl
                 have z7 := k7.free 0
                 have k8 : Lies (w7.setCell ⟨w3.heap.size + 1, 0, none⟩ (.int .i64 2)) (w3.heap.size + 1) 32 #[.int .i64 2, .int .i64 fn, .string S, .bool fi] := k7.set 0 (.int .i64 2)
                 have j8 : Lies (w7.setCell ⟨w3.heap.size + 1, 0, none⟩ (.int .i64 2)) w3.heap.size 32 #[.int .i64 2, .int .i64 fn, .string S, .bool fi] := ((HKF.out.alloc _).kept g7 (by simp)).kept (grown_set _ _ _ _) (by simp)
                 have hr8 : Rdr (w7.setCell ⟨w3.heap.size + 1, 0, none⟩ (.int .i64 2)) w.heap.size o rv b q E2 := Rdr.set (by omega) (HV3.out _ (by omega)) (((HR6.out.kept ((Below.refl _ _).alloc (Nat.le_refl _) _)).beside g7 (by omega) (HV3.out _ (by omega))))
                 have hB8 : Below w.heap.size w (w7.setCell ⟨w3.heap.size + 1, 0, none⟩ (.int .i64 2)) := below_set (by omega) ((HB6.out.alloc HB6.out.size _).grown g7 (by have := HB6.out.size; simp; omega) (by rintro k hk; cases hk; omega)) (Nat.le_refl _)
                 have K8 := Lib.hid k8; have J8 := Lib.hid j8; have HR8 := Lib.hid hr8; have HB8 := Lib.hid hB8
                 clear k8 j8 hr8 hB8 k7 g7)
              | (refine load_whole (by rfl) _ (by rfl) w3.heap.size (by rfl) J8.out ?_)
              | (refine load_whole (by rfl) _ (by rfl) (w3.heap.size + 1) (by rfl) K8.out ?_)
              | (go_at_call 15; refine (rerr_any _ w.heap.size o rv b q E2 HR8.out).mono ?_; rintro e5 w8 ⟨rfl, rfl⟩))
            go_roundw
            case rel => exact ⟨i + 1, q, A2, E2, rfl, rfl, by go_num, by omega, HR8.out, HQ.out, HB8.out⟩
            case measure => simp [intOf]; omega
          · -- any other kind
            go_wp2_with fail
            refine (HCALL.out _ hsz hr).mono ?_
            rintro e3 w3 ⟨q, ⟨rfl, hr3, hb3⟩, hq⟩
            rw [HFC.out, ← HS.out]
            have hB3 := hb.trans hb3
            have hz3 := hb3.size
            have hz3' : w.heap.size ≤ w3.heap.size := hB3.size
            go_wp2_with fail
            obtain ⟨hbA, kf, kw⟩ := field_blocks w3 (.int .i64 kk) (.int .i64 fn) (.string S) (.bool fi) (.int .i64 0) (.int .i64 0) (.string ⟨#[]⟩) (.bool false)
            have hr5 := hr3.kept hbA
            have hB5 := hB3.trans (hbA.mono hz3')
            refine (HRR.out _ hB5).mono ?_
            rintro e4 w6 ⟨rfl, hb6⟩
            have kf6 := kf.below hb6 kf.lt
            have kw6 := kw.below hb6 kw.lt
            have hr6 := hr5.kept hb6
            have hB6 := hB5.trans (hb6.mono hB5.size)
            have hz6 := kw6.lt
            have hol3 : o < w3.heap.size := by omega
            have hv3 : ∀ j, w3.heap.size ≤ j → rv.ownBlock ≠ some j := fun j hj h => by have := (HRO.out j h).2; omega
            have HV3 := Lib.hid hv3
            have HR6 := Lib.hid hr6
            have HB6 := Lib.hid hB6
            have HQ := Lib.hid hq
            have hneq := fun W => run_neq_field W kk fn S fi
            have hone : (#[.int .i64 fk, .int .i64 fn, .string S, .bool fi] : Array Value).all (·.oneCell') = true := by simp [Value.oneCell']
            have HKF := Lib.hid kf6; have HKW := Lib.hid kw6
            clear kf kw kf6 kw6 hb6 hr5 hB5 hbA hr6 hB6 hv3 hq hr3 hb3
            dsimp only [Fld.cells]
            rw [← HS.out]
            go_wp2_with (first
              | (refine store_whole (by rfl) _ _ (by rfl) (w3.heap.size + 1) (by rfl) (by rfl) (HKW.out.alloc _) hone ?_; intro w7 k7 g7
                 have c7 := k7.cell 0 (.int .i64 fk) rfl
                 have z7 := k7.free 0
                 have k8 : Lies (w7.setCell ⟨w3.heap.size + 1, 0, none⟩ (.int .i64 kk)) (w3.heap.size + 1) 32 #[.int .i64 kk, .int .i64 fn, .string S, .bool fi] := k7.set 0 (.int .i64 kk)
                 have j8 : Lies (w7.setCell ⟨w3.heap.size + 1, 0, none⟩ (.int .i64 kk)) w3.heap.size 32 #[.int .i64 kk, .int .i64 fn, .string S, .bool fi] := ((HKF.out.alloc _).kept g7 (by simp)).kept (grown_set _ _ _ _) (by simp)
                 have hr8 : Rdr (w7.setCell ⟨w3.heap.size + 1, 0, none⟩ (.int .i64 kk)) w.heap.size o rv b q E2 := Rdr.set (by omega) (HV3.out _ (by omega)) (((HR6.out.kept ((Below.refl _ _).alloc (Nat.le_refl _) _)).beside g7 (by omega) (HV3.out _ (by omega))))
                 have hB8 : Below w.heap.size w (w7.setCell ⟨w3.heap.size + 1, 0, none⟩ (.int .i64 kk)) := below_set (by omega) ((HB6.out.alloc HB6.out.size _).grown g7 (by have := HB6.out.size; simp; omega) (by rintro k hk; cases hk; omega)) (Nat.le_refl _)
                 have K8 := Lib.hid k8; have J8 := Lib.hid j8; have HR8 := Lib.hid hr8; have HB8 := Lib.hid hB8
                 clear k8 j8 hr8 hB8 k7 g7)
              | (refine load_whole (by rfl) _ (by rfl) w3.heap.size (by rfl) J8.out ?_)
              | (refine load_whole (by rfl) _ (by rfl) (w3.heap.size + 1) (by rfl) K8.out ?_)
              | (go_at_call 15; refine (rerr_any _ w.heap.size o rv b q E2 HR8.out).mono ?_; rintro e5 w8 ⟨rfl, rfl⟩))
            go_roundw
            case rel => exact ⟨i + 1, q, A2, E2, rfl, rfl, by go_num, by omega, HR8.out, HQ.out, HB8.out⟩
            case measure => simp [intOf]; omega
        · obtain ⟨hF, rfl, rfl⟩ := HERS.out he
          simp only [Pk.zero, Fld.mk.injEq] at hF
          obtain ⟨rfl, rfl, rfl, rfl⟩ := hF
          clear HERS HST ha
          rcases hcase with ⟨rfl, rfl⟩ | ⟨hk5, rfl⟩
          · -- a slice of bytes: the law calls it a text
            go_wp2_with fail
            refine (HCALL.out _ hsz hr).mono ?_
            rintro e3 w3 ⟨q, ⟨rfl, hr3, hb3⟩, hq⟩
            rw [HFC.out, ← HS.out]
            have hB3 := hb.trans hb3
            have hz3' : w.heap.size ≤ w3.heap.size := hB3.size
            have hS0 : S = ⟨#[]⟩ := HS.out
            subst hS0
            obtain ⟨hbA, kf, kw⟩ := field_blocks w3 (.int .i64 2) (.int .i64 0) (.string ⟨#[]⟩) (.bool false) (.int .i64 2) (.int .i64 0) (.string ⟨#[]⟩) (.bool false)
            have hneq := fun W => run_neq_field W 2 0 ⟨#[]⟩ false
            have hr8 := hr3.kept hbA
            have hB8 := hB3.trans (hbA.mono hz3')
            have K8 := Lib.hid kw; have J8 := Lib.hid kf; have HR8 := Lib.hid hr8; have HB8 := Lib.hid hB8; have HQ := Lib.hid hq
            clear hbA kf kw hr8 hB8 hq hr3 hb3
            go_wp2_with (first
              | (refine load_whole (by rfl) _ (by rfl) w3.heap.size (by rfl) J8.out ?_)
              | (refine load_whole (by rfl) _ (by rfl) (w3.heap.size + 1) (by rfl) K8.out ?_)
              | (go_at_call 15; refine (rerr_any _ w.heap.size o rv b q _ HR8.out).mono ?_; rintro e5 w8 ⟨rfl, rfl⟩))
            go_roundw
            case rel => exact ⟨i + 1, q, _, _, rfl, rfl, by go_num, by omega, HR8.out, HQ.out, HB8.out⟩
            case measure => simp [intOf]; omega
          · -- any other kind
            go_wp2_with fail
            refine (HCALL.out _ hsz hr).mono ?_
            rintro e3 w3 ⟨q, ⟨rfl, hr3, hb3⟩, hq⟩
            rw [HFC.out, ← HS.out]
            have hB3 := hb.trans hb3
            have hz3' : w.heap.size ≤ w3.heap.size := hB3.size
            have hS0 : S = ⟨#[]⟩ := HS.out
            subst hS0
            obtain ⟨hbA, kf, kw⟩ := field_blocks w3 (.int .i64 kk) (.int .i64 0) (.string ⟨#[]⟩) (.bool false) (.int .i64 kk) (.int .i64 0) (.string ⟨#[]⟩) (.bool false)
            have hneq := fun W => run_neq_field W kk 0 ⟨#[]⟩ false
            have hr8 := hr3.kept hbA
            have hB8 := hB3.trans (hbA.mono hz3')
            have K8 := Lib.hid kw; have J8 := Lib.hid kf; have HR8 := Lib.hid hr8; have HB8 := Lib.hid hB8; have HQ := Lib.hid hq
            clear hbA kf kw hr8 hB8 hq hr3 hb3
            go_wp2_with (first
              | (refine load_whole (by rfl) _ (by rfl) w3.heap.size (by rfl) J8.out ?_)
              | (refine load_whole (by rfl) _ (by rfl) (w3.heap.size + 1) (by rfl) K8.out ?_)
              | (go_at_call 15; refine (rerr_any _ w.heap.size o rv b q _ HR8.out).mono ?_; rintro e5 w8 ⟨rfl, rfl⟩))
            go_roundw
            case rel => exact ⟨i + 1, q, _, _, rfl, rfl, by go_num, by omega, HR8.out, HQ.out, HB8.out⟩
            case measure => simp [intOf]; omega
      · obtain rfl : i = n := by omega
        clear HN HP
        have hsz := hb.size
        have hdo : ∀ D, Pk.done b p er = D → Calls Try.prog 16 #[.pointer (some ⟨o, 0, none⟩)] wr fun en w' => en = .returned (.int .i64 D) ∧ ∃ q, w' = wr.drewN q := by
          intro D hD
          have := rdone_any wr w.heap.size o rv b p er hr
          rw [hD] at this
          exact this
        have HB := Lib.hid hb
        have hin := hr.inn
        by_cases he : er = 0
        · subst he
          obtain rfl := ha rfl
          clear ha
          by_cases hp : p < b.length
          · have hd := hdo 3 (by unfold Pk.done; simp [hp])
            have HD := Lib.hid hd
            have hp' : decide ((p : Int) < (b.length : Int)) = true := by simpa using hp
            clear hdo hd
            go_wp2_with fail
            refine HD.out.mono ?_
            rintro e5 w5 ⟨rfl, q, rfl⟩
            go_wp2_with fail
            refine (awake_any _).mono ?_
            rintro e6 w6 ⟨rfl, hb6⟩
            go_wp2
            go_ret
            have hb5 := HB.out.trans ((drawn wr q).mono hsz)
            exact ⟨rfl, hb5.trans (hb6.mono hb5.size)⟩
          · have hd := hdo 0 (by unfold Pk.done; simp [hp])
            have HD := Lib.hid hd
            have hp' : decide ((p : Int) < (b.length : Int)) = false := by simpa using hp
            clear hdo hd
            go_wp2_with fail
            refine HD.out.mono ?_
            rintro e5 w5 ⟨rfl, q, rfl⟩
            go_wp2_with fail
            refine (awake_any _).mono ?_
            rintro e6 w6 ⟨rfl, hb6⟩
            go_wp2
            go_ret
            have hb5 := HB.out.trans ((drawn wr q).mono hsz)
            exact ⟨rfl, hb5.trans (hb6.mono hb5.size)⟩
        · have hd := hdo er (by unfold Pk.done; simp [he])
          have HD := Lib.hid hd
          clear hdo hd ha
          go_wp2_with fail
          refine HD.out.mono ?_
          rintro e5 w5 ⟨rfl, q, rfl⟩
          go_wp2_with fail
          refine (awake_any _).mono ?_
          rintro e6 w6 ⟨rfl, hb6⟩
          go_wp2
          go_ret
          have hb5 := HB.out.trans ((drawn wr q).mono hsz)
          exact ⟨rfl, hb5.trans (hb6.mono hb5.size)⟩
end Go.Proofs.Ytpdblmicgpgiaaa
