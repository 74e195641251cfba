/- Configurations: the calls that only look at numbers: areMembers, the document's In and Ints, the comparison that is searched by. -/
import Derived.Test.YtimlfiomoalieaaCfMem
namespace Go.Proofs.Ytimlfiomoalieaa
open Go.RowKit

theorem Cf.drop_at {α : Type} {l : List α} {k : Nat} {x : α} (h : l[k]? = some x) : l.drop k = x :: l.drop (k + 1) := by
  obtain ⟨q, e⟩ := List.getElem?_eq_some_iff.1 h
  rw [List.drop_eq_getElem_cons q, e]

set_option maxRecDepth 4000 in
theorem areMembers_any (v : Value) (l : List Int) (w : World) (hv : ReadsI w v l) : Calls Try.prog 22 #[v] w (Says w (.bool (Cf.mems l))) := by
  obtain ⟨ao, cap, rfl, hc1, hc2⟩ := ReadsI.shape hv
  have HP := Lib.hid (fun h => ReadsI.places hv h)
  obtain ⟨n, hn⟩ : ∃ n, n = l.length := ⟨_, rfl⟩
  rw [← hn] at hc1 HP ⊢
  have HN := Lib.hid hn
  have hnb : n < 9223372036854775808 := by omega
  clear hv hn
  go_enter Try.func22, Try.ntmps22
  go_wp2
  go_loopw [3, 8] (fun y i wr => ∃ (b : Int) (k : Nat), y = .int .i64 b ∧ i = .int .i64 (k : Int) ∧ k ≤ n ∧ Hid (Cf.asc 0 l = Cf.asc b (l.drop k)) ∧ wr = w) (fun _ i _ => n - (intOf i).toNat)
  case atStart => exact ⟨0, 0, rfl, rfl, by omega, by show _ = _; rfl, rfl⟩
  case round =>
    obtain ⟨b, k, rfl, rfl, hk, HI, rfl⟩ := hrel
    by_cases hlt : k < n
    · obtain ⟨x, hx⟩ : ∃ x, l[k]? = some x := ⟨_, List.getElem?_eq_getElem (by have := HN.out; omega)⟩
      obtain ⟨g, off, rfl, _, hc⟩ := HP.out (by have := HN.out; omega)
      have hc0 := hc wr (Below.refl _ _) k x hx
      have HD : Hid (Cf.asc b (l.drop k) = (decide (b < x) && decide (x ≤ 9) && Cf.asc x (l.drop (k + 1)))) := by show _ = _; rw [Cf.drop_at hx]; rfl
      have HL : Hid (0 < l.length) := by have := HN.out; show _ < _; omega
      clear hc hx
      by_cases h1 : b < x
      · have d1 : decide (x ≤ b) = false := decide_eq_false (by omega)
        have d1' : decide (b < x) = true := decide_eq_true h1
        by_cases h2 : x ≤ 9
        · have d2 : decide (9 < x) = false := decide_eq_false (by omega)
          have d2' : decide (x ≤ 9) = true := decide_eq_true h2
          have HD' : Hid (Cf.asc 0 l = Cf.asc x (l.drop (k + 1))) := by show _ = _; rw [HI.out, HD.out, d1', d2']; rfl
          go_wp2
          go_roundw
          case rel => exact ⟨x, k + 1, rfl, by go_num, by omega, HD'.out, (by first | rfl | trivial)⟩
          case measure => simp [intOf]; omega
        · have d2 : decide (9 < x) = true := decide_eq_true (by omega)
          have d2' : decide (x ≤ 9) = false := decide_eq_false h2
          go_wp2
          go_ret
          exact ⟨ret_bool (by rw [Cf.mems, HI.out, HD.out, d1', d2']; simp), rfl⟩
      · have d1 : decide (x ≤ b) = true := decide_eq_true (by omega)
        have d1' : decide (b < x) = false := decide_eq_false h1
        go_wp2
        go_ret
        exact ⟨ret_bool (by rw [Cf.mems, HI.out, HD.out, d1']; simp), rfl⟩
    · obtain rfl : k = n := by omega
      have HA : Hid (Cf.mems l = decide (0 < k)) := by
        show _ = _
        rw [Cf.mems, HI.out, HN.out, List.drop_of_length_le (by omega)]
        simp [Cf.asc]
      by_cases h0 : 0 < k
      · have d0 : decide (0 < k) = true := decide_eq_true h0
        go_wp2
        go_ret
        exact ⟨ret_bool (by rw [HA.out]; simp <;> omega), rfl⟩
      · have d0 : decide (0 < k) = false := decide_eq_false h0
        go_wp2
        go_ret
        exact ⟨ret_bool (by rw [HA.out]; simp <;> omega), rfl⟩

set_option maxRecDepth 4000 in
theorem in_any (v : Value) (l : List Int) (x : Int) (w : World) (hv : ReadsI w v l) : Calls Try.prog 15 #[v, .int .i64 x] w (Says w (.bool (l.contains x))) := by
  obtain ⟨ao, cap, rfl, hc1, hc2⟩ := ReadsI.shape hv
  have HP := Lib.hid (fun h => ReadsI.places hv h)
  obtain ⟨n, hn⟩ : ∃ n, n = l.length := ⟨_, rfl⟩
  rw [← hn] at hc1 HP ⊢
  have HN := Lib.hid hn
  have hnb : n < 9223372036854775808 := by omega
  clear hv hn
  go_enter Try.func15, Try.ntmps15
  go_wp2
  go_loopw [5] (fun i wr => ∃ k : Nat, i = .int .i64 (k : Int) ∧ k ≤ n ∧ Hid (l.contains x = (l.drop k).contains x) ∧ wr = w) (fun i _ => n - (intOf i).toNat)
  case atStart => exact ⟨0, rfl, by omega, by show _ = _; rfl, rfl⟩
  case round =>
    obtain ⟨k, rfl, hk, HI, rfl⟩ := hrel
    by_cases hlt : k < n
    · obtain ⟨y, hy⟩ : ∃ y, l[k]? = some y := ⟨_, List.getElem?_eq_getElem (by have := HN.out; omega)⟩
      obtain ⟨g, off, rfl, _, hc⟩ := HP.out (by have := HN.out; omega)
      have hc0 := hc wr (Below.refl _ _) k y hy
      have HD : Hid ((l.drop k).contains x = (x == y || (l.drop (k + 1)).contains x)) := by show _ = _; rw [Cf.drop_at hy]; rfl
      clear hc hy
      by_cases he : y = x
      · subst he
        go_wp2
        go_ret
        exact ⟨ret_bool (by rw [HI.out, HD.out]; simp), rfl⟩
      · have he' : (y == x) = false := by simpa using he
        have hd : Hid (l.contains x = (l.drop (k + 1)).contains x) := by show _ = _; rw [HI.out, HD.out, show (x == y) = false by simp; exact fun h => he h.symm]; rfl
        go_wp2
        go_roundw
        case rel => exact ⟨k + 1, by go_num, by omega, hd.out, (by first | rfl | trivial)⟩
        case measure => simp [intOf]; omega
    · obtain rfl : k = n := by omega
      go_wp2
      go_ret
      exact ⟨ret_bool (by rw [HI.out, HN.out, List.drop_of_length_le (by omega)]; rfl), rfl⟩

set_option maxRecDepth 4000 in
theorem ints_any (v u : Value) (l m : List Int) (w : World) (hv : ReadsI w v l) (hu : ReadsI w u m) : Calls Try.prog 12 #[v, u] w (Looks w (.bool (decide (l = m)))) := by
  obtain ⟨ao, cap, rfl, hc1, hc2⟩ := ReadsI.shape hv
  obtain ⟨bo, dap, rfl, hd1, hd2⟩ := ReadsI.shape hu
  by_cases hlen : l.length = m.length
  · have HP := Lib.hid (fun h => ReadsI.places hv h)
    have HQ := Lib.hid (fun h => ReadsI.places hu h)
    obtain ⟨n, hn⟩ : ∃ n, n = l.length := ⟨_, rfl⟩
    have hm : n = m.length := by omega
    rw [← hn] at hc1 HP ⊢
    rw [← hm] at hd1 HQ ⊢
    have HN := Lib.hid hn; have HM := Lib.hid hm
    have hnb : n < 9223372036854775808 := by omega
    clear hv hu hn hm hlen
    go_enter Try.func12, Try.ntmps12
    go_wp2
    go_loopw [5] (fun i wr => ∃ k : Nat, i = .int .i64 (k : Int) ∧ k ≤ n ∧ Hid (decide (l = m) = decide (l.drop k = m.drop k)) ∧ Below w.heap.size w wr) (fun i _ => n - (intOf i).toNat)
    case atStart => exact ⟨0, rfl, by omega, by show _ = _; rfl, Below.refl _ _⟩
    case round =>
      obtain ⟨k, rfl, hk, HI, hB⟩ := hrel
      have HB := Lib.hid hB
      clear hB
      by_cases hlt : k < n
      · obtain ⟨x, hx⟩ : ∃ x, l[k]? = some x := ⟨_, List.getElem?_eq_getElem (by have := HN.out; omega)⟩
        obtain ⟨y, hy⟩ : ∃ y, m[k]? = some y := ⟨_, List.getElem?_eq_getElem (by have := HM.out; omega)⟩
        obtain ⟨g, off, rfl, _, hc⟩ := HP.out (by have := HN.out; omega)
        obtain ⟨g', off', rfl, _, hd⟩ := HQ.out (by have := HM.out; omega)
        have hc0 := hc wr HB.out k x hx
        have hd0 := hd wr HB.out k y hy
        have HD : Hid ((l.drop k = m.drop k) ↔ (x = y ∧ l.drop (k + 1) = m.drop (k + 1))) := by show _ ↔ _; rw [Cf.drop_at hx, Cf.drop_at hy, List.cons.injEq]
        clear hc hd hx hy
        by_cases he : x = y
        · subst he
          have hI : Hid (decide (l = m) = decide (l.drop (k + 1) = m.drop (k + 1))) := by show _ = _; rw [HI.out]; exact decide_eq_decide.2 (HD.out.trans (by simp))
          go_wp2
          go_region
          go_wp2
          go_roundw
          case rel => exact ⟨k + 1, by go_num, by omega, hI.out, on HB.out (drawn _ _)⟩
          case measure => simp [intOf]; omega
        · have he' : (x != y) = true := by simpa using he
          go_wp2
          go_region
          go_wp2
          go_ret
          exact ⟨ret_bool (by rw [HI.out]; exact (decide_eq_false (fun h => he (HD.out.1 h).1)).symm), on HB.out (drawn _ _)⟩
      · obtain rfl : k = n := by omega
        go_wp2
        go_ret
        exact ⟨ret_bool (by rw [HI.out, List.drop_of_length_le (by have := HN.out; omega), List.drop_of_length_le (by have := HM.out; omega)]; simp), HB.out⟩
  · have h2 : ((l.length : Int) != (m.length : Int)) = true := by simp; omega
    go_enter Try.func12, Try.ntmps12
    go_wp2
    go_ret
    exact ⟨ret_bool (decide_eq_false (fun h => hlen (by rw [h]))).symm, Below.refl _ _⟩

theorem isNaN_any (x : Int) (w : World) : Calls Try.prog 40 #[.int .i64 x] w (Says w (.bool false)) := by
  have h : (x != x) = false := by simp
  go_enter Try.func40, Try.ntmps40
  go_wp2
  go_ret
  exact ⟨ret_bool (by simp), rfl⟩
/-- cmp.Compare: -1, 0, 1. -/
def Cf.cmp (x y : Int) : Int := if x < y then -1 else if y < x then 1 else 0
theorem cmp_any (x y : Int) (w : World) : Calls Try.prog 33 #[.int .i64 x, .int .i64 y] w (Says w (.int .i64 (Cf.cmp x y))) := by
  go_enter Try.func33, Try.ntmps33
  by_cases h1 : x < y
  · go_wp2_with (go_at_call 40; refine (isNaN_any _ _).mono ?_; rintro e w' ⟨rfl, rfl⟩)
    go_ret
    exact ⟨ret_int (by unfold Cf.cmp; rw [if_pos (by omega)]), rfl⟩
  · by_cases h2 : y < x
    · go_wp2_with (go_at_call 40; refine (isNaN_any _ _).mono ?_; rintro e w' ⟨rfl, rfl⟩)
      go_ret
      exact ⟨ret_int (by unfold Cf.cmp; rw [if_neg (by omega), if_pos (by omega)]), rfl⟩
    · go_wp2_with (go_at_call 40; refine (isNaN_any _ _).mono ?_; rintro e w' ⟨rfl, rfl⟩)
      go_ret
      exact ⟨ret_int (by unfold Cf.cmp; rw [if_neg (by omega), if_neg (by omega)]), rfl⟩
/-- What is searched by: the index that a configuration begins at, against the one that is sought. -/
theorem search_any (f x : Int) (u : Value) (w : World) : Calls Try.prog 32 #[.agg (Cf.cells f u), .int .i64 x] w (Looks w (.int .i64 (Cf.cmp f x))) := by
  obtain ⟨w1, e1, hl1, hB1, hz1⟩ := box_cnf w f u
  obtain ⟨p0, p1⟩ := Cnf.both hl1
  have HB1 := Lib.hid hB1
  clear hl1 hB1 hz1
  go_enter Try.func32, Try.ntmps32
  go_wp2_with (go_at_call 33; refine (cmp_any _ _ _).mono ?_; rintro e w' ⟨rfl, rfl⟩)
  go_ret
  exact ⟨rfl, HB1.out⟩

end Go.Proofs.Ytimlfiomoalieaa
