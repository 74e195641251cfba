/- Quoted strings: split. -/
import Derived.Test.YtgnjbbedeeiemaaQtStrs
namespace Go.Proofs.Ytgnjbbedeeiemaa
open Go.RowKit

/-- A row of strings that is made. -/
def MakesS (w : World) (E : TypeId) (ls : List (List UInt8)) (e : Ending) (w' : World) : Prop :=
  ∃ v us, e = .returned v ∧ OwnsS w' w.heap.size E v us ∧ us.map (·.data.toList) = ls ∧ Below w.heap.size w w'

theorem run_rest (s : ByteArray) (q : Nat) (h : q ≤ s.size) (w : World) :
    (Instr.slice 9 (.string s) (some (.int .i64 (q : Int))) none none).run Try.prog w = .ok (.string (s.extract q s.size)) w := by
  have := run_slice_string_l (P := Try.prog) w 9 s Try.underlying9 .i64 (q : Int) (by omega) (by omega)
  rw [Int.toNat_natCast] at this
  exact this

set_option maxRecDepth 4000 in
set_option maxHeartbeats 6400000 in
theorem split_any (s : ByteArray) (w : World) (hs : s.size ≤ 200000000000) :
    Calls Try.prog 23 #[.string s] w (MakesS w 9 (Qt.split s.data.toList)) := by
  obtain ⟨B, hB⟩ : ∃ B, B = w.heap.size := ⟨_, rfl⟩
  have h0 : It w.heap.size w (w.iter s 0) B s 0 := hB ▸ It.new s (Below.refl _ w) (Nat.le_refl _)
  go_enter Try.func23, Try.ntmps23
  go_wp2
  rw [← hB]
  clear hB
  go_loopw [3, 4, 5, 6, 7, 8, 15, 17, 21, 34] (fun v st qd es _ _ _ _ _ _ wr => ∃ (q p : Nat) (bq be : Bool) (ls : List ByteArray), st = .int .i64 (p : Int) ∧ qd = .bool bq ∧ es = .bool be ∧ p ≤ q ∧ q ≤ s.size ∧ It w.heap.size w wr B s q ∧ OwnsS wr w.heap.size 9 v ls ∧ ls.length ≤ q ∧ Hid (Qt.spAt s q p bq be (ls.map (·.data.toList)) = Qt.split s.data.toList)) (fun _ _ _ _ _ _ _ _ _ _ wr => s.size - stands B wr)
  case atStart => exact ⟨0, 0, false, false, [], rfl, rfl, rfl, by omega, by omega, h0, OwnsS.empty _ _ _, by simp, Qt.spAt_start s⟩
  case round =>
    clear h0
    obtain ⟨q, p, bq, be, ls, rfl, rfl, rfl, hpq, hq, hit, ho, hlen, HQ⟩ := hrel
    obtain ⟨ao, cap, rfl⟩ := ho.reads.shape
    by_cases hlt : q < s.size
    · have hnx := fun ty => next_at (P := Try.prog) hit.iter hlt ty
      have hit2 := hit.set (q + (Utf8.decode s q).2)
      have ho2 : OwnsS (iterSet wr B s (q + (Utf8.decode s q).2)) w.heap.size 9 _ ls := rowNext ho hit.iter
      have hw1 := Rn.width_pos s q
      have hw2 := Rn.width_le s q hlt
      have hbe := hit2.below
      have hsz := hbe.size
      obtain ⟨r, hr⟩ : ∃ r, r = (Utf8.decode s q).1 := ⟨_, rfl⟩
      obtain ⟨d, hd⟩ : ∃ d, d = (Utf8.decode s q).2 := ⟨_, rfl⟩
      have one : r < 128 → d = 1 ∧ Rn.byteAt s q = r := by
        intro h
        by_cases h128 : Rn.byteAt s q < 128
        · rw [Rn.low_one s q h128] at hr hd; exact ⟨hd, hr.symm⟩
        · have := Rn.high_high s q (by omega); omega
      have hes := fun l => Qt.spAt_es s q p bq l hpq hlt
      have hrest := fun l => Qt.spAt_rest s q p bq l hpq hlt
      rw [← hr, ← hd] at hnx
      rw [← hd] at hit2 ho2 hw1 hw2 hbe hsz
      rw [← hd] at hes
      rw [← hr, ← hd] at hrest
      clear hr hd ho
      cases be with
      | true =>
        have HS : Hid (Qt.spAt s (q + d) p bq false (ls.map (·.data.toList)) = Qt.split s.data.toList) := by show _ = _; rw [← HQ.out, hes]
        clear hes hrest one
        go_wp2
        go_roundw
        case rel => exact ⟨q + d, p, bq, false, ls, rfl, rfl, rfl, by omega, hw2, hit2, ho2, by omega, HS.out⟩
        case measure => rw [hit2.stands, hit.stands]; omega
      | false =>
        clear hes
        by_cases h92 : r = 92
        · obtain ⟨rfl, hc⟩ := one (by omega)
          have HS : Hid (Qt.spAt s (q + 1) p bq bq (ls.map (·.data.toList)) = Qt.split s.data.toList) := by show _ = _; rw [← HQ.out, Qt.spAt_back s q p bq _ hpq hlt (by omega)]
          subst h92
          clear hrest one hc
          go_wp2
          go_roundw
          case rel => exact ⟨q + 1, p, bq, bq, ls, rfl, rfl, rfl, by omega, hw2, hit2, ho2, by omega, HS.out⟩
          case measure => rw [hit2.stands, hit.stands]; omega
        · have e92 : ((r : Int) == 92) = false := by simp; omega
          by_cases h34 : r = 34 ∧ (bq = true ∨ q = p)
          · obtain ⟨rfl, hc⟩ := one (by omega)
            have HS : Hid (Qt.spAt s (q + 1) p (!bq) false (ls.map (·.data.toList)) = Qt.split s.data.toList) := by show _ = _; rw [← HQ.out, Qt.spAt_quote s q p bq _ hpq hlt (by omega) h34.2]
            obtain ⟨rfl, hor⟩ := h34
            clear hrest one hc h92 e92
            cases bq with
            | true =>
              clear hor
              go_wp2
              go_roundw
              case rel => exact ⟨q + 1, p, false, false, ls, rfl, rfl, rfl, by omega, hw2, hit2, ho2, by omega, HS.out⟩
              case measure => rw [hit2.stands, hit.stands]; omega
            | false =>
              have hqp := hor.resolve_left (by simp)
              have eqp : ((q : Int) == (p : Int)) = true := by simp; omega
              clear hor hqp
              go_wp2
              go_roundw
              case rel => exact ⟨q + 1, p, true, false, ls, rfl, rfl, rfl, by omega, hw2, hit2, ho2, by omega, HS.out⟩
              case measure => rw [hit2.stands, hit.stands]; omega
          · by_cases h32 : r = 32 ∧ bq = false
            · obtain ⟨rfl, hc⟩ := one (by omega)
              obtain ⟨rfl, rfl⟩ := h32
              have HS : Hid (Qt.spAt s (q + 1) (q + 1) false false ((ls ++ [s.extract p q]).map (·.data.toList)) = Qt.split s.data.toList) := by
                show _ = _
                rw [← HQ.out, Qt.spAt_cut s q p _ hlt hc, List.map_append, List.map_cons, List.map_nil, Qt.ext_list]
              have hsl := fun w => run_cut s p q (q : Int) rfl hpq hq w
              clear hrest one hc h92 e92 h34
              go_wp2_with (at_builtin; refine append_string rfl (.tmp 41) (.tmp 46) 30 9 rfl Try.underlying30 info_str w.heap.size ls (s.extract p q) _ rfl rfl ho2 (by omega) hsz ?_; intro v' w' ho' hg)
              have hi' := (hit2.alloc _).grown (World.ownsRow.alloc ho2 _) (Nat.le_refl _) hg
              clear hg
              go_roundw
              case rel => exact ⟨q + 1, q + 1, false, false, ls ++ [s.extract p q], by go_num, rfl, rfl, by omega, hw2, hi', ho', by rw [List.length_append]; simp; omega, HS.out⟩
              case measure => rw [hi'.stands, hit.stands]; omega
            · have HS : Hid (Qt.spAt s (q + d) p bq false (ls.map (·.data.toList)) = Qt.split s.data.toList) := by show _ = _; rw [← HQ.out, hrest _ h92 h34 h32]
              clear hrest one h92
              cases bq with
              | true =>
                have h34' : r ≠ 34 := fun h => h34 ⟨h, .inl rfl⟩
                have e34 : ((r : Int) == 34) = false := by simp; omega
                clear h34 h32
                go_wp2
                all_goals
                  go_roundw
                  case rel => exact ⟨q + d, p, true, false, ls, rfl, rfl, rfl, by omega, hw2, hit2, ho2, by omega, HS.out⟩
                  case measure => rw [hit2.stands, hit.stands]; omega
              | false =>
                have h32' : r ≠ 32 := fun h => h32 ⟨h, rfl⟩
                have e32 : ((r : Int) == 32) = false := by simp; omega
                by_cases hr34 : r = 34
                · have eqp : ((q : Int) == (p : Int)) = false := by
                    have : q ≠ p := fun h => h34 ⟨hr34, .inr h⟩
                    simp; omega
                  subst hr34
                  clear h34 h32 h32'
                  go_wp2
                  go_roundw
                  case rel => exact ⟨q + d, p, false, false, ls, rfl, rfl, rfl, by omega, hw2, hit2, ho2, by omega, HS.out⟩
                  case measure => rw [hit2.stands, hit.stands]; omega
                · have e34 : ((r : Int) == 34) = false := by simp; omega
                  clear h34 h32 h32'
                  go_wp2
                  go_roundw
                  case rel => exact ⟨q + d, p, false, false, ls, rfl, rfl, rfl, by omega, hw2, hit2, ho2, by omega, HS.out⟩
                  case measure => rw [hit2.stands, hit.stands]; omega
    · have hnx := fun ty => next_end (P := Try.prog) hit.iter hlt ty
      have hbe := hit.below
      have hsz := hbe.size
      have hsl := fun w => run_rest s p (by omega) w
      have HS : Hid ((ls ++ [s.extract p s.size]).map (·.data.toList) = Qt.split s.data.toList) := by
        show _ = _
        rw [← HQ.out, Qt.spAt_end s q p bq be _ (by omega), List.map_append, List.map_cons, List.map_nil, Qt.ext_list, List.take_of_length_le (by rw [List.length_drop]; exact Nat.le_refl _)]
      go_wp2_with (at_builtin; refine append_string rfl (.tmp 50) (.tmp 54) 30 9 rfl Try.underlying30 info_str w.heap.size ls (s.extract p s.size) _ rfl rfl ho (by omega) hsz ?_; intro v' w' ho' hg)
      have hb' := rowBelow (hbe.alloc hsz _) (World.ownsRow.alloc ho _) (by simp; omega) hg
      clear hg
      go_ret
      exact ⟨_, _, rfl, ho', HS.out, hb'⟩
end Go.Proofs.Ytgnjbbedeeiemaa
