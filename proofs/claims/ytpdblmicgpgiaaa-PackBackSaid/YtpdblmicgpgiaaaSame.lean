/- Two lists of bytes are held against each other (changeoverref01.Same). -/
import Derived.Test.YtpdblmicgpgiaaaRows
import Derived.Test.YtpdblmicgpgiaaaKit
import Derived.Deep.QuietTactic
import Derived.BigQuiet
namespace Go.Proofs.Ytpdblmicgpgiaaa
open Go.RowKit

/-- What a call leaves that only reads: the value, and a world in which orders have been drawn. -/
def Tells (w : World) (v : Value) (e : Ending) (w' : World) : Prop := e = .returned v ∧ ∃ n, w' = w.drewN n

theorem take_next {l m : List UInt8} {i : Nat} {c d : UInt8} (h : l.take i = m.take i) (hl : l[i]? = some c) (hm : m[i]? = some d) (hcd : c = d) : l.take (i + 1) = m.take (i + 1) := by
  rw [List.take_add_one, List.take_add_one, hl, hm, h, hcd]

set_option maxRecDepth 4000 in
set_option maxHeartbeats 800000 in
theorem same_any (v u : Value) (l m : List UInt8) (w : World) (hv : Reads w v l) (hu : Reads w u m) :
    Calls Try.prog 9 #[v, u] w (Tells w (.bool (l == m))) := by
  by_cases hlen : l.length = m.length
  · by_cases h0 : l.length = 0
    · obtain rfl : l = [] := List.eq_nil_of_length_eq_zero h0
      obtain rfl : m = [] := List.eq_nil_of_length_eq_zero (by omega)
      obtain ⟨ao, cap, rfl⟩ := hv.shape
      obtain ⟨bo, dap, rfl⟩ := hu.shape
      clear hv hu hlen h0
      go_enter Try.func9, Try.ntmps9
      go_wp2
      refine wp_loop_rounds 1 ?_
      rw [rounds_succ]
      go_wp2
      go_ret
      exact ⟨rfl, 0, rfl⟩
    · obtain ⟨ao, cap, rfl⟩ := hv.shape
      obtain ⟨bo, dap, rfl⟩ := hu.shape
      have hl := hv.len
      have hm := hu.len
      obtain ⟨b, off, rfl, hc⟩ := hv.place (by omega)
      obtain ⟨b', off', rfl, hd⟩ := hu.place (by omega)
      obtain ⟨n, hn⟩ : ∃ n, n = l.length := ⟨_, rfl⟩
      have hn' : m.length = n := by omega
      rw [← hn, hn']
      have hn9 : n ≤ 9223372036854775807 := by omega
      have HN := Lib.hid hn; have HM := Lib.hid hn'
      have HC := Lib.hid hc; have HD := Lib.hid hd
      clear hl hm hn hn' hlen hc hd
      go_enter Try.func9, Try.ntmps9
      go_wp2
      go_loopw [5] (fun x wr => ∃ i : Nat, x = .int .i64 (i : Int) ∧ i ≤ n ∧ Hid (l.take i = m.take i) ∧ ∃ q, wr = w.drewN q) (fun x _ => n - (intOf x).toNat)
      case atStart => exact ⟨0, rfl, by omega, rfl, 0, rfl⟩
      case round =>
        obtain ⟨i, rfl, hi, HE, q, rfl⟩ := hrel
        by_cases hlt : i < n
        · obtain ⟨c, hlc⟩ : ∃ c, l[i]? = some c := ⟨_, List.getElem?_eq_getElem (by have := HN.out; omega)⟩
          obtain ⟨d, hmd⟩ : ∃ d, m[i]? = some d := ⟨_, List.getElem?_eq_getElem (by have := HM.out; omega)⟩
          have hc := HC.out i c hlc
          have hd := HD.out i d hmd
          have HLC := Lib.hid hlc; have HMD := Lib.hid hmd
          clear hlc hmd
          go_wp2
          go_quiet (fail)
          by_cases hcd : c = d
          · subst hcd
            go_wp2
            go_roundw
            case rel => exact ⟨i + 1, by go_num, by omega, take_next HE.out HLC.out HMD.out rfl, _, rfl⟩
            case measure => simp [intOf]; omega
          · have hne : ((c.toNat : Int) != (d.toNat : Int)) = true := by simp; exact fun h => hcd (UInt8.toNat_inj.1 (by omega))
            go_wp2
            go_ret
            exact ⟨ret_bool (by simp; exact fun h => hcd (by have h1 := HLC.out; have h2 := HMD.out; rw [h, h2] at h1; simpa using h1.symm)), _, World.drewN_drewN _ _ _⟩
        · go_wp2
          go_ret
          exact ⟨ret_bool (by simp; have h := HE.out; rwa [List.take_of_length_le (by have := HN.out; omega), List.take_of_length_le (by have := HM.out; omega)] at h), _, rfl⟩
  · obtain ⟨ao, cap, rfl⟩ := hv.shape
    obtain ⟨bo, dap, rfl⟩ := hu.shape
    have h1 : ((l.length : Int) == (m.length : Int)) = false := by simp; omega
    have h2 : ((l.length : Int) != (m.length : Int)) = true := by simp; omega
    go_enter Try.func9, Try.ntmps9
    go_wp2
    go_ret
    exact ⟨ret_bool (by simp; exact fun h => hlen (by rw [h])), 0, rfl⟩
end Go.Proofs.Ytpdblmicgpgiaaa
