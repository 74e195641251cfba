/- Several texts of mine in one: MsEq MsChk. -/
import Derived.Test.YtaeojpcffahgmaaGreatDoorGMa
import Derived.Test.YtaeojpcffahgmaaGreatDoorGEr
import Derived.Test.YtaeojpcffahgmaaGreatDoorGNum
import Derived.Test.YtaeojpcffahgmaaGreatDoorEnChk
namespace Go.Proofs.YtaeojpcffahgmaaGreatDoor
open Go.RowKit

set_option maxRecDepth 4000 in
set_option maxHeartbeats 400000 in
theorem equalB_any (v u : Value) (l m : List UInt8) (w : World) (hv : Reads w v l) (hu : Reads w u m) :
    Calls Tryz.prog 81 #[v, u] w (Looks w (.bool (l == m))) := by
  obtain ⟨ao, cap, rfl⟩ := hv.shape
  obtain ⟨ao2, cap2, rfl⟩ := hu.shape
  have c1 := run_string_of (P := Tryz.prog) l Tryz.underlying26 Tryz.underlying5 Tryz.underlying9 hv
  have c2 := run_string_of (P := Tryz.prog) m Tryz.underlying26 Tryz.underlying5 Tryz.underlying9 hu
  go_enter Tryz.func81, Tryz.ntmps81
  go_wp2
  go_ret
  exact ⟨ret_bool rfl, Below.refl _ _⟩
theorem sameB_any (v u : Value) (l m : List UInt8) (w : World) (hv : Reads w v l) (hu : Reads w u m) :
    Calls Tryz.prog 11 #[v, u] w (Looks w (.bool (l == m))) := by
  refine (same_any v u l m w hv hu).mono ?_
  rintro e w' ⟨rfl, k, rfl⟩
  exact ⟨rfl, drawn w k⟩

theorem Ms.ext_iff (a b : Ms.Msg) : a = b ↔ a.kind = b.kind ∧ a.frm = b.frm ∧ a.dst = b.dst ∧ a.bal = b.bal ∧ a.index = b.index ∧ a.commit = b.commit ∧ a.version = b.version ∧ a.ents = b.ents ∧ a.img = b.img := by
  obtain ⟨a1, a2, a3, a4, a5, a6, a7, a8, a9⟩ := a
  obtain ⟨b1, b2, b3, b4, b5, b6, b7, b8, b9⟩ := b
  simp only [Ms.Msg.mk.injEq]

end Go.Proofs.YtaeojpcffahgmaaGreatDoor


namespace Go.Proofs.YtaeojpcffahgmaaGreatDoor
open Go.RowKit

/-- What own tells: the entries and the image read as the message's own. -/
def Owned (w : World) (m : Ms.Msg) (e : Ending) (w' : World) : Prop :=
  Below w.heap.size w w' ∧ ∃ (eo : Option Addr) (ec : Nat) (io : Option Addr) (ic : Nat), e = .returned (.agg (Ms.cells (Ms.own m) (.slice eo (Ms.own m).ents.length ec) (.slice io (Ms.own m).img.length ic))) ∧
    ReadsE w' (.slice eo (Ms.own m).ents.length ec) (Ms.own m).ents ∧ Reads w' (.slice io (Ms.own m).img.length ic) (Ms.own m).img
end Go.Proofs.YtaeojpcffahgmaaGreatDoor
