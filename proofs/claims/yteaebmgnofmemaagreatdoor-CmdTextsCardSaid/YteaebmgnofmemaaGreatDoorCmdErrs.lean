/- Go's two errors of a number's text lie where they lie. -/
import Derived.Test.YteaebmgnofmemaaGreatDoorCmdHear
import Derived.Lib.LaidU8
import Derived.OpenShut
namespace Go.Proofs.YteaebmgnofmemaaGreatDoor
open Go.RowKit

theorem iface_of {H : Type} {enc : TypeId × Value → H} {P : Program} {w : World} {base : Nat} {sp : Nat → Bool} {held : Bool} {fuel : Nat} {t : TypeId} {ms : Array (String × TypeId)} {cs : List Value} {nm : String} {d : DataW H} {p : List MemPlace}
    (ht : P.underlying t = some (.interface ms)) (h : DataW.trod enc P w base sp held fuel t cs = some (.iface nm d, p)) : ∃ u v, cs = [.iface u v] := by
  cases fuel with
  | zero => simp [DataW.trod] at h
  | succ n =>
    unfold DataW.trod at h
    rw [ht] at h
    match cs, h with
    | [.iface u v], _ => exact ⟨u, v, rfl⟩
    | [.nilIface], h => simp at h
    | [], h => simp at h
    | [.bool _], h => simp at h
    | [.int _ _], h => simp at h
    | [.float _ _], h => simp at h
    | [.complex _ _ _], h => simp at h
    | [.string _], h => simp at h
    | [.pointer _], h => simp at h
    | [.slice _ _ _], h => simp at h
    | [.map _], h => simp at h
    | [.chan _], h => simp at h
    | [.func _ _ _], h => simp at h
    | [.nilFunc], h => simp at h
    | [.agg _], h => simp at h
    | [.tuple _], h => simp at h
    | _ :: _ :: _, h => simp at h

set_option maxRecDepth 20000 in
theorem err_of {W : World} {n nm : String} {d : DataW Unit} {g : Nat} {t : TypeId} {ms : Array (String × TypeId)} (hgn : Tryz.prog.globalNamed n = some g) (hty : (Tryz.prog.globals[g]?).map (·.type) = some t) (hu : Tryz.prog.underlying t = some (.interface ms))
    (h : Lib.VarReads Tryz.prog W n (.iface nm d)) : ∃ tp p, W.var? Tryz.prog n = some #[.iface tp p] := by
  obtain ⟨g', t', cs, fuel, p, hg, ht, hvar, hd⟩ := h
  obtain rfl := Option.some.inj (hgn.symm.trans hg)
  obtain rfl := Option.some.inj (hty.symm.trans ht)
  obtain ⟨u, v, e⟩ := iface_of hu hd
  exact ⟨u, v, by rw [hvar]; congr 1; exact Array.toList_inj.1 e⟩

set_option maxRecDepth 20000 in
theorem errs_of {W : World} {n1 n2 : String} {d1 d2 : DataW Unit} (h1 : Lib.VarReads Tryz.prog W "strconv.ErrSyntax" (.iface n1 d1)) (h2 : Lib.VarReads Tryz.prog W "strconv.ErrRange" (.iface n2 d2)) : ErrsIn W :=
  ⟨err_of (g := 1) (t := 71) (by kernel_rfl) (by kernel_rfl) Tryz.underlying71 h1, err_of (g := 2) (t := 71) (by kernel_rfl) (by kernel_rfl) Tryz.underlying71 h2⟩

end Go.Proofs.YteaebmgnofmemaaGreatDoor
