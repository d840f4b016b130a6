/- Types that come in. -/
import Derived.Test.YtklfojmflmablaaGreatDoorOpA
namespace Go.Proofs.YtklfojmflmablaaGreatDoor
open Go.ChangeShapes Go.WideShapes Go.ChangeAt Go.RowKit Go.Deep

set_option maxRecDepth 100000 in
theorem open_tys {H : Type} {enc : TypeId × Value → H} {W : World} {base : Nat} {sp : Nat → Bool} {held : Bool} {v : Value} {d : DataW H} {ps : List MemPlace} {r : Reach} {b0 : Nat} (hval : Value.okWide Tryz.prog W r b0 22 v) (hd : DataW.Trod enc Tryz.prog W base sp held 22 v d ps) : ∃ l : List Ty, TyIn W W.heap.size v l := by
  obtain ⟨a0, len0, cap0, rfl⟩ := okWide_slice Tryz.underlying22 hval
  obtain ⟨fuel, hf0⟩ := hd
  exact open_types (v := .slice a0 len0 cap0) hf0
end Go.Proofs.YtklfojmflmablaaGreatDoor
