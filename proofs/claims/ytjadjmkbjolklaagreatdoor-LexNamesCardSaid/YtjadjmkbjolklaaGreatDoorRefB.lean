/- The contracts of the reference's TextError and spotOf. -/
import Derived.Test.YtjadjmkbjolklaaGreatDoorLow
import Derived.Laws.StructEq
import Derived.BigQuiet
import Derived.Deep.QuietTactic
import Derived.Deep.RegionWith
namespace Go.Proofs.YtjadjmkbjolklaaGreatDoor
open Go.RowKit

/-- May a byte stand in a text? -/
def isByteP (c : Int) : Bool := decide (c = 10) || (decide (32 ≤ c) && decide (c ≤ 126))

theorem cls_zero (b : Int) : cls b = 0 ↔ isByteP b = false := by
  unfold isByteP cls
  simp only [Bool.or_eq_false_iff, Bool.and_eq_false_iff, decide_eq_false_iff_not]
  repeat' split
  all_goals omega

theorem inCls7 (c : UInt8) : inCls [1, 2, 3, 4, 5, 6, 7] c = isByteP c.toNat := by
  have h := cls_bd c.toNat
  have h0 := cls_zero c.toNat
  unfold inCls
  rw [Bool.eq_iff_iff]
  simp only [List.any_cons, List.any_nil, Bool.or_false, Bool.or_eq_true, beq_iff_eq]
  cases hb : isByteP c.toNat with
  | false => have := h0.2 hb; simp; omega
  | true =>
    have : cls c.toNat ≠ 0 := fun e => by rw [h0.1 e] at hb; cases hb
    simp
    omega

theorem Box2.set1 {W : World} {B : Nat} {x y : Int} (h : Box2 W B x y) (y' : Int) : Box2 (W.setCell ⟨B, 1, none⟩ (.int .i64 y')) B x y' := heap_setCell_same W B 1 _ 27 (.int .i64 y') h
theorem Box2.set2 {W : World} {B B' i : Nat} {x y : Int} (h : Box2 W B x y) (hne : B ≠ B') (v : Value) : Box2 (W.setCell ⟨B', i, none⟩ v) B x y := (Below.heap_setCell W ⟨B', i, none⟩ v B hne).trans h

end Go.Proofs.YtjadjmkbjolklaaGreatDoor
