/- What the program forces in each row of this seat: the limbs of joinedFacts, one by one. -/
import Derived.Test.YtklfojmflmablaaGreatDoorRows
import Derived.Test.YtklfojmflmablaaGreatDoorCards
import Derived.Test.YtklfojmflmablaaGreatDoorChecked
import Derived.JoinedOf
import Derived.SevenTiedAt
import Derived.KernelRfl
namespace Go.Proofs.YtklfojmflmablaaGreatDoor
open Go
theorem and_t {a b : Bool} (ha : a = true) (hb : b = true) : (a && b) = true := by rw [ha, hb]; rfl
theorem j_laidOut : laidOutB Tryz.pinned.checked.prog = true := by kernel_rfl
theorem j_mapsRowed : mapsRowed Tryz.pinned.checked.prog = true := by kernel_rfl
theorem j_stops : (Tryz.pinned.checked.prog.stops == []) = true := by kernel_rfl
theorem j_knobs : (Tryz.pinned.checked.prog.stopKnobs == []) = true := by kernel_rfl
theorem j_heard : Tryz.pinned.checked.prog.stopsHeard = true := by kernel_rfl
theorem j_enter : Tryz.pinned.checked.prog.mayEnter = true := by kernel_rfl
theorem j_lifted : (Rows.arenaLessRow.lifted == Tryz.pinned.checked.prog.liftsFinal) = true := by kernel_rfl
theorem j_make : (Tryz.pinned.checked.prog.make == some Rows.arenaLessRow.make) = true := by kernel_rfl
theorem j_plainKeys : (Rows.arenaLessRow.plainKeys == Tryz.pinned.checked.prog.plainKeys) = true := by kernel_rfl
theorem j_main : Tryz.pinned.checked.prog.mainIs = some (Rows.arenaLessCard.stood.harness.1, Rows.arenaLessCard.stood.harness.2.toList) := by kernel_rfl
theorem j_looks : Tryz.pinned.checked.prog.looks [] = true := by kernel_rfl
end Go.Proofs.YtklfojmflmablaaGreatDoor
