/- ArenaNames: what the program forces in its row. -/
import Derived.Test.YtklfojmflmablaaGreatDoorRows
import Derived.Test.YtklfojmflmablaaGreatDoorCards
import Derived.Test.YtklfojmflmablaaGreatDoorChecked
import Derived.JoinedOf
import Derived.SevenTiedAt
import Derived.KernelRfl
namespace Go.Proofs.YtklfojmflmablaaGreatDoor
open Go
theorem and_t {a b : Bool} (ha : a = true) (hb : b = true) : (a && b) = true := by rw [ha, hb]; rfl
theorem j_laidOut : laidOutB Tryz.pinned.checked.prog = true := by kernel_rfl
theorem j_mapsRowed : mapsRowed Tryz.pinned.checked.prog = true := by kernel_rfl
theorem j_stops : (Tryz.pinned.checked.prog.stops == []) = true := by kernel_rfl
theorem j_knobs : (Tryz.pinned.checked.prog.stopKnobs == []) = true := by kernel_rfl
theorem j_heard : Tryz.pinned.checked.prog.stopsHeard = true := by kernel_rfl
theorem j_enter : Tryz.pinned.checked.prog.mayEnter = true := by kernel_rfl
theorem j_lifted : (Rows.arenaLessRow.lifted == Tryz.pinned.checked.prog.liftsFinal) = true := by kernel_rfl
theorem j_make : (Tryz.pinned.checked.prog.make == some Rows.arenaLessRow.make) = true := by kernel_rfl
theorem j_plainKeys : (Rows.arenaLessRow.plainKeys == Tryz.pinned.checked.prog.plainKeys) = true := by kernel_rfl
theorem j_main : Tryz.pinned.checked.prog.mainIs = some (Rows.arenaLessCard.stood.harness.1, Rows.arenaLessCard.stood.harness.2.toList) := by kernel_rfl
theorem j_looks : Tryz.pinned.checked.prog.looks [] = true := by kernel_rfl
end Go.Proofs.YtklfojmflmablaaGreatDoor
/- The row. -/
namespace Go.Proofs.YtklfojmflmablaaGreatDoor.names10
open Go
theorem j_wf : Rows.arenaNamesRow.wf (OpenSpec.ofChange Rows.arenaNamesSpec) = true := by kernel_rfl
theorem j_params : Tryz.f10.params.all (Tryz.pinned.checked.prog.readableRec ·) = true := by kernel_rfl
theorem j_tie : namedTie Tryz.pinned.checked.prog Rows.arenaNamesRow.named Rows.arenaNamesSpec.vars = true := by kernel_rfl
theorem j_stops : (Rows.arenaNamesRow.stops == []) = true := by kernel_rfl
theorem j_knobs : (Rows.arenaNamesRow.knobs == []) = true := by kernel_rfl
theorem j_inPlace : (Rows.arenaNamesRow.inPlace == Tryz.pinned.checked.prog.inPlace 10) = true := by kernel_rfl
theorem j_unf : (Rows.arenaNamesRow.unfollowed == Tryz.pinned.checked.prog.unfollowed 10) = true := by kernel_rfl
theorem j_rec : (Rows.arenaNamesRow.recurses == Tryz.pinned.checked.prog.recurses 10) = true := by kernel_rfl
theorem j_named : (Rows.arenaNamesRow.named == Tryz.pinned.checked.prog.varsNamed 10) = true := by kernel_rfl
theorem j_lifted : (Rows.arenaNamesRow.lifted == Tryz.pinned.checked.prog.liftsFinal) = true := Go.Proofs.YtklfojmflmablaaGreatDoor.j_lifted
theorem j_make : (Tryz.pinned.checked.prog.make == some Rows.arenaNamesRow.make) = true := Go.Proofs.YtklfojmflmablaaGreatDoor.j_make
theorem j_plainKeys : (Rows.arenaNamesRow.plainKeys == Tryz.pinned.checked.prog.plainKeys) = true := Go.Proofs.YtklfojmflmablaaGreatDoor.j_plainKeys
theorem closed : joinedFacts Tryz.pinned.checked.prog 10 Tryz.f10 Rows.arenaNamesSpec Rows.arenaNamesRow = true := by
  unfold joinedFacts
  repeat' (with_reducible refine and_t ?_ ?_)
  all_goals (first
    | with_reducible exact j_wf
    | with_reducible exact j_laidOut
    | with_reducible exact j_mapsRowed
    | with_reducible exact j_params
    | with_reducible exact j_tie
    | with_reducible exact j_stops
    | with_reducible exact Go.Proofs.YtklfojmflmablaaGreatDoor.j_stops
    | with_reducible exact j_knobs
    | with_reducible exact Go.Proofs.YtklfojmflmablaaGreatDoor.j_knobs
    | with_reducible exact j_inPlace
    | with_reducible exact j_unf
    | with_reducible exact j_rec
    | with_reducible exact j_named
    | with_reducible exact j_heard
    | with_reducible exact j_enter
    | with_reducible exact j_lifted
    | with_reducible exact j_make
    | with_reducible exact j_plainKeys
    | kernel_rfl)
theorem f_named : Tryz.pinned.checked.prog.funcNamed Rows.arenaNamesRow.func = some 10 := by kernel_rfl
theorem f_inst : Tryz.f10.isInstance Tryz.pinned.checked.prog Rows.arenaNamesRow.origin Rows.arenaNamesRow.targs := of_decide_eq_true (by kernel_rfl)
theorem f_wrap : Tryz.f10.isWrapper Tryz.pinned.checked.prog Rows.arenaNamesRow.wrapper Rows.arenaNamesRow.mainSum := by
  unfold Func.isWrapper; first | (rw [if_pos (by decide +kernel)]; kernel_rfl) | (rw [if_neg (by decide +kernel)]; exact ⟨rfl, rfl⟩)
theorem stand : ([].all fun u => !Tryz.prog.wantsStandIn u) = true := by kernel_rfl
theorem f_wbt : Rows.arenaNamesRow.wfByText (OpenSpec.ofChange Rows.arenaNamesSpec) = true := by kernel_rfl
theorem f_goes : false = Rows.arenaNamesRow.goesBy Tryz.pinned.checked.prog := by kernel_rfl
end Go.Proofs.YtklfojmflmablaaGreatDoor.names10
