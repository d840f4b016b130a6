/- ArenaAll: what the program forces in its row. -/
import Derived.Test.YtklfojmflmablaaGreatDoorRows
import Derived.Test.YtklfojmflmablaaGreatDoorCards
import Derived.Test.YtklfojmflmablaaGreatDoorChecked
import Derived.JoinedOf
import Derived.SevenTiedAt
import Derived.KernelRfl
namespace Go.Proofs.YtklfojmflmablaaGreatDoor
open Go
theorem and_t {a b : Bool} (ha : a = true) (hb : b = true) : (a && b) = true := by rw [ha, hb]; rfl
theorem j_laidOut : laidOutB Tryz.pinned.checked.prog = true := by kernel_rfl
theorem j_mapsRowed : mapsRowed Tryz.pinned.checked.prog = true := by kernel_rfl
theorem j_stops : (Tryz.pinned.checked.prog.stops == []) = true := by kernel_rfl
theorem j_knobs : (Tryz.pinned.checked.prog.stopKnobs == []) = true := by kernel_rfl
theorem j_heard : Tryz.pinned.checked.prog.stopsHeard = true := by kernel_rfl
theorem j_enter : Tryz.pinned.checked.prog.mayEnter = true := by kernel_rfl
theorem j_lifted : (Rows.arenaLessRow.lifted == Tryz.pinned.checked.prog.liftsFinal) = true := by kernel_rfl
theorem j_make : (Tryz.pinned.checked.prog.make == some Rows.arenaLessRow.make) = true := by kernel_rfl
theorem j_plainKeys : (Rows.arenaLessRow.plainKeys == Tryz.pinned.checked.prog.plainKeys) = true := by kernel_rfl
theorem j_main : Tryz.pinned.checked.prog.mainIs = some (Rows.arenaLessCard.stood.harness.1, Rows.arenaLessCard.stood.harness.2.toList) := by kernel_rfl
theorem j_looks : Tryz.pinned.checked.prog.looks [] = true := by kernel_rfl
end Go.Proofs.YtklfojmflmablaaGreatDoor
namespace Go.Proofs.YtklfojmflmablaaGreatDoor.all12
open Go
theorem j_wf : Rows.arenaAllRow.wf (OpenSpec.ofChange Rows.arenaAllSpec) = true := by kernel_rfl
theorem j_params : Tryz.f12.params.all (Tryz.pinned.checked.prog.readableRec ·) = true := by kernel_rfl
theorem j_tie : namedTie Tryz.pinned.checked.prog Rows.arenaAllRow.named Rows.arenaAllSpec.vars = true := by kernel_rfl
theorem j_stops : (Rows.arenaAllRow.stops == []) = true := by kernel_rfl
theorem j_knobs : (Rows.arenaAllRow.knobs == []) = true := by kernel_rfl
theorem j_inPlace : (Rows.arenaAllRow.inPlace == Tryz.pinned.checked.prog.inPlace 12) = true := by kernel_rfl
theorem j_unf : (Rows.arenaAllRow.unfollowed == Tryz.pinned.checked.prog.unfollowed 12) = true := by kernel_rfl
theorem j_rec : (Rows.arenaAllRow.recurses == Tryz.pinned.checked.prog.recurses 12) = true := by kernel_rfl
theorem j_named : (Rows.arenaAllRow.named == Tryz.pinned.checked.prog.varsNamed 12) = true := by kernel_rfl
theorem j_lifted : (Rows.arenaAllRow.lifted == Tryz.pinned.checked.prog.liftsFinal) = true := Go.Proofs.YtklfojmflmablaaGreatDoor.j_lifted
theorem j_make : (Tryz.pinned.checked.prog.make == some Rows.arenaAllRow.make) = true := Go.Proofs.YtklfojmflmablaaGreatDoor.j_make
theorem j_plainKeys : (Rows.arenaAllRow.plainKeys == Tryz.pinned.checked.prog.plainKeys) = true := Go.Proofs.YtklfojmflmablaaGreatDoor.j_plainKeys
theorem closed : joinedFacts Tryz.pinned.checked.prog 12 Tryz.f12 Rows.arenaAllSpec Rows.arenaAllRow = true := by
  unfold joinedFacts
  repeat' (with_reducible refine and_t ?_ ?_)
  all_goals (first
    | with_reducible exact j_wf
    | with_reducible exact j_laidOut
    | with_reducible exact j_mapsRowed
    | with_reducible exact j_params
    | with_reducible exact j_tie
    | with_reducible exact j_stops
    | with_reducible exact Go.Proofs.YtklfojmflmablaaGreatDoor.j_stops
    | with_reducible exact j_knobs
    | with_reducible exact Go.Proofs.YtklfojmflmablaaGreatDoor.j_knobs
    | with_reducible exact j_inPlace
    | with_reducible exact j_unf
    | with_reducible exact j_rec
    | with_reducible exact j_named
    | with_reducible exact j_heard
    | with_reducible exact j_enter
    | with_reducible exact j_lifted
    | with_reducible exact j_make
    | with_reducible exact j_plainKeys
    | kernel_rfl)
theorem f_named : Tryz.pinned.checked.prog.funcNamed Rows.arenaAllRow.func = some 12 := by kernel_rfl
theorem f_inst : Tryz.f12.isInstance Tryz.pinned.checked.prog Rows.arenaAllRow.origin Rows.arenaAllRow.targs := of_decide_eq_true (by kernel_rfl)
theorem f_wrap : Tryz.f12.isWrapper Tryz.pinned.checked.prog Rows.arenaAllRow.wrapper Rows.arenaAllRow.mainSum := by
  unfold Func.isWrapper; first | (rw [if_pos (by decide +kernel)]; kernel_rfl) | (rw [if_neg (by decide +kernel)]; exact ⟨rfl, rfl⟩)
theorem stand : ([26].all fun u => !Tryz.prog.wantsStandIn u) = true := by kernel_rfl
theorem f_wbt : Rows.arenaAllRow.wfByText (OpenSpec.ofChange Rows.arenaAllSpec) = true := by kernel_rfl
theorem f_goes : false = Rows.arenaAllRow.goesBy Tryz.pinned.checked.prog := by kernel_rfl
end Go.Proofs.YtklfojmflmablaaGreatDoor.all12
