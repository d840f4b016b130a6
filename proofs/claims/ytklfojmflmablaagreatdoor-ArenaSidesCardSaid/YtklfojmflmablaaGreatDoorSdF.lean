/- ArenaSides: what the program forces in its row. -/
import Derived.Test.YtklfojmflmablaaGreatDoorFj
import Derived.Test.YtklfojmflmablaaGreatDoorCards
namespace Go.Proofs.YtklfojmflmablaaGreatDoor.sides
open Go
theorem j_wf : Rows.arenaSidesRow.wf (OpenSpec.ofChange Rows.arenaSidesSpec) = true := by kernel_rfl
theorem j_params : Tryz.f11.params.all (Tryz.pinned.checked.prog.readableRec ·) = true := by kernel_rfl
theorem j_tie : namedTie Tryz.pinned.checked.prog Rows.arenaSidesRow.named Rows.arenaSidesSpec.vars = true := by kernel_rfl
theorem j_stops : (Rows.arenaSidesRow.stops == []) = true := by kernel_rfl
theorem j_knobs : (Rows.arenaSidesRow.knobs == []) = true := by kernel_rfl
theorem j_inPlace : (Rows.arenaSidesRow.inPlace == Tryz.pinned.checked.prog.inPlace 11) = true := by kernel_rfl
theorem j_unf : (Rows.arenaSidesRow.unfollowed == Tryz.pinned.checked.prog.unfollowed 11) = true := by kernel_rfl
theorem j_rec : (Rows.arenaSidesRow.recurses == Tryz.pinned.checked.prog.recurses 11) = true := by kernel_rfl
theorem j_named : (Rows.arenaSidesRow.named == Tryz.pinned.checked.prog.varsNamed 11) = true := by kernel_rfl
theorem j_lifted : (Rows.arenaSidesRow.lifted == Tryz.pinned.checked.prog.liftsFinal) = true := Go.Proofs.YtklfojmflmablaaGreatDoor.j_lifted
theorem j_make : (Tryz.pinned.checked.prog.make == some Rows.arenaSidesRow.make) = true := Go.Proofs.YtklfojmflmablaaGreatDoor.j_make
theorem j_plainKeys : (Rows.arenaSidesRow.plainKeys == Tryz.pinned.checked.prog.plainKeys) = true := Go.Proofs.YtklfojmflmablaaGreatDoor.j_plainKeys
theorem closed : joinedFacts Tryz.pinned.checked.prog 11 Tryz.f11 Rows.arenaSidesSpec Rows.arenaSidesRow = true := by
  unfold joinedFacts
  repeat' (with_reducible refine and_t ?_ ?_)
  all_goals (first
    | with_reducible exact j_wf
    | with_reducible exact j_laidOut
    | with_reducible exact j_mapsRowed
    | with_reducible exact j_params
    | with_reducible exact j_tie
    | with_reducible exact j_stops
    | with_reducible exact Go.Proofs.YtklfojmflmablaaGreatDoor.j_stops
    | with_reducible exact j_knobs
    | with_reducible exact Go.Proofs.YtklfojmflmablaaGreatDoor.j_knobs
    | with_reducible exact j_inPlace
    | with_reducible exact j_unf
    | with_reducible exact j_rec
    | with_reducible exact j_named
    | with_reducible exact j_heard
    | with_reducible exact j_enter
    | with_reducible exact j_lifted
    | with_reducible exact j_make
    | with_reducible exact j_plainKeys
    | kernel_rfl)
theorem f_named : Tryz.pinned.checked.prog.funcNamed Rows.arenaSidesRow.func = some 11 := by kernel_rfl
theorem f_inst : Tryz.f11.isInstance Tryz.pinned.checked.prog Rows.arenaSidesRow.origin Rows.arenaSidesRow.targs := of_decide_eq_true (by kernel_rfl)
theorem f_wrap : Tryz.f11.isWrapper Tryz.pinned.checked.prog Rows.arenaSidesRow.wrapper Rows.arenaSidesRow.mainSum := by
  unfold Func.isWrapper; first | (rw [if_pos (by decide +kernel)]; kernel_rfl) | (rw [if_neg (by decide +kernel)]; exact ⟨rfl, rfl⟩)
theorem stand : ([26].all fun u => !Tryz.prog.wantsStandIn u) = true := by kernel_rfl
theorem f_wbt : Rows.arenaSidesRow.wfByText (OpenSpec.ofChange Rows.arenaSidesSpec) = true := by kernel_rfl
theorem f_goes : false = Rows.arenaSidesRow.goesBy Tryz.pinned.checked.prog := by kernel_rfl
end Go.Proofs.YtklfojmflmablaaGreatDoor.sides
