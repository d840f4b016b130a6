/- ArenaInside: what the program forces in its row. -/
import Derived.Test.YtklfojmflmablaaGreatDoorFj
import Derived.Test.YtklfojmflmablaaGreatDoorCards
namespace Go.Proofs.YtklfojmflmablaaGreatDoor.inside
open Go
theorem j_wf : Rows.arenaInsideRow.wf (OpenSpec.ofChange Rows.arenaInsideSpec) = true := by kernel_rfl
theorem j_params : Tryz.f14.params.all (Tryz.pinned.checked.prog.readableRec ·) = true := by kernel_rfl
theorem j_tie : namedTie Tryz.pinned.checked.prog Rows.arenaInsideRow.named Rows.arenaInsideSpec.vars = true := by kernel_rfl
theorem j_stops : (Rows.arenaInsideRow.stops == []) = true := by kernel_rfl
theorem j_knobs : (Rows.arenaInsideRow.knobs == []) = true := by kernel_rfl
theorem j_inPlace : (Rows.arenaInsideRow.inPlace == Tryz.pinned.checked.prog.inPlace 14) = true := by kernel_rfl
theorem j_unf : (Rows.arenaInsideRow.unfollowed == Tryz.pinned.checked.prog.unfollowed 14) = true := by kernel_rfl
theorem j_rec : (Rows.arenaInsideRow.recurses == Tryz.pinned.checked.prog.recurses 14) = true := by kernel_rfl
theorem j_named : (Rows.arenaInsideRow.named == Tryz.pinned.checked.prog.varsNamed 14) = true := by kernel_rfl
theorem j_lifted : (Rows.arenaInsideRow.lifted == Tryz.pinned.checked.prog.liftsFinal) = true := Go.Proofs.YtklfojmflmablaaGreatDoor.j_lifted
theorem j_make : (Tryz.pinned.checked.prog.make == some Rows.arenaInsideRow.make) = true := Go.Proofs.YtklfojmflmablaaGreatDoor.j_make
theorem j_plainKeys : (Rows.arenaInsideRow.plainKeys == Tryz.pinned.checked.prog.plainKeys) = true := Go.Proofs.YtklfojmflmablaaGreatDoor.j_plainKeys
theorem closed : joinedFacts Tryz.pinned.checked.prog 14 Tryz.f14 Rows.arenaInsideSpec Rows.arenaInsideRow = true := by
  unfold joinedFacts
  repeat' (with_reducible refine and_t ?_ ?_)
  all_goals (first
    | with_reducible exact j_wf
    | with_reducible exact j_laidOut
    | with_reducible exact j_mapsRowed
    | with_reducible exact j_params
    | with_reducible exact j_tie
    | with_reducible exact j_stops
    | with_reducible exact Go.Proofs.YtklfojmflmablaaGreatDoor.j_stops
    | with_reducible exact j_knobs
    | with_reducible exact Go.Proofs.YtklfojmflmablaaGreatDoor.j_knobs
    | with_reducible exact j_inPlace
    | with_reducible exact j_unf
    | with_reducible exact j_rec
    | with_reducible exact j_named
    | with_reducible exact j_heard
    | with_reducible exact j_enter
    | with_reducible exact j_lifted
    | with_reducible exact j_make
    | with_reducible exact j_plainKeys
    | kernel_rfl)
theorem f_named : Tryz.pinned.checked.prog.funcNamed Rows.arenaInsideRow.func = some 14 := by kernel_rfl
theorem f_inst : Tryz.f14.isInstance Tryz.pinned.checked.prog Rows.arenaInsideRow.origin Rows.arenaInsideRow.targs := of_decide_eq_true (by kernel_rfl)
theorem f_wrap : Tryz.f14.isWrapper Tryz.pinned.checked.prog Rows.arenaInsideRow.wrapper Rows.arenaInsideRow.mainSum := by
  unfold Func.isWrapper; first | (rw [if_pos (by decide +kernel)]; kernel_rfl) | (rw [if_neg (by decide +kernel)]; exact ⟨rfl, rfl⟩)
theorem stand : ([26, 5].all fun u => !Tryz.prog.wantsStandIn u) = true := by kernel_rfl
theorem f_wbt : Rows.arenaInsideRow.wfByText (OpenSpec.ofChange Rows.arenaInsideSpec) = true := by kernel_rfl
theorem f_goes : false = Rows.arenaInsideRow.goesBy Tryz.pinned.checked.prog := by kernel_rfl
end Go.Proofs.YtklfojmflmablaaGreatDoor.inside
