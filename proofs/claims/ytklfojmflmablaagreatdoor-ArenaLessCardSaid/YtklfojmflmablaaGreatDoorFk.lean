/- ArenaLess: what the program forces in its row. -/
import Derived.Test.YtklfojmflmablaaGreatDoorFj
import Derived.Test.YtklfojmflmablaaGreatDoorCards
namespace Go.Proofs.YtklfojmflmablaaGreatDoor.less
open Go
theorem j_wf : Rows.arenaLessRow.wf (OpenSpec.ofChange Rows.arenaLessSpec) = true := by kernel_rfl
theorem j_params : Tryz.f9.params.all (Tryz.pinned.checked.prog.readableRec ·) = true := by kernel_rfl
theorem j_tie : namedTie Tryz.pinned.checked.prog Rows.arenaLessRow.named Rows.arenaLessSpec.vars = true := by kernel_rfl
theorem j_stops : (Rows.arenaLessRow.stops == []) = true := by kernel_rfl
theorem j_knobs : (Rows.arenaLessRow.knobs == []) = true := by kernel_rfl
theorem j_inPlace : (Rows.arenaLessRow.inPlace == Tryz.pinned.checked.prog.inPlace 9) = true := by kernel_rfl
theorem j_unf : (Rows.arenaLessRow.unfollowed == Tryz.pinned.checked.prog.unfollowed 9) = true := by kernel_rfl
theorem j_rec : (Rows.arenaLessRow.recurses == Tryz.pinned.checked.prog.recurses 9) = true := by kernel_rfl
theorem j_named : (Rows.arenaLessRow.named == Tryz.pinned.checked.prog.varsNamed 9) = true := by kernel_rfl
theorem j_lifted : (Rows.arenaLessRow.lifted == Tryz.pinned.checked.prog.liftsFinal) = true := Go.Proofs.YtklfojmflmablaaGreatDoor.j_lifted
theorem j_make : (Tryz.pinned.checked.prog.make == some Rows.arenaLessRow.make) = true := Go.Proofs.YtklfojmflmablaaGreatDoor.j_make
theorem j_plainKeys : (Rows.arenaLessRow.plainKeys == Tryz.pinned.checked.prog.plainKeys) = true := Go.Proofs.YtklfojmflmablaaGreatDoor.j_plainKeys
theorem closed : joinedFacts Tryz.pinned.checked.prog 9 Tryz.f9 Rows.arenaLessSpec Rows.arenaLessRow = true := by
  unfold joinedFacts
  repeat' (with_reducible refine and_t ?_ ?_)
  all_goals (first
    | with_reducible exact j_wf
    | with_reducible exact j_laidOut
    | with_reducible exact j_mapsRowed
    | with_reducible exact j_params
    | with_reducible exact j_tie
    | with_reducible exact j_stops
    | with_reducible exact Go.Proofs.YtklfojmflmablaaGreatDoor.j_stops
    | with_reducible exact j_knobs
    | with_reducible exact Go.Proofs.YtklfojmflmablaaGreatDoor.j_knobs
    | with_reducible exact j_inPlace
    | with_reducible exact j_unf
    | with_reducible exact j_rec
    | with_reducible exact j_named
    | with_reducible exact j_heard
    | with_reducible exact j_enter
    | with_reducible exact j_lifted
    | with_reducible exact j_make
    | with_reducible exact j_plainKeys
    | kernel_rfl)
theorem f_named : Tryz.pinned.checked.prog.funcNamed Rows.arenaLessRow.func = some 9 := by kernel_rfl
theorem f_inst : Tryz.f9.isInstance Tryz.pinned.checked.prog Rows.arenaLessRow.origin Rows.arenaLessRow.targs := of_decide_eq_true (by kernel_rfl)
theorem f_wrap : Tryz.f9.isWrapper Tryz.pinned.checked.prog Rows.arenaLessRow.wrapper Rows.arenaLessRow.mainSum := by
  unfold Func.isWrapper; first | (rw [if_pos (by decide +kernel)]; kernel_rfl) | (rw [if_neg (by decide +kernel)]; exact ⟨rfl, rfl⟩)
theorem stand : ([40, 40].all fun u => !Tryz.prog.wantsStandIn u) = true := by kernel_rfl
theorem f_wbt : Rows.arenaLessRow.wfByText (OpenSpec.ofChange Rows.arenaLessSpec) = true := by kernel_rfl
theorem f_goes : false = Rows.arenaLessRow.goesBy Tryz.pinned.checked.prog := by kernel_rfl
end Go.Proofs.YtklfojmflmablaaGreatDoor.less
