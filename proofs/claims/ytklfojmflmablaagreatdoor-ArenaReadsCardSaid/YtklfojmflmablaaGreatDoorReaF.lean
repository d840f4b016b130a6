/- ArenaReads: what the program forces in its row. -/
import Derived.Test.YtklfojmflmablaaGreatDoorFj
import Derived.Test.YtklfojmflmablaaGreatDoorCards
namespace Go.Proofs.YtklfojmflmablaaGreatDoor.reads8
open Go
theorem j_wf : Rows.arenaReadsRow.wf (OpenSpec.ofChange Rows.arenaReadsSpec) = true := by kernel_rfl
theorem j_params : Tryz.f8.params.all (Tryz.pinned.checked.prog.readableRec ·) = true := by kernel_rfl
theorem j_tie : namedTie Tryz.pinned.checked.prog Rows.arenaReadsRow.named Rows.arenaReadsSpec.vars = true := by kernel_rfl
theorem j_stops : (Rows.arenaReadsRow.stops == []) = true := by kernel_rfl
theorem j_knobs : (Rows.arenaReadsRow.knobs == []) = true := by kernel_rfl
theorem j_inPlace : (Rows.arenaReadsRow.inPlace == Tryz.pinned.checked.prog.inPlace 8) = true := by kernel_rfl
theorem j_unf : (Rows.arenaReadsRow.unfollowed == Tryz.pinned.checked.prog.unfollowed 8) = true := by kernel_rfl
theorem j_rec : (Rows.arenaReadsRow.recurses == Tryz.pinned.checked.prog.recurses 8) = true := by kernel_rfl
theorem j_named : (Rows.arenaReadsRow.named == Tryz.pinned.checked.prog.varsNamed 8) = true := by kernel_rfl
theorem j_lifted : (Rows.arenaReadsRow.lifted == Tryz.pinned.checked.prog.liftsFinal) = true := Go.Proofs.YtklfojmflmablaaGreatDoor.j_lifted
theorem j_make : (Tryz.pinned.checked.prog.make == some Rows.arenaReadsRow.make) = true := Go.Proofs.YtklfojmflmablaaGreatDoor.j_make
theorem j_plainKeys : (Rows.arenaReadsRow.plainKeys == Tryz.pinned.checked.prog.plainKeys) = true := Go.Proofs.YtklfojmflmablaaGreatDoor.j_plainKeys
theorem closed : joinedFacts Tryz.pinned.checked.prog 8 Tryz.f8 Rows.arenaReadsSpec Rows.arenaReadsRow = true := by
  unfold joinedFacts
  repeat' (with_reducible refine and_t ?_ ?_)
  all_goals (first
    | with_reducible exact j_wf
    | with_reducible exact j_laidOut
    | with_reducible exact j_mapsRowed
    | with_reducible exact j_params
    | with_reducible exact j_tie
    | with_reducible exact j_stops
    | with_reducible exact Go.Proofs.YtklfojmflmablaaGreatDoor.j_stops
    | with_reducible exact j_knobs
    | with_reducible exact Go.Proofs.YtklfojmflmablaaGreatDoor.j_knobs
    | with_reducible exact j_inPlace
    | with_reducible exact j_unf
    | with_reducible exact j_rec
    | with_reducible exact j_named
    | with_reducible exact j_heard
    | with_reducible exact j_enter
    | with_reducible exact j_lifted
    | with_reducible exact j_make
    | with_reducible exact j_plainKeys
    | kernel_rfl)
theorem f_named : Tryz.pinned.checked.prog.funcNamed Rows.arenaReadsRow.func = some 8 := by kernel_rfl
theorem f_inst : Tryz.f8.isInstance Tryz.pinned.checked.prog Rows.arenaReadsRow.origin Rows.arenaReadsRow.targs := of_decide_eq_true (by kernel_rfl)
theorem f_wrap : Tryz.f8.isWrapper Tryz.pinned.checked.prog Rows.arenaReadsRow.wrapper Rows.arenaReadsRow.mainSum := by
  unfold Func.isWrapper; first | (rw [if_pos (by decide +kernel)]; kernel_rfl) | (rw [if_neg (by decide +kernel)]; exact ⟨rfl, rfl⟩)
theorem stand : ([9].all fun u => !Tryz.prog.wantsStandIn u) = true := by kernel_rfl
theorem f_wbt : Rows.arenaReadsRow.wfByText (OpenSpec.ofChange Rows.arenaReadsSpec) = true := by kernel_rfl
theorem f_goes : false = Rows.arenaReadsRow.goesBy Tryz.pinned.checked.prog := by kernel_rfl
end Go.Proofs.YtklfojmflmablaaGreatDoor.reads8
