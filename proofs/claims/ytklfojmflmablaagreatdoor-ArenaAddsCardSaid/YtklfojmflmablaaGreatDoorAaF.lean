/- ArenaAdds: what the program forces in its row. -/
import Derived.Test.YtklfojmflmablaaGreatDoorFj
import Derived.Test.YtklfojmflmablaaGreatDoorCards
namespace Go.Proofs.YtklfojmflmablaaGreatDoor.adds6
open Go
theorem j_wf : Rows.arenaAddsRow.wf (OpenSpec.ofChange Rows.arenaAddsSpec) = true := by kernel_rfl
theorem j_params : Tryz.f6.params.all (Tryz.pinned.checked.prog.readableRec ·) = true := by kernel_rfl
theorem j_tie : namedTie Tryz.pinned.checked.prog Rows.arenaAddsRow.named Rows.arenaAddsSpec.vars = true := by kernel_rfl
theorem j_stops : (Rows.arenaAddsRow.stops == []) = true := by kernel_rfl
theorem j_knobs : (Rows.arenaAddsRow.knobs == []) = true := by kernel_rfl
theorem j_inPlace : (Rows.arenaAddsRow.inPlace == Tryz.pinned.checked.prog.inPlace 6) = true := by kernel_rfl
theorem j_unf : (Rows.arenaAddsRow.unfollowed == Tryz.pinned.checked.prog.unfollowed 6) = true := by kernel_rfl
theorem j_rec : (Rows.arenaAddsRow.recurses == Tryz.pinned.checked.prog.recurses 6) = true := by kernel_rfl
theorem j_named : (Rows.arenaAddsRow.named == Tryz.pinned.checked.prog.varsNamed 6) = true := by kernel_rfl
theorem j_lifted : (Rows.arenaAddsRow.lifted == Tryz.pinned.checked.prog.liftsFinal) = true := Go.Proofs.YtklfojmflmablaaGreatDoor.j_lifted
theorem j_make : (Tryz.pinned.checked.prog.make == some Rows.arenaAddsRow.make) = true := Go.Proofs.YtklfojmflmablaaGreatDoor.j_make
theorem j_plainKeys : (Rows.arenaAddsRow.plainKeys == Tryz.pinned.checked.prog.plainKeys) = true := Go.Proofs.YtklfojmflmablaaGreatDoor.j_plainKeys
theorem closed : joinedFacts Tryz.pinned.checked.prog 6 Tryz.f6 Rows.arenaAddsSpec Rows.arenaAddsRow = true := by
  unfold joinedFacts
  repeat' (with_reducible refine and_t ?_ ?_)
  all_goals (first
    | with_reducible exact j_wf
    | with_reducible exact j_laidOut
    | with_reducible exact j_mapsRowed
    | with_reducible exact j_params
    | with_reducible exact j_tie
    | with_reducible exact j_stops
    | with_reducible exact Go.Proofs.YtklfojmflmablaaGreatDoor.j_stops
    | with_reducible exact j_knobs
    | with_reducible exact Go.Proofs.YtklfojmflmablaaGreatDoor.j_knobs
    | with_reducible exact j_inPlace
    | with_reducible exact j_unf
    | with_reducible exact j_rec
    | with_reducible exact j_named
    | with_reducible exact j_heard
    | with_reducible exact j_enter
    | with_reducible exact j_lifted
    | with_reducible exact j_make
    | with_reducible exact j_plainKeys
    | kernel_rfl)
theorem f_named : Tryz.pinned.checked.prog.funcNamed Rows.arenaAddsRow.func = some 6 := by kernel_rfl
theorem f_inst : Tryz.f6.isInstance Tryz.pinned.checked.prog Rows.arenaAddsRow.origin Rows.arenaAddsRow.targs := of_decide_eq_true (by kernel_rfl)
theorem f_wrap : Tryz.f6.isWrapper Tryz.pinned.checked.prog Rows.arenaAddsRow.wrapper Rows.arenaAddsRow.mainSum := by
  unfold Func.isWrapper; first | (rw [if_pos (by decide +kernel)]; kernel_rfl) | (rw [if_neg (by decide +kernel)]; exact ⟨rfl, rfl⟩)
theorem stand : ([26, 22].all fun u => !Tryz.prog.wantsStandIn u) = true := by kernel_rfl
theorem f_wbt : Rows.arenaAddsRow.wfByText (OpenSpec.ofChange Rows.arenaAddsSpec) = true := by kernel_rfl
theorem f_goes : false = Rows.arenaAddsRow.goesBy Tryz.pinned.checked.prog := by kernel_rfl
end Go.Proofs.YtklfojmflmablaaGreatDoor.adds6
