/- ArenaTexts: what the program forces in its row. -/
import Derived.Test.YtklfojmflmablaaGreatDoorFj
import Derived.Test.YtklfojmflmablaaGreatDoorCards
namespace Go.Proofs.YtklfojmflmablaaGreatDoor.texts7
open Go
theorem j_wf : Rows.arenaTextsRow.wf (OpenSpec.ofChange Rows.arenaTextsSpec) = true := by kernel_rfl
theorem j_params : Tryz.f7.params.all (Tryz.pinned.checked.prog.readableRec ·) = true := by kernel_rfl
theorem j_tie : namedTie Tryz.pinned.checked.prog Rows.arenaTextsRow.named Rows.arenaTextsSpec.vars = true := by kernel_rfl
theorem j_stops : (Rows.arenaTextsRow.stops == []) = true := by kernel_rfl
theorem j_knobs : (Rows.arenaTextsRow.knobs == []) = true := by kernel_rfl
theorem j_inPlace : (Rows.arenaTextsRow.inPlace == Tryz.pinned.checked.prog.inPlace 7) = true := by kernel_rfl
theorem j_unf : (Rows.arenaTextsRow.unfollowed == Tryz.pinned.checked.prog.unfollowed 7) = true := by kernel_rfl
theorem j_rec : (Rows.arenaTextsRow.recurses == Tryz.pinned.checked.prog.recurses 7) = true := by kernel_rfl
theorem j_named : (Rows.arenaTextsRow.named == Tryz.pinned.checked.prog.varsNamed 7) = true := by kernel_rfl
theorem j_lifted : (Rows.arenaTextsRow.lifted == Tryz.pinned.checked.prog.liftsFinal) = true := Go.Proofs.YtklfojmflmablaaGreatDoor.j_lifted
theorem j_make : (Tryz.pinned.checked.prog.make == some Rows.arenaTextsRow.make) = true := Go.Proofs.YtklfojmflmablaaGreatDoor.j_make
theorem j_plainKeys : (Rows.arenaTextsRow.plainKeys == Tryz.pinned.checked.prog.plainKeys) = true := Go.Proofs.YtklfojmflmablaaGreatDoor.j_plainKeys
theorem closed : joinedFacts Tryz.pinned.checked.prog 7 Tryz.f7 Rows.arenaTextsSpec Rows.arenaTextsRow = true := by
  unfold joinedFacts
  repeat' (with_reducible refine and_t ?_ ?_)
  all_goals (first
    | with_reducible exact j_wf
    | with_reducible exact j_laidOut
    | with_reducible exact j_mapsRowed
    | with_reducible exact j_params
    | with_reducible exact j_tie
    | with_reducible exact j_stops
    | with_reducible exact Go.Proofs.YtklfojmflmablaaGreatDoor.j_stops
    | with_reducible exact j_knobs
    | with_reducible exact Go.Proofs.YtklfojmflmablaaGreatDoor.j_knobs
    | with_reducible exact j_inPlace
    | with_reducible exact j_unf
    | with_reducible exact j_rec
    | with_reducible exact j_named
    | with_reducible exact j_heard
    | with_reducible exact j_enter
    | with_reducible exact j_lifted
    | with_reducible exact j_make
    | with_reducible exact j_plainKeys
    | kernel_rfl)
theorem f_named : Tryz.pinned.checked.prog.funcNamed Rows.arenaTextsRow.func = some 7 := by kernel_rfl
theorem f_inst : Tryz.f7.isInstance Tryz.pinned.checked.prog Rows.arenaTextsRow.origin Rows.arenaTextsRow.targs := of_decide_eq_true (by kernel_rfl)
theorem f_wrap : Tryz.f7.isWrapper Tryz.pinned.checked.prog Rows.arenaTextsRow.wrapper Rows.arenaTextsRow.mainSum := by
  unfold Func.isWrapper; first | (rw [if_pos (by decide +kernel)]; kernel_rfl) | (rw [if_neg (by decide +kernel)]; exact ⟨rfl, rfl⟩)
theorem stand : ([40, 9].all fun u => !Tryz.prog.wantsStandIn u) = true := by kernel_rfl
theorem f_wbt : Rows.arenaTextsRow.wfByText (OpenSpec.ofChange Rows.arenaTextsSpec) = true := by kernel_rfl
theorem f_goes : false = Rows.arenaTextsRow.goesBy Tryz.pinned.checked.prog := by kernel_rfl
end Go.Proofs.YtklfojmflmablaaGreatDoor.texts7
