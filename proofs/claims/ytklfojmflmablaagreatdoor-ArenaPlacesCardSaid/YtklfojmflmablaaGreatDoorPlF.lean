/- ArenaPlaces: what the program forces in its row. -/
import Derived.Test.YtklfojmflmablaaGreatDoorFj
import Derived.Test.YtklfojmflmablaaGreatDoorCards
namespace Go.Proofs.YtklfojmflmablaaGreatDoor.places
open Go
theorem j_wf : Rows.arenaPlacesRow.wf (OpenSpec.ofChange Rows.arenaPlacesSpec) = true := by kernel_rfl
theorem j_params : Tryz.f5.params.all (Tryz.pinned.checked.prog.readableRec ·) = true := by kernel_rfl
theorem j_tie : namedTie Tryz.pinned.checked.prog Rows.arenaPlacesRow.named Rows.arenaPlacesSpec.vars = true := by kernel_rfl
theorem j_stops : (Rows.arenaPlacesRow.stops == []) = true := by kernel_rfl
theorem j_knobs : (Rows.arenaPlacesRow.knobs == []) = true := by kernel_rfl
theorem j_inPlace : (Rows.arenaPlacesRow.inPlace == Tryz.pinned.checked.prog.inPlace 5) = true := by kernel_rfl
theorem j_unf : (Rows.arenaPlacesRow.unfollowed == Tryz.pinned.checked.prog.unfollowed 5) = true := by kernel_rfl
theorem j_rec : (Rows.arenaPlacesRow.recurses == Tryz.pinned.checked.prog.recurses 5) = true := by kernel_rfl
theorem j_named : (Rows.arenaPlacesRow.named == Tryz.pinned.checked.prog.varsNamed 5) = true := by kernel_rfl
theorem j_lifted : (Rows.arenaPlacesRow.lifted == Tryz.pinned.checked.prog.liftsFinal) = true := Go.Proofs.YtklfojmflmablaaGreatDoor.j_lifted
theorem j_make : (Tryz.pinned.checked.prog.make == some Rows.arenaPlacesRow.make) = true := Go.Proofs.YtklfojmflmablaaGreatDoor.j_make
theorem j_plainKeys : (Rows.arenaPlacesRow.plainKeys == Tryz.pinned.checked.prog.plainKeys) = true := Go.Proofs.YtklfojmflmablaaGreatDoor.j_plainKeys
theorem closed : joinedFacts Tryz.pinned.checked.prog 5 Tryz.f5 Rows.arenaPlacesSpec Rows.arenaPlacesRow = true := by
  unfold joinedFacts
  repeat' (with_reducible refine and_t ?_ ?_)
  all_goals (first
    | with_reducible exact j_wf
    | with_reducible exact j_laidOut
    | with_reducible exact j_mapsRowed
    | with_reducible exact j_params
    | with_reducible exact j_tie
    | with_reducible exact j_stops
    | with_reducible exact Go.Proofs.YtklfojmflmablaaGreatDoor.j_stops
    | with_reducible exact j_knobs
    | with_reducible exact Go.Proofs.YtklfojmflmablaaGreatDoor.j_knobs
    | with_reducible exact j_inPlace
    | with_reducible exact j_unf
    | with_reducible exact j_rec
    | with_reducible exact j_named
    | with_reducible exact j_heard
    | with_reducible exact j_enter
    | with_reducible exact j_lifted
    | with_reducible exact j_make
    | with_reducible exact j_plainKeys
    | kernel_rfl)
theorem f_named : Tryz.pinned.checked.prog.funcNamed Rows.arenaPlacesRow.func = some 5 := by kernel_rfl
theorem f_inst : Tryz.f5.isInstance Tryz.pinned.checked.prog Rows.arenaPlacesRow.origin Rows.arenaPlacesRow.targs := of_decide_eq_true (by kernel_rfl)
theorem f_wrap : Tryz.f5.isWrapper Tryz.pinned.checked.prog Rows.arenaPlacesRow.wrapper Rows.arenaPlacesRow.mainSum := by
  unfold Func.isWrapper; first | (rw [if_pos (by decide +kernel)]; kernel_rfl) | (rw [if_neg (by decide +kernel)]; exact ⟨rfl, rfl⟩)
theorem stand : ([26, 46].all fun u => !Tryz.prog.wantsStandIn u) = true := by kernel_rfl
theorem f_wbt : Rows.arenaPlacesRow.wfByText (OpenSpec.ofChange Rows.arenaPlacesSpec) = true := by kernel_rfl
theorem f_goes : false = Rows.arenaPlacesRow.goesBy Tryz.pinned.checked.prog := by kernel_rfl
end Go.Proofs.YtklfojmflmablaaGreatDoor.places
