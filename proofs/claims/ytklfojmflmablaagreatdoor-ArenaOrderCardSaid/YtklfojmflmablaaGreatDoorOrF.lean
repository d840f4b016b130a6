/- ArenaOrder: what the program forces in its row. -/
import Derived.Test.YtklfojmflmablaaGreatDoorFj
import Derived.Test.YtklfojmflmablaaGreatDoorCards
namespace Go.Proofs.YtklfojmflmablaaGreatDoor.order
open Go
theorem j_wf : Rows.arenaOrderRow.wf (OpenSpec.ofChange Rows.arenaOrderSpec) = true := by kernel_rfl
theorem j_params : Tryz.f13.params.all (Tryz.pinned.checked.prog.readableRec ·) = true := by kernel_rfl
theorem j_tie : namedTie Tryz.pinned.checked.prog Rows.arenaOrderRow.named Rows.arenaOrderSpec.vars = true := by kernel_rfl
theorem j_stops : (Rows.arenaOrderRow.stops == []) = true := by kernel_rfl
theorem j_knobs : (Rows.arenaOrderRow.knobs == []) = true := by kernel_rfl
theorem j_inPlace : (Rows.arenaOrderRow.inPlace == Tryz.pinned.checked.prog.inPlace 13) = true := by kernel_rfl
theorem j_unf : (Rows.arenaOrderRow.unfollowed == Tryz.pinned.checked.prog.unfollowed 13) = true := by kernel_rfl
theorem j_rec : (Rows.arenaOrderRow.recurses == Tryz.pinned.checked.prog.recurses 13) = true := by kernel_rfl
theorem j_named : (Rows.arenaOrderRow.named == Tryz.pinned.checked.prog.varsNamed 13) = true := by kernel_rfl
theorem j_lifted : (Rows.arenaOrderRow.lifted == Tryz.pinned.checked.prog.liftsFinal) = true := Go.Proofs.YtklfojmflmablaaGreatDoor.j_lifted
theorem j_make : (Tryz.pinned.checked.prog.make == some Rows.arenaOrderRow.make) = true := Go.Proofs.YtklfojmflmablaaGreatDoor.j_make
theorem j_plainKeys : (Rows.arenaOrderRow.plainKeys == Tryz.pinned.checked.prog.plainKeys) = true := Go.Proofs.YtklfojmflmablaaGreatDoor.j_plainKeys
theorem closed : joinedFacts Tryz.pinned.checked.prog 13 Tryz.f13 Rows.arenaOrderSpec Rows.arenaOrderRow = true := by
  unfold joinedFacts
  repeat' (with_reducible refine and_t ?_ ?_)
  all_goals (first
    | with_reducible exact j_wf
    | with_reducible exact j_laidOut
    | with_reducible exact j_mapsRowed
    | with_reducible exact j_params
    | with_reducible exact j_tie
    | with_reducible exact j_stops
    | with_reducible exact Go.Proofs.YtklfojmflmablaaGreatDoor.j_stops
    | with_reducible exact j_knobs
    | with_reducible exact Go.Proofs.YtklfojmflmablaaGreatDoor.j_knobs
    | with_reducible exact j_inPlace
    | with_reducible exact j_unf
    | with_reducible exact j_rec
    | with_reducible exact j_named
    | with_reducible exact j_heard
    | with_reducible exact j_enter
    | with_reducible exact j_lifted
    | with_reducible exact j_make
    | with_reducible exact j_plainKeys
    | kernel_rfl)
theorem f_named : Tryz.pinned.checked.prog.funcNamed Rows.arenaOrderRow.func = some 13 := by kernel_rfl
theorem f_inst : Tryz.f13.isInstance Tryz.pinned.checked.prog Rows.arenaOrderRow.origin Rows.arenaOrderRow.targs := of_decide_eq_true (by kernel_rfl)
theorem f_wrap : Tryz.f13.isWrapper Tryz.pinned.checked.prog Rows.arenaOrderRow.wrapper Rows.arenaOrderRow.mainSum := by
  unfold Func.isWrapper; first | (rw [if_pos (by decide +kernel)]; kernel_rfl) | (rw [if_neg (by decide +kernel)]; exact ⟨rfl, rfl⟩)
theorem stand : ([72].all fun u => !Tryz.prog.wantsStandIn u) = true := by kernel_rfl
theorem f_wbt : Rows.arenaOrderRow.wfByText (OpenSpec.ofChange Rows.arenaOrderSpec) = true := by kernel_rfl
theorem f_goes : false = Rows.arenaOrderRow.goesBy Tryz.pinned.checked.prog := by kernel_rfl
end Go.Proofs.YtklfojmflmablaaGreatDoor.order
