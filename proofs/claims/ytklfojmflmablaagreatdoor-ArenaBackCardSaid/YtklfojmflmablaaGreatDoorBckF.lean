/- ArenaBack: what the program forces in its row. -/
import Derived.Test.YtklfojmflmablaaGreatDoorFj
import Derived.Test.YtklfojmflmablaaGreatDoorCards
namespace Go.Proofs.YtklfojmflmablaaGreatDoor.back15
open Go
theorem j_wf : Rows.arenaBackRow.wf (OpenSpec.ofChange Rows.arenaBackSpec) = true := by kernel_rfl
theorem j_params : Tryz.f15.params.all (Tryz.pinned.checked.prog.readableRec ·) = true := by kernel_rfl
theorem j_tie : namedTie Tryz.pinned.checked.prog Rows.arenaBackRow.named Rows.arenaBackSpec.vars = true := by kernel_rfl
theorem j_stops : (Rows.arenaBackRow.stops == []) = true := by kernel_rfl
theorem j_knobs : (Rows.arenaBackRow.knobs == []) = true := by kernel_rfl
theorem j_inPlace : (Rows.arenaBackRow.inPlace == Tryz.pinned.checked.prog.inPlace 15) = true := by kernel_rfl
theorem j_unf : (Rows.arenaBackRow.unfollowed == Tryz.pinned.checked.prog.unfollowed 15) = true := by kernel_rfl
theorem j_rec : (Rows.arenaBackRow.recurses == Tryz.pinned.checked.prog.recurses 15) = true := by kernel_rfl
theorem j_named : (Rows.arenaBackRow.named == Tryz.pinned.checked.prog.varsNamed 15) = true := by kernel_rfl
theorem j_lifted : (Rows.arenaBackRow.lifted == Tryz.pinned.checked.prog.liftsFinal) = true := Go.Proofs.YtklfojmflmablaaGreatDoor.j_lifted
theorem j_make : (Tryz.pinned.checked.prog.make == some Rows.arenaBackRow.make) = true := Go.Proofs.YtklfojmflmablaaGreatDoor.j_make
theorem j_plainKeys : (Rows.arenaBackRow.plainKeys == Tryz.pinned.checked.prog.plainKeys) = true := Go.Proofs.YtklfojmflmablaaGreatDoor.j_plainKeys
theorem closed : joinedFacts Tryz.pinned.checked.prog 15 Tryz.f15 Rows.arenaBackSpec Rows.arenaBackRow = true := by
  unfold joinedFacts
  repeat' (with_reducible refine and_t ?_ ?_)
  all_goals (first
    | with_reducible exact j_wf
    | with_reducible exact j_laidOut
    | with_reducible exact j_mapsRowed
    | with_reducible exact j_params
    | with_reducible exact j_tie
    | with_reducible exact j_stops
    | with_reducible exact Go.Proofs.YtklfojmflmablaaGreatDoor.j_stops
    | with_reducible exact j_knobs
    | with_reducible exact Go.Proofs.YtklfojmflmablaaGreatDoor.j_knobs
    | with_reducible exact j_inPlace
    | with_reducible exact j_unf
    | with_reducible exact j_rec
    | with_reducible exact j_named
    | with_reducible exact j_heard
    | with_reducible exact j_enter
    | with_reducible exact j_lifted
    | with_reducible exact j_make
    | with_reducible exact j_plainKeys
    | kernel_rfl)
theorem f_named : Tryz.pinned.checked.prog.funcNamed Rows.arenaBackRow.func = some 15 := by kernel_rfl
theorem f_inst : Tryz.f15.isInstance Tryz.pinned.checked.prog Rows.arenaBackRow.origin Rows.arenaBackRow.targs := of_decide_eq_true (by kernel_rfl)
theorem f_wrap : Tryz.f15.isWrapper Tryz.pinned.checked.prog Rows.arenaBackRow.wrapper Rows.arenaBackRow.mainSum := by
  unfold Func.isWrapper; first | (rw [if_pos (by decide +kernel)]; kernel_rfl) | (rw [if_neg (by decide +kernel)]; exact ⟨rfl, rfl⟩)
theorem stand : ([26, 40].all fun u => !Tryz.prog.wantsStandIn u) = true := by kernel_rfl
theorem f_wbt : Rows.arenaBackRow.wfByText (OpenSpec.ofChange Rows.arenaBackSpec) = true := by kernel_rfl
theorem f_goes : false = Rows.arenaBackRow.goesBy Tryz.pinned.checked.prog := by kernel_rfl
end Go.Proofs.YtklfojmflmablaaGreatDoor.back15
