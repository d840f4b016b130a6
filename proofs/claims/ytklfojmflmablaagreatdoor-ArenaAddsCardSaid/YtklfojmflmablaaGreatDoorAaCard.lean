/- ArenaAdds, the whole card: whatever arena and types, as long as the variables that its row lists hold what the library's text lays in them. -/
import Derived.Test.YtklfojmflmablaaGreatDoorAaLift
import Derived.Test.YtklfojmflmablaaGreatDoorCards
import Derived.Test.YtklfojmflmablaaGreatDoorTie
import Derived.Test.YtklfojmflmablaaGreatDoorAaF
import Derived.WalkKit
import Derived.ProofKit
import Derived.SevenTiedAt
namespace Go.Proofs.YtklfojmflmablaaGreatDoor.adds6
open Go.ChangeShapes Go.WideShapes Go.ChangeAt Go.RowKit

theorem said : Rows.ArenaAddsSaid :=
  OpenClaim.holds_of_wide 6 Tryz.f6 rfl rfl rfl rfl rfl rfl rfl ⟨rfl, rfl, rfl, rfl, rfl⟩ rfl rfl rfl rfl rfl f_named Tryz.func6 closed f_inst f_wrap
    (fun os started H enc _ => lifted os started H enc)

theorem plain (f : FuncId) (fn : Func) (hf : Tryz.pinned.checked.prog.funcNamed "riposte/ripostelaw04.ArenaAdds" = some f) (hfn : Tryz.pinned.checked.prog.funcs[f]? = some fn) :
    true = Tryz.pinned.checked.prog.looks [] ∧ ∀ (j : Nat) t, fn.params[j]? = some t → Tryz.pinned.checked.prog.wantsStandIn t = false := by
  obtain rfl : f = 6 := Option.some.inj ((show Tryz.pinned.checked.prog.funcNamed "riposte/ripostelaw04.ArenaAdds" = some 6 from f_named).symm.trans hf) |>.symm
  obtain rfl : fn = Tryz.f6 := (Option.some.inj (Tryz.func6.symm.trans hfn)).symm
  refine ⟨j_looks.symm, fun j t ht => ?_⟩
  have hp : Tryz.f6.params = #[26, 22] := by kernel_rfl
  rw [hp] at ht
  have hm : t ∈ [26, 22] := by simpa using Array.mem_of_getElem? ht
  exact (show Tryz.prog.wantsStandIn t = false by simpa using List.all_eq_true.1 stand t hm)

theorem card : Rows.ArenaAddsCardSaid :=
  Claim7.holds_tied_plain_at .later [] _ _ _ _ said (fun _ h => by cases h) f_wbt (fun _ h => by cases h) arenaAdds_row_tie rfl ⟨rfl, rfl⟩ j_main rfl plain f_goes
end Go.Proofs.YtklfojmflmablaaGreatDoor.adds6
