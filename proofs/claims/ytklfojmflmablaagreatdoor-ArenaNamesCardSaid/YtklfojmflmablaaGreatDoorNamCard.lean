/- ArenaNames, the whole card: no argument at all, as long as the variables that its row lists hold what the library's text lays in them. -/
import Derived.Test.YtklfojmflmablaaGreatDoorNamLift
import Derived.Test.YtklfojmflmablaaGreatDoorCards
import Derived.Test.YtklfojmflmablaaGreatDoorTie
import Derived.Test.YtklfojmflmablaaGreatDoorNamF
import Derived.WalkKit
import Derived.ProofKit
import Derived.SevenTiedAt
namespace Go.Proofs.YtklfojmflmablaaGreatDoor.names10
open Go.ChangeShapes Go.WideShapes Go.ChangeAt Go.RowKit

theorem said : Rows.ArenaNamesSaid :=
  OpenClaim.holds_of_wide 10 Tryz.f10 rfl rfl rfl rfl rfl rfl rfl ⟨rfl, rfl, rfl, rfl, rfl⟩ rfl rfl rfl rfl rfl f_named Tryz.func10 closed f_inst f_wrap
    (fun os started H enc _ => lifted os started H enc)

theorem plain (f : FuncId) (fn : Func) (hf : Tryz.pinned.checked.prog.funcNamed "riposte/ripostelaw04.ArenaNames" = some f) (hfn : Tryz.pinned.checked.prog.funcs[f]? = some fn) :
    true = Tryz.pinned.checked.prog.looks [] ∧ ∀ (j : Nat) t, fn.params[j]? = some t → Tryz.pinned.checked.prog.wantsStandIn t = false := by
  obtain rfl : f = 10 := Option.some.inj ((show Tryz.pinned.checked.prog.funcNamed "riposte/ripostelaw04.ArenaNames" = some 10 from f_named).symm.trans hf) |>.symm
  obtain rfl : fn = Tryz.f10 := (Option.some.inj (Tryz.func10.symm.trans hfn)).symm
  refine ⟨j_looks.symm, fun j t ht => ?_⟩
  have hp : Tryz.f10.params = #[] := by kernel_rfl
  rw [hp] at ht
  have hm : t ∈ [] := by simpa using Array.mem_of_getElem? ht
  exact (show Tryz.prog.wantsStandIn t = false by simpa using List.all_eq_true.1 stand t hm)

theorem card : Rows.ArenaNamesCardSaid :=
  Claim7.holds_tied_plain_at .later [] _ _ _ _ said (fun _ h => by cases h) f_wbt (fun _ h => by cases h) arenaNames_row_tie rfl ⟨rfl, rfl⟩ j_main rfl plain f_goes
end Go.Proofs.YtklfojmflmablaaGreatDoor.names10
