/- ArenaSides, the whole card: whatever arena, as long as the variables that its row lists hold what the library's text lays in them. -/
import Derived.Test.YtklfojmflmablaaGreatDoorSdLift
import Derived.Test.YtklfojmflmablaaGreatDoorCards
import Derived.Test.YtklfojmflmablaaGreatDoorTie
import Derived.Test.YtklfojmflmablaaGreatDoorSdF
import Derived.WalkKit
import Derived.ProofKit
import Derived.SevenTiedAt
namespace Go.Proofs.YtklfojmflmablaaGreatDoor.sides
open Go.ChangeShapes Go.WideShapes Go.ChangeAt Go.RowKit

theorem said : Rows.ArenaSidesSaid :=
  OpenClaim.holds_of_wide 11 Tryz.f11 rfl rfl rfl rfl rfl rfl rfl ⟨rfl, rfl, rfl, rfl, rfl⟩ rfl rfl rfl rfl rfl f_named Tryz.func11 closed f_inst f_wrap
    (fun os started H enc _ => lifted os started H enc)

theorem plain (f : FuncId) (fn : Func) (hf : Tryz.pinned.checked.prog.funcNamed "riposte/ripostelaw04.ArenaSides" = some f) (hfn : Tryz.pinned.checked.prog.funcs[f]? = some fn) :
    true = Tryz.pinned.checked.prog.looks [] ∧ ∀ (j : Nat) t, fn.params[j]? = some t → Tryz.pinned.checked.prog.wantsStandIn t = false := by
  obtain rfl : f = 11 := Option.some.inj ((show Tryz.pinned.checked.prog.funcNamed "riposte/ripostelaw04.ArenaSides" = some 11 from f_named).symm.trans hf) |>.symm
  obtain rfl : fn = Tryz.f11 := (Option.some.inj (Tryz.func11.symm.trans hfn)).symm
  refine ⟨j_looks.symm, fun j t ht => ?_⟩
  have hp : Tryz.f11.params = #[26] := by kernel_rfl
  rw [hp] at ht
  have hm : t ∈ [26] := by simpa using Array.mem_of_getElem? ht
  exact (show Tryz.prog.wantsStandIn t = false by simpa using List.all_eq_true.1 stand t hm)

theorem card : Rows.ArenaSidesCardSaid :=
  Claim7.holds_tied_plain_at .later [] _ _ _ _ said (fun _ h => by cases h) f_wbt (fun _ h => by cases h) arenaSides_row_tie rfl ⟨rfl, rfl⟩ j_main rfl plain f_goes
end Go.Proofs.YtklfojmflmablaaGreatDoor.sides
