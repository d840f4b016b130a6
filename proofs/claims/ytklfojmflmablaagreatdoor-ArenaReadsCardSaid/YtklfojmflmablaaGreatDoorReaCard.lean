/- ArenaReads, the whole card: whatever text, as long as the variables that its row lists hold what the library's text lays in them. -/
import Derived.Test.YtklfojmflmablaaGreatDoorReaLift
import Derived.Test.YtklfojmflmablaaGreatDoorCards
import Derived.Test.YtklfojmflmablaaGreatDoorTie
import Derived.Test.YtklfojmflmablaaGreatDoorReaF
import Derived.WalkKit
import Derived.ProofKit
import Derived.SevenTiedAt
namespace Go.Proofs.YtklfojmflmablaaGreatDoor.reads8
open Go.ChangeShapes Go.WideShapes Go.ChangeAt Go.RowKit

theorem said : Rows.ArenaReadsSaid :=
  OpenClaim.holds_of_wide 8 Tryz.f8 rfl rfl rfl rfl rfl rfl rfl ⟨rfl, rfl, rfl, rfl, rfl⟩ rfl rfl rfl rfl rfl f_named Tryz.func8 closed f_inst f_wrap
    (fun os started H enc _ => lifted os started H enc)

theorem plain (f : FuncId) (fn : Func) (hf : Tryz.pinned.checked.prog.funcNamed "riposte/ripostelaw04.ArenaReads" = some f) (hfn : Tryz.pinned.checked.prog.funcs[f]? = some fn) :
    true = Tryz.pinned.checked.prog.looks [] ∧ ∀ (j : Nat) t, fn.params[j]? = some t → Tryz.pinned.checked.prog.wantsStandIn t = false := by
  obtain rfl : f = 8 := Option.some.inj ((show Tryz.pinned.checked.prog.funcNamed "riposte/ripostelaw04.ArenaReads" = some 8 from f_named).symm.trans hf) |>.symm
  obtain rfl : fn = Tryz.f8 := (Option.some.inj (Tryz.func8.symm.trans hfn)).symm
  refine ⟨j_looks.symm, fun j t ht => ?_⟩
  have hp : Tryz.f8.params = #[9] := by kernel_rfl
  rw [hp] at ht
  have hm : t ∈ [9] := by simpa using Array.mem_of_getElem? ht
  exact (show Tryz.prog.wantsStandIn t = false by simpa using List.all_eq_true.1 stand t hm)

theorem card : Rows.ArenaReadsCardSaid :=
  Claim7.holds_tied_plain_at .later [] _ _ _ _ said (fun _ h => by cases h) f_wbt (fun _ h => by cases h) arenaReads_row_tie rfl ⟨rfl, rfl⟩ j_main rfl plain f_goes
end Go.Proofs.YtklfojmflmablaaGreatDoor.reads8
