/- What the rows' listed variables give; what every card asks. -/
import Derived.Test.YtjadjmkbjolklaaGreatDoorBase
import Derived.Test.YtjadjmkbjolklaaGreatDoorRows
import Derived.Lib.LaidU8
import Derived.Stop.LaidErr
import Derived.Lay
import Derived.ProofKit
namespace Go.Proofs.YtjadjmkbjolklaaGreatDoor
open Go.ChangeShapes Go.WideShapes Go.ChangeAt Go.RowKit

theorem own : ownKnob Tryz.prog.godebug = none := by kernel_rfl
theorem gRangeType : (Tryz.prog.globals[2]?).map (·.type) = some 66 := by kernel_rfl
theorem gSyntaxType : (Tryz.prog.globals[1]?).map (·.type) = some 66 := by kernel_rfl
theorem cells160 : Tryz.prog.cellsOf 139 = 1 := by kernel_rfl
theorem cells9 : Tryz.prog.cellsOf 9 = 1 := by kernel_rfl
theorem star : "*" ++ "errors.errorString" = "*errors.errorString" := by decide
theorem row158 (u : TypeId) (h : Tryz.prog.typeName? 3 u = some "*errors.errorString") : u = 137 :=
  typeName_ptr_named (nm := "errors.errorString") (by rw [star]; kernel_rfl) (by kernel_rfl) (by decide) u (by rw [star]; exact h)

/-- The two sentinels, wherever they stand on the list. -/
theorem numVars_of_laid {r : List (String × DataW Unit)} {W : World} (h : laidMet Tryz.prog (("strconv.ErrRange", Rows.laid_strconv_ErrRange) :: ("strconv.ErrSyntax", Rows.laid_strconv_ErrSyntax) :: r) W) : NumVars W := by
  obtain ⟨a1, s1, h1, _⟩ := laid_sentinel h gRange gRangeType Tryz.underlying66 row158 Tryz.underlying137 Tryz.underlying139 rfl rfl Tryz.underlying9 cells160 cells9
  obtain ⟨a2, s2, h2, _⟩ := laid_sentinel h.tail gSyntax gSyntaxType Tryz.underlying66 row158 Tryz.underlying137 Tryz.underlying139 rfl rfl Tryz.underlying9 cells160 cells9
  exact ⟨⟨_, _, h1⟩, ⟨_, _, h2⟩⟩

/-- A text's length is within the reach. -/
theorem reach_text {H : Type} {ts : List TypeId} {ds : List (DataW H)} {s : ByteArray} (hsz : (DataW.weightsEach Tryz.prog ts ds).all (· ≤ reachBytes) = true) (hm : s.data.toList.length ∈ DataW.weightsEach Tryz.prog ts ds) : s.size ≤ 140737488355328 := by
  have h2 : s.data.toList.length ≤ reachBytes := of_decide_eq_true (List.all_eq_true.1 hsz _ hm)
  unfold reachBytes at h2
  have h3 : s.data.toList.length = s.size := by simp
  omega
end Go.Proofs.YtjadjmkbjolklaaGreatDoor
