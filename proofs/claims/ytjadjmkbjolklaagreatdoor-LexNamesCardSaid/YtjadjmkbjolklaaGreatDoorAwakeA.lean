/- The examples that every law looks at. -/
import Derived.Test.YtjadjmkbjolklaaGreatDoorRefA
namespace Go.Proofs.YtjadjmkbjolklaaGreatDoor
open Go.RowKit

theorem ex1 : lexTokens ⟨#[120, 58, 61, 49, 32, 126, 97]⟩ = ([⟨1, ⟨#[120]⟩, 0, 0⟩, ⟨4, ⟨#[58, 61]⟩, 1, 0⟩, ⟨2, ⟨#[49]⟩, 3, 0⟩], 0, 0) := by kernel_rfl
theorem ex2 : (textErr ⟨#[120, 32, 126, 97]⟩).2 = 0 := by kernel_rfl
theorem ex2' : notes ⟨#[120, 32, 126, 97]⟩ = [⟨5, ⟨#[97]⟩, 2, 0⟩] := by kernel_rfl
theorem ex3 : applyRes ⟨#[97, 98, 99]⟩ [⟨1, 2, ⟨#[120, 121]⟩⟩] = ([97, 120, 121, 99], 0) := by kernel_rfl
theorem ex4 : renameRes ⟨#[120, 32, 43, 32, 120, 115]⟩ ⟨#[120]⟩ ⟨#[121]⟩ = ([121, 32, 43, 32, 120, 115], 0) := by kernel_rfl
end Go.Proofs.YtjadjmkbjolklaaGreatDoor
