/- The plain answers at the literals of LexNames. -/
import Derived.Test.YtjadjmkbjolklaaGreatDoorTgtP
import Derived.Test.YtjadjmkbjolklaaGreatDoorKept
import Derived.Test.YtjadjmkbjolklaaGreatDoorUndo
import Derived.Test.YtjadjmkbjolklaaGreatDoorDiffed
import Derived.Test.YtjadjmkbjolklaaGreatDoorTgtI
namespace Go.Proofs.YtjadjmkbjolklaaGreatDoor
open Go Go.RowKit

set_option maxRecDepth 100000

theorem nm_t1 : (lexTokens ⟨#[100, 101, 102, 32, 65, 98]⟩).2 = (4, 4) := by kernel_rfl
theorem nm_t2 : (lexTokens ⟨#[97, 32, 48, 49]⟩).2 = (2, 4) := by kernel_rfl
theorem nm_t3 : (lexTokens ⟨#[49, 48, 48, 48, 48, 48, 49]⟩).2 = (0, 3) := by kernel_rfl
theorem nm_s : spotRes ⟨#[97, 10, 98, 99]⟩ 3 = ((2, 2), 0) := by kernel_rfl

def nmL1 : List Tk := [⟨1, ⟨#[120]⟩, 0⟩, ⟨4, ⟨#[58]⟩, 0⟩, ⟨4, ⟨#[61]⟩, 0⟩, ⟨3, ⟨#[105, 110]⟩, 0⟩, ⟨4, ⟨#[40]⟩, 0⟩]
def nmL2 : List Tk := [⟨1, ⟨#[105, 110]⟩, 0⟩]
def nmL3 : List Tk := [⟨4, ⟨#[40]⟩, 0⟩, ⟨4, ⟨#[125]⟩, 0⟩]
theorem nm_g1 : tightRes nmL1 = ([120, 58, 32, 61, 105, 110, 40], 0) := by kernel_rfl
theorem nm_g2 : tightRes nmL2 = ([], 2) := by kernel_rfl
theorem nm_g3 : (pairsRes nmL3).2 = (1, 4) := by kernel_rfl

def nmSp : List Spl := [⟨1, 2, ⟨#[120, 121]⟩⟩]
theorem nm_m1 : movedRes ⟨#[97, 98, 99]⟩ nmSp 2 = (3, 0) := by kernel_rfl
theorem nm_m2 : movedRes ⟨#[97, 98, 99]⟩ nmSp 1 = (0, 7) := by kernel_rfl
theorem nm_u : undoRes ⟨#[97, 98, 99]⟩ nmSp = ([⟨1, 3, ⟨#[98]⟩⟩], 0) := by kernel_rfl
theorem nm_d : diffRes ⟨#[97, 97, 98]⟩ ⟨#[97, 98]⟩ = ([⟨1, 2, ⟨#[]⟩⟩], 0) := by kernel_rfl
theorem nm_k : keptRes ⟨#[97, 32, 98, 32, 99]⟩ ⟨2, 3, ⟨#[100, 32, 101]⟩⟩ = (1, 1, 0) := by kernel_rfl
theorem nm_r1 : (renameRes ⟨#[120, 32, 43, 32, 120, 115]⟩ ⟨#[120]⟩ ⟨#[120, 115]⟩).2 = 6 := by kernel_rfl
theorem nm_r2 : (renameRes ⟨#[120, 32, 43, 32, 120, 115]⟩ ⟨#[120]⟩ ⟨#[105, 102]⟩).2 = 2 := by kernel_rfl
theorem nm_r3 : (renameRes ⟨#[120, 32, 43, 32, 120, 115]⟩ ⟨#[121]⟩ ⟨#[122]⟩).2 = 7 := by kernel_rfl

theorem nm_at1 {r e : Int} (h : AtSpec ⟨#[97, 10, 98, 99]⟩ 1 2 r e) : r = 1 ∧ e = 0 := by
  have h0 : (textErr ⟨#[97, 10, 98, 99]⟩).2 = 0 := by kernel_rfl
  have h1 : (lineP ⟨#[97, 10, 98, 99]⟩ 1 : Int) = 1 := by kernel_rfl
  have h2 : (colP ⟨#[97, 10, 98, 99]⟩ 1 : Int) = 2 := by kernel_rfl
  exact h.one (.inr (.inl ⟨h0, rfl, 1, by decide, rfl, h1, h2⟩))

theorem nm_at2 {r e : Int} (h : AtSpec ⟨#[97, 10, 98, 99]⟩ 1 3 r e) : r = 0 ∧ e = 7 := by
  have h0 : (textErr ⟨#[97, 10, 98, 99]⟩).2 = 0 := by kernel_rfl
  refine h.one (.inr (.inr ⟨h0, rfl, rfl, fun k hk => ?_⟩))
  have hk4 : k ≤ 4 := hk
  have a0 : ((lineP ⟨#[97, 10, 98, 99]⟩ 0 : Int), (colP ⟨#[97, 10, 98, 99]⟩ 0 : Int)) = (1, 1) := by kernel_rfl
  have a1 : ((lineP ⟨#[97, 10, 98, 99]⟩ 1 : Int), (colP ⟨#[97, 10, 98, 99]⟩ 1 : Int)) = (1, 2) := by kernel_rfl
  have a2 : ((lineP ⟨#[97, 10, 98, 99]⟩ 2 : Int), (colP ⟨#[97, 10, 98, 99]⟩ 2 : Int)) = (2, 1) := by kernel_rfl
  have a3 : ((lineP ⟨#[97, 10, 98, 99]⟩ 3 : Int), (colP ⟨#[97, 10, 98, 99]⟩ 3 : Int)) = (2, 2) := by kernel_rfl
  have a4 : ((lineP ⟨#[97, 10, 98, 99]⟩ 4 : Int), (colP ⟨#[97, 10, 98, 99]⟩ 4 : Int)) = (2, 3) := by kernel_rfl
  simp only [Prod.mk.injEq] at a0 a1 a2 a3 a4
  rintro ⟨e1, e2⟩
  match k, hk4 with
  | 0, _ => omega
  | 1, _ => omega
  | 2, _ => omega
  | 3, _ => omega
  | 4, _ => omega
end Go.Proofs.YtjadjmkbjolklaaGreatDoor
