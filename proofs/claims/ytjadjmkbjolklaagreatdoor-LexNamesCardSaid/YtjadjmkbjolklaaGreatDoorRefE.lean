/- The contract of the reference's SameSplices. -/
import Derived.Test.YtjadjmkbjolklaaGreatDoorRefA
import Derived.Laws.StructEq
import Derived.BigQuiet
import Derived.Deep.QuietTactic
namespace Go.Proofs.YtjadjmkbjolklaaGreatDoor
open Go.RowKit

/-- What a splice says. -/
def Spl.tri (x : Spl) : Int × Int × ByteArray := (x.from_, x.to_, x.text)

/-- Do splices say the same? -/
def sameS : List Spl → List Spl → Bool
  | [], [] => true
  | x :: r, y :: r' => if x.tri = y.tri then sameS r r' else false
  | _, _ => false

theorem sameS_iff : ∀ (l m : List Spl), sameS l m = true ↔ l.map Spl.tri = m.map Spl.tri
  | [], [] => by simp [sameS]
  | [], y :: r => by simp [sameS]
  | x :: r, [] => by simp [sameS]
  | x :: r, y :: r' => by
    rw [sameS]
    split
    · rename_i h
      simp [h, sameS_iff r r']
    · rename_i h
      simp [h]

theorem sameS_length : ∀ (l m : List Spl), sameS l m = true → l.length = m.length := fun l m h => by
  have := congrArg List.length ((sameS_iff l m).1 h)
  simpa using this

theorem sameS_step (l m : List Spl) (k : Nat) (x y : Spl) (hx : l[k]? = some x) (hy : m[k]? = some y) :
    sameS (l.drop k) (m.drop k) = if x.tri = y.tri then sameS (l.drop (k + 1)) (m.drop (k + 1)) else false := by
  obtain ⟨h1, rfl⟩ := List.getElem?_eq_some_iff.1 hx
  obtain ⟨h2, rfl⟩ := List.getElem?_eq_some_iff.1 hy
  rw [List.drop_eq_getElem_cons h1, List.drop_eq_getElem_cons h2, sameS]

theorem neq56 (w : World) (k a k' a' : Int) (s s' : ByteArray) :
    (binOp .neq 40 (.agg #[.int .i64 k, .int .i64 a, .string s]) (.agg #[.int .i64 k', .int .i64 a', .string s'])).run Tryz.prog w = .ok (.bool (!decide ((k, a, s) = (k', a', s')))) w := by
  have hS : Tryz.prog.underlying 40 = some (.struct (Tryz.prog.fieldsOf 40)) := by kernel_rfl
  have hp : Tryz.prog.stoodInHeld 40 = false := by kernel_rfl
  have u3 := Tryz.underlying3
  have u9 := Tryz.underlying9
  rw [run_neq_struct, show (10000 : Nat) = 9999 + 1 from rfl, run_equalIn_agg w 9999 40 _ _ hS hp]
  simp only [Program.fieldsOf, Tryz.underlying40]
  go_simp
  have hst : (s.toList = s'.toList) = (s = s') := by
    have := toList_beq s s'
    rw [Bool.eq_iff_iff] at this
    simpa using this
  simp only [hst]
  by_cases h1 : k = k' <;> by_cases h2 : s = s' <;> by_cases h3 : a = a' <;> simp [h1, h2, h3]

theorem guard56 : Tryz.prog.eqGuardType Tryz.prog.depth 40 = false := by kernel_rfl

end Go.Proofs.YtjadjmkbjolklaaGreatDoor
