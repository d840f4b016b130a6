/- The contracts of the reference's Moved, Undo, and of few. -/
import Derived.Test.YtjadjmkbjolklaaGreatDoorSplF
import Derived.Test.YtjadjmkbjolklaaGreatDoorMoved
import Derived.StillTailTactics
namespace Go.Proofs.YtjadjmkbjolklaaGreatDoor
open Go.RowKit

theorem grow1_in {s : ByteArray} {x : Spl} (h1 : 0 ≤ x.from_) (h2 : x.from_ ≤ x.to_) (h3 : x.to_ ≤ s.size) : grow1 s x = (x.text.size : Int) - (x.to_ - x.from_) := by
  unfold grow1
  simp only [ByteArray.size_extract]
  omega

/-- The call answers yes or no, and nothing has changed. -/
def SomeB (w : World) (e : Ending) (w' : World) : Prop := ∃ b : Bool, e = .returned (.bool b) ∧ w = w'
theorem SomeB.mk {w : World} {b : Bool} : SomeB w (.returned (.bool b)) w := ⟨b, rfl, rfl⟩

end Go.Proofs.YtjadjmkbjolklaaGreatDoor
