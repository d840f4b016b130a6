/- The contract of the reference's Undo. -/
import Derived.Test.YtjadjmkbjolklaaGreatDoorSplF
import Derived.Test.YtjadjmkbjolklaaGreatDoorUndo
import Derived.StillTactics
import Derived.OwnWalk
import Derived.Laws.Pointers
import Derived.Deep.RegionHeld3
import Derived.Deep.AppendLies
namespace Go.Proofs.YtjadjmkbjolklaaGreatDoor
open Go.RowKit

theorem grow1_in2 {s : ByteArray} {x : Spl} (h1 : 0 ≤ x.from_) (h2 : x.from_ ≤ x.to_) (h3 : x.to_ ≤ s.size) : grow1 s x = (x.text.size : Int) - (x.to_ - x.from_) := by
  unfold grow1
  simp only [ByteArray.size_extract]
  omega

end Go.Proofs.YtjadjmkbjolklaaGreatDoor
