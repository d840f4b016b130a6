/- The contracts of the reference's SplicesError, check. -/
import Derived.Test.YtjadjmkbjolklaaGreatDoorSplA
import Derived.Test.YtjadjmkbjolklaaGreatDoorRefB
import Derived.BigQuiet
import Derived.Deep.QuietTactic
namespace Go.Proofs.YtjadjmkbjolklaaGreatDoor
open Go.RowKit

/-- What the reference's SplicesError returns. -/
def splErrR (s : ByteArray) (l : List Spl) : Int := if splErr s l ≠ 0 then splErr s l else (planRes s l).2

theorem idx9c (s : ByteArray) (k : Nat) (h : k < s.size) (w : World) : (Instr.index 9 (.string s) (.int .i64 k)).run Tryz.prog w = .ok (.int .u8 (s[k]!).toNat) w := by
  rw [getBang s k h]
  simp [Instr.index, go_sem, h]

theorem splErrR_over {s : ByteArray} {l : List Spl} (h : 40 < l.length) : splErrR s l = 5 := by
  have e : splErr s l = 5 := by unfold splErr; rw [if_pos h]
  unfold splErrR
  rw [e]
  rfl
theorem splErrR_wrong {s : ByteArray} {l : List Spl} (h : l.length ≤ 40) (h1 : splRight s.size 0 l = false) : splErrR s l = 3 := by
  have e : splErr s l = 3 := by unfold splErr; rw [if_neg (by omega), if_pos h1]
  unfold splErrR
  rw [e]
  rfl
theorem splErrR_bad {s : ByteArray} {l : List Spl} (h : l.length ≤ 40) (h1 : splRight s.size 0 l = true) (h2 : splBad l = true) : splErrR s l = 2 := by
  have e : splErr s l = 2 := by unfold splErr; rw [if_neg (by omega), if_neg (by simp [h1]), if_pos h2]
  unfold splErrR
  rw [e]
  rfl
theorem splErrR_plan {s : ByteArray} {l : List Spl} (h : l.length ≤ 40) (h1 : splRight s.size 0 l = true) (h2 : splBad l = false) : splErrR s l = if 2500 < (s.size : Int) + grown s 0 l then 5 else 0 := by
  have e : splErr s l = 0 := by unfold splErr; rw [if_neg (by omega), if_neg (by simp [h1]), if_neg (by simp [h2])]
  unfold splErrR
  rw [e, if_neg (by simp)]
  unfold planRes
  split <;> rfl

theorem grown_in (s : ByteArray) (g : Int) (l : List Spl) (k : Nat) (x : Spl) (h : l[k]? = some x) (h1 : 0 ≤ x.from_) (h2 : x.from_ ≤ x.to_) (h3 : x.to_ ≤ s.size) :
    grown s g (l.drop k) = grown s (g + ((x.text.size : Int) - (x.to_ - x.from_))) (l.drop (k + 1)) := by
  rw [grown_step s g l k x h]
  congr 1
  simp only [ByteArray.size_extract]
  omega

/-- What the reference's check returns. -/
theorem planAny_err (s : ByteArray) (l : List Spl) : (planAnyRes s l).2 = if (textErr s).2 ≠ 0 then (textErr s).2 else splErrR s l := by
  unfold planAnyRes splErrR
  split
  · rfl
  · split
    · rfl
    · rfl

end Go.Proofs.YtjadjmkbjolklaaGreatDoor
