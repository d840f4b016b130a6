/- The contract of the reference's Tight. -/
import Derived.Test.YtjadjmkbjolklaaGreatDoorTgtG
import Derived.StillTailTactics
namespace Go.Proofs.YtjadjmkbjolklaaGreatDoor
open Go.RowKit

theorem tgt_round {l : List Tk} {k : Nat} {x : Tk} (hx : l[k]? = some x) : tgtAt l (k + 1) = tgtAt l k ++ (sepAt l k ++ x.text.data.toList) := by
  obtain ⟨h1, rfl⟩ := List.getElem?_eq_some_iff.1 hx
  rw [tgtAt, getElem!_pos l k h1]

theorem sep_zero (l : List Tk) : sepAt l 0 = [] := by simp [sepAt]

theorem sep_glue {l : List Tk} {k : Nat} {x y : Tk} (h : 0 < k) (hy : l[k - 1]? = some y) (hx : l[k]? = some x) : sepAt l k = if glue y x = true then [32] else [] := by
  obtain ⟨h1, rfl⟩ := List.getElem?_eq_some_iff.1 hx
  obtain ⟨h2, rfl⟩ := List.getElem?_eq_some_iff.1 hy
  unfold sepAt
  rw [getElem!_pos l k h1, getElem!_pos l (k - 1) h2]
  simp [h]

theorem mk_bytes (b : ByteArray) : (⟨b.data.toList.toArray⟩ : ByteArray) = b := by
  apply ByteArray.ext
  simp

theorem tgt_bound {l : List Tk} {k : Nat} {x : Tk} {sep : List UInt8} (hlen : (tgtAt l l.length).length ≤ 140737488355328) (hx : l[k]? = some x) (hs : sepAt l k = sep) :
    (tgtAt l k).length + sep.length + x.text.size ≤ 140737488355328 := by
  have h1 := (List.getElem?_eq_some_iff.1 hx).1
  have h2 := tgtAt_le l (j := k + 1) (k := l.length) (by omega)
  rw [tgt_round hx, hs, List.length_append, List.length_append] at h2
  have : x.text.data.toList.length = x.text.size := by simp
  omega

theorem app_data (a b : ByteArray) : (a ++ b).data.toList = a.data.toList ++ b.data.toList := by simp

theorem tight_bad {l : List Tk} (h : listErr l ≠ 0) : tightRes l = ([], listErr l) := by unfold tightRes; rw [if_pos h]
theorem tight_long {l : List Tk} (h : listErr l = 0) (h2 : 2500 < (tgtAt l l.length).length) : tightRes l = ([], 5) := by unfold tightRes; rw [if_neg (by simp [h]), if_pos h2]
theorem tight_fine {l : List Tk} (h : listErr l = 0) (h2 : ¬ 2500 < (tgtAt l l.length).length) : tightRes l = (tgtAt l l.length, 0) := by unfold tightRes; rw [if_neg (by simp [h]), if_neg h2]

theorem ret_si {a b : ByteArray} {c d : Int} (h : a = b) (h' : c = d) : Ending.returned (.tuple #[.string a, .int .i64 c]) = .returned (.tuple #[.string b, .int .i64 d]) := by rw [h, h']

end Go.Proofs.YtjadjmkbjolklaaGreatDoor
