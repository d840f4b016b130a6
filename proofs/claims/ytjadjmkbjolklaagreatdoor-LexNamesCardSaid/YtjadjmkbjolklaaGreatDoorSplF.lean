/- The contracts of the reference's Spliced, Apply. -/
import Derived.Test.YtjadjmkbjolklaaGreatDoorSplE
import Derived.Test.YtjadjmkbjolklaaGreatDoorDiffed
import Derived.WalkSpells
namespace Go.Proofs.YtjadjmkbjolklaaGreatDoor
open Go.RowKit

theorem aftS_step (s : ByteArray) (f : Nat) (l : List Spl) (k : Nat) (x : Spl) (h : l[k]? = some x) :
    aftS s f (l.drop k) = ((s.extract f x.from_.toNat).data.toList ++ x.text.data.toList) ++ aftS s x.to_.toNat (l.drop (k + 1)) := by
  obtain ⟨hk, rfl⟩ := List.getElem?_eq_some_iff.1 h
  rw [List.drop_eq_getElem_cons hk, aftS_cons, ext_list, List.append_assoc]

theorem str_app (l : List UInt8) (a b : ByteArray) : (⟨l.toArray⟩ : ByteArray) ++ (a ++ b) = ⟨(l ++ (a.data.toList ++ b.data.toList)).toArray⟩ := by
  apply ByteArray.ext
  apply Array.ext'
  simp

theorem len_list (s : ByteArray) : s.data.toList.length = s.size := by simp

theorem ret_str' {a b : ByteArray} (h : a = b) : Ending.returned (.string a) = .returned (.string b) := by rw [h]

theorem str_app1 (l : List UInt8) (a : ByteArray) : (⟨l.toArray⟩ : ByteArray) ++ a = ⟨(l ++ a.data.toList).toArray⟩ := by
  apply ByteArray.ext
  apply Array.ext'
  simp

theorem aft_len {s : ByteArray} {l : List Spl} (h : (planAnyRes s l).2 = 0) : (aftS s 0 l).length ≤ 2500 := by
  obtain ⟨p1, p2, p3, p4⟩ := planAny_ok h
  have := (chgs_ord s l 0 0 (Int.le_refl 0) (by omega) (splErr_ok p2).2.1).2
  simp only [Int.toNat_zero] at this
  unfold aftS
  omega

end Go.Proofs.YtjadjmkbjolklaaGreatDoor
