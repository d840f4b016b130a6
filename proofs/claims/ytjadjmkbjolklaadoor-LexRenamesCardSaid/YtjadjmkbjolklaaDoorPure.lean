/- Plain functions on bytes: what layer lex computes. -/
import Derived.Lib.Bytealg
namespace Go.Proofs.YtjadjmkbjolklaaDoor
open Go

def marksL : List UInt8 := [61, 60, 43, 45, 42, 33, 40, 41, 123, 125, 44, 59, 58, 46]

/-- The class of a byte. -/
def cls (b : Int) : Int :=
  if b = 32 ∨ b = 10 then 1 else if b < 32 ∨ 126 < b then 0 else if b = 126 then 6
  else if 97 ≤ b ∧ b ≤ 122 then 2 else if 65 ≤ b ∧ b ≤ 90 then 3 else if 48 ≤ b ∧ b ≤ 57 then 4
  else if 0 ≤ Lib.indexByte marksL b.toNat.toUInt8 then 5 else 7

theorem cls_bd (b : Int) : 0 ≤ cls b ∧ cls b ≤ 7 := by
  unfold cls
  repeat' split
  all_goals omega

/-- How many bytes from a place on meet p. -/
def spanAt (p : UInt8 → Bool) (s : ByteArray) (k : Nat) : Nat := ((s.data.toList.drop k).takeWhile p).length

/-- The first place from k on whose byte does not meet p; at most the end. -/
def pastP (p : UInt8 → Bool) (s : ByteArray) (k : Nat) : Nat := k + spanAt p s k

theorem drop_cons (s : ByteArray) (k : Nat) (h : k < s.size) : s.data.toList.drop k = s[k] :: s.data.toList.drop (k + 1) := by
  rw [List.drop_eq_getElem_cons (by simpa using h)]
  rfl

theorem pastP_no (p : UInt8 → Bool) (s : ByteArray) (k : Nat) (h : k < s.size) (hp : p s[k] = false) : pastP p s k = k := by
  unfold pastP spanAt
  rw [drop_cons s k h, List.takeWhile_cons_of_neg (by simp [hp])]
  rfl

theorem pastP_yes (p : UInt8 → Bool) (s : ByteArray) (k : Nat) (h : k < s.size) (hp : p s[k] = true) : pastP p s k = pastP p s (k + 1) := by
  unfold pastP spanAt
  rw [drop_cons s k h, List.takeWhile_cons_of_pos hp, List.length_cons]
  omega

theorem pastP_end (p : UInt8 → Bool) (s : ByteArray) (k : Nat) (h : s.size ≤ k) : pastP p s k = k := by
  unfold pastP spanAt
  rw [List.drop_eq_nil_of_le (by simpa using h)]
  rfl

theorem pastP_ge (p : UInt8 → Bool) (s : ByteArray) (k : Nat) : k ≤ pastP p s k := by unfold pastP; omega

theorem pastP_le (p : UInt8 → Bool) (s : ByteArray) (k : Nat) (h : k ≤ s.size) : pastP p s k ≤ s.size := by
  unfold pastP spanAt
  have h1 := (List.takeWhile_sublist p (l := s.data.toList.drop k)).length_le
  have h2 : (s.data.toList.drop k).length = s.size - k := by simp
  omega
end Go.Proofs.YtjadjmkbjolklaaDoor
