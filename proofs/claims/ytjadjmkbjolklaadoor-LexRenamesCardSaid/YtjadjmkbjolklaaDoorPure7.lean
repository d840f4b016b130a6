/- Lines and columns. -/
import Derived.Test.YtjadjmkbjolklaaDoorPure3
import Derived.Lib.LastIndexByte
namespace Go.Proofs.YtjadjmkbjolklaaDoor
open Go

/-- Is there a line feed at a place? -/
def lf (s : ByteArray) (k : Nat) : Bool := ((s.data[k]!).toNat : Int) == 10

def lineP (s : ByteArray) : Nat → Nat
  | 0 => 1
  | k + 1 => if lf s k = true then lineP s k + 1 else lineP s k

def colP (s : ByteArray) : Nat → Nat
  | 0 => 1
  | k + 1 => if lf s k = true then 1 else colP s k + 1

theorem lf_get (s : ByteArray) (k : Nat) (h : k < s.size) : lf s k = (s[k] == 10) := by
  unfold lf
  have h1 : s.data[k]! = s[k] := by
    exact getElem!_pos s.data k h
  rw [h1, Bool.eq_iff_iff]
  simp only [beq_iff_eq]
  constructor
  · intro h
    have h2 : s[k].toNat = 10 := by omega
    exact UInt8.toNat_inj.1 h2
  · intro h
    rw [h]
    rfl

theorem lineP_pos (s : ByteArray) : ∀ k, 1 ≤ lineP s k
  | 0 => Nat.le_refl _
  | k + 1 => by
    have := lineP_pos s k
    rw [lineP]
    split <;> omega

theorem colP_pos (s : ByteArray) : ∀ k, 1 ≤ colP s k
  | 0 => Nat.le_refl _
  | k + 1 => by
    rw [colP]
    split <;> omega

theorem lineP_le (s : ByteArray) : ∀ k, lineP s k ≤ k + 1
  | 0 => Nat.le_refl _
  | k + 1 => by
    have := lineP_le s k
    rw [lineP]
    split <;> omega

theorem colP_le (s : ByteArray) : ∀ k, colP s k ≤ k + 1
  | 0 => Nat.le_refl _
  | k + 1 => by
    have := colP_le s k
    rw [colP]
    split <;> omega

theorem spot_step (s : ByteArray) (k : Nat) : lineP s k < lineP s (k + 1) ∨ (lineP s k = lineP s (k + 1) ∧ colP s k < colP s (k + 1)) := by
  rw [lineP, colP]
  split
  · exact .inl (by omega)
  · exact .inr ⟨rfl, by omega⟩

theorem spot_less (s : ByteArray) (k : Nat) : ∀ d, lineP s k < lineP s (k + d + 1) ∨ (lineP s k = lineP s (k + d + 1) ∧ colP s k < colP s (k + d + 1))
  | 0 => spot_step s k
  | d + 1 => by
    have h1 := spot_less s k d
    have h2 := spot_step s (k + d + 1)
    rw [show k + (d + 1) + 1 = k + d + 1 + 1 by omega]
    omega

theorem spot_lt {s : ByteArray} {k k' : Nat} (h : k < k') : lineP s k < lineP s k' ∨ (lineP s k = lineP s k' ∧ colP s k < colP s k') := by
  have := spot_less s k (k' - k - 1)
  rwa [show k + (k' - k - 1) + 1 = k' by omega] at this

theorem spot_inj {s : ByteArray} {k k' : Nat} (h1 : lineP s k = lineP s k') (h2 : colP s k = colP s k') : k = k' := by
  rcases Nat.lt_trichotomy k k' with h | h | h
  · have := spot_lt (s := s) h
    omega
  · exact h
  · have := spot_lt (s := s) h
    omega

theorem spot_run (s : ByteArray) (f : Nat) : ∀ d, (∀ j, f ≤ j → j < f + d → lf s j = false) → lineP s (f + d) = lineP s f ∧ colP s (f + d) = colP s f + d
  | 0, _ => ⟨rfl, rfl⟩
  | d + 1, h => by
    have ih := spot_run s f d (fun j h1 h2 => h j h1 (by omega))
    have hd := h (f + d) (by omega) (by omega)
    rw [← Nat.add_assoc, lineP, colP, hd, ih.1, ih.2]
    simp
    omega

theorem countP (s : ByteArray) : ∀ k, k ≤ s.size → lineP s k = 1 + Lib.countByte (s.extract 0 k).data.toList 10
  | 0, _ => by simp [lineP, Lib.countByte]
  | k + 1, h => by
    have ih := countP s k (by omega)
    have e : (s.extract 0 (k + 1)).data.toList = (s.extract 0 k).data.toList ++ [s[k]] := by
      simp only [ByteArray.data_extract, Array.toList_extract, List.extract_eq_take_drop, List.drop_zero, Nat.sub_zero]
      rw [List.take_succ_eq_append_getElem (show k < s.data.toList.length by simp; omega)]
      rfl
    rw [lineP, ih, e, lf_get s k (by omega)]
    unfold Lib.countByte
    rw [List.count_append, List.count_singleton]
    split
    · rfl
    · rfl

theorem lastIdx_col (s : ByteArray) (n : Nat) (hn : n ≤ s.size) : ∀ k, k ≤ n → (k : Int) - Lib.lastIdx (s.extract 0 n) 10 k = colP s k
  | 0, _ => rfl
  | k + 1, h => by
    have ih := lastIdx_col s n hn k (by omega)
    have e : (s.extract 0 n).data[k]! = s.data[k]! := by
      have h1 : k < s.data.size := by have : k < s.size := by omega
                                      exact this
      have h2 : k < (s.extract 0 n).data.size := by simp; omega
      simp only [h1, h2, getElem!_pos]
      simp
    rw [Lib.lastIdx, colP, e]
    unfold lf
    split
    · rename_i h1
      rw [if_pos (by simpa using h1)]
      omega
    · rename_i h1
      rw [if_neg (by simpa using h1)]
      omega
end Go.Proofs.YtjadjmkbjolklaaDoor
