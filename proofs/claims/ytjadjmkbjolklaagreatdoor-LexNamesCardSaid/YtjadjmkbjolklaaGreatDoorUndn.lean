/- The contract of LexUndone. -/
import Derived.Test.YtjadjmkbjolklaaGreatDoorApp
namespace Go.Proofs.YtjadjmkbjolklaaGreatDoor
open Go.RowKit

theorem list_get' (s : ByteArray) (k : Nat) (h : k < s.size) : s.data.toList[k]? = some s[k] := by
  rw [List.getElem?_eq_getElem (by simpa using h)]
  rfl

theorem size_mk (l : List UInt8) : (⟨l.toArray⟩ : ByteArray).size = l.length := by simp [ByteArray.size]

theorem back_text {s : ByteArray} : ∀ (l : List Spl) (g : Int), ∀ x ∈ backP s g l, x.text.size ≤ s.size
  | [], g, x, h => by cases h
  | y :: r, g, x, h => by
    rw [backP] at h
    cases h with
    | head => simp only [ByteArray.size_extract]; omega
    | tail _ h => exact back_text r _ x h

/-- What the loop of LexUndone knows of places before: each byte that stays behind a place goes behind a place. -/
def UpTo (s : ByteArray) (l : List Spl) (k : Nat) (last : Int) : Prop := ∀ (a : Nat) (n : Int), k ≤ a → a < s.size → mvP s a 0 l = (n, 0) → last < n

theorem upTo_start {s : ByteArray} {l : List Spl} (h : (applyRes s l).2 = 0) : UpTo s l 0 (-1) := by
  intro a n _ hs hn
  rcases (moved_ok h (a := a) (by omega) (by omega)).2 with h7 | ⟨n', h1, h2, _⟩
  · rw [h7] at hn
    cases hn
  · rw [h1] at hn
    cases hn
    omega

theorem upTo_more {s : ByteArray} {l : List Spl} {k k' : Nat} {last : Int} (h : UpTo s l k last) (hk : k ≤ k') : UpTo s l k' last := fun a n h1 h2 h3 => h a n (by omega) h2 h3

theorem upTo_next {s : ByteArray} {l : List Spl} (h : (applyRes s l).2 = 0) {k k' : Nat} {n : Int} (hn : mvP s k 0 l = (n, 0)) (hk : k < k') : UpTo s l k' n := by
  intro a n' h1 _ h3
  exact mv_mono (apply_beh h).2.1 (by omega) (by omega) hn h3

end Go.Proofs.YtjadjmkbjolklaaGreatDoor
