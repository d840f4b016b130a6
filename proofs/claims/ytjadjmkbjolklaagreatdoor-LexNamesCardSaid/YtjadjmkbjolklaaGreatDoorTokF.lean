/- The contracts of the reference's All, Tokens, Notes. -/
import Derived.Test.YtjadjmkbjolklaaGreatDoorTokG
import Derived.Test.YtjadjmkbjolklaaGreatDoorRefB
import Derived.Maps.AppendAt
namespace Go.Proofs.YtjadjmkbjolklaaGreatDoor
open Go.RowKit Go.Maps

/-- Two rows that do not share a block. -/
def Apart (v u : Value) : Prop := v.ownBlock = none ∨ u.ownBlock = none ∨ v.ownBlock ≠ u.ownBlock
theorem Apart.fst {v u : Value} (h : Apart v u) : v.ownBlock = none ∨ v.ownBlock ≠ u.ownBlock := by
  rcases h with h | h | h
  · exact .inl h
  · cases hv : v.ownBlock with
    | none => exact .inl rfl
    | some g => exact .inr (by rw [h]; simp)
  · exact .inr h
theorem Apart.symm {v u : Value} (h : Apart v u) : Apart u v := by
  rcases h with h | h | h
  · exact .inr (.inl h)
  · exact .inl h
  · exact .inr (.inr (Ne.symm h))
theorem row_lt {W : World} {n₀ : Nat} {e : TypeId} {size k : Nat} {v : Value} {xs : List Value} (h : W.ownsRow n₀ e size v k xs) {j : Nat} (ej : v.ownBlock = some j) : j < W.heap.size := by
  rcases h.2 with ⟨rfl, _⟩ | ⟨g, cap, cur, rfl, hb, hg, _⟩
  · simp [Value.ownBlock] at ej
  · obtain rfl : g = j := by simpa [Value.ownBlock] using ej
    exact (Array.getElem?_eq_some_iff.1 hg).1
theorem Apart.app {v v' u : Value} {N : Nat} (h : Apart v u) (h' : v'.ownBlock = v.ownBlock ∨ v'.ownBlock = some N) (hlt : ∀ g, u.ownBlock = some g → g < N) : Apart v' u := by
  rcases h' with h' | h'
  · unfold Apart
    rw [h']
    exact h
  · refine .inr ?_
    cases hu : u.ownBlock with
    | none => exact .inl rfl
    | some g =>
      refine .inr ?_
      rw [h']
      intro e
      injection e with e
      have := hlt g hu
      omega
theorem Apart.nil (u : Value) : Apart (.slice none 0 0) u := .inl rfl

theorem row_call {W W' : World} {n₀ : Nat} {e : TypeId} {size k : Nat} {v : Value} {xs : List Value} (h : W.ownsRow n₀ e size v k xs) (hb : Below W.heap.size W W') : W'.ownsRow n₀ e size v k xs :=
  h.kept (only_of_below hb none) (by cases hv : v.ownBlock <;> simp)

theorem toks_app {W : World} {n₀ : Nat} {v : Value} {l : List Piece} {x : Piece} (h : W.ownsRow n₀ 35 3 v (l.length + 1) (tokCells l ++ [.int .u8 x.kind, .string x.text, .int .i64 x.at_])) : OwnToks W n₀ v (l ++ [x]) := by
  unfold OwnToks
  rw [tokCells_append, List.length_append]
  exact h

theorem lineEnd_size {s : ByteArray} {k : Nat} (hk : k < s.size) (h : s[k].toNat = 126) : 1 ≤ (s.extract k (lineEndP s k)).size ∧ k + (s.extract k (lineEndP s k)).size = lineEndP s k ∧ lineEndP s k ≤ s.size ∧ k < lineEndP s k ∧
    (s.extract k (lineEndP s k)).extract 1 (s.extract k (lineEndP s k)).size = s.extract (k + 1) (lineEndP s k) := by
  have h1 := lineEnd_gt hk h
  have h2 := lineEndP_le s k (by omega)
  have h3 : (s.extract k (lineEndP s k)).size = lineEndP s k - k := by simp; omega
  refine ⟨by omega, by omega, h2, by omega, ?_⟩
  rw [h3]
  apply ByteArray.ext
  apply Array.ext'
  simp only [ByteArray.data_extract, Array.toList_extract, List.extract_eq_take_drop, List.drop_take, List.drop_drop, List.take_take]
  congr 1
  omega

end Go.Proofs.YtjadjmkbjolklaaGreatDoor
