/- The contract of LexSplices. -/
import Derived.Test.YtjadjmkbjolklaaGreatDoorSplG
import Derived.Test.YtjadjmkbjolklaaGreatDoorSplH
import Derived.Test.YtjadjmkbjolklaaGreatDoorAwakeB
import Derived.Test.YtjadjmkbjolklaaGreatDoorRefE
import Derived.Laws.AppendOwnNone
namespace Go.Proofs.YtjadjmkbjolklaaGreatDoor
open Go.RowKit

theorem spl_refl (l : List Spl) : sameS l l = true := (sameS_iff l l).2 rfl

theorem splCells_length : ∀ l : List Spl, (splCells l).length = l.length * 3
  | [] => rfl
  | y :: r => by
    show (y.cells3 ++ splCells r).length = _
    rw [List.length_append, splCells_length r, List.length_cons]
    show 3 + _ = _
    omega

theorem splCells_one (l : List Spl) : ∀ u ∈ splCells l, u.oneCell' = true := by
  intro u hu
  obtain ⟨x, _, hx⟩ := List.mem_flatMap.1 hu
  simp only [Spl.cells3, List.mem_cons, List.not_mem_nil, or_false] at hx
  rcases hx with rfl | rfl | rfl <;> rfl

/-- The cells of splices, as a slice holds them. -/
theorem splIn_cells {W : World} {B : Nat} {ad : Addr} {n c : Nat} {l : List Spl} (h : SplIn W B (.slice (some ad) n c) l) : ∀ j u, (splCells l)[j]? = some u → W.cell? (ad.add j) = some u := by
  obtain ⟨A', c', hv, hA⟩ := h
  cases hv
  intro j u hj
  have hlen := splCells_length l
  have hj3 : j < l.length * 3 := by rw [← hlen]; exact (List.getElem?_eq_some_iff.1 hj).1
  have hi : l[j / 3]? = some (l[j / 3]'(by omega)) := List.getElem?_eq_getElem _
  have hg := cells_get Spl.cells3 3 (fun _ => rfl) l (j / 3) _ hi
  obtain ⟨b, off, e, _, g0, g1, g2⟩ := hA (j / 3) _ hi
  cases e
  have e : Addr.add ⟨b, off, none⟩ j = ⟨b, off + j, none⟩ := by unfold Addr.add; split <;> simp_all
  rw [e]
  have hjj : j = j / 3 * 3 + j % 3 := by omega
  have h3 : j % 3 = 0 ∨ j % 3 = 1 ∨ j % 3 = 2 := by omega
  rcases h3 with h3 | h3 | h3
  · have := hg 0 _ rfl
    rw [h3, Nat.add_zero] at hjj
    rw [Nat.add_zero, ← hjj] at this
    change (splCells l)[j]? = _ at this
    rw [this] at hj
    cases hj
    rw [← hjj] at g0
    exact g0
  · have := hg 1 _ rfl
    rw [h3] at hjj
    rw [← hjj] at this
    change (splCells l)[j]? = _ at this
    rw [this] at hj
    cases hj
    rw [Nat.add_assoc, ← hjj] at g1
    exact g1
  · have := hg 2 _ rfl
    rw [h3] at hjj
    rw [← hjj] at this
    change (splCells l)[j]? = _ at this
    rw [this] at hj
    cases hj
    rw [Nat.add_assoc, ← hjj] at g2
    exact g2

theorem splIn_own0 {W : World} {n₀ : Nat} {v : Value} {l : List Spl} (h : W.ownsRow n₀ 40 3 v (0 + l.length) ([] ++ splCells l)) : SplIn W W.heap.size v l := by
  rw [Nat.zero_add, List.nil_append] at h
  exact splIn_of_own h

theorem splIn_none {W : World} {B n c : Nat} {l : List Spl} (h : SplIn W B (.slice none n c) l) : l = [] := by
  obtain ⟨A, c', hv, hA⟩ := h
  cases hv
  cases l with
  | nil => rfl
  | cons x r =>
    obtain ⟨b, off, e, _⟩ := hA 0 x rfl
    cases e

theorem undoRes_len (s : ByteArray) (l : List Spl) : (undoRes s l).1.length ≤ l.length := by
  unfold undoRes
  split
  · simp
  · rw [back_length]
    exact Nat.le_refl _

end Go.Proofs.YtjadjmkbjolklaaGreatDoor
