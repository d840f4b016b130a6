/- Package arena: the elements of a slice, one after the other (slices.Values). -/
import Derived.Test.YtklfojmflmablaaGreatDoorArV
import Derived.Test.YtklfojmflmablaaGreatDoorArU
import Derived.Test.YtklfojmflmablaaGreatDoorCkB
namespace Go.Proofs.YtklfojmflmablaaGreatDoor
open Go Go.RowKit Go.Shelf
attribute [local go_sem] Oper.semAt_some

/-- Cells of elements, each behind the others. -/
def RowIn {α : Type} (cs : α → List Value) (size : Nat) (W : World) (n : Nat) (v : Value) (l : List α) : Prop :=
  ∃ A c, v = .slice A l.length c ∧ ∀ i (x : α), l[i]? = some x → ∃ b off, A = some ⟨b, off, none⟩ ∧ b < n ∧ ∀ j u, (cs x)[j]? = some u → W.cell? ⟨b, off + i * size + j, none⟩ = some u

theorem take_pre {α : Type} (l : List α) (k : Nat) : l.take k <+: l := List.take_prefix k l
theorem take_snoc {α : Type} {l : List α} {k : Nat} {x : α} (h : l[k]? = some x) : l.take (k + 1) = l.take k ++ [x] := by
  obtain ⟨hk, rfl⟩ := List.getElem?_eq_some_iff.1 h
  exact List.take_succ_eq_append_getElem hk

def tyPV (z : Value × Ty) : Value := tyV z.1 z.2.result
def tyCells (z : Value × Ty) : List Value := [z.1, .bool z.2.result.cell, .int .i64 z.2.result.n]
def bsCells (x : Bs) : List Value := [.bool x.cell, .int .i64 x.n]
theorem bsRow {W : World} {n : Nat} {v : Value} {l : List Bs} (h : BsIn W n v l) : RowIn bsCells 2 W n v l := by
  obtain ⟨A, c, rfl, hA⟩ := h
  refine ⟨A, c, rfl, fun i x hx => ?_⟩
  obtain ⟨b, off, rfl, hb, h0, h1⟩ := hA i x hx
  refine ⟨b, off, rfl, hb, fun j u hu => ?_⟩
  match j, hu with
  | 0, hu => simp [bsCells] at hu; subst hu; exact h0
  | 1, hu => simp [bsCells] at hu; subst hu; exact h1
theorem tyRow {W : World} {n : Nat} {v : Value} {l : List Ty} (h : TyIn W n v l) : ∃ zs : List (Value × Ty), zs.map Prod.snd = l ∧ RowIn tyCells 3 W n v zs ∧ ∀ z ∈ zs, BsIn W n z.1 z.2.params := by
  obtain ⟨A, c, rfl, hA⟩ := h
  have hz : ∀ i : Nat, ∃ z : Value × Ty, ∀ x, l[i]? = some x → z.2 = x ∧ BsIn W n z.1 z.2.params ∧ ∃ b off, A = some ⟨b, off, none⟩ ∧ b < n ∧ ∀ j u, (tyCells z)[j]? = some u → W.cell? ⟨b, off + i * 3 + j, none⟩ = some u := by
    intro i
    cases hx : l[i]? with
    | none => exact ⟨(.nilFunc, ⟨[], ⟨false, 0⟩⟩), fun x h => by cases h⟩
    | some x =>
      obtain ⟨b, off, pv, rfl, hb, h0, h1, h2, h3⟩ := hA i x hx
      refine ⟨(pv, x), fun y hy => ?_⟩
      cases hy
      refine ⟨rfl, h0, b, off, rfl, hb, fun j u hu => ?_⟩
      match j, hu with
      | 0, hu => simp [tyCells] at hu; subst hu; exact h1
      | 1, hu => simp [tyCells] at hu; subst hu; exact h2
      | 2, hu => simp [tyCells] at hu; subst hu; exact h3
  obtain ⟨q, hq⟩ := Classical.axiomOfChoice hz
  have hmap : ((List.range l.length).map q).map Prod.snd = l := by
    apply List.ext_getElem
    · simp
    · intro i h1 h2
      simp only [List.getElem_map, List.getElem_range]
      exact (hq i _ (List.getElem?_eq_getElem h2)).1
  refine ⟨(List.range l.length).map q, hmap, ⟨A, c, by simp, fun i z hz => ?_⟩, fun z hz => ?_⟩
  · rw [List.getElem?_map, Option.map_eq_some_iff] at hz
    obtain ⟨j, hj, rfl⟩ := hz
    obtain ⟨hj1, hj2⟩ := List.getElem?_eq_some_iff.1 hj
    simp only [List.length_range] at hj1
    simp only [List.getElem_range] at hj2
    subst hj2
    exact (hq i _ (List.getElem?_eq_getElem hj1)).2.2
  · obtain ⟨i, hi, rfl⟩ := List.mem_map.1 hz
    exact (hq i _ (List.getElem?_eq_getElem (List.mem_range.1 hi))).2.1

end Go.Proofs.YtklfojmflmablaaGreatDoor
