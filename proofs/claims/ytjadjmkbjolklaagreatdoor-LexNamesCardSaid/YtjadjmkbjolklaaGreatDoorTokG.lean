/- The contract of the reference's Token. -/
import Derived.Test.YtjadjmkbjolklaaGreatDoorTokE
namespace Go.Proofs.YtjadjmkbjolklaaGreatDoor
open Go.RowKit

/-- A block that holds a token. -/
def Box3 (W : World) (B : Nat) (k : Int) (t : ByteArray) (a : Int) : Prop := W.heap[B]? = some (.cells #[.int .u8 k, .string t, .int .i64 a] 35 (0, 0))

section
variable {W : World} {B : Nat} {k a : Int} {t : ByteArray}
theorem Box3.lt (h : Box3 W B k t a) : B < W.heap.size := (Array.getElem?_eq_some_iff.1 h).1
theorem Box3.c0 (h : Box3 W B k t a) : W.cell? ⟨B, 0, none⟩ = some (.int .u8 k) := cell_of_row W B 0 _ 35 (0, 0) h
theorem Box3.c1 (h : Box3 W B k t a) : W.cell? ⟨B, 1, none⟩ = some (.string t) := cell_of_row W B 1 _ 35 (0, 0) h
theorem Box3.c2 (h : Box3 W B k t a) : W.cell? ⟨B, 2, none⟩ = some (.int .i64 a) := cell_of_row W B 2 _ 35 (0, 0) h
theorem Box3.f0 (h : Box3 W B k t a) (i : Nat) : W.frozen? ⟨B, i, none⟩ = false := by simp [World.frozen?, show W.heap[B]? = _ from h]
theorem Box3.new (W : World) (k : Int) (t : ByteArray) (a : Int) : Box3 (W.alloc (.cells #[.int .u8 k, .string t, .int .i64 a] 35)) W.heap.size k t a := World.alloc_heap_new W _
theorem Box3.below {W' : World} {n : Nat} (h : Box3 W B k t a) (hb : Below n W W') (hn : B < n) : Box3 W' B k t a := (hb.block B hn).trans h
theorem Box3.set (h : Box3 W B k t a) (k' : Int) (t' : ByteArray) (a' : Int) : Box3 (((W.setCell ⟨B, 0, none⟩ (.int .u8 k')).setCell ⟨B, 1, none⟩ (.string t')).setCell ⟨B, 2, none⟩ (.int .i64 a')) B k' t' a' := by
  have h1 := heap_setCell_same W B 0 _ 35 (.int .u8 k') h
  have h2 := heap_setCell_same _ B 1 _ 35 (.string t') h1
  exact heap_setCell_same _ B 2 _ 35 (.int .i64 a') h2
theorem Box3.c1' (h : Box3 W B k t a) (v : Value) : (W.setCell ⟨B, 0, none⟩ v).cell? ⟨B, 1, none⟩ = some (.string t) := by
  have h1 := heap_setCell_same W B 0 _ 35 v h
  exact cell_of_row _ B 1 _ 35 (0, 0) h1
theorem Box3.c2' (h : Box3 W B k t a) (v u : Value) : ((W.setCell ⟨B, 0, none⟩ v).setCell ⟨B, 1, none⟩ u).cell? ⟨B, 2, none⟩ = some (.int .i64 a) := by
  have h1 := heap_setCell_same W B 0 _ 35 v h
  have h2 := heap_setCell_same _ B 1 _ 35 u h1
  exact cell_of_row _ B 2 _ 35 (0, 0) h2
theorem Box3.low {b0 : Nat} {w0 : World} (hb : Below b0 w0 W) (hB : b0 ≤ B) (v u x : Value) : Below b0 w0 (((W.setCell ⟨B, 0, none⟩ v).setCell ⟨B, 1, none⟩ u).setCell ⟨B, 2, none⟩ x) :=
  ((hb.setCell (p := ⟨B, 0, none⟩) hB _).setCell (p := ⟨B, 1, none⟩) hB _).setCell (p := ⟨B, 2, none⟩) hB _
end

/-- What the reference's Token returns, as values. -/
def tokVal (s : ByteArray) (k : Nat) : Value := .tuple #[.agg #[.int .u8 (tokRef s k).1, .string (tokRef s k).2.1, .int .i64 (if (tokRef s k).2.2 = 0 then k else 0)], .int .i64 (tokRef s k).2.2]
theorem tokVal_eq {s : ByteArray} {k : Nat} {a : Int} {t : ByteArray} {e : Int} (h : tokRef s k = (a, t, e)) : tokVal s k = .tuple #[.agg #[.int .u8 a, .string t, .int .i64 (if e = 0 then k else 0)], .int .i64 e] := by
  unfold tokVal
  rw [h]

theorem hasP_kw (r : ByteArray) : hasP kwL r = isKw r := rfl
theorem signL_small : ∀ x ∈ signL, x.size ≤ 2 := by decide

theorem firstSign_step (s : ByteArray) (k : Nat) (l : List ByteArray) (j : Nat) (x : ByteArray) (h : l[j]? = some x) : firstSign s k (l.drop j) = if begP s k x = true then some x else firstSign s k (l.drop (j + 1)) := by
  obtain ⟨hk, rfl⟩ := List.getElem?_eq_some_iff.1 h
  rw [List.drop_eq_getElem_cons hk, firstSign]

end Go.Proofs.YtjadjmkbjolklaaGreatDoor
