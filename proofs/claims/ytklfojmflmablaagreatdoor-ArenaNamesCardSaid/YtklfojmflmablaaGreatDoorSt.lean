/- Package arena: the store of a place into its variable, as one step. -/
import Derived.Test.YtklfojmflmablaaGreatDoorArY
namespace Go.Proofs.YtklfojmflmablaaGreatDoor
open Go Go.RowKit Go.Shelf

set_option maxRecDepth 100000 in
theorem store111 {W : World} {B : Nat} {p : Pl} (h : BoxP W B p) (q : Pl) :
    ∃ W', (Instr.storeAt 111 (.pointer (some ⟨B, 0, none⟩)) (.agg #[.bool q.b.cell, .int .i64 q.b.n, .int .i64 q.id, .int .i64 q.arg, .bool q.jumps])).run Tryz.prog W = .ok () W' ∧ BoxP W' B q ∧ Only (fun k => k = B) W W' := by
  refine ⟨_, ?_, h.set q, only_set5 (S := fun k => k = B) rfl _ _ _ _ _⟩
  have c0 := h.c0
  have c1 := h.c1' (.bool q.b.cell)
  have c2 := h.c2' (.bool q.b.cell) (.int .i64 q.b.n)
  have c3 := h.c3' (.bool q.b.cell) (.int .i64 q.b.n) (.int .i64 q.id)
  have c4 := h.c4' (.bool q.b.cell) (.int .i64 q.b.n) (.int .i64 q.id) (.int .i64 q.arg)
  have f0 := h.f0
  go_simp
  try trace_state

/-- .. and step by step, each world a letter. -/
theorem chain111 {W : World} {B : Nat} {p : Pl} (h : BoxP W B p) (q : Pl) : ∃ x1 x2 x3 x4 x5 : World,
    W.setCell ⟨B, 0, none⟩ (.bool q.b.cell) = x1 ∧ x1.setCell ⟨B, 1, none⟩ (.int .i64 q.b.n) = x2 ∧ x2.setCell ⟨B, 2, none⟩ (.int .i64 q.id) = x3 ∧ x3.setCell ⟨B, 3, none⟩ (.int .i64 q.arg) = x4 ∧ x4.setCell ⟨B, 4, none⟩ (.bool q.jumps) = x5 ∧
    (∃ o, W.cell? ⟨B, 0, none⟩ = some o) ∧ W.frozen? ⟨B, 0, none⟩ = false ∧ (∃ o, x1.cell? ⟨B, 1, none⟩ = some o) ∧ x1.frozen? ⟨B, 1, none⟩ = false ∧ (∃ o, x2.cell? ⟨B, 2, none⟩ = some o) ∧ x2.frozen? ⟨B, 2, none⟩ = false ∧
    (∃ o, x3.cell? ⟨B, 3, none⟩ = some o) ∧ x3.frozen? ⟨B, 3, none⟩ = false ∧ (∃ o, x4.cell? ⟨B, 4, none⟩ = some o) ∧ x4.frozen? ⟨B, 4, none⟩ = false ∧ BoxP x5 B q ∧ Only (fun k => k = B) W x5 := by
  refine ⟨_, _, _, _, _, rfl, rfl, rfl, rfl, rfl, ⟨_, h.c0⟩, h.f0 0, ⟨_, h.c1' _⟩, ?_, ⟨_, h.c2' _ _⟩, ?_, ⟨_, h.c3' _ _ _⟩, ?_, ⟨_, h.c4' _ _ _ _⟩, ?_, h.set q, only_set5 (S := fun k => k = B) rfl _ _ _ _ _⟩
  · rw [World.frozen?_setCell]; exact h.f0 1
  · rw [World.frozen?_setCell, World.frozen?_setCell]; exact h.f0 2
  · rw [World.frozen?_setCell, World.frozen?_setCell, World.frozen?_setCell]; exact h.f0 3
  · rw [World.frozen?_setCell, World.frozen?_setCell, World.frozen?_setCell, World.frozen?_setCell]; exact h.f0 4
end Go.Proofs.YtklfojmflmablaaGreatDoor
