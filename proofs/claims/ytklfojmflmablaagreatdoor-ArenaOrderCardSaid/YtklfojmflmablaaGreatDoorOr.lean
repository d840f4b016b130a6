/- ArenaOrder: facts. -/
import Derived.Test.YtklfojmflmablaaGreatDoorOl
namespace Go.Proofs.YtklfojmflmablaaGreatDoor

theorem lessIf_mv (a b : Mv) : (if a.id ≠ b.id then decide (a.id < b.id) else if a.arg ≠ b.arg then decide (a.arg < b.arg) else if a.kind ≠ b.kind then decide (a.kind < b.kind) else decide (a.n < b.n)) = lessMv a b := by
  unfold lessMv
  by_cases h0 : a.id = b.id
  · rw [if_neg (by simpa using h0)]
    by_cases h1 : a.arg = b.arg
    · rw [if_neg (by simpa using h1)]
      by_cases h2 : a.kind = b.kind
      · rw [if_neg (by simpa using h2)]; simp [h0, h1, h2]
      · rw [if_pos h2]; simp [h0, h1, h2]
    · rw [if_pos h1]; simp [h0, h1]
  · rw [if_pos h0]; simp [h0]
theorem order_facts (a b c : Mv) (x y z u : Bool) (h1 : lessMv a b = x) (h2 : lessMv b a = y) (h3 : lessMv b c = z) (h4 : lessMv a c = u) :
    decide (a = b) = (!x && !y) ∧ (x && y) = false ∧ (!x || !z || u) = true := by
  subst h1 h2 h3 h4
  refine ⟨less_total a b, less_asymm a b, ?_⟩
  cases h : lessMv a b
  · simp
  · cases k : lessMv b c
    · simp
    · simp [less_trans a b c h k]
theorem lessB_mv (a b : Mv) : lessB a b = lessMv a b := (lessB_eq a b).trans (lessIf_mv a b)
end Go.Proofs.YtklfojmflmablaaGreatDoor
