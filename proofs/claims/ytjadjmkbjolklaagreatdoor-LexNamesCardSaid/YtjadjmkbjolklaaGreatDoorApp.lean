/- Splices that are copied: append to nothing. -/
import Derived.Test.YtjadjmkbjolklaaGreatDoorSplI
namespace Go.Proofs.YtjadjmkbjolklaaGreatDoor
open Go.RowKit

theorem run_append_nothing (w : World) (c : Nat) (ty : TypeId) : (Builtin.append_ #[41, 41] ty #[.slice none 0 0, .slice none 0 c]).run Tryz.prog w = .ok (.slice none 0 0) w := by
  obtain ⟨i0, hi, _⟩ := info_parts info56
  simp [Builtin.append_, run_underlying Tryz.underlying41, sizeOf, typeInfo, hi, Builtin.lenOf, Builtin.firstCells]

/-- What append to nothing leaves of splices. -/
theorem wpList_append_spl {w : World} {ops : Array Oper} {rest : List Oper} {o : Oper} {a : Act} {Q : Exit → Act → World → Prop} (hgd : o.guard = none) (s x : Operand)
    (ho : o.op = .call { callee := .builtin .append, args := #[s, x], argTypes := #[41, 41] }) (B : Nat) (A : Option Addr) (n c : Nat) (l : List Spl) (hs : a.eval s = .slice none 0 0) (hx : a.eval x = .slice A n c)
    (hv : SplIn w B (.slice A n c) l) (hl : l.length * 32 ≤ 140737488355328)
    (h : ∀ v' w', SplIn w' w'.heap.size v' l → Below w.heap.size w w' → wpList Tryz.prog ops Q rest (a.put o.dst v') w') : wpList Tryz.prog ops Q (o :: rest) a w := by
  obtain ⟨i0, hi, hz0, hz1, hz2⟩ := info_parts info56
  cases A with
  | none =>
    have hl0 := splIn_none hv
    subst hl0
    obtain ⟨A', c', e, _⟩ := hv
    cases e
    refine wpList_plain hgd fun K hK => ?_
    have hrun := run_append_nothing w c o.type
    unfold Oper.wp
    simp only [List.length_nil] at hx
    simp [execOp, ho, resolve, invoke, builtin, hs, hx, hrun, Result.andThen]
    exact hK _ _ (h _ _ ⟨none, 0, rfl, fun i x h => by simp at h⟩ (Below.refl _ _))
  | some ad =>
    have hn : n = l.length := by
      obtain ⟨A', c', e, _⟩ := hv
      cases e
      rfl
    subst hn
    exact wpList_append_own w hgd s x 41 ho w.heap.size 40 i0 _ 3 32 Tryz.underlying41 hi hz0 hz1 hz2 rfl (by decide) _ 0 [] hs (World.ownsRow_nil _ _ _ _) ad l.length c (splCells l) hx (splCells_length l) (splIn_cells hv) (splCells_one l) (by unfold maxLen; omega) (by omega) (Nat.le_refl _)
      (fun v' w' hown hgrow _ => h v' w' (splIn_own0 hown) ((Below.refl _ _).grown hgrow (Nat.le_refl _) (fun k e => by cases e)))

theorem neq56_same (w : World) (x : Spl) : (binOp .neq 40 (.agg #[.int .i64 x.from_, .int .i64 x.to_, .string x.text]) (.agg #[.int .i64 x.from_, .int .i64 x.to_, .string x.text])).run Tryz.prog w = .ok (.bool false) w := by
  rw [neq56, decide_eq_true rfl]
  rfl

theorem diffRes_text (a b : ByteArray) : ∀ x ∈ (diffRes a b).1, x.text.size ≤ b.size := by
  intro x hx
  unfold diffRes at hx
  split at hx
  · cases hx
  · split at hx
    · cases hx
    · split at hx
      · cases hx
      · obtain rfl := List.mem_singleton.1 hx
        unfold diffSpl
        simp only [ByteArray.size_extract]
        omega

theorem mk_list (b : ByteArray) : (⟨b.data.toList.toArray⟩ : ByteArray) = b := by
  apply ByteArray.ext
  simp

end Go.Proofs.YtjadjmkbjolklaaGreatDoor
