/- Package arena: the arena of the document's examples. -/
import Derived.Test.YtklfojmflmablaaGreatDoorPl
import Derived.Test.YtklfojmflmablaaGreatDoorWr
namespace Go.Proofs.YtklfojmflmablaaGreatDoor
open Go Go.RowKit Go.Shelf

def exAr : Ar := ⟨[⟨[⟨false, 3⟩, ⟨true, 2⟩], ⟨false, 1⟩⟩, ⟨[], ⟨true, 2⟩⟩], ⟨false, 2⟩, false⟩
theorem results_ex {tmps : Array Value} {W : World} {B : Nat} {v : Value} {root : Bs} {ju : Bool} (h : BoxA W B v root ju) (t0 : tmps[0]?.getD undef = .pointer (some ⟨B, 0, none⟩)) :
    (results Tryz.f50 tmps).run Tryz.prog W = .ok (arV v root ju) W := by
  have c0 := cell_of_row W B 0 _ 26 (0, 0) h
  have c1 := cell_of_row W B 1 _ 26 (0, 0) h
  have c2 := cell_of_row W B 2 _ 26 (0, 0) h
  have c3 := cell_of_row W B 3 _ 26 (0, 0) h
  simp at c0 c1 c2 c3
  simp [results, Tryz.results50, t0, go_sem, loadVar, c0, c1, c2, c3, arV]
set_option maxRecDepth 100000 in
theorem example_any (w : World) : Calls Tryz.prog 50 #[] w fun e w' => ∃ v, e = .returned (arV v exAr.root exAr.jumps) ∧ TyIn w' w'.heap.size v exAr.ids ∧ Below w.heap.size w w' := by
  go_enter Tryz.func50, Tryz.ntmps50
  go_wp2
  obtain ⟨X0, e0⟩ : ∃ X, Obj.cells #[Value.slice (some { block := w.heap.size + 1 + 1, off := 0 }) 2 2, Value.bool false, Value.int IntKind.i64 2, Value.bool false] 26 = X := ⟨_, rfl⟩
  obtain ⟨X1, e1⟩ : ∃ X, Obj.cells #[Value.bool false, Value.int IntKind.i64 3, Value.bool true, Value.int IntKind.i64 2] 24 = X := ⟨_, rfl⟩
  obtain ⟨X2, e2⟩ : ∃ X, Obj.cells #[Value.slice (some { block := w.heap.size + 1, off := 0 }) 2 2, Value.bool false, Value.int IntKind.i64 1, Value.slice none 0 0, Value.bool true, Value.int IntKind.i64 2] 64 = X := ⟨_, rfl⟩
  rw [e0, e1, e2]
  obtain ⟨W, hW⟩ : ∃ W, ((w.alloc X0).alloc X1).alloc X2 = W := ⟨_, rfl⟩
  rw [hW]
  have hb : Below w.heap.size w W := by rw [← hW]; exact (((Below.refl _ w).alloc (Nat.le_refl _) _).alloc (by simp) _).alloc (by simp; omega) _
  have hsz : W.heap.size = w.heap.size + 3 := by rw [← hW]; simp
  have x0 : W.heap[w.heap.size]? = some X0 := by rw [← hW]; exact (Below.heap_alloc _ _ _ (by simp; omega)).trans ((Below.heap_alloc _ _ _ (by simp)).trans (World.alloc_heap_new w _))
  have x1 : W.heap[w.heap.size + 1]? = some X1 := by
    rw [← hW]; refine (Below.heap_alloc _ _ _ (by simp)).trans ?_
    have := World.alloc_heap_new (w.alloc X0) X1; rwa [World.size_alloc] at this
  have x2 : W.heap[w.heap.size + 1 + 1]? = some X2 := by
    rw [← hW]
    have := World.alloc_heap_new ((w.alloc X0).alloc X1) X2; rwa [World.size_alloc, World.size_alloc] at this
  subst e0 e1 e2
  refine bodyPost_ret (results_ex (root := exAr.root) (ju := exAr.jumps) x0 (by simp)) rfl ?_
  refine ⟨_, rfl, ⟨some ⟨w.heap.size + 1 + 1, 0, none⟩, 2, rfl, fun i x hx => ?_⟩, hb⟩
  have d : ∀ j v, (#[Value.slice (some { block := w.heap.size + 1, off := 0 }) 2 2, Value.bool false, Value.int IntKind.i64 1, Value.slice none 0 0, Value.bool true, Value.int IntKind.i64 2] : Array Value)[j]? = some v → W.cell? ⟨w.heap.size + 1 + 1, j, none⟩ = some v := fun j v h => (cell_of_row W _ j _ 64 (0, 0) x2).trans h
  have f : ∀ j v, (#[Value.bool false, Value.int IntKind.i64 3, Value.bool true, Value.int IntKind.i64 2] : Array Value)[j]? = some v → W.cell? ⟨w.heap.size + 1, j, none⟩ = some v := fun j v h => (cell_of_row W _ j _ 24 (0, 0) x1).trans h
  match i, hx with
  | 0, hx =>
    obtain rfl : (⟨[⟨false, 3⟩, ⟨true, 2⟩], ⟨false, 1⟩⟩ : Ty) = x := Option.some.inj hx
    refine ⟨_, 0, .slice (some ⟨w.heap.size + 1, 0, none⟩) 2 2, rfl, by omega, ⟨some ⟨w.heap.size + 1, 0, none⟩, 2, rfl, fun j y hy => ?_⟩, d 0 _ rfl, d 1 _ rfl, d 2 _ rfl⟩
    match j, hy with
    | 0, hy =>
      obtain rfl : (⟨false, 3⟩ : Bs) = y := Option.some.inj hy
      exact ⟨_, 0, rfl, by omega, f 0 _ rfl, f 1 _ rfl⟩
    | 1, hy =>
      obtain rfl : (⟨true, 2⟩ : Bs) = y := Option.some.inj hy
      exact ⟨_, 0, rfl, by omega, f 2 _ rfl, f 3 _ rfl⟩
    | (n + 2), hy => simp at hy
  | 1, hx =>
    obtain rfl : (⟨[], ⟨true, 2⟩⟩ : Ty) = x := Option.some.inj hx
    exact ⟨_, 0, .slice none 0 0, rfl, by omega, ⟨none, 0, rfl, fun j y hy => by simp at hy⟩, d 3 _ rfl, d 4 _ rfl, d 5 _ rfl⟩
  | (n + 2), hx => simp [exAr] at hx
end Go.Proofs.YtklfojmflmablaaGreatDoor
