/- Package arena: the contract of Inner. -/
import Derived.Test.YtklfojmflmablaaGreatDoorEd
import Derived.Test.YtklfojmflmablaaGreatDoorTo
namespace Go.Proofs.YtklfojmflmablaaGreatDoor
open Go Go.RowKit Go.Shelf

/-- A block that holds an arena. -/
def BoxA (W : World) (B : Nat) (v : Value) (root : Bs) (ju : Bool) : Prop := W.heap[B]? = some (.cells #[v, .bool root.cell, .int .i64 root.n, .bool ju] 26 (0, 0))
section
variable {W : World} {B : Nat} {v : Value} {root : Bs} {ju : Bool}
theorem BoxA.lt (h : BoxA W B v root ju) : B < W.heap.size := (Array.getElem?_eq_some_iff.1 h).1
theorem BoxA.set (h : BoxA W B v root ju) (v' : Value) (r' : Bs) (j' : Bool) : BoxA ((((W.setCell ⟨B, 0, none⟩ v').setCell ⟨B, 1, none⟩ (.bool r'.cell)).setCell ⟨B, 2, none⟩ (.int .i64 r'.n)).setCell ⟨B, 3, none⟩ (.bool j')) B v' r' j' := by
  have h1 := heap_setCell_same W B 0 _ 26 v' h
  have h2 := heap_setCell_same _ B 1 _ 26 (.bool r'.cell) h1
  have h3 := heap_setCell_same _ B 2 _ 26 (.int .i64 r'.n) h2
  exact heap_setCell_same _ B 3 _ 26 (.bool j') h3
/-- A store into it, each world a letter. -/
theorem chain26 (h : BoxA W B v root ju) (v' : Value) (r' : Bs) (j' : Bool) : ∃ x1 x2 x3 x4 : World,
    W.setCell ⟨B, 0, none⟩ v' = x1 ∧ x1.setCell ⟨B, 1, none⟩ (.bool r'.cell) = x2 ∧ x2.setCell ⟨B, 2, none⟩ (.int .i64 r'.n) = x3 ∧ x3.setCell ⟨B, 3, none⟩ (.bool j') = x4 ∧
    W.cell? ⟨B, 0, none⟩ = some v ∧ W.frozen? ⟨B, 0, none⟩ = false ∧ x1.cell? ⟨B, 1, none⟩ = some (.bool root.cell) ∧ x1.frozen? ⟨B, 1, none⟩ = false ∧ x2.cell? ⟨B, 2, none⟩ = some (.int .i64 root.n) ∧ x2.frozen? ⟨B, 2, none⟩ = false ∧
    x3.cell? ⟨B, 3, none⟩ = some (.bool ju) ∧ x3.frozen? ⟨B, 3, none⟩ = false ∧ BoxA x4 B v' r' j' ∧ Only (fun k => k = B) W x4 := by
  have f : ∀ i, W.frozen? ⟨B, i, none⟩ = false := fun i => by simp [World.frozen?, show W.heap[B]? = _ from h]
  have h1 := heap_setCell_same W B 0 _ 26 v' h
  have h2 := heap_setCell_same _ B 1 _ 26 (.bool r'.cell) h1
  have h3 := heap_setCell_same _ B 2 _ 26 (.int .i64 r'.n) h2
  refine ⟨_, _, _, _, rfl, rfl, rfl, rfl, cell_of_row W B 0 _ 26 (0, 0) h, f 0, cell_of_row _ B 1 _ 26 (0, 0) h1, ?_, cell_of_row _ B 2 _ 26 (0, 0) h2, ?_, cell_of_row _ B 3 _ 26 (0, 0) h3, ?_, h.set v' r' j', ?_⟩
  · rw [World.frozen?_setCell]; exact f 1
  · rw [World.frozen?_setCell, World.frozen?_setCell]; exact f 2
  · rw [World.frozen?_setCell, World.frozen?_setCell, World.frozen?_setCell]; exact f 3
  · exact ((((Only.refl (fun k => k = B) W).setCell _ _ fun _ => rfl).setCell _ _ fun _ => rfl).setCell _ _ fun _ => rfl).setCell _ _ fun _ => rfl
end

theorem results_inner1 {tmps : Array Value} {W : World} {B : Nat} {x : Bs} (h : W.heap[B]? = some (.cells #[.slice none 0 0, .bool x.cell, .int .i64 x.n] 64 (0, 0))) (t2 : tmps[2]?.getD undef = .pointer (some ⟨B, 0, none⟩)) :
    (results Tryz.f101 tmps).run Tryz.prog W = .ok (tyV (.slice none 0 0) x) W := by
  have c0 := cell_of_row W B 0 _ 64 (0, 0) h
  have c1 := cell_of_row W B 1 _ 64 (0, 0) h
  have c2 := cell_of_row W B 2 _ 64 (0, 0) h
  simp [results, Tryz.results101, t2, go_sem, loadVar, c0, c1, c2, tyV]

set_option maxRecDepth 100000 in
theorem inner1_any (x : Bs) (w : World) : Calls Tryz.prog 101 #[bsV x] w fun e w' => e = .returned (tyV (.slice none 0 0) x) ∧ Below w.heap.size w w' := by
  unfold bsV
  go_enter Tryz.func101, Tryz.ntmps101
  go_wp2
  refine bodyPost_ret (results_inner1 (x := x) (B := w.heap.size + 1) (by have := World.alloc_heap_new (w.alloc (.cells #[.bool x.cell, .int .i64 x.n] 24)) (.cells #[.slice none 0 0, .bool x.cell, .int .i64 x.n] 64); rwa [World.size_alloc] at this) (by simp)) rfl ?_
  exact ⟨rfl, ((Below.refl _ w).alloc (Nat.le_refl _) _).alloc (by simp) _⟩

set_option maxRecDepth 100000 in
theorem valuesBs_any (A : Option Addr) (n c : Nat) (w : World) : Calls Tryz.prog 103 #[.slice A n c] w fun e w' => e = .returned (.func (.func 167) #[] #[.pointer (some ⟨w.heap.size, 0, none⟩)]) ∧ w' = w.alloc (.cells #[.slice A n c] 62) := by
  go_enter Tryz.func103, Tryz.ntmps103
  go_wp2
  go_ret
  exact ⟨rfl, rfl⟩
set_option maxRecDepth 100000 in
theorem valuesTy_any (A : Option Addr) (n c : Nat) (w : World) : Calls Tryz.prog 156 #[.slice A n c] w fun e w' => e = .returned (.func (.func 197) #[] #[.pointer (some ⟨w.heap.size, 0, none⟩)]) ∧ w' = w.alloc (.cells #[.slice A n c] 22) := by
  go_enter Tryz.func156, Tryz.ntmps156
  go_wp2
  go_ret
  exact ⟨rfl, rfl⟩

/-- The arena of what stands for an identifier, or the error. -/
def zeroAr : Ar := ⟨[], ⟨false, 0⟩, false⟩
def innerRes (a : Ar) (id : Int) : Ar × Int :=
  if checkRes a ≠ 0 then (zeroAr, checkRes a)
  else if id < 1 ∨ (a.ids.length : Int) < id then (zeroAr, 7)
  else match a.ids[id.toNat - 1]? with
    | none => (zeroAr, 7)
    | some t => (⟨t.params.map fun b => ⟨[], b⟩, t.result, a.jumps || decide (0 < t.params.length)⟩, 0)

theorem results_inner {tmps : Array Value} {W : World} {B : Nat} {v : Value} {root : Bs} {ju : Bool} {e : Int} (h : BoxA W B v root ju) (t4 : tmps[4]?.getD undef = .pointer (some ⟨B, 0, none⟩)) (t5 : tmps[5]?.getD undef = .int .i64 e) :
    (results Tryz.f37 tmps).run Tryz.prog W = .ok (.tuple #[arV v root ju, .int .i64 e]) W := by
  have c0 := cell_of_row W B 0 _ 26 (0, 0) h
  have c1 := cell_of_row W B 1 _ 26 (0, 0) h
  have c2 := cell_of_row W B 2 _ 26 (0, 0) h
  have c3 := cell_of_row W B 3 _ 26 (0, 0) h
  simp [results, Tryz.results37, t4, t5, go_sem, loadVar, c0, c1, c2, c3, arV]

theorem cells_get {α : Type} (f : α → List Value) (n : Nat) (hf : ∀ x, (f x).length = n) : ∀ (l : List α) (i : Nat) (x : α), l[i]? = some x → ∀ j u, (f x)[j]? = some u → (l.flatMap f)[i * n + j]? = some u
  | [], i, x, h, _, _, _ => by simp at h
  | y :: r, 0, x, h, j, u, hj => by
    simp only [List.getElem?_cons_zero, Option.some.injEq] at h
    subst h
    rw [List.flatMap_cons, List.getElem?_append_left (by have := (List.getElem?_eq_some_iff.1 hj).1; omega)]
    simpa using hj
  | y :: r, i + 1, x, h, j, u, hj => by
    have ih := cells_get f n hf r i x (by simpa using h) j u hj
    rw [List.flatMap_cons, List.getElem?_append_right (by rw [hf, Nat.add_mul]; omega), hf, show (i + 1) * n + j - n = i * n + j by rw [Nat.add_mul]; omega]
    exact ih

theorem tyIn_of_row {W : World} {n₀ : Nat} {v : Value} {l : List Bs} (h : W.ownsRow n₀ 64 3 v l.length (l.flatMap tyOfCells)) : TyIn W W.heap.size v (l.map fun b => ⟨[], b⟩) := by
  have hlen := h.1
  rcases h.2 with ⟨rfl, h0⟩ | ⟨g, cap, cur, rfl, hb, hg, hcap, _, hsz, htake⟩
  · refine ⟨none, 0, by rw [List.length_map, h0], fun i x hx => ?_⟩
    have : l = [] := List.length_eq_zero_iff.1 h0
    subst this
    simp at hx
  · refine ⟨some ⟨g, 0, none⟩, cap, by rw [List.length_map], fun i x hx => ?_⟩
    rw [List.getElem?_map, Option.map_eq_some_iff] at hx
    obtain ⟨b, hb', rfl⟩ := hx
    have hlt : g < W.heap.size := (Array.getElem?_eq_some_iff.1 hg).1
    have hget : ∀ j u, (tyOfCells b)[j]? = some u → W.cell? ⟨g, 0 + i * 3 + j, none⟩ = some u := fun j u hu => by
      have hf : (l.flatMap tyOfCells)[i * 3 + j]? = some u := cells_get tyOfCells 3 (fun _ => rfl) l i b hb' j u hu
      rw [← htake, List.getElem?_take] at hf
      split at hf
      · rw [Nat.zero_add, cell_of_row W g _ cur 64 (0, 0) hg]
        simpa using hf
      · cases hf
    refine ⟨g, 0, .slice none 0 0, rfl, hlt, ⟨none, 0, rfl, fun i y hy => by simp at hy⟩, ?_, ?_, ?_⟩
    · have := hget 0 _ rfl; simpa using this
    · exact hget 1 _ rfl
    · exact hget 2 _ rfl
end Go.Proofs.YtklfojmflmablaaGreatDoor
