/- An arena that comes in. -/
import Derived.Test.YtklfojmflmablaaGreatDoorLf
import Derived.Test.YtklfojmflmablaaGreatDoorCkB
import Derived.Deep.Slices
namespace Go.Proofs.YtklfojmflmablaaGreatDoor
open Go.ChangeShapes Go.WideShapes Go.ChangeAt Go.RowKit Go.Deep

theorem cells24 : Tryz.prog.cellsOf 24 = 2 := by kernel_rfl
theorem cells64 : Tryz.prog.cellsOf 64 = 3 := by kernel_rfl
theorem cells62 : Tryz.prog.cellsOf 62 = 1 := by kernel_rfl
theorem cells22 : Tryz.prog.cellsOf 22 = 1 := by kernel_rfl
theorem cells26 : Tryz.prog.cellsOf 26 = 4 := by kernel_rfl
theorem cells3' : Tryz.prog.cellsOf 3 = 1 := by kernel_rfl
theorem cells4' : Tryz.prog.cellsOf 4 = 1 := by kernel_rfl

section
variable {H : Type} {enc : TypeId × Value → H} {W : World} {base : Nat} {sp : Nat → Bool} {held : Bool} {n : Nat}

theorem add_off (b off k : Nat) : (⟨b, off, none⟩ : Addr).add k = ⟨b, off + k, none⟩ := by
  unfold Addr.add
  split <;> simp_all
theorem choose_under {α : Type} [Inhabited α] {m : Nat} {p : Nat → α → Prop} (h : ∀ i, i < m → ∃ x, p i x) : ∃ q : Nat → α, ∀ i, i < m → p i (q i) :=
  Classical.axiomOfChoice (r := fun i x => i < m → p i x) fun i => by
    by_cases hi : i < m
    · obtain ⟨x, hx⟩ := h i hi
      exact ⟨x, fun _ => hx⟩
    · exact ⟨default, fun h => absurd h hi⟩
instance : Inhabited Bs := ⟨⟨false, 0⟩⟩
instance : Inhabited Ty := ⟨⟨[], ⟨false, 0⟩⟩⟩

set_option maxRecDepth 100000 in
theorem open_base {cs : List Value} {x : DataW H × List MemPlace} (h : DataW.trod enc Tryz.prog W base sp held n 24 cs = some x) : ∃ b : Bs, cs = [.bool b.cell, .int .i64 b.n] := by
  obtain ⟨xs, k, _, _, hlen, hxl, hall⟩ := DataW.trod_struct Tryz.underlying24 h
  rw [cells24] at hlen
  match cs, hlen with
  | [v0, v1], _ =>
    have hxl2 : xs.length = 2 := hxl
    have f0 : DataW.trod enc Tryz.prog W base sp held k 4 (List.take (Tryz.prog.cellsOf 4) (List.drop 0 [v0, v1])) = xs[0]? := hall 0 _ rfl
    have f1 : DataW.trod enc Tryz.prog W base sp held k 3 (List.take (Tryz.prog.cellsOf 3) (List.drop 1 [v0, v1])) = xs[1]? := hall 1 _ rfl
    rw [cells4', List.getElem?_eq_getElem (by omega)] at f0
    rw [cells3', List.getElem?_eq_getElem (by omega)] at f1
    obtain ⟨b, e0, _⟩ := DataW.trod_bool Tryz.underlying4 f0
    obtain ⟨i, e1, _⟩ := DataW.trod_int Tryz.underlying3 f1
    have e0' : [v0] = [Value.bool b] := e0
    have e1' : [v1] = [Value.int .i64 i] := e1
    cases e0'
    cases e1'
    exact ⟨⟨b, i⟩, rfl⟩

theorem lt_of_cell {b off : Nat} {v : Value} (h : W.cell? ⟨b, off, none⟩ = some v) : b < W.heap.size := by
  rcases Nat.lt_or_ge b W.heap.size with h1 | h1
  · exact h1
  · unfold World.cell? at h
    simp [Array.getElem?_eq_none h1] at h

theorem open_bases {v : Value} {x : DataW H × List MemPlace} (h : DataW.trod enc Tryz.prog W base sp held n 62 [v] = some x) : ∃ l : List Bs, BsIn W W.heap.size v l := by
  rcases open_slice Tryz.underlying62 h with ⟨h1, h2⟩ | ⟨a, len, cap, m, k, D, P, h1, hb, hl, hm, hmm, h2, hx⟩
  · cases h1
    exact ⟨[], none, 0, rfl, fun i x h => by simp at h⟩
  · cases h1
    rw [cells24] at hx
    have hlm : len ≤ m := by rw [hmm]; split <;> omega
    have each : ∀ i, i < len → ∃ b : Bs, W.cell? (a.add (i * 2)) = some (.bool b.cell) ∧ W.cell? (a.add (i * 2 + 1)) = some (.int .i64 b.n) := by
      intro i hi
      obtain ⟨cs', g1, g2⟩ := hx i (by omega)
      obtain ⟨_, hlen, hcell⟩ := World.cells?_some g1
      obtain ⟨b, rfl⟩ := open_base g2
      have c0 := hcell 0 (by omega)
      have c1 := hcell 1 (by omega)
      rw [Go.Deep.add_add] at c0 c1
      exact ⟨b, by simpa using c0, by simpa using c1⟩
    obtain ⟨q, hq⟩ := choose_under each
    refine ⟨(List.range len).map q, some a, cap, by simp, fun i x hxi => ?_⟩
    rw [List.getElem?_map, Option.map_eq_some_iff] at hxi
    obtain ⟨j, hj, rfl⟩ := hxi
    obtain ⟨hj1, hj2⟩ := List.getElem?_eq_some_iff.1 hj
    simp only [List.length_range] at hj1
    simp only [List.getElem_range] at hj2
    subst hj2
    obtain ⟨c0, c1⟩ := hq i (by omega)
    have hs : a.spot = none := by
      have h0 := (hq 0 (by omega)).1
      have z : a.add (0 * 2) = a := by unfold Addr.add; simp
      rw [z] at h0
      exact World.cell?_spot h0
    obtain ⟨b, off, s⟩ := a
    have hs' : s = none := hs
    subst hs'
    rw [add_off] at c0 c1
    exact ⟨b, off, rfl, lt_of_cell c0, c0, c1⟩

set_option maxRecDepth 100000 in
theorem open_type {cs : List Value} {x : DataW H × List MemPlace} (h : DataW.trod enc Tryz.prog W base sp held n 64 cs = some x) : ∃ pv, ∃ t : Ty, cs = [pv, .bool t.result.cell, .int .i64 t.result.n] ∧ BsIn W W.heap.size pv t.params := by
  obtain ⟨xs, k, _, _, hlen, hxl, hall⟩ := DataW.trod_struct Tryz.underlying64 h
  rw [cells64] at hlen
  match cs, hlen with
  | [v0, v1, v2], _ =>
    have hxl2 : xs.length = 2 := hxl
    have f0 : DataW.trod enc Tryz.prog W base sp held k 62 (List.take (Tryz.prog.cellsOf 62) (List.drop 0 [v0, v1, v2])) = xs[0]? := hall 0 _ rfl
    have f1 : DataW.trod enc Tryz.prog W base sp held k 24 (List.take (Tryz.prog.cellsOf 24) (List.drop 1 [v0, v1, v2])) = xs[1]? := hall 1 _ rfl
    rw [cells62, List.getElem?_eq_getElem (by omega)] at f0
    rw [cells24, List.getElem?_eq_getElem (by omega)] at f1
    obtain ⟨l, hl⟩ := open_bases (v := v0) f0
    obtain ⟨b, e1⟩ := open_base f1
    have e1' : [v1, v2] = [Value.bool b.cell, .int .i64 b.n] := e1
    cases e1'
    exact ⟨v0, ⟨l, b⟩, rfl, hl⟩

theorem open_types {v : Value} {x : DataW H × List MemPlace} (h : DataW.trod enc Tryz.prog W base sp held n 22 [v] = some x) : ∃ l : List Ty, TyIn W W.heap.size v l := by
  rcases open_slice Tryz.underlying22 h with ⟨h1, h2⟩ | ⟨a, len, cap, m, k, D, P, h1, hb, hl, hm, hmm, h2, hx⟩
  · cases h1
    exact ⟨[], none, 0, rfl, fun i x h => by simp at h⟩
  · cases h1
    rw [cells64] at hx
    have hlm : len ≤ m := by rw [hmm]; split <;> omega
    have each : ∀ i, i < len → ∃ t : Ty, ∃ pv, BsIn W W.heap.size pv t.params ∧ W.cell? (a.add (i * 3)) = some pv ∧ W.cell? (a.add (i * 3 + 1)) = some (.bool t.result.cell) ∧ W.cell? (a.add (i * 3 + 2)) = some (.int .i64 t.result.n) := by
      intro i hi
      obtain ⟨cs', g1, g2⟩ := hx i (by omega)
      obtain ⟨_, hlen, hcell⟩ := World.cells?_some g1
      obtain ⟨pv, t, rfl, hbs⟩ := open_type g2
      have c0 := hcell 0 (by omega)
      have c1 := hcell 1 (by omega)
      have c2 := hcell 2 (by omega)
      rw [Go.Deep.add_add] at c0 c1 c2
      exact ⟨t, pv, hbs, by simpa using c0, by simpa using c1, by simpa using c2⟩
    obtain ⟨q, hq⟩ := choose_under each
    refine ⟨(List.range len).map q, some a, cap, by simp, fun i x hxi => ?_⟩
    rw [List.getElem?_map, Option.map_eq_some_iff] at hxi
    obtain ⟨j, hj, rfl⟩ := hxi
    obtain ⟨hj1, hj2⟩ := List.getElem?_eq_some_iff.1 hj
    simp only [List.length_range] at hj1
    simp only [List.getElem_range] at hj2
    subst hj2
    obtain ⟨pv, hbs, c0, c1, c2⟩ := hq i (by omega)
    have hs : a.spot = none := by
      obtain ⟨_, _, h0, _⟩ := hq 0 (by omega)
      have z : a.add (0 * 3) = a := by unfold Addr.add; simp
      rw [z] at h0
      exact World.cell?_spot h0
    obtain ⟨b, off, s⟩ := a
    have hs' : s = none := hs
    subst hs'
    rw [add_off] at c0 c1 c2
    exact ⟨b, off, pv, rfl, lt_of_cell c0, hbs, c0, c1, c2⟩

set_option maxRecDepth 100000 in
/-- An arena that comes in. -/
theorem open_arena {v : Value} {d : DataW H} {ps : List MemPlace} {r : Reach} {b0 : Nat} (hval : Value.okWide Tryz.prog W r b0 26 v) (hd : DataW.Trod enc Tryz.prog W base sp held 26 v d ps) : ∃ iv, ∃ a : Ar, v = arV iv a.root a.jumps ∧ TyIn W W.heap.size iv a.ids := by
  obtain ⟨cs, rfl, hcs⟩ := okWide_struct Tryz.underlying26 hval
  obtain ⟨fuel, hf⟩ := hd
  obtain ⟨xs, k, rfl, hx, hlen, hxl, hall⟩ := DataW.trod_struct Tryz.underlying26 hf
  have hl : cs.toList.length = 4 := by rw [cells26] at hcs; simpa using hcs
  obtain ⟨l⟩ := cs
  match l, hl with
  | [v0, v1, v2, v3], _ =>
    have hxl2 : xs.length = 3 := hxl
    have f0 : DataW.trod enc Tryz.prog W base sp held k 22 (List.take (Tryz.prog.cellsOf 22) (List.drop 0 [v0, v1, v2, v3])) = xs[0]? := hall 0 _ rfl
    have f1 : DataW.trod enc Tryz.prog W base sp held k 24 (List.take (Tryz.prog.cellsOf 24) (List.drop 1 [v0, v1, v2, v3])) = xs[1]? := hall 1 _ rfl
    have f2 : DataW.trod enc Tryz.prog W base sp held k 4 (List.take (Tryz.prog.cellsOf 4) (List.drop 3 [v0, v1, v2, v3])) = xs[2]? := hall 2 _ rfl
    rw [cells22, List.getElem?_eq_getElem (by omega)] at f0
    rw [cells24, List.getElem?_eq_getElem (by omega)] at f1
    rw [cells4', List.getElem?_eq_getElem (by omega)] at f2
    obtain ⟨ts, ht⟩ := open_types (v := v0) f0
    obtain ⟨b, e1⟩ := open_base f1
    obtain ⟨j, e2, _⟩ := DataW.trod_bool Tryz.underlying4 f2
    have e1' : [v1, v2] = [Value.bool b.cell, .int .i64 b.n] := e1
    have e2' : [v3] = [Value.bool j] := e2
    cases e1'
    cases e2'
    exact ⟨v0, ⟨ts, b, j⟩, rfl, ht⟩

theorem cells46 : Tryz.prog.cellsOf 46 = 2 := by kernel_rfl
set_option maxRecDepth 100000 in
/-- A pair of numbers that comes in. -/
theorem open_pair {v : Value} {d : DataW H} {ps : List MemPlace} {r : Reach} {b0 : Nat} (hval : Value.okWide Tryz.prog W r b0 46 v) (hd : DataW.Trod enc Tryz.prog W base sp held 46 v d ps) : ∃ i j : Int, v = .agg #[.int .i64 i, .int .i64 j] := by
  obtain ⟨cs, rfl, hcs⟩ := okWide_struct Tryz.underlying46 hval
  obtain ⟨fuel, hf⟩ := hd
  obtain ⟨xs, k, rfl, hx, hlen, hxl, hall⟩ := DataW.trod_struct Tryz.underlying46 hf
  have hl : cs.toList.length = 2 := by rw [cells46] at hcs; simpa using hcs
  obtain ⟨l⟩ := cs
  match l, hl with
  | [v0, v1], _ =>
    have hxl2 : xs.length = 2 := hxl
    have f0 : DataW.trod enc Tryz.prog W base sp held k 3 (List.take (Tryz.prog.cellsOf 3) (List.drop 0 [v0, v1])) = xs[0]? := hall 0 _ rfl
    have f1 : DataW.trod enc Tryz.prog W base sp held k 3 (List.take (Tryz.prog.cellsOf 3) (List.drop 1 [v0, v1])) = xs[1]? := hall 1 _ rfl
    rw [cells3', List.getElem?_eq_getElem (by omega)] at f0 f1
    obtain ⟨i, e0, _⟩ := DataW.trod_int Tryz.underlying3 f0
    obtain ⟨j, e1, _⟩ := DataW.trod_int Tryz.underlying3 f1
    have e0' : [v0] = [Value.int .i64 i] := e0
    have e1' : [v1] = [Value.int .i64 j] := e1
    cases e0'
    cases e1'
    exact ⟨i, j, rfl⟩
end
end Go.Proofs.YtklfojmflmablaaGreatDoor
