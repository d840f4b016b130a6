/- ArenaOrder. -/
import Derived.Deep.RegionHeld3
import Derived.Test.YtklfojmflmablaaGreatDoorOr
namespace Go.Proofs.YtklfojmflmablaaGreatDoor
open Go Go.RowKit Go.Shelf

def threeV (a b c : Mv) : Value := .agg #[.int .i64 a.id, .int .i64 a.arg, .int .u8 a.kind, .int .i64 a.n, .int .i64 b.id, .int .i64 b.arg, .int .u8 b.kind, .int .i64 b.n, .int .i64 c.id, .int .i64 c.arg, .int .u8 c.kind, .int .i64 c.n]
set_option maxRecDepth 100000 in
set_option maxHeartbeats 2000000 in
theorem law13_at (a b c : Mv) (x y z u : Bool) (hx : lessB a b = x) (hy : lessB b a = y) (hz : lessB b c = z) (hu : lessB a c = u) (hab : decide (a = b) = (!x && !y)) (hxy : (x && y) = false) (hzu : (!x || !z || u) = true) (w : World) (h : Laid w) :
    Calls Tryz.prog 13 #[threeV a b c] w fun e w' => e = .returned (.bool true) ∧ Below w.heap.size w w' := by
  obtain ⟨w1, hw1⟩ : ∃ w1, w.alloc (.cells #[.int .i64 a.id, .int .i64 a.arg, .int .u8 a.kind, .int .i64 a.n, .int .i64 b.id, .int .i64 b.arg, .int .u8 b.kind, .int .i64 b.n, .int .i64 c.id, .int .i64 c.arg, .int .u8 c.kind, .int .i64 c.n] 72) = w1 := ⟨_, rfl⟩
  have hb : Below w.heap.size w w1 := by rw [← hw1]; exact (Below.refl _ w).alloc (Nat.le_refl _) _
  have x0 : w1.heap[w.heap.size]? = some (.cells #[.int .i64 a.id, .int .i64 a.arg, .int .u8 a.kind, .int .i64 a.n, .int .i64 b.id, .int .i64 b.arg, .int .u8 b.kind, .int .i64 b.n, .int .i64 c.id, .int .i64 c.arg, .int .u8 c.kind, .int .i64 c.n] 72 (0, 0)) := by rw [← hw1]; exact World.alloc_heap_new w _
  have HSZ : Hid (w.heap.size < w1.heap.size) := Lib.hid (Array.getElem?_eq_some_iff.1 x0).1
  have HB := Lib.hid hb
  have HLD := Lib.hid h
  have L1 := Lib.hid (less_any a b)
  have L2 := Lib.hid (less_any b a)
  have L3 := Lib.hid (less_any b c)
  have L4 := Lib.hid (less_any a c)
  rw [hx] at L1
  rw [hy] at L2
  rw [hz] at L3
  rw [hu] at L4
  have hE : ∀ W, (binOp .eql 40 (.agg #[.int .i64 a.id, .int .i64 a.arg, .int .u8 a.kind, .int .i64 a.n]) (.agg #[.int .i64 b.id, .int .i64 b.arg, .int .u8 b.kind, .int .i64 b.n])).run Tryz.prog W = .ok (.bool (!x && !y)) W := fun W => by
    have := eq40 W a b
    rw [hab] at this
    exact this
  have g40 := guard40
  obtain ⟨a0, a1, a2, a3⟩ := a
  obtain ⟨b0, b1, b2, b3⟩ := b
  obtain ⟨c0, c1, c2, c3⟩ := c
  have p0 := cell_of_row w1 _ 0 _ 72 (0, 0) x0
  have p1 := cell_of_row w1 _ 1 _ 72 (0, 0) x0
  have p2 := cell_of_row w1 _ 2 _ 72 (0, 0) x0
  have p3 := cell_of_row w1 _ 3 _ 72 (0, 0) x0
  have p4 := cell_of_row w1 _ 4 _ 72 (0, 0) x0
  have p5 := cell_of_row w1 _ 5 _ 72 (0, 0) x0
  have p6 := cell_of_row w1 _ 6 _ 72 (0, 0) x0
  have p7 := cell_of_row w1 _ 7 _ 72 (0, 0) x0
  have p8 := cell_of_row w1 _ 8 _ 72 (0, 0) x0
  have p9 := cell_of_row w1 _ 9 _ 72 (0, 0) x0
  have p10 := cell_of_row w1 _ 10 _ 72 (0, 0) x0
  have p11 := cell_of_row w1 _ 11 _ 72 (0, 0) x0
  simp at p0 p1 p2 p3 p4 p5 p6 p7 p8 p9 p10 p11
  unfold mvV at L1 L2 L3 L4
  unfold threeV
  dsimp only at hw1 hE L1 L2 L3 L4 ⊢
  clear hb x0 h hx hy hz hu hab
  cases x <;> cases y <;> cases z <;> cases u
  all_goals first | (exfalso; revert hxy; decide) | (exfalso; revert hzu; decide) | skip
  all_goals clear hxy hzu
  all_goals (
    go_enter Tryz.func13, Tryz.ntmps13
    go_wp2
    have h1 : Below w1.heap.size w1 w1.drew := (Below.refl _ w1).drew
    go_region_held3 (fun W => W.cell? ⟨w.heap.size, 0, none⟩ = some (.int .i64 a0) ∧ W.cell? ⟨w.heap.size, 1, none⟩ = some (.int .i64 a1) ∧ W.cell? ⟨w.heap.size, 2, none⟩ = some (.int .u8 a2) ∧ W.cell? ⟨w.heap.size, 3, none⟩ = some (.int .i64 a3) ∧
        W.cell? ⟨w.heap.size, 4, none⟩ = some (.int .i64 b0) ∧ W.cell? ⟨w.heap.size, 5, none⟩ = some (.int .i64 b1) ∧ W.cell? ⟨w.heap.size, 6, none⟩ = some (.int .u8 b2) ∧ W.cell? ⟨w.heap.size, 7, none⟩ = some (.int .i64 b3) ∧
        W.cell? ⟨w.heap.size, 8, none⟩ = some (.int .i64 c0) ∧ W.cell? ⟨w.heap.size, 9, none⟩ = some (.int .i64 c1) ∧ W.cell? ⟨w.heap.size, 10, none⟩ = some (.int .u8 c2) ∧ W.cell? ⟨w.heap.size, 11, none⟩ = some (.int .i64 c3))
      (first
        | go_keep
        | (go_split_ands
           refine ⟨?_, ?_, ?_, ?_, ?_, ?_, ?_, ?_, ?_, ?_, ?_, ?_⟩ <;> (refine (h1.cell HSZ.out).trans ?_; assumption))
        | (trace_state; fail))
      (first
      | (go_at_call 48; (with_reducible refine (L1.out _).mono ?_); rintro e w2 ⟨rfl, hb2⟩; have h1 : Below w1.heap.size w1 w2 := h1.trans (hb2.mono h1.size))
      | (go_at_call 48; (with_reducible refine (L2.out _).mono ?_); rintro e w3 ⟨rfl, hb3⟩; have h1 : Below w1.heap.size w1 w3 := h1.trans (hb3.mono h1.size))
      | (go_at_call 48; (with_reducible refine (L3.out _).mono ?_); rintro e w4 ⟨rfl, hb4⟩; have h1 : Below w1.heap.size w1 w4 := h1.trans (hb4.mono h1.size))
      | (go_at_call 48; (with_reducible refine (L4.out _).mono ?_); rintro e w5 ⟨rfl, hb5⟩; have h1 : Below w1.heap.size w1 w5 := h1.trans (hb5.mono h1.size)))
    rename_i hheld
    obtain ⟨q0, q1, q2, q3, q4, q5, q6, q7, _⟩ := hheld
    go_wp2_with (go_at_call 18; refine (awake_any _ (HLD.out.later (HB.out.trans (h1.mono HB.out.size)))).mono ?_; rintro e w7 ⟨rfl, hb7⟩; have h1 : Below w1.heap.size w1 w7 := h1.trans (hb7.mono h1.size))
    go_ret
    exact ⟨rfl, HB.out.trans (h1.mono HB.out.size)⟩)
theorem law13_any (a b c : Mv) (w : World) (h : Laid w) : Calls Tryz.prog 13 #[threeV a b c] w fun e w' => e = .returned (.bool true) ∧ Below w.heap.size w w' := by
  obtain ⟨h1, h2, h3⟩ := order_facts a b c _ _ _ _ (lessB_mv a b).symm (lessB_mv b a).symm (lessB_mv b c).symm (lessB_mv a c).symm
  exact law13_at a b c _ _ _ _ rfl rfl rfl rfl h1 h2 h3 w h
end Go.Proofs.YtklfojmflmablaaGreatDoor
