/- ArenaLess. -/
import Derived.Test.YtklfojmflmablaaGreatDoorLe
namespace Go.Proofs.YtklfojmflmablaaGreatDoor
open Go Go.RowKit Go.Shelf

theorem lessB_eq (a b : Mv) : lessB a b = if a.id ≠ b.id then decide (a.id < b.id) else if a.arg ≠ b.arg then decide (a.arg < b.arg) else if a.kind ≠ b.kind then decide (a.kind < b.kind) else decide (a.n < b.n) := by
  have hc : ∀ x y : Int, (cmpI x y = 0 ↔ x = y) ∧ (cmpI x y < 0 ↔ x < y) := fun x y => by
    unfold cmpI
    split
    · exact ⟨by constructor <;> intro h <;> omega, by constructor <;> intro h <;> omega⟩
    · split
      · exact ⟨by constructor <;> intro h <;> omega, by constructor <;> intro h <;> omega⟩
      · exact ⟨by constructor <;> intro h <;> omega, by constructor <;> intro h <;> omega⟩
  unfold lessB
  simp only [orRes, (hc _ _).1]
  by_cases h0 : a.id = b.id
  · rw [if_pos h0, if_neg (show ¬ (a.id ≠ b.id) from fun h => h h0)]
    by_cases h1 : a.arg = b.arg
    · rw [if_pos h1, if_neg (show ¬ (a.arg ≠ b.arg) from fun h => h h1)]
      by_cases h2 : a.kind = b.kind
      · rw [if_pos h2, if_neg (show ¬ (a.kind ≠ b.kind) from fun h => h h2)]
        by_cases h3 : a.n = b.n
        · rw [if_pos h3, h3]; simp
        · rw [if_neg h3]; exact decide_eq_decide.2 (hc _ _).2
      · rw [if_neg h2, if_pos h2]; exact decide_eq_decide.2 (hc _ _).2
    · rw [if_neg h1, if_pos h1]; exact decide_eq_decide.2 (hc _ _).2
  · rw [if_neg h0, if_pos h0]; exact decide_eq_decide.2 (hc _ _).2

set_option maxRecDepth 100000 in
theorem refLess_any (a b : Mv) (w : World) : Calls Tryz.prog 49 #[mvV a, mvV b] w fun e w' => e = .returned (.bool (lessB a b)) ∧ Below w.heap.size w w' := by
  have HR := Lib.hid (lessB_eq a b)
  have HB := Lib.hid (((Below.refl _ w).alloc (Nat.le_refl _) (.cells #[.int .i64 a.id, .int .i64 a.arg, .int .u8 a.kind, .int .i64 a.n] 40)).alloc (by simp) (.cells #[.int .i64 b.id, .int .i64 b.arg, .int .u8 b.kind, .int .i64 b.n] 40))
  obtain ⟨R, hR⟩ : ∃ R, lessB a b = R := ⟨_, rfl⟩
  rw [hR] at HR ⊢
  clear hR
  unfold mvV
  obtain ⟨i, ar, k, n⟩ := a
  obtain ⟨i', ar', k', n'⟩ := b
  dsimp only at HR HB ⊢
  by_cases h0 : i = i'
  · subst h0
    by_cases h1 : ar = ar'
    · subst h1
      by_cases h2 : k = k'
      · subst h2
        have := HR.out
        rw [if_neg (by simp), if_neg (by simp), if_neg (by simp)] at this
        subst this
        go_enter Tryz.func49, Tryz.ntmps49
        go_wp2
        go_ret
        exact ⟨rfl, HB.out⟩
      · have := HR.out
        rw [if_neg (by simp), if_neg (by simp), if_pos h2] at this
        subst this
        have e : (k == k') = false := by simpa using h2
        go_enter Tryz.func49, Tryz.ntmps49
        go_wp2
        go_ret
        exact ⟨rfl, HB.out⟩
    · have := HR.out
      rw [if_neg (by simp), if_pos h1] at this
      subst this
      have e : (ar == ar') = false := by simpa using h1
      go_enter Tryz.func49, Tryz.ntmps49
      go_wp2
      go_ret
      exact ⟨rfl, HB.out⟩
  · have := HR.out
    rw [if_pos h0] at this
    subst this
    have e : (i == i') = false := by simpa using h0
    go_enter Tryz.func49, Tryz.ntmps49
    go_wp2
    go_ret
    exact ⟨rfl, HB.out⟩

theorem less_self (a : Mv) : lessB a a = false := by rw [lessB_eq]; simp

set_option maxRecDepth 100000 in
set_option maxHeartbeats 2000000 in
theorem law9_any (a b : Mv) (w : World) (h : Laid w) : Calls Tryz.prog 9 #[mvV a, mvV b] w fun e w' => e = .returned (.bool true) ∧ Below w.heap.size w w' := by
  have hb : Below w.heap.size w ((w.alloc (.cells #[.int .i64 a.id, .int .i64 a.arg, .int .u8 a.kind, .int .i64 a.n] 40)).alloc (.cells #[.int .i64 b.id, .int .i64 b.arg, .int .u8 b.kind, .int .i64 b.n] 40)) := ((Below.refl _ w).alloc (Nat.le_refl _) _).alloc (by simp) _
  have x0 : BoxM ((w.alloc (.cells #[.int .i64 a.id, .int .i64 a.arg, .int .u8 a.kind, .int .i64 a.n] 40)).alloc (.cells #[.int .i64 b.id, .int .i64 b.arg, .int .u8 b.kind, .int .i64 b.n] 40)) w.heap.size a := (Below.heap_alloc _ _ _ (by simp)).trans (BoxM.new w a)
  have x1 : BoxM ((w.alloc (.cells #[.int .i64 a.id, .int .i64 a.arg, .int .u8 a.kind, .int .i64 a.n] 40)).alloc (.cells #[.int .i64 b.id, .int .i64 b.arg, .int .u8 b.kind, .int .i64 b.n] 40)) (w.heap.size + 1) b := by
    have := BoxM.new (w.alloc (.cells #[.int .i64 a.id, .int .i64 a.arg, .int .u8 a.kind, .int .i64 a.n] 40)) b; rwa [World.size_alloc] at this
  obtain ⟨w1, hw1⟩ : ∃ w1, (w.alloc (.cells #[.int .i64 a.id, .int .i64 a.arg, .int .u8 a.kind, .int .i64 a.n] 40)).alloc (.cells #[.int .i64 b.id, .int .i64 b.arg, .int .u8 b.kind, .int .i64 b.n] 40) = w1 := ⟨_, rfl⟩
  rw [hw1] at hb x0 x1
  have HB := Lib.hid hb
  have HSZ : Hid (w1.heap.size = w.heap.size + 2) := Lib.hid (by rw [← hw1]; simp)
  have HLD := Lib.hid h
  have L1 := Lib.hid (less_any a b)
  have L2 := Lib.hid (less_any b a)
  have L3 := Lib.hid (less_any a a)
  have R1 := Lib.hid (refLess_any a b)
  have R2 := Lib.hid (refLess_any b a)
  rw [less_self] at L3
  obtain ⟨b1, e1⟩ : ∃ r, lessB a b = r := ⟨_, rfl⟩
  obtain ⟨b2, e2⟩ : ∃ r, lessB b a = r := ⟨_, rfl⟩
  rw [e1] at L1 R1
  rw [e2] at L2 R2
  obtain ⟨i, ar, k, n⟩ := a
  obtain ⟨i', ar', k', n'⟩ := b
  have c0 := x0.c0
  have c1 := x0.c1
  have c2 := x0.c2
  have c3 := x0.c3
  have d0 := x1.c0
  have d1 := x1.c1
  have d2 := x1.c2
  have d3 := x1.c3
  unfold mvV at L1 L2 L3 R1 R2 ⊢
  dsimp only at hw1 c0 c1 c2 c3 d0 d1 d2 d3 L1 L2 L3 R1 R2 ⊢
  clear hb x0 x1 e1 e2 h
  cases b1 <;> cases b2
  all_goals (
    go_enter Tryz.func9, Tryz.ntmps9
    go_wp2
    have h1 : Below w1.heap.size w1 w1.drew := (Below.refl _ w1).drew
    go_region_held3 (fun W => W.cell? ⟨w.heap.size, 0, none⟩ = some (.int .i64 i) ∧ W.cell? ⟨w.heap.size, 1, none⟩ = some (.int .i64 ar) ∧ W.cell? ⟨w.heap.size, 2, none⟩ = some (.int .u8 k) ∧ W.cell? ⟨w.heap.size, 3, none⟩ = some (.int .i64 n) ∧
        W.cell? ⟨w.heap.size + 1, 0, none⟩ = some (.int .i64 i') ∧ W.cell? ⟨w.heap.size + 1, 1, none⟩ = some (.int .i64 ar') ∧ W.cell? ⟨w.heap.size + 1, 2, none⟩ = some (.int .u8 k') ∧ W.cell? ⟨w.heap.size + 1, 3, none⟩ = some (.int .i64 n'))
      (first
        | go_keep
        | (go_split_ands
           refine ⟨?_, ?_, ?_, ?_, ?_, ?_, ?_, ?_⟩ <;> (refine (h1.cell (by have := HSZ.out; simp; omega)).trans ?_; assumption))
        | (trace_state; fail))
      (first
      | (go_at_call 48; (with_reducible refine (L1.out _).mono ?_); rintro e w2 ⟨rfl, hb2⟩; have h1 : Below w1.heap.size w1 w2 := h1.trans (hb2.mono h1.size))
      | (go_at_call 48; (with_reducible refine (L2.out _).mono ?_); rintro e w4 ⟨rfl, hb4⟩; have h1 : Below w1.heap.size w1 w4 := h1.trans (hb4.mono h1.size))
      | (go_at_call 48; (with_reducible refine (L3.out _).mono ?_); rintro e w6 ⟨rfl, hb6⟩; have h1 : Below w1.heap.size w1 w6 := h1.trans (hb6.mono h1.size))
      | (go_at_call 49; (with_reducible refine (R1.out _).mono ?_); rintro e w3 ⟨rfl, hb3⟩; have h1 : Below w1.heap.size w1 w3 := h1.trans (hb3.mono h1.size))
      | (go_at_call 49; (with_reducible refine (R2.out _).mono ?_); rintro e w5 ⟨rfl, hb5⟩; have h1 : Below w1.heap.size w1 w5 := h1.trans (hb5.mono h1.size))
      | (go_at_call 18; refine (awake_any _ (HLD.out.later (HB.out.trans (h1.mono HB.out.size)))).mono ?_; rintro e w7 ⟨rfl, hb7⟩; have h1 : Below w1.heap.size w1 w7 := h1.trans (hb7.mono h1.size)))
    all_goals go_wp2
    all_goals go_ret
    all_goals exact ⟨rfl, HB.out.trans (h1.mono HB.out.size)⟩)
end Go.Proofs.YtklfojmflmablaaGreatDoor
