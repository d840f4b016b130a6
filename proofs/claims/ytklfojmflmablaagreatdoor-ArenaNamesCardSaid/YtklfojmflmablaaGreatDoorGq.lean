/- The reference: what one asks of it. -/
import Derived.BigQuiet
import Derived.Deep.QuietTactic
import Derived.Deep.RegionHeld3
import Derived.Test.YtklfojmflmablaaGreatDoorGj
import Derived.Test.YtklfojmflmablaaGreatDoorGi
import Derived.Test.YtklfojmflmablaaGreatDoorWr
import Derived.Test.YtklfojmflmablaaGreatDoorGk
import Derived.Test.YtklfojmflmablaaGreatDoorRfP
/- The reference: Find, SameWord. -/
namespace Go.Proofs.YtklfojmflmablaaGreatDoor
open Go Go.RowKit Go.Shelf

/-- A slice value that holds moves, in a block below n. -/
def MvIn (W : World) (n : Nat) (v : Value) (l : List Mv) : Prop := RowIn Mv.cells4 4 W n v l
theorem mvIn_own {W : World} {n : Nat} {v : Value} {l : List Mv} (h : OwnMv W n v l) : MvIn W W.heap.size v l := rowIn_of_own Mv.cells4 4 (fun _ => rfl) h
theorem MvIn.later {W W' : World} {v : Value} {l : List Mv} (h : MvIn W W.heap.size v l) (hb : Below W.heap.size W W') : MvIn W' W'.heap.size v l := by
  obtain ⟨A, c, rfl, hA⟩ := h
  refine ⟨A, c, rfl, fun i x hx => ?_⟩
  obtain ⟨b, off, rfl, hbn, hc⟩ := hA i x hx
  exact ⟨b, off, rfl, Nat.lt_of_lt_of_le hbn hb.size, fun j u hu => (World.cell?_of_block (hb.block b hbn)).trans (hc j u hu)⟩
theorem neq40 (w : World) (a b : Mv) : (binOp .neq 40 (mvV a) (mvV b)).run Tryz.prog w = .ok (.bool (!decide (a = b))) w := by
  have hS : Tryz.prog.underlying 40 = some (.struct (Tryz.prog.fieldsOf 40)) := by kernel_rfl
  have hp : Tryz.prog.stoodInHeld 40 = false := by kernel_rfl
  have u3 := Tryz.underlying3
  have u5 := Tryz.underlying5
  unfold mvV
  rw [run_neq_struct, show (10000 : Nat) = 9999 + 1 from rfl, run_equalIn_agg w 9999 40 _ _ hS hp]
  simp only [Program.fieldsOf, Tryz.underlying40]
  go_simp
  obtain ⟨i, g, k, n⟩ := a
  obtain ⟨i', g', k', n'⟩ := b
  simp only [Mv.mk.injEq]
  by_cases h1 : i = i' <;> by_cases h2 : g = g' <;> by_cases h3 : k = k' <;> by_cases h4 : n = n' <;> simp [h1, h2, h3, h4]

set_option maxRecDepth 100000 in
set_option maxHeartbeats 1000000 in
theorem find54_any (v : Value) (l : List Mv) (m : Mv) (w : World) (hl : l.length ≤ 1000000) (hv : MvIn w w.heap.size v l) :
    Calls Tryz.prog 54 #[v, mvV m] w fun e w' => ∃ r : Int, e = .returned (.int .i64 r) ∧ ((r = -1 ∧ m ∉ l) ∨ ∃ i : Nat, r = i ∧ l[i]? = some m) ∧ Below w.heap.size w w' := by
  obtain ⟨A, c, rfl, hA⟩ := hv
  have HA := Lib.hid hA
  have g40 := guard40
  obtain ⟨w1, hw1⟩ : ∃ w1, w.alloc (.cells #[.int .i64 m.id, .int .i64 m.arg, .int .u8 m.kind, .int .i64 m.n] 40) = w1 := ⟨_, rfl⟩
  have hb : Below w.heap.size w w1 := by rw [← hw1]; exact (Below.refl _ w).alloc (Nat.le_refl _) _
  have x1 : BoxM w1 w.heap.size m := by rw [← hw1]; exact BoxM.new w m
  have HB := Lib.hid hb
  have HX1 := Lib.hid x1
  unfold mvV
  clear hA hb x1
  go_enter Tryz.func54, Tryz.ntmps54
  go_wp2
  go_loopw [5] (fun i wr => ∃ j : Nat, i = .int .i64 j ∧ j ≤ l.length ∧ Hid (∀ x ∈ l.take j, x ≠ m) ∧ Hid (Below w1.heap.size w1 wr)) (fun i _ => l.length - (intOf i).toNat)
  case atStart => exact ⟨0, rfl, Nat.zero_le _, Lib.hid (fun x hx => by simp at hx), Lib.hid (Below.refl _ _)⟩
  case round =>
    obtain ⟨j, rfl, hj, hno, hB⟩ := hrel
    have y1 : BoxM wr w.heap.size m := (hB.out.block _ HX1.out.lt).trans HX1.out
    have m0 := y1.c0
    have m1 := y1.c1
    have m2 := y1.c2
    have m3 := y1.c3
    clear y1
    by_cases hlt : j < l.length
    · obtain ⟨y, hy⟩ : ∃ y, l[j]? = some y := ⟨_, List.getElem?_eq_getElem hlt⟩
      obtain ⟨b, off, rfl, hbn, hc⟩ := HA.out j y hy
      have HW : Hid (∀ b, b < w.heap.size → wr.heap[b]? = w.heap[b]?) := Lib.hid (HB.out.trans (hB.out.mono HB.out.size)).block
      have e0 := (World.cell?_of_block (HW.out b hbn)).trans (hc 0 _ rfl)
      have e1 := (World.cell?_of_block (HW.out b hbn)).trans (hc 1 _ rfl)
      have e2 := (World.cell?_of_block (HW.out b hbn)).trans (hc 2 _ rfl)
      have e3 := (World.cell?_of_block (HW.out b hbn)).trans (hc 3 _ rfl)
      simp only [Nat.add_zero] at e0
      have HY := Lib.hid hy
      clear hy hc
      by_cases he : y = m
      · have hE : ∀ W, (binOp .eql 40 (.agg #[.int .i64 y.id, .int .i64 y.arg, .int .u8 y.kind, .int .i64 y.n]) (.agg #[.int .i64 m.id, .int .i64 m.arg, .int .u8 m.kind, .int .i64 m.n])).run Tryz.prog W = .ok (.bool true) W := fun W => by
          have := eq40 W y m; rw [decide_eq_true he] at this; exact this
        have HE := Lib.hid he
        clear he
        go_wp2_with fail
        go_quiet (fail)
        go_wp2
        go_ret
        exact ⟨_, rfl, .inr ⟨j, rfl, by rw [← HE.out]; exact HY.out⟩, HB.out.trans ((below_drN hB.out _).mono HB.out.size)⟩
      · have hE : ∀ W, (binOp .eql 40 (.agg #[.int .i64 y.id, .int .i64 y.arg, .int .u8 y.kind, .int .i64 y.n]) (.agg #[.int .i64 m.id, .int .i64 m.arg, .int .u8 m.kind, .int .i64 m.n])).run Tryz.prog W = .ok (.bool false) W := fun W => by
          have := eq40 W y m; rw [decide_eq_false he] at this; exact this
        have HN := Lib.hid (take_more (p := fun x : Mv => x ≠ m) HY.out he hno.out)
        clear he
        go_wp2_with fail
        go_quiet (fail)
        go_wp2
        exact ⟨⟨j + 1, by simp, by omega, HN, Lib.hid (below_drN hB.out _)⟩, by simp [intOf]; omega⟩
    · obtain rfl : j = l.length := by omega
      have HN := Lib.hid (show m ∉ l from fun h => by have := hno.out m (by rw [List.take_length]; exact h); exact this rfl)
      go_wp2
      go_ret
      exact ⟨_, rfl, .inl ⟨rfl, HN.out⟩, HB.out.trans (hB.out.mono HB.out.size)⟩

set_option maxRecDepth 100000 in
set_option maxHeartbeats 1000000 in
theorem sameWord_any (v v' : Value) (l : List Mv) (w : World) (hl : l.length ≤ 1000000) (hv : MvIn w w.heap.size v l) (hv' : MvIn w w.heap.size v' l) :
    Calls Tryz.prog 26 #[v, v'] w fun e w' => e = .returned (.bool true) ∧ Below w.heap.size w w' := by
  obtain ⟨A, c, rfl, hA⟩ := hv
  obtain ⟨A', c', rfl, hA'⟩ := hv'
  have HA := Lib.hid hA
  have HA' := Lib.hid hA'
  have g40 := guard40
  clear hA hA'
  go_enter Tryz.func26, Tryz.ntmps26
  go_wp2
  go_loopw [5] (fun i wr => ∃ j : Nat, i = .int .i64 j ∧ j ≤ l.length ∧ Hid (Below w.heap.size w wr)) (fun i _ => l.length - (intOf i).toNat)
  case atStart => exact ⟨0, rfl, Nat.zero_le _, Lib.hid (Below.refl _ _)⟩
  case round =>
    obtain ⟨j, rfl, hj, hB⟩ := hrel
    by_cases hlt : j < l.length
    · obtain ⟨y, hy⟩ : ∃ y, l[j]? = some y := ⟨_, List.getElem?_eq_getElem hlt⟩
      obtain ⟨b, off, rfl, hbn, hc⟩ := HA.out j y hy
      obtain ⟨b', off', rfl, hbn', hc'⟩ := HA'.out j y hy
      have HW : Hid (∀ b, b < w.heap.size → wr.heap[b]? = w.heap[b]?) := Lib.hid hB.out.block
      have e0 := (World.cell?_of_block (HW.out b hbn)).trans (hc 0 _ rfl)
      have e1 := (World.cell?_of_block (HW.out b hbn)).trans (hc 1 _ rfl)
      have e2 := (World.cell?_of_block (HW.out b hbn)).trans (hc 2 _ rfl)
      have e3 := (World.cell?_of_block (HW.out b hbn)).trans (hc 3 _ rfl)
      have f0 := (World.cell?_of_block (HW.out b' hbn')).trans (hc' 0 _ rfl)
      have f1 := (World.cell?_of_block (HW.out b' hbn')).trans (hc' 1 _ rfl)
      have f2 := (World.cell?_of_block (HW.out b' hbn')).trans (hc' 2 _ rfl)
      have f3 := (World.cell?_of_block (HW.out b' hbn')).trans (hc' 3 _ rfl)
      simp only [Nat.add_zero] at e0 f0
      have hE : ∀ W, (binOp .neq 40 (.agg #[.int .i64 y.id, .int .i64 y.arg, .int .u8 y.kind, .int .i64 y.n]) (.agg #[.int .i64 y.id, .int .i64 y.arg, .int .u8 y.kind, .int .i64 y.n])).run Tryz.prog W = .ok (.bool false) W := fun W => by
        have := neq40 W y y; unfold mvV at this; simpa using this
      clear hy hc hc'
      go_wp2_with fail
      go_quiet (fail)
      go_wp2
      exact ⟨⟨j + 1, by simp, by omega, Lib.hid (below_drN hB.out _)⟩, by simp [intOf]; omega⟩
    · go_wp2
      go_ret
      exact ⟨rfl, hB.out⟩
end Go.Proofs.YtklfojmflmablaaGreatDoor
/- The reference: Ask, IsOther, Escapes. -/
namespace Go.Proofs.YtklfojmflmablaaGreatDoor
open Go Go.RowKit Go.Shelf

set_option maxRecDepth 100000 in
theorem ask_any (m : Mv) (w : World) : Calls Tryz.prog 96 #[mvV m] w fun e w' => e = .returned (.bool (askB m)) ∧ Below w.heap.size w w' := by
  have HB := Lib.hid ((Below.refl _ w).alloc (Nat.le_refl _) (.cells #[.int .i64 m.id, .int .i64 m.arg, .int .u8 m.kind, .int .i64 m.n] 40))
  unfold mvV askB
  by_cases h1 : m.kind = 1
  · have e1 : (m.kind == 1) = true := by simpa using h1
    rw [decide_eq_true h1]
    clear h1
    go_enter Tryz.func96, Tryz.ntmps96
    go_wp2
    go_ret
    exact ⟨rfl, HB.out⟩
  · have e1 : (m.kind == 1) = false := by simpa using h1
    rw [decide_eq_false h1]
    clear h1
    by_cases h2 : m.kind = 2
    · have e2 : (m.kind == 2) = true := by simpa using h2
      rw [decide_eq_true h2]
      clear h2
      go_enter Tryz.func96, Tryz.ntmps96
      go_wp2
      go_ret
      exact ⟨rfl, HB.out⟩
    · have e2 : (m.kind == 2) = false := by simpa using h2
      rw [decide_eq_false h2]
      clear h2
      go_enter Tryz.func96, Tryz.ntmps96
      go_wp2
      go_ret
      exact ⟨rfl, HB.out⟩

set_option maxRecDepth 100000 in
set_option maxHeartbeats 1000000 in
theorem refOther_any (m : Mv) (w : World) : Calls Tryz.prog 95 #[mvV m] w fun e w' => e = .returned (.bool (sideB m)) ∧ Below w.heap.size w w' := by
  obtain ⟨w1, hw1⟩ : ∃ w1, w.alloc (.cells #[.int .i64 m.id, .int .i64 m.arg, .int .u8 m.kind, .int .i64 m.n] 40) = w1 := ⟨_, rfl⟩
  have hb : Below w.heap.size w w1 := by rw [← hw1]; exact (Below.refl _ w).alloc (Nat.le_refl _) _
  have x1 : BoxM w1 w.heap.size m := by rw [← hw1]; exact BoxM.new w m
  have HB := Lib.hid hb
  have HLT := Lib.hid x1.lt
  have CA := Lib.hid (ask_any m)
  have m0 := x1.c0
  have m1 := x1.c1
  have m2 := x1.c2
  have m3 := x1.c3
  obtain ⟨q, hq⟩ : ∃ q, askB m = q := ⟨_, rfl⟩
  unfold sideB
  rw [hq] at CA ⊢
  obtain ⟨i, g, k, n⟩ := m
  unfold mvV at CA ⊢
  dsimp only at CA hw1 m0 m1 m2 m3 ⊢
  clear hb x1 hq
  have fin : ∀ (p : Bool), (decide (0 < i) && decide (g = 0)) = p → ∀ w2, Below w1.heap.size w1.drew w2 → True := fun _ _ _ _ => trivial
  clear fin
  by_cases h1 : 0 < i
  · have e1 : decide ((0 : Int) < i) = true := decide_eq_true h1
    rw [e1]
    by_cases h2 : g = 0
    · have e2 : (g == 0) = true := by simpa using h2
      rw [decide_eq_true h2]
      subst h2
      cases q <;> (
        go_enter Tryz.func95, Tryz.ntmps95
        go_wp2
        go_region_held3 (fun W => W.cell? ⟨w.heap.size, 0, none⟩ = some (.int .i64 i) ∧ W.cell? ⟨w.heap.size, 1, none⟩ = some (.int .i64 0) ∧ W.cell? ⟨w.heap.size, 2, none⟩ = some (.int .u8 k) ∧ W.cell? ⟨w.heap.size, 3, none⟩ = some (.int .i64 n))
          (first
            | go_keep
            | (go_split_ands
               refine ⟨?_, ?_, ?_, ?_⟩ <;> (refine (hb2.cell HLT.out).trans ?_; assumption)))
          ((go_at_call 96; refine (CA.out _).mono ?_; rintro e w2 ⟨rfl, hb2'⟩; have hb2 : Below w1.heap.size w1 w2 := ((Below.refl _ w1).drew).trans hb2'))
        all_goals go_wp2
        all_goals go_ret
        all_goals exact ⟨rfl, HB.out.trans (hb2.mono HB.out.size)⟩)
    · have e2 : (g == 0) = false := by simpa using h2
      rw [decide_eq_false h2]
      clear h2
      cases q <;> (
        go_enter Tryz.func95, Tryz.ntmps95
        go_wp2
        go_region_held3 (fun W => W.cell? ⟨w.heap.size, 0, none⟩ = some (.int .i64 i) ∧ W.cell? ⟨w.heap.size, 1, none⟩ = some (.int .i64 g) ∧ W.cell? ⟨w.heap.size, 2, none⟩ = some (.int .u8 k) ∧ W.cell? ⟨w.heap.size, 3, none⟩ = some (.int .i64 n))
          (first
            | go_keep
            | (go_split_ands
               refine ⟨?_, ?_, ?_, ?_⟩ <;> (refine (hb2.cell HLT.out).trans ?_; assumption)))
          ((go_at_call 96; refine (CA.out _).mono ?_; rintro e w2 ⟨rfl, hb2'⟩; have hb2 : Below w1.heap.size w1 w2 := ((Below.refl _ w1).drew).trans hb2'))
        all_goals go_wp2
        all_goals go_ret
        all_goals exact ⟨rfl, HB.out.trans (hb2.mono HB.out.size)⟩)
  · have e1 : decide ((0 : Int) < i) = false := decide_eq_false h1
    rw [e1]
    clear h1
    cases q
    · go_enter Tryz.func95, Tryz.ntmps95
      go_wp2
      refine wp_region_held_drew (S := fun W => W.cell? ⟨w.heap.size, 0, none⟩ = some (.int .i64 i) ∧ W.cell? ⟨w.heap.size, 1, none⟩ = some (.int .i64 g) ∧ W.cell? ⟨w.heap.size, 2, none⟩ = some (.int .u8 k) ∧ W.cell? ⟨w.heap.size, 3, none⟩ = some (.int .i64 n)) (by kernel_rfl) ⟨m0, m1, m2, m3⟩ (fun hS => ?_)
      refine wpAnyH_take (i := 0) (v := (.pointer (some ⟨w.heap.size, 0, none⟩))) rfl (by kernel_rfl) (by kernel_rfl) (by kernel_rfl) (fun _ _ _ h => h) (Or.inl ⟨by rfl, by intro w hSw; obtain ⟨s0, s1, s2, s3⟩ := hSw; go_simp⟩) hS ?_
      simp only [Act.put, List.setIfInBounds_toArray, List.set_cons_zero, List.set_cons_succ]
      refine wpAnyH_take (i := 1) (v := (.int .i64 i)) rfl (by kernel_rfl) (by kernel_rfl) (by kernel_rfl) (fun _ _ _ h => h) (Or.inl ⟨by rfl, by intro w hSw; obtain ⟨s0, s1, s2, s3⟩ := hSw; go_simp⟩) hS ?_
      simp only [Act.put, List.setIfInBounds_toArray, List.set_cons_zero, List.set_cons_succ]
      refine wpAnyH_take (i := 2) (v := (.bool false)) rfl (by kernel_rfl) (by kernel_rfl) (by kernel_rfl) (fun _ _ _ h => h) (Or.inl ⟨by rfl, by intro w hSw; obtain ⟨s0, s1, s2, s3⟩ := hSw; go_simp⟩) hS ?_
      simp only [Act.put, List.setIfInBounds_toArray, List.set_cons_zero, List.set_cons_succ]
      refine wpAnyH_take (i := 3) (v := (.bool false)) rfl (by kernel_rfl) (by kernel_rfl) (by kernel_rfl) (fun _ _ _ h => h) (Or.inl ⟨by rfl, by intro w hSw; obtain ⟨s0, s1, s2, s3⟩ := hSw; go_simp⟩) hS ?_
      simp only [Act.put, List.setIfInBounds_toArray, List.set_cons_zero, List.set_cons_succ]
      refine wpAnyH_take (i := 4) (v := undef) rfl (by kernel_rfl) (by kernel_rfl) (by kernel_rfl) (fun _ _ _ h => h) (Or.inr ⟨by rfl, rfl⟩) hS ?_
      simp only [Act.put, List.setIfInBounds_toArray, List.set_cons_zero, List.set_cons_succ]
      refine wpAnyH_take (i := 5) (v := undef) rfl (by kernel_rfl) (by kernel_rfl) (by kernel_rfl) (fun _ _ _ h => h) (Or.inr ⟨by rfl, rfl⟩) hS ?_
      simp only [Act.put, List.setIfInBounds_toArray, List.set_cons_zero, List.set_cons_succ]
      refine wpAnyH_take (i := 6) (v := undef) rfl (by kernel_rfl) (by kernel_rfl) (by kernel_rfl) (fun _ _ _ h => h) (Or.inr ⟨by rfl, rfl⟩) hS ?_
      simp only [Act.put, List.setIfInBounds_toArray, List.set_cons_zero, List.set_cons_succ]
      refine wpAnyH_take (i := 7) (v := (.bool false)) rfl (by kernel_rfl) (by kernel_rfl) (by kernel_rfl) (fun _ _ _ h => h) (Or.inl ⟨by rfl, by intro w hSw; obtain ⟨s0, s1, s2, s3⟩ := hSw; go_simp⟩) hS ?_
      simp only [Act.put, List.setIfInBounds_toArray, List.set_cons_zero, List.set_cons_succ]
      refine wpAnyH_take (i := 8) (v := (.agg #[.int .i64 i, .int .i64 g, .int .u8 k, .int .i64 n])) rfl (by kernel_rfl) (by kernel_rfl) (by kernel_rfl) (fun _ _ _ h => h) (Or.inl ⟨by rfl, by intro w hSw; obtain ⟨s0, s1, s2, s3⟩ := hSw; go_simp⟩) hS ?_
      simp only [Act.put, List.setIfInBounds_toArray, List.set_cons_zero, List.set_cons_succ]
      refine wpAnyH_ready (rs := [9]) (by kernel_rfl) (by simp) ?_
      refine AllReadyH.cons rfl (fun K hK => ?_) AllReadyH.nil
      rw [if_pos (by rfl)]
      change Oper.wp Tryz.prog ⟨_, _, _, _, _, _⟩ _ _ _ _
      go_wp2_with (go_at_call 96; refine (CA.out _).mono ?_; rintro e w2 ⟨rfl, hb2'⟩; have hb2 : Below w1.heap.size w1 w2 := ((Below.refl _ w1).drew).trans hb2')
      refine hK.out _ _ ⟨(hb2.cell HLT.out).trans m0, (hb2.cell HLT.out).trans m1, (hb2.cell HLT.out).trans m2, (hb2.cell HLT.out).trans m3⟩ (fun hS => ?_)
      clear hK K
      refine wpAnyH_take (i := 10) (oi := ⟨some 13, _, _, _, _, _⟩) (v := (.bool false)) rfl (by kernel_rfl) (by kernel_rfl) (by kernel_rfl) (fun _ _ _ h => h) (Or.inl ⟨by rfl, by intro w hSw; obtain ⟨s0, s1, s2, s3⟩ := hSw; go_simp⟩) hS ?_
      simp only [Act.put, List.setIfInBounds_toArray, List.set_cons_zero, List.set_cons_succ]
      refine wpAnyH_take (i := 11) (oi := ⟨some 2, _, _, _, _, _⟩) (v := (.bool false)) rfl (by kernel_rfl) (by kernel_rfl) (by kernel_rfl) (fun _ _ _ h => h) (Or.inl ⟨by rfl, by intro w hSw; obtain ⟨s0, s1, s2, s3⟩ := hSw; go_simp⟩) hS ?_
      simp only [Act.put, List.setIfInBounds_toArray, List.set_cons_zero, List.set_cons_succ]
      refine wpAnyH_done (by kernel_rfl) ?_ _
      go_wp2
      go_ret
      exact ⟨rfl, HB.out.trans (hb2.mono HB.out.size)⟩
    · go_enter Tryz.func95, Tryz.ntmps95
      go_wp2
      refine wp_region_held_drew (S := fun W => W.cell? ⟨w.heap.size, 0, none⟩ = some (.int .i64 i) ∧ W.cell? ⟨w.heap.size, 1, none⟩ = some (.int .i64 g) ∧ W.cell? ⟨w.heap.size, 2, none⟩ = some (.int .u8 k) ∧ W.cell? ⟨w.heap.size, 3, none⟩ = some (.int .i64 n)) (by kernel_rfl) ⟨m0, m1, m2, m3⟩ (fun hS => ?_)
      refine wpAnyH_take (i := 0) (v := (.pointer (some ⟨w.heap.size, 0, none⟩))) rfl (by kernel_rfl) (by kernel_rfl) (by kernel_rfl) (fun _ _ _ h => h) (Or.inl ⟨by rfl, by intro w hSw; obtain ⟨s0, s1, s2, s3⟩ := hSw; go_simp⟩) hS ?_
      simp only [Act.put, List.setIfInBounds_toArray, List.set_cons_zero, List.set_cons_succ]
      refine wpAnyH_take (i := 1) (v := (.int .i64 i)) rfl (by kernel_rfl) (by kernel_rfl) (by kernel_rfl) (fun _ _ _ h => h) (Or.inl ⟨by rfl, by intro w hSw; obtain ⟨s0, s1, s2, s3⟩ := hSw; go_simp⟩) hS ?_
      simp only [Act.put, List.setIfInBounds_toArray, List.set_cons_zero, List.set_cons_succ]
      refine wpAnyH_take (i := 2) (v := (.bool false)) rfl (by kernel_rfl) (by kernel_rfl) (by kernel_rfl) (fun _ _ _ h => h) (Or.inl ⟨by rfl, by intro w hSw; obtain ⟨s0, s1, s2, s3⟩ := hSw; go_simp⟩) hS ?_
      simp only [Act.put, List.setIfInBounds_toArray, List.set_cons_zero, List.set_cons_succ]
      refine wpAnyH_take (i := 3) (v := (.bool false)) rfl (by kernel_rfl) (by kernel_rfl) (by kernel_rfl) (fun _ _ _ h => h) (Or.inl ⟨by rfl, by intro w hSw; obtain ⟨s0, s1, s2, s3⟩ := hSw; go_simp⟩) hS ?_
      simp only [Act.put, List.setIfInBounds_toArray, List.set_cons_zero, List.set_cons_succ]
      refine wpAnyH_take (i := 4) (v := undef) rfl (by kernel_rfl) (by kernel_rfl) (by kernel_rfl) (fun _ _ _ h => h) (Or.inr ⟨by rfl, rfl⟩) hS ?_
      simp only [Act.put, List.setIfInBounds_toArray, List.set_cons_zero, List.set_cons_succ]
      refine wpAnyH_take (i := 5) (v := undef) rfl (by kernel_rfl) (by kernel_rfl) (by kernel_rfl) (fun _ _ _ h => h) (Or.inr ⟨by rfl, rfl⟩) hS ?_
      simp only [Act.put, List.setIfInBounds_toArray, List.set_cons_zero, List.set_cons_succ]
      refine wpAnyH_take (i := 6) (v := undef) rfl (by kernel_rfl) (by kernel_rfl) (by kernel_rfl) (fun _ _ _ h => h) (Or.inr ⟨by rfl, rfl⟩) hS ?_
      simp only [Act.put, List.setIfInBounds_toArray, List.set_cons_zero, List.set_cons_succ]
      refine wpAnyH_take (i := 7) (v := (.bool false)) rfl (by kernel_rfl) (by kernel_rfl) (by kernel_rfl) (fun _ _ _ h => h) (Or.inl ⟨by rfl, by intro w hSw; obtain ⟨s0, s1, s2, s3⟩ := hSw; go_simp⟩) hS ?_
      simp only [Act.put, List.setIfInBounds_toArray, List.set_cons_zero, List.set_cons_succ]
      refine wpAnyH_take (i := 8) (v := (.agg #[.int .i64 i, .int .i64 g, .int .u8 k, .int .i64 n])) rfl (by kernel_rfl) (by kernel_rfl) (by kernel_rfl) (fun _ _ _ h => h) (Or.inl ⟨by rfl, by intro w hSw; obtain ⟨s0, s1, s2, s3⟩ := hSw; go_simp⟩) hS ?_
      simp only [Act.put, List.setIfInBounds_toArray, List.set_cons_zero, List.set_cons_succ]
      refine wpAnyH_ready (rs := [9]) (by kernel_rfl) (by simp) ?_
      refine AllReadyH.cons rfl (fun K hK => ?_) AllReadyH.nil
      rw [if_pos (by rfl)]
      change Oper.wp Tryz.prog ⟨_, _, _, _, _, _⟩ _ _ _ _
      go_wp2_with (go_at_call 96; refine (CA.out _).mono ?_; rintro e w2 ⟨rfl, hb2'⟩; have hb2 : Below w1.heap.size w1 w2 := ((Below.refl _ w1).drew).trans hb2')
      refine hK.out _ _ ⟨(hb2.cell HLT.out).trans m0, (hb2.cell HLT.out).trans m1, (hb2.cell HLT.out).trans m2, (hb2.cell HLT.out).trans m3⟩ (fun hS => ?_)
      clear hK K
      refine wpAnyH_take (i := 10) (oi := ⟨some 13, _, _, _, _, _⟩) (v := (.bool true)) rfl (by kernel_rfl) (by kernel_rfl) (by kernel_rfl) (fun _ _ _ h => h) (Or.inl ⟨by rfl, by intro w hSw; obtain ⟨s0, s1, s2, s3⟩ := hSw; go_simp⟩) hS ?_
      simp only [Act.put, List.setIfInBounds_toArray, List.set_cons_zero, List.set_cons_succ]
      refine wpAnyH_take (i := 11) (oi := ⟨some 2, _, _, _, _, _⟩) (v := (.bool true)) rfl (by kernel_rfl) (by kernel_rfl) (by kernel_rfl) (fun _ _ _ h => h) (Or.inl ⟨by rfl, by intro w hSw; obtain ⟨s0, s1, s2, s3⟩ := hSw; go_simp⟩) hS ?_
      simp only [Act.put, List.setIfInBounds_toArray, List.set_cons_zero, List.set_cons_succ]
      refine wpAnyH_done (by kernel_rfl) ?_ _
      go_wp2
      go_ret
      exact ⟨rfl, HB.out.trans (hb2.mono HB.out.size)⟩
end Go.Proofs.YtklfojmflmablaaGreatDoor
/- The reference: Escapes. -/
namespace Go.Proofs.YtklfojmflmablaaGreatDoor
open Go Go.RowKit Go.Shelf

set_option maxRecDepth 100000 in
set_option maxHeartbeats 1000000 in
theorem escapes_any (v : Value) (a : Ar) (id arg : Int) (w : World) (hl : a.ids.length ≤ 1000) (hpl : ∀ t ∈ a.ids, t.params.length ≤ 1000) (hv : TyIn w w.heap.size v a.ids) (hid : id ≤ a.ids.length) :
    Calls Tryz.prog 166 #[arV v a.root a.jumps, .int .i64 id, .int .i64 arg] w fun e w' => e = .returned (.bool (jumpsAt a id arg)) ∧ Below w.heap.size w w' := by
  obtain ⟨A, c, rfl, hA⟩ := hv
  have HA := Lib.hid hA
  obtain ⟨ids, root, ju⟩ := a
  dsimp only at HA hl hpl hid ⊢
  have HPL := Lib.hid hpl
  obtain ⟨w1, hw1⟩ : ∃ w1, w.alloc (.cells #[.slice A ids.length c, .bool root.cell, .int .i64 root.n, .bool ju] 26) = w1 := ⟨_, rfl⟩
  have hb : Below w.heap.size w w1 := by rw [← hw1]; exact (Below.refl _ w).alloc (Nat.le_refl _) _
  have x0 : BoxA w1 w.heap.size (.slice A ids.length c) root ju := by rw [← hw1]; exact World.alloc_heap_new w _
  have HB := Lib.hid hb
  have c0 := cell_of_row w1 _ 0 _ 26 (0, 0) x0
  have c3 := cell_of_row w1 _ 3 _ 26 (0, 0) x0
  have HJ : Hid (jumpsAt ⟨ids, root, ju⟩ id arg = (decide (0 < arg) || (ju || (decide (0 < id) && decide (0 < ((ids[id.toNat - 1]?).map fun t => t.params.length).getD 0))))) := Lib.hid rfl
  unfold arV
  clear hA hb x0 hpl
  by_cases h1 : 0 < arg
  · have hR : jumpsAt ⟨ids, root, ju⟩ id arg = true := by rw [HJ.out, decide_eq_true h1]; rfl
    rw [hR]
    clear HJ hR
    go_enter Tryz.func166, Tryz.ntmps166
    go_wp2
    go_ret
    exact ⟨rfl, HB.out⟩
  · rw [decide_eq_false h1] at HJ
    cases ju with
    | true =>
      have hR : jumpsAt ⟨ids, root, true⟩ id arg = true := by rw [HJ.out]; rfl
      rw [hR]
      clear HJ hR
      go_enter Tryz.func166, Tryz.ntmps166
      go_wp2
      go_ret
      exact ⟨rfl, HB.out⟩
    | false =>
      by_cases h2 : 0 < id
      · obtain ⟨i, rfl⟩ : ∃ i : Nat, id = (i : Int) + 1 := ⟨(id - 1).toNat, by omega⟩
        have hil : i < ids.length := by omega
        obtain ⟨t, ht⟩ : ∃ t, ids[i]? = some t := ⟨_, List.getElem?_eq_getElem hil⟩
        have hR : jumpsAt ⟨ids, root, false⟩ ((i : Int) + 1) arg = decide (0 < t.params.length) := by
          rw [HJ.out, decide_eq_true h2, show ((i : Int) + 1).toNat - 1 = i by omega, ht]; simp
        rw [hR]
        obtain ⟨b, off, pv, rfl, hbn, hbs, d0, d1, d2⟩ := HA.out i t ht
        replace d0 := (World.cell?_of_block (HB.out.block b hbn)).trans d0
        obtain ⟨A', c', rfl⟩ := bsIn_slice hbs
        have hw1' : IntKind.i64.wrap ((i : Int) + 1 - 1) = i := by rw [IntKind.wrap_i64]; omega
        have hw2' : IntKind.i64.wrap (i : Int) = i := by rw [IntKind.wrap_i64]; omega
        by_cases h3 : 0 < t.params.length
        · rw [decide_eq_true h3]
          clear HJ hR ht d1 d2 hbs hid
          go_enter Tryz.func166, Tryz.ntmps166
          go_wp2
          go_ret
          exact ⟨rfl, HB.out⟩
        · rw [decide_eq_false h3]
          clear HJ hR ht d1 d2 hbs hid
          go_enter Tryz.func166, Tryz.ntmps166
          go_wp2
          go_ret
          exact ⟨rfl, HB.out⟩
      · have hR : jumpsAt ⟨ids, root, false⟩ id arg = false := by rw [HJ.out, decide_eq_false h2]; rfl
        rw [hR]
        clear HJ hR hid
        go_enter Tryz.func166, Tryz.ntmps166
        go_wp2
        go_ret
        exact ⟨rfl, HB.out⟩
end Go.Proofs.YtklfojmflmablaaGreatDoor
