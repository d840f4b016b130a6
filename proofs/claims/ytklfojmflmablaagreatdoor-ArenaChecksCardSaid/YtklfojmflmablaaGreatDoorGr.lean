/- The reference: moves that stand, and the moves below and under. -/
import Derived.Deep.RegionHeld3
import Derived.Test.YtklfojmflmablaaGreatDoorGq
import Derived.Test.YtklfojmflmablaaGreatDoorQe
import Derived.Test.YtklfojmflmablaaGreatDoorGh
/- The reference: Has, move, Whose. -/
namespace Go.Proofs.YtklfojmflmablaaGreatDoor
open Go Go.RowKit Go.Shelf

theorem refQ_len {a : Ar} (hck : checkRes a = 0) (id arg : Int) : (refQ a id arg).length ≤ 65 := by
  unfold refQ
  cases hp : placeOf a id arg with
  | none => simp
  | some b => exact quests_le (place_right hck hp).2.1
theorem refT_len {a : Ar} (hck : checkRes a = 0) (id arg : Int) (k : Bool) : (refT a id arg k).length ≤ 65 := by
  unfold refT
  cases hp : placeOf a id arg with
  | none => simp
  | some b =>
    refine answ_le ?_
    cases k
    · simp
    · exact (place_right hck hp).2.1
theorem find_in (v : Value) (l : List Mv) (m : Mv) (w : World) (hl : l.length ≤ 65) (hv : MvIn w w.heap.size v l) (hm : m ∈ l) : Calls Tryz.prog 54 #[v, mvV m] w fun e w' => ∃ i : Nat, e = .returned (.int .i64 i) ∧ Below w.heap.size w w' :=
  (find54_any v l m w (by omega) hv).mono (by
    rintro e w' ⟨r, rfl, (⟨_, h⟩ | ⟨i, rfl, _⟩), hb⟩
    · exact absurd hm h
    · exact ⟨i, rfl, hb⟩)
theorem find_out (v : Value) (l : List Mv) (m : Mv) (w : World) (hl : l.length ≤ 65) (hv : MvIn w w.heap.size v l) (hm : m ∉ l) : Calls Tryz.prog 54 #[v, mvV m] w fun e w' => e = .returned (.int .i64 (-1)) ∧ Below w.heap.size w w' :=
  (find54_any v l m w (by omega) hv).mono (by
    rintro e w' ⟨r, rfl, (⟨rfl, _⟩ | ⟨i, rfl, h⟩), hb⟩
    · exact ⟨rfl, hb⟩
    · exact absurd (List.mem_of_getElem? h) hm)

set_option maxRecDepth 100000 in
set_option maxHeartbeats 2000000 in
theorem refHas_any (v : Value) (a : Ar) (m : Mv) (w : World) (hck : checkRes a = 0) (hv : TyIn w w.heap.size v a.ids) :
    Calls Tryz.prog 35 #[arV v a.root a.jumps, mvV m] w fun e w' => e = .returned (.bool (refHas a m)) ∧ Below w.heap.size w w' := by
  have CQ : Hid (∀ W, Below w.heap.size w W → Calls Tryz.prog 99 #[arV v a.root a.jumps, .int .i64 m.id, .int .i64 m.arg] W fun e w' => ∃ v', e = .returned v' ∧ Hid (MvIn w' w'.heap.size v' (refQ a m.id m.arg)) ∧ Below W.heap.size W w') := Lib.hid fun W hW => by
    refine (questions_any v a m.id m.arg W hck (tyIn_later hv hW)).mono ?_
    rintro e w' ⟨v', rfl, ho, hb⟩
    exact ⟨v', rfl, Lib.hid (mvIn_own ho), hb⟩
  have CT : Hid (∀ W, Below w.heap.size w W → Calls Tryz.prog 97 #[arV v a.root a.jumps, .int .i64 m.id, .int .i64 m.arg, .int .u8 1] W fun e w' => ∃ v', e = .returned v' ∧ Hid (MvIn w' w'.heap.size v' (refT a m.id m.arg true)) ∧ Below W.heap.size W w') := Lib.hid fun W hW => by
    refine (toldAsk_any v a m.id m.arg W hck (tyIn_later hv hW)).mono ?_
    rintro e w' ⟨v', rfl, ho, hb⟩
    exact ⟨v', rfl, Lib.hid (mvIn_own ho), hb⟩
  obtain ⟨A, c, rfl⟩ := tyIn_slice hv
  obtain ⟨w1, hw1⟩ : ∃ w1, (w.alloc (.cells #[.slice A a.ids.length c, .bool a.root.cell, .int .i64 a.root.n, .bool a.jumps] 26)).alloc (.cells #[.int .i64 m.id, .int .i64 m.arg, .int .u8 m.kind, .int .i64 m.n] 40) = w1 := ⟨_, rfl⟩
  have hb : Below w.heap.size w w1 := by rw [← hw1]; exact ((Below.refl _ w).alloc (Nat.le_refl _) _).alloc (by simp) _
  have x0 : BoxA w1 w.heap.size (.slice A a.ids.length c) a.root a.jumps := by rw [← hw1]; exact (Below.heap_alloc _ _ _ (by simp)).trans (World.alloc_heap_new w _)
  have x1 : BoxM w1 (w.heap.size + 1) m := by
    rw [← hw1]; have := BoxM.new (w.alloc (.cells #[.slice A a.ids.length c, .bool a.root.cell, .int .i64 a.root.n, .bool a.jumps] 26)) m; rwa [World.size_alloc] at this
  have HB := Lib.hid hb
  have HLT := Lib.hid x1.lt
  have c0 := cell_of_row w1 _ 0 _ 26 (0, 0) x0
  have c1 := cell_of_row w1 _ 1 _ 26 (0, 0) x0
  have c2 := cell_of_row w1 _ 2 _ 26 (0, 0) x0
  have c3 := cell_of_row w1 _ 3 _ 26 (0, 0) x0
  have m0 := x1.c0
  have m1 := x1.c1
  have m2 := x1.c2
  have m3 := x1.c3
  simp at c0 c1 c2 c3
  have CI : Hid (∀ v' W, MvIn W W.heap.size v' (refQ a m.id m.arg) → m ∈ refQ a m.id m.arg → Calls Tryz.prog 54 #[v', mvV m] W fun e w' => ∃ i : Nat, e = .returned (.int .i64 i) ∧ Below W.heap.size W w') := Lib.hid fun v' W h hm => find_in v' _ m W (refQ_len hck _ _) h hm
  have CO : Hid (∀ v' W, MvIn W W.heap.size v' (refQ a m.id m.arg) → m ∉ refQ a m.id m.arg → Calls Tryz.prog 54 #[v', mvV m] W fun e w' => e = .returned (.int .i64 (-1)) ∧ Below W.heap.size W w') := Lib.hid fun v' W h hm => find_out v' _ m W (refQ_len hck _ _) h hm
  have DI : Hid (∀ v' W, MvIn W W.heap.size v' (refT a m.id m.arg true) → m ∈ refT a m.id m.arg true → Calls Tryz.prog 54 #[v', mvV m] W fun e w' => ∃ i : Nat, e = .returned (.int .i64 i) ∧ Below W.heap.size W w') := Lib.hid fun v' W h hm => find_in v' _ m W (refT_len hck _ _ _) h hm
  have DO : Hid (∀ v' W, MvIn W W.heap.size v' (refT a m.id m.arg true) → m ∉ refT a m.id m.arg true → Calls Tryz.prog 54 #[v', mvV m] W fun e w' => e = .returned (.int .i64 (-1)) ∧ Below W.heap.size W w') := Lib.hid fun v' W h hm => find_out v' _ m W (refT_len hck _ _ _) h hm
  have HF : Hid (refHas a m = (decide (m ∈ refQ a m.id m.arg) || decide (m ∈ refT a m.id m.arg true))) := Lib.hid rfl
  unfold arV at CQ CT ⊢
  unfold mvV at CI CO DI DO ⊢
  clear hb x0 x1 hv hck
  by_cases hq : m ∈ refQ a m.id m.arg
  · have HQ := Lib.hid hq
    have HR : Hid (refHas a m = true) := Lib.hid (by rw [HF.out, decide_eq_true hq]; rfl)
    clear hq
    go_enter Tryz.func35, Tryz.ntmps35
    go_wp2
    have h1 : Below w1.heap.size w1 w1.drew := (Below.refl _ w1).drew
    refine wp_region_held_drew (S := (fun W => W.cell? ⟨w.heap.size, 0, none⟩ = some (.slice A a.ids.length c) ∧ W.cell? ⟨w.heap.size, 1, none⟩ = some (.bool a.root.cell) ∧ W.cell? ⟨w.heap.size, 2, none⟩ = some (.int .i64 a.root.n) ∧ W.cell? ⟨w.heap.size, 3, none⟩ = some (.bool a.jumps) ∧
        W.cell? ⟨w.heap.size + 1, 0, none⟩ = some (.int .i64 m.id) ∧ W.cell? ⟨w.heap.size + 1, 1, none⟩ = some (.int .i64 m.arg) ∧ W.cell? ⟨w.heap.size + 1, 2, none⟩ = some (.int .u8 m.kind) ∧ W.cell? ⟨w.heap.size + 1, 3, none⟩ = some (.int .i64 m.n))) (by kernel_rfl) ⟨c0, c1, c2, c3, m0, m1, m2, m3⟩ (fun hS => ?_)
    refine wpAnyH_take (i := 0) (oi := ⟨some 5, _, _, _, _, _⟩) (v := (.agg #[.slice A a.ids.length c, .bool a.root.cell, .int .i64 a.root.n, .bool a.jumps])) rfl (by kernel_rfl) (by kernel_rfl) (by kernel_rfl) (fun _ _ _ h => h) (Or.inl ⟨by rfl, by intro w hSw; obtain ⟨s0, s1, s2, s3, s4, s5, s6, s7⟩ := hSw; go_simp⟩) hS ?_
    simp only [Act.put, List.setIfInBounds_toArray, List.set_cons_zero, List.set_cons_succ]
    refine wpAnyH_take (i := 1) (oi := ⟨some 6, _, _, _, _, _⟩) (v := (.pointer (some ⟨w.heap.size + 1, 0, none⟩))) rfl (by kernel_rfl) (by kernel_rfl) (by kernel_rfl) (fun _ _ _ h => h) (Or.inl ⟨by rfl, by intro w hSw; obtain ⟨s0, s1, s2, s3, s4, s5, s6, s7⟩ := hSw; go_simp⟩) hS ?_
    simp only [Act.put, List.setIfInBounds_toArray, List.set_cons_zero, List.set_cons_succ]
    refine wpAnyH_take (i := 2) (oi := ⟨some 7, _, _, _, _, _⟩) (v := (.int .i64 m.id)) rfl (by kernel_rfl) (by kernel_rfl) (by kernel_rfl) (fun _ _ _ h => h) (Or.inl ⟨by rfl, by intro w hSw; obtain ⟨s0, s1, s2, s3, s4, s5, s6, s7⟩ := hSw; go_simp⟩) hS ?_
    simp only [Act.put, List.setIfInBounds_toArray, List.set_cons_zero, List.set_cons_succ]
    refine wpAnyH_take (i := 3) (oi := ⟨some 8, _, _, _, _, _⟩) (v := (.pointer (some ⟨w.heap.size + 1, 1, none⟩))) rfl (by kernel_rfl) (by kernel_rfl) (by kernel_rfl) (fun _ _ _ h => h) (Or.inl ⟨by rfl, by intro w hSw; obtain ⟨s0, s1, s2, s3, s4, s5, s6, s7⟩ := hSw; go_simp⟩) hS ?_
    simp only [Act.put, List.setIfInBounds_toArray, List.set_cons_zero, List.set_cons_succ]
    refine wpAnyH_take (i := 4) (oi := ⟨some 9, _, _, _, _, _⟩) (v := (.int .i64 m.arg)) rfl (by kernel_rfl) (by kernel_rfl) (by kernel_rfl) (fun _ _ _ h => h) (Or.inl ⟨by rfl, by intro w hSw; obtain ⟨s0, s1, s2, s3, s4, s5, s6, s7⟩ := hSw; go_simp⟩) hS ?_
    simp only [Act.put, List.setIfInBounds_toArray, List.set_cons_zero, List.set_cons_succ]
    refine wpAnyH_take (i := 6) (oi := ⟨some 11, _, _, _, _, _⟩) (v := (.agg #[.int .i64 m.id, .int .i64 m.arg, .int .u8 m.kind, .int .i64 m.n])) rfl (by kernel_rfl) (by kernel_rfl) (by kernel_rfl) (fun _ _ _ h => h) (Or.inl ⟨by rfl, by intro w hSw; obtain ⟨s0, s1, s2, s3, s4, s5, s6, s7⟩ := hSw; go_simp⟩) hS ?_
    simp only [Act.put, List.setIfInBounds_toArray, List.set_cons_zero, List.set_cons_succ]
    refine wpAnyH_ready (rs := [5]) (by kernel_rfl) (by simp) ?_
    refine AllReadyH.cons (o := ⟨some 10, _, _, _, _, _⟩) rfl (fun K hK => ?_) AllReadyH.nil
    rw [if_pos (by rfl)]
    go_wp2_with (go_at_call 99; refine (CQ.out _ (HB.out.trans (h1.mono HB.out.size))).mono ?_; rintro e w2 ⟨v2, rfl, hv2, hb2⟩; have h1 : Below w1.heap.size w1 w2 := h1.trans (hb2.mono h1.size))
    refine hK.out _ _ ⟨(h1.cell (by have := HLT.out; simp; omega)).trans c0, (h1.cell (by have := HLT.out; simp; omega)).trans c1, (h1.cell (by have := HLT.out; simp; omega)).trans c2, (h1.cell (by have := HLT.out; simp; omega)).trans c3, (h1.cell HLT.out).trans m0, (h1.cell HLT.out).trans m1, (h1.cell HLT.out).trans m2, (h1.cell HLT.out).trans m3⟩ (fun hS => ?_)
    clear hK K
    refine wpAnyH_ready (rs := [7]) (by kernel_rfl) (by simp) ?_
    refine AllReadyH.cons (o := ⟨some 12, _, _, _, _, _⟩) rfl (fun K hK => ?_) AllReadyH.nil
    rw [if_pos (by rfl)]
    go_wp2_with (go_at_call 54; refine (CI.out _ _ hv2.out HQ.out).mono ?_; rintro e w3 ⟨i3, rfl, hb3⟩; have h1 : Below w1.heap.size w1 w3 := h1.trans (hb3.mono h1.size))
    refine hK.out _ _ ⟨(h1.cell (by have := HLT.out; simp; omega)).trans c0, (h1.cell (by have := HLT.out; simp; omega)).trans c1, (h1.cell (by have := HLT.out; simp; omega)).trans c2, (h1.cell (by have := HLT.out; simp; omega)).trans c3, (h1.cell HLT.out).trans m0, (h1.cell HLT.out).trans m1, (h1.cell HLT.out).trans m2, (h1.cell HLT.out).trans m3⟩ (fun hS => ?_)
    clear hK K
    refine wpAnyH_take (i := 8) (oi := ⟨some 13, _, _, _, _, _⟩) (v := (.bool true)) rfl (by kernel_rfl) (by kernel_rfl) (by kernel_rfl) (fun _ _ _ h => h) (Or.inl ⟨by rfl, by intro w hSw; obtain ⟨s0, s1, s2, s3, s4, s5, s6, s7⟩ := hSw; go_simp⟩) hS ?_
    simp only [Act.put, List.setIfInBounds_toArray, List.set_cons_zero, List.set_cons_succ]
    refine wpAnyH_take (i := 9) (oi := ⟨some 14, _, _, _, _, _⟩) (v := (.bool true)) rfl (by kernel_rfl) (by kernel_rfl) (by kernel_rfl) (fun _ _ _ h => h) (Or.inl ⟨by rfl, by intro w hSw; obtain ⟨s0, s1, s2, s3, s4, s5, s6, s7⟩ := hSw; go_simp⟩) hS ?_
    simp only [Act.put, List.setIfInBounds_toArray, List.set_cons_zero, List.set_cons_succ]
    refine wpAnyH_take (i := 10) (oi := ⟨some 15, _, _, _, _, _⟩) (v := undef) rfl (by kernel_rfl) (by kernel_rfl) (by kernel_rfl) (fun _ _ _ h => h) (Or.inr ⟨by rfl, rfl⟩) hS ?_
    simp only [Act.put, List.setIfInBounds_toArray, List.set_cons_zero, List.set_cons_succ]
    refine wpAnyH_take (i := 11) (oi := ⟨some 16, _, _, _, _, _⟩) (v := undef) rfl (by kernel_rfl) (by kernel_rfl) (by kernel_rfl) (fun _ _ _ h => h) (Or.inr ⟨by rfl, rfl⟩) hS ?_
    simp only [Act.put, List.setIfInBounds_toArray, List.set_cons_zero, List.set_cons_succ]
    refine wpAnyH_take (i := 12) (oi := ⟨some 17, _, _, _, _, _⟩) (v := undef) rfl (by kernel_rfl) (by kernel_rfl) (by kernel_rfl) (fun _ _ _ h => h) (Or.inr ⟨by rfl, rfl⟩) hS ?_
    simp only [Act.put, List.setIfInBounds_toArray, List.set_cons_zero, List.set_cons_succ]
    refine wpAnyH_take (i := 13) (oi := ⟨some 18, _, _, _, _, _⟩) (v := undef) rfl (by kernel_rfl) (by kernel_rfl) (by kernel_rfl) (fun _ _ _ h => h) (Or.inr ⟨by rfl, rfl⟩) hS ?_
    simp only [Act.put, List.setIfInBounds_toArray, List.set_cons_zero, List.set_cons_succ]
    refine wpAnyH_take (i := 14) (oi := ⟨some 19, _, _, _, _, _⟩) (v := undef) rfl (by kernel_rfl) (by kernel_rfl) (by kernel_rfl) (fun _ _ _ h => h) (Or.inr ⟨by rfl, rfl⟩) hS ?_
    simp only [Act.put, List.setIfInBounds_toArray, List.set_cons_zero, List.set_cons_succ]
    refine wpAnyH_take (i := 16) (oi := ⟨some 21, _, _, _, _, _⟩) (v := undef) rfl (by kernel_rfl) (by kernel_rfl) (by kernel_rfl) (fun _ _ _ h => h) (Or.inr ⟨by rfl, rfl⟩) hS ?_
    simp only [Act.put, List.setIfInBounds_toArray, List.set_cons_zero, List.set_cons_succ]
    refine wpAnyH_ready (rs := [15]) (by kernel_rfl) (by simp) ?_
    refine AllReadyH.cons (o := ⟨some 20, _, _, _, _, _⟩) rfl (fun K hK => ?_) AllReadyH.nil
    rw [if_neg (by intro h; exact absurd (show false = true from h) (by decide))]
    refine hK.out _ _ hS (fun hS => ?_)
    clear hK K
    simp only [Act.put, List.setIfInBounds_toArray, List.set_cons_zero, List.set_cons_succ]
    refine wpAnyH_ready (rs := [17]) (by kernel_rfl) (by simp) ?_
    refine AllReadyH.cons (o := ⟨some 22, _, _, _, _, _⟩) rfl (fun K hK => ?_) AllReadyH.nil
    rw [if_neg (by intro h; exact absurd (show false = true from h) (by decide))]
    refine hK.out _ _ hS (fun hS => ?_)
    clear hK K
    simp only [Act.put, List.setIfInBounds_toArray, List.set_cons_zero, List.set_cons_succ]
    refine wpAnyH_take (i := 18) (oi := ⟨some 23, _, _, _, _, _⟩) (v := undef) rfl (by kernel_rfl) (by kernel_rfl) (by kernel_rfl) (fun _ _ _ h => h) (Or.inr ⟨by rfl, rfl⟩) hS ?_
    simp only [Act.put, List.setIfInBounds_toArray, List.set_cons_zero, List.set_cons_succ]
    refine wpAnyH_take (i := 19) (oi := ⟨some 24, _, _, _, _, _⟩) (v := (.bool true)) rfl (by kernel_rfl) (by kernel_rfl) (by kernel_rfl) (fun _ _ _ h => h) (Or.inl ⟨by rfl, by intro w hSw; obtain ⟨s0, s1, s2, s3, s4, s5, s6, s7⟩ := hSw; go_simp⟩) hS ?_
    simp only [Act.put, List.setIfInBounds_toArray, List.set_cons_zero, List.set_cons_succ]
    refine wpAnyH_take (i := 20) (oi := ⟨some 4, _, _, _, _, _⟩) (v := (.bool true)) rfl (by kernel_rfl) (by kernel_rfl) (by kernel_rfl) (fun _ _ _ h => h) (Or.inl ⟨by rfl, by intro w hSw; obtain ⟨s0, s1, s2, s3, s4, s5, s6, s7⟩ := hSw; go_simp⟩) hS ?_
    simp only [Act.put, List.setIfInBounds_toArray, List.set_cons_zero, List.set_cons_succ]
    refine wpAnyH_done (by kernel_rfl) ?_ _
    all_goals go_wp2
    all_goals go_ret
    all_goals exact ⟨by rw [HR.out]; rfl, HB.out.trans (h1.mono HB.out.size)⟩
  · have HQ := Lib.hid hq
    rw [decide_eq_false hq] at HF
    clear hq
    by_cases ht : m ∈ refT a m.id m.arg true
    · have HT := Lib.hid ht
      have HR : Hid (refHas a m = true) := Lib.hid (by rw [HF.out, decide_eq_true ht]; rfl)
      clear ht
      go_enter Tryz.func35, Tryz.ntmps35
      go_wp2
      have h1 : Below w1.heap.size w1 w1.drew := (Below.refl _ w1).drew
      go_region_held3 (fun W => W.cell? ⟨w.heap.size, 0, none⟩ = some (.slice A a.ids.length c) ∧ W.cell? ⟨w.heap.size, 1, none⟩ = some (.bool a.root.cell) ∧ W.cell? ⟨w.heap.size, 2, none⟩ = some (.int .i64 a.root.n) ∧ W.cell? ⟨w.heap.size, 3, none⟩ = some (.bool a.jumps) ∧
          W.cell? ⟨w.heap.size + 1, 0, none⟩ = some (.int .i64 m.id) ∧ W.cell? ⟨w.heap.size + 1, 1, none⟩ = some (.int .i64 m.arg) ∧ W.cell? ⟨w.heap.size + 1, 2, none⟩ = some (.int .u8 m.kind) ∧ W.cell? ⟨w.heap.size + 1, 3, none⟩ = some (.int .i64 m.n))
        (first
          | go_keep
          | (go_split_ands
             refine ⟨?_, ?_, ?_, ?_, ?_, ?_, ?_, ?_⟩ <;> (refine (h1.cell (by have := HLT.out; simp; omega)).trans ?_; assumption))
          | (trace_state; fail))
        (first
        | (go_at_call 99; refine (CQ.out _ (HB.out.trans (h1.mono HB.out.size))).mono ?_; rintro e w2 ⟨v2, rfl, hv2, hb2⟩; have h1 : Below w1.heap.size w1 w2 := h1.trans (hb2.mono h1.size))
        | (go_at_call 97; refine (CT.out _ (HB.out.trans (h1.mono HB.out.size))).mono ?_; rintro e w4 ⟨v4, rfl, hv4, hb4⟩; have h1 : Below w1.heap.size w1 w4 := h1.trans (hb4.mono h1.size))
        | (go_at_call 54; first
            | (with_reducible refine (CO.out v2 w2 hv2.out HQ.out).mono ?_); rintro e w3 ⟨rfl, hb3⟩; have h1 : Below w1.heap.size w1 w3 := h1.trans (hb3.mono h1.size)
            | (with_reducible refine (DI.out v4 w4 hv4.out HT.out).mono ?_); rintro e w5 ⟨i5, rfl, hb5⟩; have h1 : Below w1.heap.size w1 w5 := h1.trans (hb5.mono h1.size)))
      all_goals go_wp2
      all_goals go_ret
      all_goals exact ⟨by rw [HR.out]; rfl, HB.out.trans (h1.mono HB.out.size)⟩
    · have HT := Lib.hid ht
      have HR : Hid (refHas a m = false) := Lib.hid (by rw [HF.out, decide_eq_false ht]; rfl)
      clear ht
      go_enter Tryz.func35, Tryz.ntmps35
      go_wp2
      have h1 : Below w1.heap.size w1 w1.drew := (Below.refl _ w1).drew
      go_region_held3 (fun W => W.cell? ⟨w.heap.size, 0, none⟩ = some (.slice A a.ids.length c) ∧ W.cell? ⟨w.heap.size, 1, none⟩ = some (.bool a.root.cell) ∧ W.cell? ⟨w.heap.size, 2, none⟩ = some (.int .i64 a.root.n) ∧ W.cell? ⟨w.heap.size, 3, none⟩ = some (.bool a.jumps) ∧
          W.cell? ⟨w.heap.size + 1, 0, none⟩ = some (.int .i64 m.id) ∧ W.cell? ⟨w.heap.size + 1, 1, none⟩ = some (.int .i64 m.arg) ∧ W.cell? ⟨w.heap.size + 1, 2, none⟩ = some (.int .u8 m.kind) ∧ W.cell? ⟨w.heap.size + 1, 3, none⟩ = some (.int .i64 m.n))
        (first
          | go_keep
          | (go_split_ands
             refine ⟨?_, ?_, ?_, ?_, ?_, ?_, ?_, ?_⟩ <;> (refine (h1.cell (by have := HLT.out; simp; omega)).trans ?_; assumption))
          | (trace_state; fail))
        (first
        | (go_at_call 99; refine (CQ.out _ (HB.out.trans (h1.mono HB.out.size))).mono ?_; rintro e w2 ⟨v2, rfl, hv2, hb2⟩; have h1 : Below w1.heap.size w1 w2 := h1.trans (hb2.mono h1.size))
        | (go_at_call 97; refine (CT.out _ (HB.out.trans (h1.mono HB.out.size))).mono ?_; rintro e w4 ⟨v4, rfl, hv4, hb4⟩; have h1 : Below w1.heap.size w1 w4 := h1.trans (hb4.mono h1.size))
        | (go_at_call 54; first
            | (with_reducible refine (CO.out v2 w2 hv2.out HQ.out).mono ?_); rintro e w3 ⟨rfl, hb3⟩; have h1 : Below w1.heap.size w1 w3 := h1.trans (hb3.mono h1.size)
            | (with_reducible refine (DO.out v4 w4 hv4.out HT.out).mono ?_); rintro e w5 ⟨rfl, hb5⟩; have h1 : Below w1.heap.size w1 w5 := h1.trans (hb5.mono h1.size)))
      all_goals go_wp2
      all_goals go_ret
      all_goals exact ⟨by rw [HR.out]; rfl, HB.out.trans (h1.mono HB.out.size)⟩
end Go.Proofs.YtklfojmflmablaaGreatDoor
/- The reference: move, Whose, Answers. -/
namespace Go.Proofs.YtklfojmflmablaaGreatDoor
open Go Go.RowKit Go.Shelf

def moveErr (a : Ar) (m : Mv) : Int := if checkRes a ≠ 0 then checkRes a else if refHas a m then 0 else 7
set_option maxRecDepth 100000 in
set_option maxHeartbeats 1000000 in
theorem move_err (v : Value) (a : Ar) (m : Mv) (w : World) (hl : a.ids.length ≤ 1000) (hpl : ∀ t ∈ a.ids, t.params.length ≤ 1000) (hv : TyIn w w.heap.size v a.ids) :
    Calls Tryz.prog 94 #[arV v a.root a.jumps, mvV m] w fun e w' => e = .returned (.int .i64 (moveErr a m)) ∧ Below w.heap.size w w' := by
  have CC : Hid (∀ W, Below w.heap.size w W → Calls Tryz.prog 25 #[arV v a.root a.jumps] W fun e w' => e = .returned (.int .i64 (checkRes a)) ∧ Below W.heap.size W w') :=
    Lib.hid fun W hW => refCheck_any v a W hl hpl (tyIn_later hv hW)
  have CH : Hid (checkRes a = 0 → ∀ W, Below w.heap.size w W → Calls Tryz.prog 35 #[arV v a.root a.jumps, mvV m] W fun e w' => e = .returned (.bool (refHas a m)) ∧ Below W.heap.size W w') :=
    Lib.hid fun hck W hW => refHas_any v a m W hck (tyIn_later hv hW)
  obtain ⟨A, c, rfl⟩ := tyIn_slice hv
  obtain ⟨w1, hw1⟩ : ∃ w1, (w.alloc (.cells #[.slice A a.ids.length c, .bool a.root.cell, .int .i64 a.root.n, .bool a.jumps] 26)).alloc (.cells #[.int .i64 m.id, .int .i64 m.arg, .int .u8 m.kind, .int .i64 m.n] 40) = w1 := ⟨_, rfl⟩
  have hb : Below w.heap.size w w1 := by rw [← hw1]; exact ((Below.refl _ w).alloc (Nat.le_refl _) _).alloc (by simp) _
  have x0 : BoxA w1 w.heap.size (.slice A a.ids.length c) a.root a.jumps := by rw [← hw1]; exact (Below.heap_alloc _ _ _ (by simp)).trans (World.alloc_heap_new w _)
  have x1 : BoxM w1 (w.heap.size + 1) m := by
    rw [← hw1]; have := BoxM.new (w.alloc (.cells #[.slice A a.ids.length c, .bool a.root.cell, .int .i64 a.root.n, .bool a.jumps] 26)) m; rwa [World.size_alloc] at this
  have HB := Lib.hid hb
  have HX0 := Lib.hid x0
  have HX1 := Lib.hid x1
  have c0 := cell_of_row w1 _ 0 _ 26 (0, 0) x0
  have c1 := cell_of_row w1 _ 1 _ 26 (0, 0) x0
  have c2 := cell_of_row w1 _ 2 _ 26 (0, 0) x0
  have c3 := cell_of_row w1 _ 3 _ 26 (0, 0) x0
  unfold arV at CC CH ⊢
  unfold mvV at CH ⊢
  clear hb x0 x1 hv hpl
  by_cases hck : checkRes a = 0
  · have CH' := Lib.hid (CH.out hck)
    have HR : Hid (moveErr a m = if refHas a m then 0 else 7) := Lib.hid (by unfold moveErr; rw [if_neg (by rw [hck]; simp)])
    rw [hck] at CC
    have hne : ((0 : Int) != 0) = false := rfl
    clear CH hck
    cases hh : refHas a m with
    | true =>
      rw [hh] at CH' HR
      clear hh
      go_enter Tryz.func94, Tryz.ntmps94
      go_wp2_with (first
        | (go_at_call 25; refine (CC.out _ HB.out).mono ?_; rintro e w2 ⟨rfl, hb2⟩; have z0 : BoxA w2 _ _ _ _ := (hb2.block _ HX0.out.lt).trans HX0.out; have z1 : BoxM w2 _ _ := (hb2.block _ HX1.out.lt).trans HX1.out; have q0 := cell_of_row w2 _ 0 _ 26 (0, 0) z0; have q1 := cell_of_row w2 _ 1 _ 26 (0, 0) z0; have q2 := cell_of_row w2 _ 2 _ 26 (0, 0) z0; have q3 := cell_of_row w2 _ 3 _ 26 (0, 0) z0; have m0 := z1.c0; have m1 := z1.c1; have m2 := z1.c2; have m3 := z1.c3; have HB2 := Lib.hid (HB.out.trans (hb2.mono HB.out.size)); clear z0 z1 hb2)
        | (go_at_call 35; refine (CH'.out _ HB2.out).mono ?_; rintro e w3 ⟨rfl, hb3⟩))
      go_ret
      exact ⟨by rw [HR.out]; rfl, HB2.out.trans (hb3.mono HB2.out.size)⟩
    | false =>
      rw [hh] at CH' HR
      clear hh
      go_enter Tryz.func94, Tryz.ntmps94
      go_wp2_with (first
        | (go_at_call 25; refine (CC.out _ HB.out).mono ?_; rintro e w2 ⟨rfl, hb2⟩; have z0 : BoxA w2 _ _ _ _ := (hb2.block _ HX0.out.lt).trans HX0.out; have z1 : BoxM w2 _ _ := (hb2.block _ HX1.out.lt).trans HX1.out; have q0 := cell_of_row w2 _ 0 _ 26 (0, 0) z0; have q1 := cell_of_row w2 _ 1 _ 26 (0, 0) z0; have q2 := cell_of_row w2 _ 2 _ 26 (0, 0) z0; have q3 := cell_of_row w2 _ 3 _ 26 (0, 0) z0; have m0 := z1.c0; have m1 := z1.c1; have m2 := z1.c2; have m3 := z1.c3; have HB2 := Lib.hid (HB.out.trans (hb2.mono HB.out.size)); clear z0 z1 hb2)
        | (go_at_call 35; refine (CH'.out _ HB2.out).mono ?_; rintro e w3 ⟨rfl, hb3⟩))
      go_ret
      exact ⟨by rw [HR.out]; rfl, HB2.out.trans (hb3.mono HB2.out.size)⟩
  · have HR : Hid (moveErr a m = checkRes a) := Lib.hid (by unfold moveErr; rw [if_pos hck])
    have hne : (checkRes a != 0) = true := by simpa using hck
    clear hck CH
    go_enter Tryz.func94, Tryz.ntmps94
    go_wp2_with (go_at_call 25; refine (CC.out _ HB.out).mono ?_; rintro e w2 ⟨rfl, hb2⟩)
    go_ret
    exact ⟨by rw [HR.out]; rfl, HB.out.trans (hb2.mono HB.out.size)⟩

theorem move_ok {a : Ar} {m : Mv} (h : moveErr a m = 0) : checkRes a = 0 ∧ ∃ p, whichPl a m = some p := by
  unfold moveErr at h
  by_cases hc : checkRes a = 0
  · rw [if_neg (by rw [hc]; simp)] at h
    refine ⟨hc, ?_⟩
    cases hh : refHas a m with
    | false => rw [hh] at h; simp at h
    | true => rw [← which_has] at hh; exact Option.isSome_iff_exists.1 hh
  · rw [if_pos hc] at h; exact absurd h hc
theorem move_bad {a : Ar} {m : Mv} (h : moveErr a m ≠ 0) : (checkRes a ≠ 0 ∧ moveErr a m = checkRes a) ∨ (checkRes a = 0 ∧ whichPl a m = none ∧ moveErr a m = 7) := by
  unfold moveErr at h ⊢
  by_cases hc : checkRes a = 0
  · rw [if_neg (by rw [hc]; simp)] at h ⊢
    cases hh : refHas a m with
    | true => rw [hh] at h; simp at h
    | false =>
      rw [← which_has] at hh
      exact .inr ⟨hc, Option.not_isSome_iff_eq_none.1 (by simp [hh]), rfl⟩
  · rw [if_pos hc]; exact .inl ⟨hc, rfl⟩
theorem other_bad {a : Ar} {m : Mv} (h : moveErr a m ≠ 0) : otherRes a m = (false, moveErr a m) := by
  unfold otherRes
  rcases move_bad h with ⟨h1, h2⟩ | ⟨h1, h2, h3⟩
  · rw [if_pos h1, h2]
  · rw [if_neg (by rw [h1]; simp), h2, h3]
theorem other_ok {a : Ar} {m : Mv} (h : moveErr a m = 0) : otherRes a m = (sideB m, 0) := by
  obtain ⟨h1, p, hp⟩ := move_ok h
  unfold otherRes
  rw [if_neg (by rw [h1]; simp), hp]
  simp only
  rw [which_side hp]

set_option maxRecDepth 100000 in
set_option maxHeartbeats 1000000 in
theorem whose_any (v : Value) (a : Ar) (m : Mv) (w : World) (hl : a.ids.length ≤ 1000) (hpl : ∀ t ∈ a.ids, t.params.length ≤ 1000) (hv : TyIn w w.heap.size v a.ids) :
    Calls Tryz.prog 32 #[arV v a.root a.jumps, mvV m] w fun e w' => e = .returned (.tuple #[.bool (otherRes a m).1, .int .i64 (otherRes a m).2]) ∧ Below w.heap.size w w' := by
  have CM : Hid (∀ W, Below w.heap.size w W → Calls Tryz.prog 94 #[arV v a.root a.jumps, mvV m] W fun e w' => e = .returned (.int .i64 (moveErr a m)) ∧ Below W.heap.size W w') :=
    Lib.hid fun W hW => move_err v a m W hl hpl (tyIn_later hv hW)
  have CO := Lib.hid (refOther_any m)
  obtain ⟨A, c, rfl⟩ := tyIn_slice hv
  obtain ⟨w1, hw1⟩ : ∃ w1, (w.alloc (.cells #[.slice A a.ids.length c, .bool a.root.cell, .int .i64 a.root.n, .bool a.jumps] 26)).alloc (.cells #[.int .i64 m.id, .int .i64 m.arg, .int .u8 m.kind, .int .i64 m.n] 40) = w1 := ⟨_, rfl⟩
  have hb : Below w.heap.size w w1 := by rw [← hw1]; exact ((Below.refl _ w).alloc (Nat.le_refl _) _).alloc (by simp) _
  have x0 : BoxA w1 w.heap.size (.slice A a.ids.length c) a.root a.jumps := by rw [← hw1]; exact (Below.heap_alloc _ _ _ (by simp)).trans (World.alloc_heap_new w _)
  have x1 : BoxM w1 (w.heap.size + 1) m := by
    rw [← hw1]; have := BoxM.new (w.alloc (.cells #[.slice A a.ids.length c, .bool a.root.cell, .int .i64 a.root.n, .bool a.jumps] 26)) m; rwa [World.size_alloc] at this
  have HB := Lib.hid hb
  have HX1 := Lib.hid x1
  have c0 := cell_of_row w1 _ 0 _ 26 (0, 0) x0
  have c1 := cell_of_row w1 _ 1 _ 26 (0, 0) x0
  have c2 := cell_of_row w1 _ 2 _ 26 (0, 0) x0
  have c3 := cell_of_row w1 _ 3 _ 26 (0, 0) x0
  have m0 := x1.c0
  have m1 := x1.c1
  have m2 := x1.c2
  have m3 := x1.c3
  obtain ⟨r, hr⟩ : ∃ r, moveErr a m = r := ⟨_, rfl⟩
  rw [hr] at CM
  unfold arV mvV at CM ⊢
  unfold mvV at CO
  clear hb x0 x1 hv hpl
  by_cases h0 : r = 0
  · subst h0
    rw [other_ok hr]
    have hne : ((0 : Int) != 0) = false := rfl
    clear hr
    go_enter Tryz.func32, Tryz.ntmps32
    go_wp2_with (first
      | (go_at_call 94; refine (CM.out _ HB.out).mono ?_; rintro e w2 ⟨rfl, hb2⟩; have z1 : BoxM w2 _ _ := (hb2.block _ HX1.out.lt).trans HX1.out; have n0 := z1.c0; have n1 := z1.c1; have n2 := z1.c2; have n3 := z1.c3; clear z1)
      | (go_at_call 95; refine (CO.out _).mono ?_; rintro e w3 ⟨rfl, hb3⟩))
    refine bodyPost_ret (results_tmp2 rfl _ _ _) rfl ?_
    exact ⟨rfl, HB.out.trans ((hb2.trans (hb3.mono hb2.size)).mono HB.out.size)⟩
  · have ho : otherRes a m = (false, r) := by rw [other_bad (by rw [hr]; exact h0), hr]
    rw [ho]
    have hne : (r != 0) = true := by simpa using h0
    clear hr h0 ho
    go_enter Tryz.func32, Tryz.ntmps32
    go_wp2_with (go_at_call 94; refine (CM.out _ HB.out).mono ?_; rintro e w2 ⟨rfl, hb2⟩)
    refine bodyPost_ret (results_tmp2 rfl _ _ _) rfl ?_
    exact ⟨rfl, HB.out.trans (hb2.mono HB.out.size)⟩

theorem ans_bad {a : Ar} {m : Mv} (h : moveErr a m ≠ 0) : ansRes a m = ([], moveErr a m) := by
  unfold ansRes
  rcases move_bad h with ⟨h1, h2⟩ | ⟨h1, h2, h3⟩
  · rw [if_pos h1, h2]
  · rw [if_neg (by rw [h1]; simp), h2, h3]
theorem ans_tell {a : Ar} {m : Mv} (h : moveErr a m = 0) (hk : askB m = false) : ansRes a m = ([], 2) := by
  obtain ⟨h1, p, hp⟩ := move_ok h
  unfold ansRes
  rw [if_neg (by rw [h1]; simp), hp]
  simp only [answRes]
  simp only [askB, Bool.or_eq_false_iff, decide_eq_false_iff_not] at hk
  rw [if_neg hk.1, if_neg hk.2]
theorem ans_ask {a : Ar} {m : Mv} (h : moveErr a m = 0) (hk : m.kind = 1) : ansRes a m = (refT a m.id m.arg true, 0) := by
  obtain ⟨h1, p, hp⟩ := move_ok h
  obtain ⟨h2, h3, _⟩ := which_some' hp
  unfold ansRes
  rw [if_neg (by rw [h1]; simp), hp]
  simp only [answRes]
  rw [if_pos hk]
  unfold refT
  rw [h2]
  simp only [if_true]
  rw [← h3]
  rfl
theorem ans_put {a : Ar} {m : Mv} (h : moveErr a m = 0) (hk1 : m.kind ≠ 1) (hk : askB m = true) : ansRes a m = (refT a m.id m.arg false, 0) := by
  obtain ⟨h1, p, hp⟩ := move_ok h
  obtain ⟨h2, h3, _⟩ := which_some' hp
  have hk2 : m.kind = 2 := by simpa [askB, hk1] using hk
  unfold ansRes
  rw [if_neg (by rw [h1]; simp), hp]
  simp only [answRes]
  rw [if_neg hk1, if_pos hk2]
  unfold refT
  rw [h2]
  simp only [Bool.false_eq_true, if_false]
  rw [← h3]
  rfl

set_option maxRecDepth 100000 in
set_option maxHeartbeats 2000000 in
theorem refAnswers_any (v : Value) (a : Ar) (m : Mv) (w : World) (hl : a.ids.length ≤ 1000) (hpl : ∀ t ∈ a.ids, t.params.length ≤ 1000) (hv : TyIn w w.heap.size v a.ids) :
    Calls Tryz.prog 33 #[arV v a.root a.jumps, mvV m] w fun e w' => ∃ x, e = .returned (.tuple #[x, .int .i64 (ansRes a m).2]) ∧ OwnMv w' w.heap.size x (ansRes a m).1 ∧ Below w.heap.size w w' := by
  have CM : Hid (∀ W, Below w.heap.size w W → Calls Tryz.prog 94 #[arV v a.root a.jumps, mvV m] W fun e w' => e = .returned (.int .i64 (moveErr a m)) ∧ Below W.heap.size W w') :=
    Lib.hid fun W hW => move_err v a m W hl hpl (tyIn_later hv hW)
  have CA := Lib.hid (ask_any m)
  have HV := Lib.hid hv
  obtain ⟨A, c, rfl⟩ := tyIn_slice hv
  obtain ⟨w1, hw1⟩ : ∃ w1, (w.alloc (.cells #[.slice A a.ids.length c, .bool a.root.cell, .int .i64 a.root.n, .bool a.jumps] 26)).alloc (.cells #[.int .i64 m.id, .int .i64 m.arg, .int .u8 m.kind, .int .i64 m.n] 40) = w1 := ⟨_, rfl⟩
  have hb : Below w.heap.size w w1 := by rw [← hw1]; exact ((Below.refl _ w).alloc (Nat.le_refl _) _).alloc (by simp) _
  have x0 : BoxA w1 w.heap.size (.slice A a.ids.length c) a.root a.jumps := by rw [← hw1]; exact (Below.heap_alloc _ _ _ (by simp)).trans (World.alloc_heap_new w _)
  have x1 : BoxM w1 (w.heap.size + 1) m := by
    rw [← hw1]; have := BoxM.new (w.alloc (.cells #[.slice A a.ids.length c, .bool a.root.cell, .int .i64 a.root.n, .bool a.jumps] 26)) m; rwa [World.size_alloc] at this
  have HB := Lib.hid hb
  have HX0 := Lib.hid x0
  have HX1 := Lib.hid x1
  have c0 := cell_of_row w1 _ 0 _ 26 (0, 0) x0
  have c1 := cell_of_row w1 _ 1 _ 26 (0, 0) x0
  have c2 := cell_of_row w1 _ 2 _ 26 (0, 0) x0
  have c3 := cell_of_row w1 _ 3 _ 26 (0, 0) x0
  have m0 := x1.c0
  have m1 := x1.c1
  have m2 := x1.c2
  have m3 := x1.c3
  obtain ⟨r, hr⟩ : ∃ r, moveErr a m = r := ⟨_, rfl⟩
  rw [hr] at CM
  clear hb x0 x1 hv hpl
  by_cases h0 : r = 0
  · subst h0
    obtain ⟨hck, _⟩ := move_ok hr
    have hne : ((0 : Int) != 0) = false := rfl
    cases hk : askB m with
    | false =>
      rw [hk] at CA
      rw [ans_tell hr hk]
      unfold arV mvV at CM ⊢
      unfold mvV at CA
      clear hr hk hck
      go_enter Tryz.func33, Tryz.ntmps33
      go_wp2_with (first
        | (go_at_call 94; refine (CM.out _ HB.out).mono ?_; rintro e w2 ⟨rfl, hb2⟩; have z1 : BoxM w2 _ _ := (hb2.block _ HX1.out.lt).trans HX1.out; have n0 := z1.c0; have n1 := z1.c1; have n2 := z1.c2; have n3 := z1.c3; clear z1)
        | (go_at_call 96; refine (CA.out _).mono ?_; rintro e w3 ⟨rfl, hb3⟩))
      refine bodyPost_ret (results_tmp2 rfl _ _ _) rfl ?_
      exact ⟨_, rfl, OwnMv.nil _ _, HB.out.trans ((hb2.trans (hb3.mono hb2.size)).mono HB.out.size)⟩
    | true =>
      rw [hk] at CA
      have CT : Hid (∃ q : Bool, ansRes a m = (refT a m.id m.arg q, 0) ∧ ∀ W, Below w.heap.size w W → Calls Tryz.prog 97 #[arV (.slice A a.ids.length c) a.root a.jumps, .int .i64 m.id, .int .i64 m.arg, .int .u8 m.kind] W fun e w' => ∃ v', e = .returned v' ∧ OwnMv w' W.heap.size v' (refT a m.id m.arg q) ∧ Below W.heap.size W w') := Lib.hid (by
        by_cases h1 : m.kind = 1
        · refine ⟨true, ans_ask hr h1, fun W hW => ?_⟩
          rw [h1]
          exact toldAsk_any _ a m.id m.arg W hck (tyIn_later HV.out hW)
        · exact ⟨false, ans_put hr h1 hk, fun W hW => toldPut_any _ a m.id m.arg m.kind h1 W hck (tyIn_later HV.out hW)⟩)
      obtain ⟨q, hq, CT⟩ := CT.out
      rw [hq]
      have CT := Lib.hid CT
      unfold arV mvV at CM ⊢
      unfold arV at CT
      unfold mvV at CA
      clear hr hk hck hq
      go_enter Tryz.func33, Tryz.ntmps33
      go_wp2_with (first
        | (go_at_call 94; refine (CM.out _ HB.out).mono ?_; rintro e w2 ⟨rfl, hb2⟩; have z1 : BoxM w2 _ _ := (hb2.block _ HX1.out.lt).trans HX1.out; have n0 := z1.c0; have n1 := z1.c1; have n2 := z1.c2; have n3 := z1.c3; clear z1)
        | (go_at_call 96; refine (CA.out _).mono ?_; rintro e w3 ⟨rfl, hb3⟩; have hb13 := hb2.trans (hb3.mono hb2.size); have z0 : BoxA w3 _ _ _ _ := (hb13.block _ HX0.out.lt).trans HX0.out; have z1 : BoxM w3 _ _ := (hb13.block _ HX1.out.lt).trans HX1.out; have q0 := cell_of_row w3 _ 0 _ 26 (0, 0) z0; have q1 := cell_of_row w3 _ 1 _ 26 (0, 0) z0; have q2 := cell_of_row w3 _ 2 _ 26 (0, 0) z0; have q3 := cell_of_row w3 _ 3 _ 26 (0, 0) z0; have o0 := z1.c0; have o1 := z1.c1; have o2 := z1.c2; have o3 := z1.c3; have HB3 := Lib.hid (HB.out.trans (hb13.mono HB.out.size)); clear z0 z1 hb13 hb2 hb3)
        | (go_at_call 97; refine (CT.out _ HB3.out).mono ?_; rintro e w4 ⟨v4, rfl, ho4, hb4⟩))
      refine bodyPost_ret (results_tmp2 rfl _ _ _) rfl ?_
      exact ⟨_, rfl, rowMv_less ho4 HB3.out.size, HB3.out.trans (hb4.mono HB3.out.size)⟩
  · have ho : ansRes a m = ([], r) := by rw [ans_bad (by rw [hr]; exact h0), hr]
    rw [ho]
    have hne : (r != 0) = true := by simpa using h0
    unfold arV mvV at CM ⊢
    clear hr h0 ho
    go_enter Tryz.func33, Tryz.ntmps33
    go_wp2_with (go_at_call 94; refine (CM.out _ HB.out).mono ?_; rintro e w2 ⟨rfl, hb2⟩)
    refine bodyPost_ret (results_tmp2 rfl _ _ _) rfl ?_
    exact ⟨_, rfl, OwnMv.nil _ _, HB.out.trans (hb2.mono HB.out.size)⟩
end Go.Proofs.YtklfojmflmablaaGreatDoor
/- The reference: Below, Under. -/
namespace Go.Proofs.YtklfojmflmablaaGreatDoor
open Go Go.RowKit Go.Shelf

theorem refQ_some {a : Ar} {id arg : Int} {b : Bs} (h : placeOf a id arg = some b) : ∃ x l, refQ a id arg = x :: l := by
  unfold refQ
  rw [h]
  exact ⟨_, _, rfl⟩
theorem mv_more {W : World} {n : Nat} {v : Value} {l r : List Mv} (h : W.ownsRow n 40 4 v (l.length + r.length) (mvCells l ++ mvCells r)) : OwnMv W n v (l ++ r) := by
  unfold OwnMv
  rw [mvCells_append, List.length_append]
  exact h
theorem mv_one (l : List Mv) : ∀ u ∈ mvCells l, u.oneCell' = true := by
  intro u hu
  obtain ⟨x, _, hx⟩ := List.mem_flatMap.1 hu
  simp only [Mv.cells4, List.mem_cons, List.not_mem_nil, or_false] at hx
  rcases hx with rfl | rfl | rfl | rfl <;> rfl
theorem mv_len (l : List Mv) : (mvCells l).length = l.length * 4 := by
  induction l with
  | nil => rfl
  | cons x l ih => simp only [mvCells, List.flatMap_cons, List.length_append, List.length_cons] at ih ⊢; rw [ih]; simp [Mv.cells4]; omega
/-- What a slice of the call's own gives to an append. -/
theorem mv_news {W : World} {n g k c : Nat} {l : List Mv} (h : W.ownsRow n 40 4 (.slice (some ⟨g, 0, none⟩) k c) k (mvCells l)) (hk : k = l.length) : ∀ j u, (mvCells l)[j]? = some u → W.cell? ((⟨g, 0, none⟩ : Addr).add j) = some u := by
  intro j u hu
  exact h.cells (g := g) rfl j u hu
theorem below_len {a : Ar} (hck : checkRes a = 0) (f : Nat → Int × Int) (n : Nat) (hn : n ≤ 8) : ((List.range n).flatMap fun (k : Nat) => refQ a (f k).1 (f k).2).length ≤ 1000 := by
  have := flatMap_le (fun k => refQ a (f k).1 (f k).2) 65 (List.range n) (fun k _ => refQ_len hck _ _)
  rw [List.length_range] at this
  have h2 : n * 65 ≤ 8 * 65 := Nat.mul_le_mul_right _ hn
  omega

set_option maxRecDepth 100000 in
set_option maxHeartbeats 2000000 in
theorem below_other' (v : Value) (a : Ar) (m : Mv) (w : World) (hck : checkRes a = 0) (hv : TyIn w w.heap.size v a.ids) (hm : ¬ (0 < m.id ∧ m.arg = 0)) :
    Calls Tryz.prog 98 #[arV v a.root a.jumps, mvV m] w fun e w' => ∃ v', e = .returned v' ∧ OwnMv w' w.heap.size v' ((List.range a.ids.length).flatMap fun (k : Nat) => refQ a ((k + 1 : Nat) : Int) 0) ∧ Below w.heap.size w w' := by
  obtain ⟨hs, _, _⟩ := check_small hck
  have hl8 := hs.1
  obtain ⟨n, hn⟩ : ∃ n, a.ids.length = n := ⟨_, rfl⟩
  have CQ : Hid (∀ (k : Nat) W, k < n → Below w.heap.size w W → Calls Tryz.prog 99 #[arV v a.root a.jumps, .int .i64 ((k : Int) + 1), .int .i64 0] W fun e w' => ∃ g q c, e = .returned (.slice (some ⟨g, 0, none⟩) q c) ∧ Hid (q = (refQ a ((k : Int) + 1) 0).length ∧ w'.ownsRow W.heap.size 40 4 (.slice (some ⟨g, 0, none⟩) q c) q (mvCells (refQ a ((k : Int) + 1) 0))) ∧ Below W.heap.size W w') := Lib.hid fun k W hk hW => by
    refine (questions_any v a ((k : Int) + 1) 0 W hck (tyIn_later hv hW)).mono ?_
    rintro e w' ⟨v', rfl, ho, hb⟩
    have hp : ∃ b, placeOf a ((k : Int) + 1) 0 = some b := by
      unfold placeOf
      rw [if_neg (by omega), if_neg (by omega), show ((k : Int) + 1).toNat - 1 = k by omega, List.getElem?_eq_getElem (by omega)]
      exact ⟨_, rfl⟩
    obtain ⟨b, hp⟩ := hp
    obtain ⟨x, r, hx⟩ := refQ_some hp
    unfold OwnMv at ho
    rcases ho.2 with ⟨rfl, h0⟩ | ⟨g, cap, cur, rfl, hrest⟩
    · rw [hx] at h0; simp at h0
    · exact ⟨g, _, cap, rfl, Lib.hid ⟨rfl, ho⟩, hb⟩
  have HLEN : Hid (∀ k, k ≤ n → ((List.range k).flatMap fun (k : Nat) => refQ a ((k : Int) + 1) 0).length ≤ 1000) := Lib.hid fun k hk => below_len hck (fun (k : Nat) => ((k : Int) + 1, 0)) k (by omega)
  have HQL : Hid (∀ k : Nat, (refQ a ((k : Int) + 1) 0).length ≤ 65) := Lib.hid fun k => refQ_len hck _ _
  obtain ⟨i0, hi, hz0, hz1, hz2⟩ := info_parts info40
  obtain ⟨A, c, rfl⟩ := tyIn_slice hv
  rw [hn] at CQ ⊢
  obtain ⟨w1, hw1⟩ : ∃ w1, (w.alloc (.cells #[.slice A n c, .bool a.root.cell, .int .i64 a.root.n, .bool a.jumps] 26)).alloc (.cells #[.int .i64 m.id, .int .i64 m.arg, .int .u8 m.kind, .int .i64 m.n] 40) = w1 := ⟨_, rfl⟩
  have hb : Below w.heap.size w w1 := by rw [← hw1]; exact ((Below.refl _ w).alloc (Nat.le_refl _) _).alloc (by simp) _
  have x0 : BoxA w1 w.heap.size (.slice A n c) a.root a.jumps := by rw [← hw1]; exact (Below.heap_alloc _ _ _ (by simp)).trans (World.alloc_heap_new w _)
  have x1 : BoxM w1 (w.heap.size + 1) m := by
    rw [← hw1]; have := BoxM.new (w.alloc (.cells #[.slice A n c, .bool a.root.cell, .int .i64 a.root.n, .bool a.jumps] 26)) m; rwa [World.size_alloc] at this
  have HB := Lib.hid hb
  have HX0 := Lib.hid x0
  have c0 := cell_of_row w1 _ 0 _ 26 (0, 0) x0
  have m0 := x1.c0
  have m1 := x1.c1
  have hg : ((decide (0 < m.id)) = true ∧ (m.arg == 0) = false) ∨ decide (0 < m.id) = false := by
    by_cases h1 : 0 < m.id
    · left; exact ⟨decide_eq_true h1, by simpa using fun h => hm ⟨h1, h⟩⟩
    · right; exact decide_eq_false h1
  have HNE : Hid (List.flatMap (fun (k : Nat) => refQ a ((k + 1 : Nat) : Int) 0) (List.range n) = List.flatMap (fun (k : Nat) => refQ a ((k : Int) + 1) 0) (List.range n)) := Lib.hid rfl
  have hn8 : n ≤ 8 := by omega
  unfold arV mvV at *
  clear hb x0 x1 hv hck hs hl8 hn hm
  rcases hg with ⟨e1, e2⟩ | e1
  all_goals (
    go_enter Tryz.func98, Tryz.ntmps98
    go_wp2
    go_loopw [5, 7] (fun u k wr => ∃ (j : Nat) (l : List Mv), k = .int .i64 ((j : Int) + 1) ∧ j ≤ n ∧ Hid (l = (List.range j).flatMap fun (k : Nat) => refQ a ((k : Int) + 1) 0) ∧ Hid (wr.ownsRow w1.heap.size 40 4 u l.length (mvCells l)) ∧ Hid (Below w1.heap.size w1 wr)) (fun _ k _ => n + 1 - (intOf k).toNat)
    case atStart => exact ⟨0, [], rfl, Nat.zero_le _, Lib.hid rfl, Lib.hid (World.ownsRow_nil _ _ _ _), Lib.hid (Below.refl _ _)⟩
    case round =>
      obtain ⟨j, l, rfl, hj, HLL, HRW, hB⟩ := hrel
      have z0 : BoxA wr _ _ _ _ := (hB.out.block _ HX0.out.lt).trans HX0.out
      have d0 := cell_of_row wr _ 0 _ 26 (0, 0) z0
      have d1 := cell_of_row wr _ 1 _ 26 (0, 0) z0
      have d2 := cell_of_row wr _ 2 _ 26 (0, 0) z0
      have d3 := cell_of_row wr _ 3 _ 26 (0, 0) z0
      obtain ⟨uA, un, uc, rfl, hun⟩ := mv_slice HRW.out
      have HLN : Hid (l.length ≤ 1000) := Lib.hid (by rw [HLL.out]; exact HLEN.out j hj)
      clear z0 hun
      by_cases hlt : j < n
      · have hle : (j : Int) + 1 ≤ (n : Int) := by omega
        go_wp2_with (first
          | (go_at_call 99; refine (CQ.out j _ hlt (HB.out.trans (hB.out.mono HB.out.size))).mono ?_; rintro e w4 ⟨g4, q4, c4, rfl, ho4, hb4⟩)
          | (at_builtin; refine wpList_append_own_at _ rfl _ _ 32 rfl w1.heap.size 40 i0 _ 4 32 Tryz.underlying32 hi hz0 hz1 hz2 rfl (by decide) _ _ _ rfl (row_below HRW.out hb4) ⟨g4, 0, none⟩ q4 c4 (mvCells (refQ a ((j : Int) + 1) 0)) rfl (by rw [mv_len, ho4.out.1]) (mv_news ho4.out.2 ho4.out.1) (mv_one _) (by have := HLN.out; have := HQL.out j; have := ho4.out.1; unfold maxLen; omega) (by have := HLN.out; have := HQL.out j; have := ho4.out.1; omega) (Nat.le_trans hB.out.size hb4.size) ?_; intro v' w5 hown' hgrow _ hat; have HO := Lib.hid (mv_more (l := l) (r := refQ a ((j : Int) + 1) 0) (by have := ho4.out.1; rw [this] at hown'; exact hown')); have HB5 := Lib.hid (((hB.out.trans (hb4.mono hB.out.size)).grown hgrow (Nat.le_trans hB.out.size hb4.size) (fun k e => (rowAt HRW.out e).1))); clear hown' hgrow hat))
        go_roundw
        case rel => exact ⟨j + 1, _, by simp, by omega, Lib.hid (by rw [HLL.out, List.range_succ, List.flatMap_append]; simp), HO, HB5⟩
        case measure => simp [intOf]; omega
      · obtain rfl : n = j := by omega
        have hle : ¬ ((n : Int) + 1 ≤ (n : Int)) := by omega
        go_wp2
        go_ret
        first | rw [HNE.out, ← HLL.out] | rw [← HLL.out]
        exact ⟨_, rfl, rowMv_less HRW.out HB.out.size, HB.out.trans (hB.out.mono HB.out.size)⟩)

set_option maxRecDepth 100000 in
set_option maxHeartbeats 2000000 in
theorem below_called' (v : Value) (a : Ar) (m : Mv) (i : Nat) (t : Ty) (w : World) (hck : checkRes a = 0) (hv : TyIn w w.heap.size v a.ids) (hid : m.id = (i : Int) + 1) (harg : m.arg = 0) (ht : a.ids[i]? = some t) :
    Calls Tryz.prog 98 #[arV v a.root a.jumps, mvV m] w fun e w' => ∃ v', e = .returned v' ∧ OwnMv w' w.heap.size v' ((List.range t.params.length).flatMap fun (k : Nat) => refQ a m.id ((k + 1 : Nat) : Int)) ∧ Below w.heap.size w w' := by
  obtain ⟨hs, _, _⟩ := check_small hck
  have hl8 := hs.1
  have hil : i < a.ids.length := (List.getElem?_eq_some_iff.1 ht).1
  have hn5 : t.params.length ≤ 5 := hs.2 t (List.mem_of_getElem? ht)
  rw [hid]
  obtain ⟨mi, ma, mk, mn⟩ := m
  dsimp only at hid harg
  subst hid harg
  obtain ⟨n, hn⟩ : ∃ n, t.params.length = n := ⟨_, rfl⟩
  have CQ : Hid (∀ (k : Nat) W, k < n → Below w.heap.size w W → Calls Tryz.prog 99 #[arV v a.root a.jumps, .int .i64 ((i : Int) + 1), .int .i64 ((k : Int) + 1)] W fun e w' => ∃ g q c, e = .returned (.slice (some ⟨g, 0, none⟩) q c) ∧ Hid (q = (refQ a ((i : Int) + 1) ((k : Int) + 1)).length ∧ w'.ownsRow W.heap.size 40 4 (.slice (some ⟨g, 0, none⟩) q c) q (mvCells (refQ a ((i : Int) + 1) ((k : Int) + 1)))) ∧ Below W.heap.size W w') := Lib.hid fun k W hk hW => by
    refine (questions_any v a ((i : Int) + 1) ((k : Int) + 1) W hck (tyIn_later hv hW)).mono ?_
    rintro e w' ⟨v', rfl, ho, hb⟩
    have hp : ∃ b, placeOf a ((i : Int) + 1) ((k : Int) + 1) = some b := by
      unfold placeOf
      rw [if_neg (by omega), if_neg (by omega), show ((i : Int) + 1).toNat - 1 = i by omega, ht]
      simp only
      rw [if_neg (by omega), if_neg (by omega), show ((k : Int) + 1).toNat - 1 = k by omega, List.getElem?_eq_getElem (by omega)]
      exact ⟨_, rfl⟩
    obtain ⟨b, hp⟩ := hp
    obtain ⟨x, r, hx⟩ := refQ_some hp
    unfold OwnMv at ho
    rcases ho.2 with ⟨rfl, h0⟩ | ⟨g, cap, cur, rfl, hrest⟩
    · rw [hx] at h0; simp at h0
    · exact ⟨g, _, cap, rfl, Lib.hid ⟨rfl, ho⟩, hb⟩
  have HLEN : Hid (∀ k, k ≤ n → ((List.range k).flatMap fun (k : Nat) => refQ a ((i : Int) + 1) ((k : Int) + 1)).length ≤ 1000) := Lib.hid fun k hk => below_len hck (fun (k : Nat) => ((i : Int) + 1, (k : Int) + 1)) k (by omega)
  have HQL : Hid (∀ k : Nat, (refQ a ((i : Int) + 1) ((k : Int) + 1)).length ≤ 65) := Lib.hid fun k => refQ_len hck _ _
  obtain ⟨i0, hi, hz0, hz1, hz2⟩ := info_parts info40
  obtain ⟨A, c, rfl, hA⟩ := hv
  obtain ⟨b, off, pv, rfl, hbn, hbs, d0, _, _⟩ := hA i t ht
  obtain ⟨A', c', rfl⟩ := bsIn_slice hbs
  rw [hn] at d0 ⊢
  obtain ⟨N, hN⟩ : ∃ N, a.ids.length = N := ⟨_, rfl⟩
  rw [hN] at CQ hil hl8 ⊢
  have HD0 := Lib.hid d0
  have HBN := Lib.hid hbn
  obtain ⟨w1, hw1⟩ : ∃ w1, (w.alloc (.cells #[.slice (some ⟨b, off, none⟩) N c, .bool a.root.cell, .int .i64 a.root.n, .bool a.jumps] 26)).alloc (.cells #[.int .i64 ((i : Int) + 1), .int .i64 0, .int .u8 mk, .int .i64 mn] 40) = w1 := ⟨_, rfl⟩
  have hb : Below w.heap.size w w1 := by rw [← hw1]; exact ((Below.refl _ w).alloc (Nat.le_refl _) _).alloc (by simp) _
  have x0 : BoxA w1 w.heap.size (.slice (some ⟨b, off, none⟩) N c) a.root a.jumps := by rw [← hw1]; exact (Below.heap_alloc _ _ _ (by simp)).trans (World.alloc_heap_new w _)
  have x1 : BoxM w1 (w.heap.size + 1) ⟨(i : Int) + 1, 0, mk, mn⟩ := by
    rw [← hw1]; have := BoxM.new (w.alloc (.cells #[.slice (some ⟨b, off, none⟩) N c, .bool a.root.cell, .int .i64 a.root.n, .bool a.jumps] 26)) ⟨(i : Int) + 1, 0, mk, mn⟩; rwa [World.size_alloc] at this
  have HB := Lib.hid hb
  have HX0 := Lib.hid x0
  have HX1 := Lib.hid x1
  have c0 := cell_of_row w1 _ 0 _ 26 (0, 0) x0
  have m0 := x1.c0
  have m1 := x1.c1
  have hw1' : IntKind.i64.wrap ((i : Int) + 1 - 1) = i := by rw [IntKind.wrap_i64]; omega
  have hw2' : IntKind.i64.wrap (i : Int) = i := by rw [IntKind.wrap_i64]; omega
  have e1 : decide (0 < (i : Int) + 1) = true := decide_eq_true (by omega)
  have hn5' : n ≤ 5 := by omega
  have HNE : Hid (List.flatMap (fun (k : Nat) => refQ a ((i : Int) + 1) ((k + 1 : Nat) : Int)) (List.range n) = List.flatMap (fun (k : Nat) => refQ a ((i : Int) + 1) ((k : Int) + 1)) (List.range n)) := Lib.hid rfl
  unfold arV mvV at *
  dsimp only at m0 m1
  clear hb x0 x1 hA hck hs hn ht hbs d0 hbn hN
  go_enter Tryz.func98, Tryz.ntmps98
  go_wp2
  go_loopw [5, 6] (fun u k wr => ∃ (j : Nat) (l : List Mv), k = .int .i64 ((j : Int) + 1) ∧ j ≤ n ∧ Hid (l = (List.range j).flatMap fun (k : Nat) => refQ a ((i : Int) + 1) ((k : Int) + 1)) ∧ Hid (wr.ownsRow w1.heap.size 40 4 u l.length (mvCells l)) ∧ Hid (Below w1.heap.size w1 wr)) (fun _ k _ => n + 1 - (intOf k).toNat)
  case atStart => exact ⟨0, [], rfl, Nat.zero_le _, Lib.hid rfl, Lib.hid (World.ownsRow_nil _ _ _ _), Lib.hid (Below.refl _ _)⟩
  case round =>
    obtain ⟨j, l, rfl, hj, HLL, HRW, hB⟩ := hrel
    have z0 : BoxA wr _ _ _ _ := (hB.out.block _ HX0.out.lt).trans HX0.out
    have z1 : BoxM wr _ _ := (hB.out.block _ HX1.out.lt).trans HX1.out
    have d0 := cell_of_row wr _ 0 _ 26 (0, 0) z0
    have d1 := cell_of_row wr _ 1 _ 26 (0, 0) z0
    have d2 := cell_of_row wr _ 2 _ 26 (0, 0) z0
    have d3 := cell_of_row wr _ 3 _ 26 (0, 0) z0
    have n0 := z1.c0
    dsimp only at n0
    have p0 := ((HB.out.trans (hB.out.mono HB.out.size)).cell (p := ⟨b, off + i * 3, none⟩) HBN.out).trans HD0.out
    obtain ⟨uA, un, uc, rfl, hun⟩ := mv_slice HRW.out
    have HLN : Hid (l.length ≤ 1000) := Lib.hid (by rw [HLL.out]; exact HLEN.out j hj)
    clear z0 z1 hun
    by_cases hlt : j < n
    · have hle : (j : Int) + 1 ≤ (n : Int) := by omega
      go_wp2_with (first
        | (go_at_call 99; refine (CQ.out j _ hlt (HB.out.trans (hB.out.mono HB.out.size))).mono ?_; rintro e w4 ⟨g4, q4, c4, rfl, ho4, hb4⟩)
        | (at_builtin; refine wpList_append_own_at _ rfl _ _ 32 rfl w1.heap.size 40 i0 _ 4 32 Tryz.underlying32 hi hz0 hz1 hz2 rfl (by decide) _ _ _ rfl (row_below HRW.out hb4) ⟨g4, 0, none⟩ q4 c4 (mvCells (refQ a ((i : Int) + 1) ((j : Int) + 1))) rfl (by rw [mv_len, ho4.out.1]) (mv_news ho4.out.2 ho4.out.1) (mv_one _) (by have := HLN.out; have := HQL.out j; have := ho4.out.1; unfold maxLen; omega) (by have := HLN.out; have := HQL.out j; have := ho4.out.1; omega) (Nat.le_trans hB.out.size hb4.size) ?_; intro v' w5 hown' hgrow _ hat; have HO := Lib.hid (mv_more (l := l) (r := refQ a ((i : Int) + 1) ((j : Int) + 1)) (by have := ho4.out.1; rw [this] at hown'; exact hown')); have HB5 := Lib.hid (((hB.out.trans (hb4.mono hB.out.size)).grown hgrow (Nat.le_trans hB.out.size hb4.size) (fun k e => (rowAt HRW.out e).1))); clear hown' hgrow hat))
      go_roundw
      case rel => exact ⟨j + 1, _, by simp, by omega, Lib.hid (by rw [HLL.out, List.range_succ, List.flatMap_append]; simp), HO, HB5⟩
      case measure => simp [intOf]; omega
    · obtain rfl : n = j := by omega
      have hle : ¬ ((n : Int) + 1 ≤ (n : Int)) := by omega
      go_wp2
      go_ret
      first | rw [HNE.out, ← HLL.out] | rw [← HLL.out]
      exact ⟨_, rfl, rowMv_less HRW.out HB.out.size, HB.out.trans (hB.out.mono HB.out.size)⟩

theorem refBelow_any (v : Value) (a : Ar) (m : Mv) (w : World) (hck : checkRes a = 0) (hmv : ∃ p, whichPl a m = some p) (hv : TyIn w w.heap.size v a.ids) :
    Calls Tryz.prog 98 #[arV v a.root a.jumps, mvV m] w fun e w' => ∃ v', e = .returned v' ∧ OwnMv w' w.heap.size v' (refBelow a m) ∧ Below w.heap.size w w' := by
  unfold refBelow
  by_cases hc : 0 < m.id ∧ m.arg = 0
  · rw [if_pos hc]
    obtain ⟨p, hp⟩ := hmv
    obtain ⟨h1, _, _⟩ := which_some' hp
    have h2 := (place_right hck h1).2.2
    obtain ⟨i, hi⟩ : ∃ i : Nat, m.id = (i : Int) + 1 := ⟨m.id.toNat - 1, by omega⟩
    obtain ⟨t, ht⟩ : ∃ t, a.ids[i]? = some t := ⟨_, List.getElem?_eq_getElem (by omega)⟩
    rw [show m.id.toNat - 1 = i by omega, ht]
    exact below_called' v a m i t w hck hv hi hc.2 ht
  · rw [if_neg hc]
    exact below_other' v a m w hck hv hc

theorem under_bad {a : Ar} {m : Mv} (h : moveErr a m ≠ 0) : underOf a m = ([], moveErr a m) := by
  unfold underOf
  rcases move_bad h with ⟨h1, h2⟩ | ⟨h1, h2, h3⟩
  · rw [if_pos h1, h2]
  · rw [if_neg (by rw [h1]; simp), h2, h3]
theorem under_tell {a : Ar} {m : Mv} (h : moveErr a m = 0) (hk : askB m = false) : underOf a m = ([], 2) := by
  obtain ⟨h1, p, hp⟩ := move_ok h
  have h3 := which_kind hp
  unfold underOf
  rw [if_neg (by rw [h1]; simp), hp]
  simp only [underRes]
  simp only [askB, Bool.or_eq_false_iff, decide_eq_false_iff_not] at hk
  rw [if_pos (by omega)]
theorem under_ask {a : Ar} {m : Mv} (h : moveErr a m = 0) (hk : askB m = true) : underOf a m = (refBelow a m, 0) := by
  obtain ⟨h1, p, hp⟩ := move_ok h
  unfold underOf
  rw [if_neg (by rw [h1]; simp), hp]
  simp only [underRes]
  have : m.kind ≠ 3 := fun e => by simp [askB, e] at hk
  rw [if_neg this, below_eq hp]

set_option maxRecDepth 100000 in
set_option maxHeartbeats 2000000 in
theorem refUnder_any (v : Value) (a : Ar) (m : Mv) (w : World) (hl : a.ids.length ≤ 1000) (hpl : ∀ t ∈ a.ids, t.params.length ≤ 1000) (hv : TyIn w w.heap.size v a.ids) :
    Calls Tryz.prog 34 #[arV v a.root a.jumps, mvV m] w fun e w' => ∃ x, e = .returned (.tuple #[x, .int .i64 (underOf a m).2]) ∧ OwnMv w' w.heap.size x (underOf a m).1 ∧ Below w.heap.size w w' := by
  have CM : Hid (∀ W, Below w.heap.size w W → Calls Tryz.prog 94 #[arV v a.root a.jumps, mvV m] W fun e w' => e = .returned (.int .i64 (moveErr a m)) ∧ Below W.heap.size W w') :=
    Lib.hid fun W hW => move_err v a m W hl hpl (tyIn_later hv hW)
  have CA := Lib.hid (ask_any m)
  have HV := Lib.hid hv
  obtain ⟨A, c, rfl⟩ := tyIn_slice hv
  obtain ⟨w1, hw1⟩ : ∃ w1, (w.alloc (.cells #[.slice A a.ids.length c, .bool a.root.cell, .int .i64 a.root.n, .bool a.jumps] 26)).alloc (.cells #[.int .i64 m.id, .int .i64 m.arg, .int .u8 m.kind, .int .i64 m.n] 40) = w1 := ⟨_, rfl⟩
  have hb : Below w.heap.size w w1 := by rw [← hw1]; exact ((Below.refl _ w).alloc (Nat.le_refl _) _).alloc (by simp) _
  have x0 : BoxA w1 w.heap.size (.slice A a.ids.length c) a.root a.jumps := by rw [← hw1]; exact (Below.heap_alloc _ _ _ (by simp)).trans (World.alloc_heap_new w _)
  have x1 : BoxM w1 (w.heap.size + 1) m := by
    rw [← hw1]; have := BoxM.new (w.alloc (.cells #[.slice A a.ids.length c, .bool a.root.cell, .int .i64 a.root.n, .bool a.jumps] 26)) m; rwa [World.size_alloc] at this
  have HB := Lib.hid hb
  have HX0 := Lib.hid x0
  have HX1 := Lib.hid x1
  have c0 := cell_of_row w1 _ 0 _ 26 (0, 0) x0
  have c1 := cell_of_row w1 _ 1 _ 26 (0, 0) x0
  have c2 := cell_of_row w1 _ 2 _ 26 (0, 0) x0
  have c3 := cell_of_row w1 _ 3 _ 26 (0, 0) x0
  have m0 := x1.c0
  have m1 := x1.c1
  have m2 := x1.c2
  have m3 := x1.c3
  obtain ⟨r, hr⟩ : ∃ r, moveErr a m = r := ⟨_, rfl⟩
  rw [hr] at CM
  clear hb x0 x1 hv hpl
  by_cases h0 : r = 0
  · subst h0
    obtain ⟨hck, hmv⟩ := move_ok hr
    have hne : ((0 : Int) != 0) = false := rfl
    cases hk : askB m with
    | false =>
      rw [hk] at CA
      rw [under_tell hr hk]
      unfold arV mvV at CM ⊢
      unfold mvV at CA
      clear hr hk hck hmv
      go_enter Tryz.func34, Tryz.ntmps34
      go_wp2_with (first
        | (go_at_call 94; refine (CM.out _ HB.out).mono ?_; rintro e w2 ⟨rfl, hb2⟩; have z1 : BoxM w2 _ _ := (hb2.block _ HX1.out.lt).trans HX1.out; have n0 := z1.c0; have n1 := z1.c1; have n2 := z1.c2; have n3 := z1.c3; clear z1)
        | (go_at_call 96; refine (CA.out _).mono ?_; rintro e w3 ⟨rfl, hb3⟩))
      refine bodyPost_ret (results_tmp2 rfl _ _ _) rfl ?_
      exact ⟨_, rfl, OwnMv.nil _ _, HB.out.trans ((hb2.trans (hb3.mono hb2.size)).mono HB.out.size)⟩
    | true =>
      rw [hk] at CA
      rw [under_ask hr hk]
      have CT : Hid (∀ W, Below w.heap.size w W → Calls Tryz.prog 98 #[arV (.slice A a.ids.length c) a.root a.jumps, mvV m] W fun e w' => ∃ v', e = .returned v' ∧ OwnMv w' W.heap.size v' (refBelow a m) ∧ Below W.heap.size W w') := Lib.hid fun W hW => refBelow_any _ a m W hck hmv (tyIn_later HV.out hW)
      unfold arV mvV at CM CT ⊢
      unfold mvV at CA
      clear hr hk hck hmv
      go_enter Tryz.func34, Tryz.ntmps34
      go_wp2_with (first
        | (go_at_call 94; refine (CM.out _ HB.out).mono ?_; rintro e w2 ⟨rfl, hb2⟩; have z1 : BoxM w2 _ _ := (hb2.block _ HX1.out.lt).trans HX1.out; have n0 := z1.c0; have n1 := z1.c1; have n2 := z1.c2; have n3 := z1.c3; clear z1)
        | (go_at_call 96; refine (CA.out _).mono ?_; rintro e w3 ⟨rfl, hb3⟩; have hb13 := hb2.trans (hb3.mono hb2.size); have z0 : BoxA w3 _ _ _ _ := (hb13.block _ HX0.out.lt).trans HX0.out; have z1 : BoxM w3 _ _ := (hb13.block _ HX1.out.lt).trans HX1.out; have q0 := cell_of_row w3 _ 0 _ 26 (0, 0) z0; have q1 := cell_of_row w3 _ 1 _ 26 (0, 0) z0; have q2 := cell_of_row w3 _ 2 _ 26 (0, 0) z0; have q3 := cell_of_row w3 _ 3 _ 26 (0, 0) z0; have o0 := z1.c0; have o1 := z1.c1; have o2 := z1.c2; have o3 := z1.c3; have HB3 := Lib.hid (HB.out.trans (hb13.mono HB.out.size)); clear z0 z1 hb13 hb2 hb3)
        | (go_at_call 98; refine (CT.out _ HB3.out).mono ?_; rintro e w4 ⟨v4, rfl, ho4, hb4⟩))
      refine bodyPost_ret (results_tmp2 rfl _ _ _) rfl ?_
      exact ⟨_, rfl, rowMv_less ho4 HB3.out.size, HB3.out.trans (hb4.mono HB3.out.size)⟩
  · have ho : underOf a m = ([], r) := by rw [under_bad (by rw [hr]; exact h0), hr]
    rw [ho]
    have hne : (r != 0) = true := by simpa using h0
    unfold arV mvV at CM ⊢
    clear hr h0 ho
    go_enter Tryz.func34, Tryz.ntmps34
    go_wp2_with (go_at_call 94; refine (CM.out _ HB.out).mono ?_; rintro e w2 ⟨rfl, hb2⟩)
    refine bodyPost_ret (results_tmp2 rfl _ _ _) rfl ?_
    exact ⟨_, rfl, OwnMv.nil _ _, HB.out.trans (hb2.mono HB.out.size)⟩
end Go.Proofs.YtklfojmflmablaaGreatDoor
