/- Package arena: IsOther, Under, Moves. -/
import Derived.Test.YtklfojmflmablaaGreatDoorUn
namespace Go.Proofs.YtklfojmflmablaaGreatDoor
open Go Go.RowKit Go.Shelf

/-- Whose a move is, or the error. -/
def otherRes (a : Ar) (m : Mv) : Bool × Int := if checkRes a ≠ 0 then (false, checkRes a) else match whichPl a m with | none => (false, 7) | some p => (isCalled p == decide (m.kind = 3), 0)
def underOf (a : Ar) (m : Mv) : List Mv × Int := if checkRes a ≠ 0 then ([], checkRes a) else match whichPl a m with | none => ([], 7) | some p => underRes a m p
theorem toldQ_other {a : Ar} {m : Mv} {x : Value} {er : Int} {Q : Pl → Prop} (h : ToldQ (.bool false) (whichPl a m) x er Q) (hc : checkRes a = 0) (hQ : ∀ p, Q p → x = .bool (isCalled p == decide (m.kind = 3)) ∧ er = 0) : x = .bool (otherRes a m).1 ∧ er = (otherRes a m).2 := by
  unfold otherRes
  rw [if_neg (by rw [hc]; simp)]
  cases hw : whichPl a m with
  | none => rw [hw] at h; exact h
  | some p => rw [hw] at h; exact hQ p h
theorem toldQ_under {a : Ar} {m : Mv} {x : Value} {er : Int} {w' : World} {n : Nat} {Q : Pl → Prop} (h : ToldQ (.slice none 0 0) (whichPl a m) x er Q) (hc : checkRes a = 0) (hQ : ∀ p, Q p → er = (underRes a m p).2 ∧ OwnMv w' n x (underRes a m p).1) : er = (underOf a m).2 ∧ OwnMv w' n x (underOf a m).1 := by
  unfold underOf
  rw [if_neg (by rw [hc]; simp)]
  cases hw : whichPl a m with
  | none => rw [hw] at h; obtain ⟨rfl, rfl⟩ := h; exact ⟨rfl, OwnMv.nil _ _⟩
  | some p => rw [hw] at h; exact hQ p h

set_option maxRecDepth 100000 in
set_option maxHeartbeats 1000000 in
theorem isOther_any (v : Value) (a : Ar) (m : Mv) (w : World) (hl : a.ids.length ≤ 140737488355328) (hpl : ∀ t ∈ a.ids, t.params.length ≤ 140737488355328) (hv : TyIn w w.heap.size v a.ids) :
    Calls Tryz.prog 29 #[arV v a.root a.jumps, mvV m] w fun e w' => e = .returned (.tuple #[.bool (otherRes a m).1, .int .i64 (otherRes a m).2]) ∧ Below w.heap.size w w' := by
  have HV := Lib.hid hv
  obtain ⟨A, c, rfl⟩ := tyIn_slice hv
  obtain ⟨w1, hw1⟩ : ∃ w1, (w.alloc (.cells #[.slice A a.ids.length c, .bool a.root.cell, .int .i64 a.root.n, .bool a.jumps] 26)).alloc (.cells #[.int .i64 m.id, .int .i64 m.arg, .int .u8 m.kind, .int .i64 m.n] 40) = w1 := ⟨_, rfl⟩
  have hb : Below w.heap.size w w1 := by rw [← hw1]; exact ((Below.refl _ w).alloc (Nat.le_refl _) _).alloc (by simp) _
  have x0 : w1.heap[w.heap.size]? = some (.cells #[.slice A a.ids.length c, .bool a.root.cell, .int .i64 a.root.n, .bool a.jumps] 26 (0, 0)) := by rw [← hw1]; exact (Below.heap_alloc _ _ _ (by simp)).trans (World.alloc_heap_new w _)
  have x1 : BoxM w1 (w.heap.size + 1) m := by
    rw [← hw1]; have := BoxM.new (w.alloc (.cells #[.slice A a.ids.length c, .bool a.root.cell, .int .i64 a.root.n, .bool a.jumps] 26)) m; rwa [World.size_alloc] at this
  have HB := Lib.hid hb
  have c0 := cell_of_row w1 _ 0 _ 26 (0, 0) x0
  have c1 := cell_of_row w1 _ 1 _ 26 (0, 0) x0
  have c2 := cell_of_row w1 _ 2 _ 26 (0, 0) x0
  have c3 := cell_of_row w1 _ 3 _ 26 (0, 0) x0
  have m0 := x1.c0
  have m1 := x1.c1
  have m2 := x1.c2
  have m3 := x1.c3
  have CT : Hid (Calls Tryz.prog 83 #[arV (.slice A a.ids.length c) a.root a.jumps, mvV m, .func (.func 84) #[] #[.pointer (some ⟨w.heap.size + 1, 0, none⟩)]] w1 fun e w' => e = .returned (.tuple #[.bool (otherRes a m).1, .int .i64 (otherRes a m).2]) ∧ Below w1.heap.size w1 w') := Lib.hid (by
    refine (toldB_any (.slice A a.ids.length c) a m 84 _ w1 hl hpl (tyIn_later hv hb) (enters_of Tryz.func84 (by kernel_rfl) rfl) (fun p x er _ _ => x = .bool (isCalled p == decide (m.kind = 3)) ∧ er = 0) ?_).mono ?_
    · intro _ W hW p
      refine (isOther1_any (.slice A a.ids.length c) a.root a.jumps m p _ W ((hW.block _ x1.lt).trans x1) ⟨_, _, _, rfl⟩).mono ?_
      rintro e W' ⟨rfl, hb'⟩
      exact ⟨_, _, rfl, ⟨rfl, rfl⟩, hb'⟩
    · rintro e w' ⟨hb', x, er, rfl, (⟨h1, rfl, rfl⟩ | ⟨h1, h2⟩)⟩
      · refine ⟨?_, hb'⟩
        unfold otherRes
        rw [if_pos h1]
      · obtain ⟨rfl, rfl⟩ := toldQ_other h2 h1 (fun p ⟨W, _, hp⟩ => hp)
        exact ⟨rfl, hb'⟩)
  unfold arV mvV at CT ⊢
  clear hb x0 x1 hv hpl
  go_enter Tryz.func29, Tryz.ntmps29
  go_wp2_with (go_at_call 83; refine CT.out.mono ?_; rintro e w2 ⟨rfl, hb2⟩)
  refine bodyPost_ret (results_tmp2 rfl _ _ _) rfl ?_
  exact ⟨rfl, HB.out.trans (hb2.mono HB.out.size)⟩

set_option maxRecDepth 100000 in
set_option maxHeartbeats 1000000 in
theorem under_call (v : Value) (a : Ar) (m : Mv) (w : World) (hl : a.ids.length ≤ 140737488355328) (hpl : ∀ t ∈ a.ids, t.params.length ≤ 140737488355328) (hv : TyIn w w.heap.size v a.ids) :
    Calls Tryz.prog 31 #[arV v a.root a.jumps, mvV m] w fun e w' => ∃ x, e = .returned (.tuple #[x, .int .i64 (underOf a m).2]) ∧ OwnMv w' w.heap.size x (underOf a m).1 ∧ Below w.heap.size w w' := by
  have HV := Lib.hid hv
  obtain ⟨A, c, rfl⟩ := tyIn_slice hv
  obtain ⟨w1, hw1⟩ : ∃ w1, (w.alloc (.cells #[.slice A a.ids.length c, .bool a.root.cell, .int .i64 a.root.n, .bool a.jumps] 26)).alloc (.cells #[.int .i64 m.id, .int .i64 m.arg, .int .u8 m.kind, .int .i64 m.n] 40) = w1 := ⟨_, rfl⟩
  have hb : Below w.heap.size w w1 := by rw [← hw1]; exact ((Below.refl _ w).alloc (Nat.le_refl _) _).alloc (by simp) _
  have x0 : w1.heap[w.heap.size]? = some (.cells #[.slice A a.ids.length c, .bool a.root.cell, .int .i64 a.root.n, .bool a.jumps] 26 (0, 0)) := by rw [← hw1]; exact (Below.heap_alloc _ _ _ (by simp)).trans (World.alloc_heap_new w _)
  have x1 : BoxM w1 (w.heap.size + 1) m := by
    rw [← hw1]; have := BoxM.new (w.alloc (.cells #[.slice A a.ids.length c, .bool a.root.cell, .int .i64 a.root.n, .bool a.jumps] 26)) m; rwa [World.size_alloc] at this
  have HB := Lib.hid hb
  have c0 := cell_of_row w1 _ 0 _ 26 (0, 0) x0
  have c1 := cell_of_row w1 _ 1 _ 26 (0, 0) x0
  have c2 := cell_of_row w1 _ 2 _ 26 (0, 0) x0
  have c3 := cell_of_row w1 _ 3 _ 26 (0, 0) x0
  have m0 := x1.c0
  have m1 := x1.c1
  have m2 := x1.c2
  have m3 := x1.c3
  have CT : Hid (Calls Tryz.prog 86 #[arV (.slice A a.ids.length c) a.root a.jumps, mvV m, .func (.func 91) #[] #[.pointer (some ⟨w.heap.size + 1, 0, none⟩)]] w1 fun e w' => ∃ x, e = .returned (.tuple #[x, .int .i64 (underOf a m).2]) ∧ OwnMv w' w1.heap.size x (underOf a m).1 ∧ Below w1.heap.size w1 w') := Lib.hid (by
    refine (toldM_any (.slice A a.ids.length c) a m 91 _ w1 hl hpl (tyIn_later hv hb) (enters_of Tryz.func91 (by kernel_rfl) rfl) (fun p x er W W' => er = (underRes a m p).2 ∧ OwnMv W' W.heap.size x (underRes a m p).1) ?_).mono ?_
    · intro hck W hW p
      refine (under1b_any (.slice A a.ids.length c) a m p _ W hck ((hW.block _ x1.lt).trans x1) (tyIn_later hv (hb.trans (hW.mono hb.size)))).mono ?_
      rintro e W' ⟨x, er, rfl, hp, hb'⟩
      exact ⟨_, _, rfl, hp, hb'⟩
    · rintro e w' ⟨hb', x, er, rfl, (⟨h1, rfl, rfl⟩ | ⟨h1, h2⟩)⟩
      · have e1 : underOf a m = ([], checkRes a) := by unfold underOf; rw [if_pos h1]
        rw [e1]
        exact ⟨_, rfl, OwnMv.nil _ _, hb'⟩
      · obtain ⟨rfl, ho⟩ := toldQ_under (w' := w') (n := w1.heap.size) h2 h1 (fun p ⟨W, hW, hp⟩ => ⟨hp.1, rowMv_less hp.2 hW.size⟩)
        exact ⟨_, rfl, ho, hb'⟩)
  unfold arV mvV at CT ⊢
  clear hb x0 x1 hv hpl
  go_enter Tryz.func31, Tryz.ntmps31
  go_wp2_with (go_at_call 86; refine CT.out.mono ?_; rintro e w2 ⟨x, rfl, ho, hb2⟩)
  refine bodyPost_ret (results_tmp2 rfl _ _ _) rfl ?_
  exact ⟨_, rfl, rowMv_less ho HB.out.size, HB.out.trans (hb2.mono HB.out.size)⟩

/-- All moves of an arena, or the error. -/
def movesRes (a : Ar) : List Mv × Int := if checkRes a ≠ 0 then ([], checkRes a) else (allMv a, 0)

set_option maxRecDepth 100000 in
set_option maxHeartbeats 1000000 in
theorem moves_call (v : Value) (a : Ar) (w : World) (hl : a.ids.length ≤ 140737488355328) (hpl : ∀ t ∈ a.ids, t.params.length ≤ 140737488355328) (hv : TyIn w w.heap.size v a.ids) :
    Calls Tryz.prog 21 #[arV v a.root a.jumps] w fun e w' => ∃ x, e = .returned (.tuple #[x, .int .i64 (movesRes a).2]) ∧ OwnMv w' w.heap.size x (movesRes a).1 ∧ Below w.heap.size w w' := by
  have HV := Lib.hid hv
  obtain ⟨A, c, rfl⟩ := tyIn_slice hv
  obtain ⟨w1, hw1⟩ : ∃ w1, w.alloc (.cells #[.slice A a.ids.length c, .bool a.root.cell, .int .i64 a.root.n, .bool a.jumps] 26) = w1 := ⟨_, rfl⟩
  have hb : Below w.heap.size w w1 := by rw [← hw1]; exact (Below.refl _ w).alloc (Nat.le_refl _) _
  have x0 : w1.heap[w.heap.size]? = some (.cells #[.slice A a.ids.length c, .bool a.root.cell, .int .i64 a.root.n, .bool a.jumps] 26 (0, 0)) := by rw [← hw1]; exact World.alloc_heap_new w _
  have HB := Lib.hid hb
  have HX0 := Lib.hid x0
  have c0 := cell_of_row w1 _ 0 _ 26 (0, 0) x0
  have c1 := cell_of_row w1 _ 1 _ 26 (0, 0) x0
  have c2 := cell_of_row w1 _ 2 _ 26 (0, 0) x0
  have c3 := cell_of_row w1 _ 3 _ 26 (0, 0) x0
  have CC : Hid (Calls Tryz.prog 20 #[arV (.slice A a.ids.length c) a.root a.jumps] w1 fun e w' => e = .returned (.int .i64 (checkRes a)) ∧ Below w1.heap.size w1 w') := Lib.hid (check_any _ a w1 hl hpl (tyIn_later hv hb))
  unfold arV at CC ⊢
  clear hb x0 hv hpl
  by_cases hck : checkRes a = 0
  · rw [hck] at CC
    have HC := Lib.hid hck
    have HR : Hid (movesRes a = (allMv a, 0)) := Lib.hid (by unfold movesRes; rw [if_neg (by rw [hck]; simp)])
    clear hck
    have C72 : Hid (∀ W2, Below w1.heap.size w1 W2 → Calls Tryz.prog 72 #[.agg #[.slice A a.ids.length c, .bool a.root.cell, .int .i64 a.root.n, .bool a.jumps], .func (.func 73) #[] #[], .func (.func 74) #[] #[]] W2 fun e w' =>
        ∃ v', e = .returned v' ∧ Below W2.heap.size W2 w' ∧ OwnMv w' W2.heap.size v' (allMv a)) := Lib.hid fun W2 h2 =>
      moves_any (.slice A a.ids.length c) a _ (fun _ => true) _ movesOf W2 (check_small HC.out).1 (places_64 HC.out) (movesBy_all HC.out) (tyIn_later HV.out (HB.out.trans (h2.mono HB.out.size))) (anywhere_so _ _) moves_some
    go_enter Tryz.func21, Tryz.ntmps21
    go_wp2_with (first
      | (go_at_call 20; refine CC.out.mono ?_; rintro e w2 ⟨rfl, hb2⟩; have y0 := (hb2.block _ (Array.getElem?_eq_some_iff.1 HX0.out).1).trans HX0.out; have c0 := cell_of_row w2 _ 0 _ 26 (0, 0) y0; have c1 := cell_of_row w2 _ 1 _ 26 (0, 0) y0; have c2 := cell_of_row w2 _ 2 _ 26 (0, 0) y0; have c3 := cell_of_row w2 _ 3 _ 26 (0, 0) y0; clear y0)
      | (go_at_call 72; refine (C72.out _ hb2).mono ?_; rintro e w3 ⟨v3, rfl, hb3, hown⟩))
    refine bodyPost_ret (results_tmp2 rfl _ _ _) rfl ?_
    rw [HR.out]
    exact ⟨_, rfl, rowMv_less hown (Nat.le_trans HB.out.size hb2.size), HB.out.trans ((hb2.trans (hb3.mono hb2.size)).mono HB.out.size)⟩
  · have HR : Hid (movesRes a = ([], checkRes a)) := Lib.hid (by unfold movesRes; rw [if_pos hck])
    have hne : (checkRes a != 0) = true := by simpa using hck
    clear hck
    go_enter Tryz.func21, Tryz.ntmps21
    go_wp2_with (go_at_call 20; refine CC.out.mono ?_; rintro e w2 ⟨rfl, hb2⟩)
    refine bodyPost_ret (results_tmp2 rfl _ _ _) rfl ?_
    rw [HR.out]
    exact ⟨_, rfl, OwnMv.nil _ _, HB.out.trans (hb2.mono HB.out.size)⟩
end Go.Proofs.YtklfojmflmablaaGreatDoor
