/- Package arena: the contract of Check. -/
import Derived.Test.YtklfojmflmablaaGreatDoorCkA
namespace Go.Proofs.YtklfojmflmablaaGreatDoor
open Go Go.RowKit Go.Shelf

theorem bsIn_keep {W W' : World} {n : Nat} {v : Value} {l : List Bs} (h : BsIn W n v l) (hb : Below n W W') : BsIn W' n v l := h.below hb.block
theorem tyIn_keep {W W' : World} {n : Nat} {v : Value} {l : List Ty} (h : TyIn W n v l) (hb : Below n W W') : TyIn W' n v l := h.below hb.block
theorem bsIn_later {W W' : World} {v : Value} {l : List Bs} (h : BsIn W W.heap.size v l) (hb : Below W.heap.size W W') : BsIn W' W'.heap.size v l := (h.below hb.block).more hb.size
theorem tyIn_later {W W' : World} {v : Value} {l : List Ty} (h : TyIn W W.heap.size v l) (hb : Below W.heap.size W W') : TyIn W' W'.heap.size v l := (h.below hb.block).more hb.size
theorem bsIn_slice {W : World} {n : Nat} {v : Value} {l : List Bs} (h : BsIn W n v l) : ∃ A c, v = .slice A l.length c := h.elim fun A h => h.elim fun c h => ⟨A, c, h.1⟩
theorem tyIn_slice {W : World} {n : Nat} {v : Value} {l : List Ty} (h : TyIn W n v l) : ∃ A c, v = .slice A l.length c := h.elim fun A h => h.elim fun c h => ⟨A, c, h.1⟩

set_option maxRecDepth 100000 in
theorem rightType_int (pv : Value) (ps : List Bs) (n : Int) (w : World) (hl : ps.length ≤ 140737488355328) (hv : BsIn w w.heap.size pv ps) :
    Calls Tryz.prog 70 #[tyV pv ⟨false, n⟩] w fun e w' => e = .returned (.bool (okTy ⟨ps, ⟨false, n⟩⟩)) ∧ Below w.heap.size w w' := by
  have C71 := Lib.hid (rightBase_any ⟨false, n⟩)
  have C151 : Hid (∀ W, Below w.heap.size w W → Calls Tryz.prog 151 #[pv, .func (.func 150) #[] #[]] W fun e w' => e = .returned (.bool ((ps : List Bs).any fun b => !okBs b)) ∧ Below W.heap.size W w') :=
    Lib.hid fun W hW => containsBs_any pv _ _ ps W hl ((hv.below hW.block).more hW.size) (wrongBase_fn _ _)
  obtain ⟨A, c, rfl⟩ := bsIn_slice hv
  have hany : ((ps : List Bs).any fun b => !okBs b) = !((ps : List Bs).all okBs) := by rw [List.any_eq_not_all_not]; simp
  rw [hany] at C151
  try simp only [List.length_nil] at C151 ⊢
  obtain ⟨w1, hw1⟩ : ∃ w1, w.alloc (.cells #[.slice A ps.length c, .bool false, .int .i64 n] 64) = w1 := ⟨_, rfl⟩
  have hb : Below w.heap.size w w1 := by rw [← hw1]; exact (Below.refl _ w).alloc (Nat.le_refl _) _
  have x1 : w1.heap[w.heap.size]? = some (.cells #[.slice A ps.length c, .bool false, .int .i64 n] 64 (0, 0)) := by rw [← hw1]; exact World.alloc_heap_new w _
  have HB := Lib.hid hb
  have c0 := cell_of_row w1 _ 0 _ 64 (0, 0) x1
  have c1 := cell_of_row w1 _ 1 _ 64 (0, 0) x1
  have c2 := cell_of_row w1 _ 2 _ 64 (0, 0) x1
  have HN : Hid (∀ w2, Below w1.heap.size w1 w2 → w2.cell? ⟨w.heap.size, 0, none⟩ = some (.slice A ps.length c)) := Lib.hid fun w2 h2 =>
    (h2.cell (p := ⟨w.heap.size, 0, none⟩) (Array.getElem?_eq_some_iff.1 x1).1).trans c0
  unfold tyV okTy
  unfold bsV at C71
  dsimp only at C71 ⊢
  clear hb hv hany x1
  cases hok : okBs ⟨false, n⟩ with
  | false =>
    rw [hok] at C71
    clear hok
    go_enter Tryz.func70, Tryz.ntmps70
    go_wp2_with (go_at_call 71; refine (C71.out _).mono ?_; rintro e w2 ⟨rfl, hb2⟩)
    go_ret
    exact ⟨by simp, HB.out.trans (hb2.mono HB.out.size)⟩
  | true =>
    rw [hok] at C71
    clear hok
    go_enter Tryz.func70, Tryz.ntmps70
    go_wp2_with (first
      | (go_at_call 71; refine (C71.out _).mono ?_; rintro e w2 ⟨rfl, hb2⟩; have hn := HN.out _ hb2)
      | (go_at_call 151; refine (C151.out _ (HB.out.trans (hb2.mono HB.out.size))).mono ?_; rintro e w3 ⟨rfl, hb3⟩))
    go_ret
    exact ⟨by simp, HB.out.trans ((hb2.mono HB.out.size).trans (hb3.mono (Nat.le_trans HB.out.size hb2.size)))⟩

set_option maxRecDepth 100000 in
theorem rightType_cell0 (pv : Value) (n : Int) (w : World) (hv : BsIn w w.heap.size pv []) :
    Calls Tryz.prog 70 #[tyV pv ⟨true, n⟩] w fun e w' => e = .returned (.bool (okTy ⟨[], ⟨true, n⟩⟩)) ∧ Below w.heap.size w w' := by
  have C71 := Lib.hid (rightBase_any ⟨true, n⟩)
  have C151 : Hid (∀ W, Below w.heap.size w W → Calls Tryz.prog 151 #[pv, .func (.func 150) #[] #[]] W fun e w' => e = .returned (.bool (([] : List Bs).any fun b => !okBs b)) ∧ Below W.heap.size W w') :=
    Lib.hid fun W hW => containsBs_any pv _ _ [] W (by simp) ((hv.below hW.block).more hW.size) (wrongBase_fn _ _)
  obtain ⟨A, c, rfl⟩ := bsIn_slice hv
  have hany : (([] : List Bs).any fun b => !okBs b) = !(([] : List Bs).all okBs) := by rw [List.any_eq_not_all_not]; simp
  rw [hany] at C151
  try simp only [List.length_nil] at C151 ⊢
  obtain ⟨w1, hw1⟩ : ∃ w1, w.alloc (.cells #[.slice A 0 c, .bool true, .int .i64 n] 64) = w1 := ⟨_, rfl⟩
  have hb : Below w.heap.size w w1 := by rw [← hw1]; exact (Below.refl _ w).alloc (Nat.le_refl _) _
  have x1 : w1.heap[w.heap.size]? = some (.cells #[.slice A 0 c, .bool true, .int .i64 n] 64 (0, 0)) := by rw [← hw1]; exact World.alloc_heap_new w _
  have HB := Lib.hid hb
  have c0 := cell_of_row w1 _ 0 _ 64 (0, 0) x1
  have c1 := cell_of_row w1 _ 1 _ 64 (0, 0) x1
  have c2 := cell_of_row w1 _ 2 _ 64 (0, 0) x1
  have HN : Hid (∀ w2, Below w1.heap.size w1 w2 → w2.cell? ⟨w.heap.size, 0, none⟩ = some (.slice A 0 c)) := Lib.hid fun w2 h2 =>
    (h2.cell (p := ⟨w.heap.size, 0, none⟩) (Array.getElem?_eq_some_iff.1 x1).1).trans c0
  unfold tyV okTy
  unfold bsV at C71
  dsimp only at C71 ⊢
  clear hb hv hany x1
  cases hok : okBs ⟨true, n⟩ with
  | false =>
    rw [hok] at C71
    clear hok
    go_enter Tryz.func70, Tryz.ntmps70
    go_wp2_with (go_at_call 71; refine (C71.out _).mono ?_; rintro e w2 ⟨rfl, hb2⟩)
    go_ret
    exact ⟨by simp, HB.out.trans (hb2.mono HB.out.size)⟩
  | true =>
    rw [hok] at C71
    clear hok
    go_enter Tryz.func70, Tryz.ntmps70
    go_wp2_with (first
      | (go_at_call 71; refine (C71.out _).mono ?_; rintro e w2 ⟨rfl, hb2⟩; have hn := HN.out _ hb2)
      | (go_at_call 151; refine (C151.out _ (HB.out.trans (hb2.mono HB.out.size))).mono ?_; rintro e w3 ⟨rfl, hb3⟩))
    go_ret
    exact ⟨by simp, HB.out.trans ((hb2.mono HB.out.size).trans (hb3.mono (Nat.le_trans HB.out.size hb2.size)))⟩

set_option maxRecDepth 100000 in
theorem rightType_cell1 (pv : Value) (p : Bs) (ps : List Bs) (n : Int) (w : World) (hl : (p :: ps).length ≤ 140737488355328) (hv : BsIn w w.heap.size pv (p :: ps)) :
    Calls Tryz.prog 70 #[tyV pv ⟨true, n⟩] w fun e w' => e = .returned (.bool (okTy ⟨p :: ps, ⟨true, n⟩⟩)) ∧ Below w.heap.size w w' := by
  obtain ⟨A, c, rfl⟩ := bsIn_slice hv
  have HB := Lib.hid ((Below.refl _ w).alloc (Nat.le_refl _) (.cells #[.slice A (ps.length + 1) c, .bool true, .int .i64 n] 64))
  unfold tyV okTy
  simp only [List.length_cons] at hl ⊢
  have h2 : decide (0 < ps.length + 1) = true := decide_eq_true (by omega)
  rw [h2]
  clear h2 hv
  go_enter Tryz.func70, Tryz.ntmps70
  go_wp2
  go_ret
  exact ⟨by simp, HB.out⟩

theorem rightType_any (pv : Value) (x : Ty) (w : World) (hl : x.params.length ≤ 140737488355328) (hv : BsIn w w.heap.size pv x.params) :
    Calls Tryz.prog 70 #[tyV pv x.result] w fun e w' => e = .returned (.bool (okTy x)) ∧ Below w.heap.size w w' := by
  obtain ⟨ps, ⟨ce, n⟩⟩ := x
  cases ce
  · exact rightType_int pv ps n w hl hv
  · cases ps with
    | nil => exact rightType_cell0 pv n w hv
    | cons p ps => exact rightType_cell1 pv p ps n w hl hv

set_option maxRecDepth 100000 in
theorem wrongType_any (pv : Value) (x : Ty) (w : World) (hl : x.params.length ≤ 140737488355328) (hv : BsIn w w.heap.size pv x.params) :
    Calls Tryz.prog 69 #[tyV pv x.result] w fun e w' => e = .returned (.bool (!okTy x)) ∧ Below w.heap.size w w' := by
  have HB := Lib.hid ((Below.refl _ w).alloc (Nat.le_refl _) (.cells #[pv, .bool x.result.cell, .int .i64 x.result.n] 64))
  have C : Hid (∀ W, Below w.heap.size w W → Calls Tryz.prog 70 #[tyV pv x.result] W fun e w' => e = .returned (.bool (okTy x)) ∧ Below W.heap.size W w') :=
    Lib.hid fun W hW => rightType_any pv x W hl ((hv.below hW.block).more hW.size)
  obtain ⟨A, c, rfl⟩ := bsIn_slice hv
  unfold tyV at C ⊢
  clear hv
  go_enter Tryz.func69, Tryz.ntmps69
  go_wp2_with (go_at_call 70; refine (C.out _ HB.out).mono ?_; rintro e w2 ⟨rfl, hb2⟩)
  go_ret
  exact ⟨rfl, HB.out.trans (hb2.mono HB.out.size)⟩

set_option maxRecDepth 100000 in
theorem tooMany_any (pv : Value) (x : Ty) (w : World) (hl : x.params.length ≤ 140737488355328) (hv : BsIn w w.heap.size pv x.params) :
    Calls Tryz.prog 68 #[tyV pv x.result] w fun e w' => e = .returned (.bool (decide (5 < x.params.length))) ∧ Below w.heap.size w w' := by
  have HB := Lib.hid ((Below.refl _ w).alloc (Nat.le_refl _) (.cells #[pv, .bool x.result.cell, .int .i64 x.result.n] 64))
  obtain ⟨A, c, rfl⟩ := bsIn_slice hv
  unfold tyV
  clear hv
  have h5 : decide ((5 : Int) < (x.params.length : Int)) = decide (5 < x.params.length) := by
    by_cases h : 5 < x.params.length
    · rw [decide_eq_true h, decide_eq_true (by omega)]
    · rw [decide_eq_false h, decide_eq_false (by omega)]
  have H5 := Lib.hid h5
  clear h5
  go_enter Tryz.func68, Tryz.ntmps68
  go_wp2
  go_ret
  exact ⟨by rw [← H5.out]; rfl, HB.out⟩

theorem wrongType_fn (n₁ : Nat) (w : World) (hn : n₁ ≤ w.heap.size) : TyFn (.func (.func 69) #[] #[]) (fun x => !okTy x) n₁ w :=
  ⟨69, #[], rfl, enters_of Tryz.func69 (by kernel_rfl) rfl, fun W _ pv x hv hl => by
    obtain ⟨A, c, e, hA⟩ := hv
    exact wrongType_any pv x W hl ⟨A, c, e, fun i y hy => by
      obtain ⟨b, off, h1, h2, h3, h4⟩ := hA i y hy
      refine ⟨b, off, h1, ?_, h3, h4⟩
      rcases Nat.lt_or_ge b W.heap.size with h | h
      · exact h
      · unfold World.cell? at h3; simp [Array.getElem?_eq_none h] at h3⟩⟩
theorem tooMany_fn (n₁ : Nat) (w : World) (hn : n₁ ≤ w.heap.size) : TyFn (.func (.func 68) #[] #[]) (fun x => decide (5 < x.params.length)) n₁ w :=
  ⟨68, #[], rfl, enters_of Tryz.func68 (by kernel_rfl) rfl, fun W _ pv x hv hl => by
    obtain ⟨A, c, e, hA⟩ := hv
    exact tooMany_any pv x W hl ⟨A, c, e, fun i y hy => by
      obtain ⟨b, off, h1, h2, h3, h4⟩ := hA i y hy
      refine ⟨b, off, h1, ?_, h3, h4⟩
      rcases Nat.lt_or_ge b W.heap.size with h | h
      · exact h
      · unfold World.cell? at h3; simp [Array.getElem?_eq_none h] at h3⟩⟩

set_option maxRecDepth 100000 in
set_option maxHeartbeats 1000000 in
/-- The error of an arena. -/
theorem check_any (v : Value) (a : Ar) (w : World) (hl : a.ids.length ≤ 140737488355328) (hpl : ∀ t ∈ a.ids, t.params.length ≤ 140737488355328) (hv : TyIn w w.heap.size v a.ids) :
    Calls Tryz.prog 20 #[arV v a.root a.jumps] w fun e w' => e = .returned (.int .i64 (checkRes a)) ∧ Below w.heap.size w w' := by
  have CT : Hid (∀ W, Below w.heap.size w W → Calls Tryz.prog 67 #[v, .func (.func 68) #[] #[]] W fun e w' => e = .returned (.bool (a.ids.any fun x => decide (5 < x.params.length))) ∧ Below W.heap.size W w') :=
    Lib.hid fun W hW => containsTy_any v _ _ a.ids W hl hpl ((hv.below hW.block).more hW.size) (tooMany_fn _ _ (Nat.le_refl _))
  have CW : Hid (∀ W, Below w.heap.size w W → Calls Tryz.prog 67 #[v, .func (.func 69) #[] #[]] W fun e w' => e = .returned (.bool (a.ids.any fun x => !okTy x)) ∧ Below W.heap.size W w') :=
    Lib.hid fun W hW => containsTy_any v _ _ a.ids W hl hpl ((hv.below hW.block).more hW.size) (wrongType_fn _ _ (Nat.le_refl _))
  have C71 := Lib.hid (rightBase_any a.root)
  obtain ⟨A, c, rfl⟩ := tyIn_slice hv
  obtain ⟨w1, hw1⟩ : ∃ w1, w.alloc (.cells #[.slice A a.ids.length c, .bool a.root.cell, .int .i64 a.root.n, .bool a.jumps] 26) = w1 := ⟨_, rfl⟩
  have hb : Below w.heap.size w w1 := by rw [← hw1]; exact (Below.refl _ w).alloc (Nat.le_refl _) _
  have x1 : w1.heap[w.heap.size]? = some (.cells #[.slice A a.ids.length c, .bool a.root.cell, .int .i64 a.root.n, .bool a.jumps] 26 (0, 0)) := by rw [← hw1]; exact World.alloc_heap_new w _
  have HB := Lib.hid hb
  have c0 := cell_of_row w1 _ 0 _ 26 (0, 0) x1
  have c1 := cell_of_row w1 _ 1 _ 26 (0, 0) x1
  have c2 := cell_of_row w1 _ 2 _ 26 (0, 0) x1
  have c3 := cell_of_row w1 _ 3 _ 26 (0, 0) x1
  have HN : Hid (∀ w2, Below w1.heap.size w1 w2 → w2.cell? ⟨w.heap.size, 0, none⟩ = some (.slice A a.ids.length c) ∧ w2.cell? ⟨w.heap.size, 1, none⟩ = some (.bool a.root.cell) ∧ w2.cell? ⟨w.heap.size, 2, none⟩ = some (.int .i64 a.root.n)) := Lib.hid fun w2 h2 =>
    ⟨(h2.cell (p := ⟨w.heap.size, 0, none⟩) (Array.getElem?_eq_some_iff.1 x1).1).trans c0, (h2.cell (p := ⟨w.heap.size, 1, none⟩) (Array.getElem?_eq_some_iff.1 x1).1).trans c1, (h2.cell (p := ⟨w.heap.size, 2, none⟩) (Array.getElem?_eq_some_iff.1 x1).1).trans c2⟩
  unfold arV
  unfold bsV at C71
  have HR : Hid (checkRes a = if decide (8 < a.ids.length) || a.ids.any (fun t => decide (5 < t.params.length)) then 5 else if !(okBs a.root) || a.ids.any (fun t => !(okTy t)) then 4 else 0) := Lib.hid rfl
  clear hb hv x1 hpl
  by_cases h8 : 8 < a.ids.length
  · have HR' : Hid (checkRes a = 5) := Lib.hid (by rw [HR.out, decide_eq_true h8]; rfl)
    go_enter Tryz.func20, Tryz.ntmps20
    go_wp2
    go_ret
    exact ⟨by rw [HR'.out]; rfl, HB.out⟩
  · have h8d : decide (8 < a.ids.length) = false := decide_eq_false h8
    rw [h8d] at HR
    clear h8d
    cases ht : (a.ids.any fun x => decide (5 < x.params.length)) with
    | true =>
      rw [ht] at CT HR
      clear ht
      go_enter Tryz.func20, Tryz.ntmps20
      go_wp2_with (go_at_call 67; refine (CT.out _ HB.out).mono ?_; rintro e w2 ⟨rfl, hb2⟩; obtain ⟨n0, n1, n2⟩ := HN.out _ hb2)
      go_ret
      exact ⟨by rw [HR.out]; rfl, HB.out.trans (hb2.mono HB.out.size)⟩
    | false =>
      rw [ht] at CT HR
      clear ht
      cases hk : okBs a.root with
      | false =>
        rw [hk] at C71 HR
        clear hk
        go_enter Tryz.func20, Tryz.ntmps20
        go_wp2_with (first
          | (go_at_call 67; refine (CT.out _ HB.out).mono ?_; rintro e w2 ⟨rfl, hb2⟩; obtain ⟨n0, n1, n2⟩ := HN.out _ hb2)
          | (go_at_call 71; refine (C71.out _).mono ?_; rintro e w3 ⟨rfl, hb3⟩))
        go_ret
        exact ⟨by rw [HR.out]; rfl, HB.out.trans ((hb2.mono HB.out.size).trans (hb3.mono (Nat.le_trans HB.out.size hb2.size)))⟩
      | true =>
        rw [hk] at C71 HR
        clear hk
        go_enter Tryz.func20, Tryz.ntmps20
        go_wp2_with (first
          | (go_at_call 67; first
              | (with_reducible refine (CT.out _ HB.out).mono ?_; rintro e w2 ⟨rfl, hb2⟩; obtain ⟨n0, n1, n2⟩ := HN.out _ hb2)
              | (with_reducible refine (CW.out _ (HB.out.trans ((hb2.mono HB.out.size).trans (hb3.mono (Nat.le_trans HB.out.size hb2.size))))).mono ?_; rintro e w4 ⟨rfl, hb4⟩))
          | (go_at_call 71; refine (C71.out _).mono ?_; rintro e w3 ⟨rfl, hb3⟩; obtain ⟨m0, m1, m2⟩ := HN.out _ (hb2.trans (hb3.mono hb2.size))))
        · have e : (a.ids.any fun x => !okTy x) = true := by assumption
          go_ret
          exact ⟨by rw [HR.out, e]; rfl, HB.out.trans ((hb2.mono HB.out.size).trans ((hb3.mono (Nat.le_trans HB.out.size hb2.size)).trans (hb4.mono (Nat.le_trans HB.out.size (Nat.le_trans hb2.size hb3.size)))))⟩
        · have e : (a.ids.any fun x => !okTy x) = false := by assumption
          go_ret
          exact ⟨by rw [HR.out, e]; rfl, HB.out.trans ((hb2.mono HB.out.size).trans ((hb3.mono (Nat.le_trans HB.out.size hb2.size)).trans (hb4.mono (Nat.le_trans HB.out.size (Nat.le_trans hb2.size hb3.size)))))⟩
end Go.Proofs.YtklfojmflmablaaGreatDoor
