/- Package arena: the walk of Inner. -/
import Derived.Test.YtklfojmflmablaaGreatDoorIn
namespace Go.Proofs.YtklfojmflmablaaGreatDoor
open Go Go.RowKit Go.Shelf

theorem row_only {W W' : World} {n₀ k size B : Nat} {e : TypeId} {v : Value} {xs : List Value} (h : W.ownsRow n₀ e size v k xs) (ho : Only (fun b => b = B) W W') (hB : B < n₀) : W'.ownsRow n₀ e size v k xs := by
  refine ⟨h.1, ?_⟩
  rcases h.2 with hn | ⟨g, cap, cur, e, hb, hg, rest⟩
  · exact .inl hn
  · exact .inr ⟨g, cap, cur, e, hb, (ho.block g (Array.getElem?_eq_some_iff.1 hg).1 (by omega)).trans hg, rest⟩

set_option maxRecDepth 100000 in
set_option maxHeartbeats 1000000 in
theorem inner_err (v : Value) (a : Ar) (id : Int) (w : World) (hl : a.ids.length ≤ 140737488355328) (hpl : ∀ t ∈ a.ids, t.params.length ≤ 140737488355328) (hv : TyIn w w.heap.size v a.ids) (herr : checkRes a ≠ 0 ∨ id < 1 ∨ (a.ids.length : Int) < id) :
    Calls Tryz.prog 37 #[arV v a.root a.jumps, .int .i64 id] w fun e w' => ∃ v', e = .returned (.tuple #[arV v' (innerRes a id).1.root (innerRes a id).1.jumps, .int .i64 (innerRes a id).2]) ∧ TyIn w' w'.heap.size v' (innerRes a id).1.ids ∧ Below w.heap.size w w' := by
  have HV := Lib.hid hv
  obtain ⟨A, c, rfl⟩ := tyIn_slice hv
  obtain ⟨w1, hw1⟩ : ∃ w1, (w.alloc (.cells #[.slice A a.ids.length c, .bool a.root.cell, .int .i64 a.root.n, .bool a.jumps] 26)).alloc (.cells #[.slice none 0 0, .bool false, .int .i64 0, .bool false] 26) = w1 := ⟨_, rfl⟩
  have hb : Below w.heap.size w w1 := by rw [← hw1]; exact ((Below.refl _ w).alloc (Nat.le_refl _) _).alloc (by simp) _
  have x0 : w1.heap[w.heap.size]? = some (.cells #[.slice A a.ids.length c, .bool a.root.cell, .int .i64 a.root.n, .bool a.jumps] 26 (0, 0)) := by rw [← hw1]; exact (Below.heap_alloc _ _ _ (by simp)).trans (World.alloc_heap_new w _)
  have x1 : BoxA w1 (w.heap.size + 1) (.slice none 0 0) ⟨false, 0⟩ false := by
    rw [← hw1]; have := World.alloc_heap_new (w.alloc (.cells #[.slice A a.ids.length c, .bool a.root.cell, .int .i64 a.root.n, .bool a.jumps] 26)) (.cells #[.slice none 0 0, .bool false, .int .i64 0, .bool false] 26); rwa [World.size_alloc] at this
  have HB := Lib.hid hb
  have HX0 := Lib.hid x0
  have HX1 := Lib.hid x1
  have c0 := cell_of_row w1 _ 0 _ 26 (0, 0) x0
  have c1 := cell_of_row w1 _ 1 _ 26 (0, 0) x0
  have c2 := cell_of_row w1 _ 2 _ 26 (0, 0) x0
  have c3 := cell_of_row w1 _ 3 _ 26 (0, 0) x0
  have CC : Hid (Calls Tryz.prog 20 #[arV (.slice A a.ids.length c) a.root a.jumps] w1 fun e w' => e = .returned (.int .i64 (checkRes a)) ∧ Below w1.heap.size w1 w') := Lib.hid (check_any _ a w1 hl hpl (tyIn_later hv hb))
  unfold arV at CC ⊢
  clear hb x0 x1 hv hpl
  by_cases hck : checkRes a = 0
  · rw [hck] at CC
    have hid : id < 1 ∨ (a.ids.length : Int) < id := herr.resolve_left (fun h => h hck)
    have HR : Hid (innerRes a id = (zeroAr, 7)) := Lib.hid (by unfold innerRes; rw [if_neg (by rw [hck]; simp), if_pos hid])
    clear hck herr
    by_cases h1 : id < 1
    · clear hid
      go_enter Tryz.func37, Tryz.ntmps37
      go_wp2_with (go_at_call 20; refine CC.out.mono ?_; rintro e w2 ⟨rfl, hb2⟩; have z1 : BoxA w2 _ _ _ _ := (hb2.block _ HX1.out.lt).trans HX1.out; have z0 := (hb2.block _ (Array.getElem?_eq_some_iff.1 HX0.out).1).trans HX0.out; have c0 := cell_of_row w2 _ 0 _ 26 (0, 0) z0; have c1 := cell_of_row w2 _ 1 _ 26 (0, 0) z0; have c2 := cell_of_row w2 _ 2 _ 26 (0, 0) z0; have c3 := cell_of_row w2 _ 3 _ 26 (0, 0) z0; obtain ⟨y1, y2, y3, y4, e1, e2, e3, e4, s0, f0, s1, f1, s2, f2, s3, f3, z4, o4⟩ := chain26 z1 (.slice none 0 0) ⟨false, 0⟩ false; dsimp only at s1 s2 s3 e1 e2 e3 e4)
      refine bodyPost_ret (results_inner z4 rfl rfl) rfl ?_
      rw [HR.out]
      have hb12 := HB.out.trans (hb2.mono HB.out.size)
      exact ⟨_, rfl, ⟨none, 0, rfl, fun i x hx => by simp [zeroAr] at hx⟩, hb12.trans (o4.below _ hb12.size (fun b hb h => by omega))⟩
    · have h2 : (a.ids.length : Int) < id := hid.resolve_left h1
      clear hid
      go_enter Tryz.func37, Tryz.ntmps37
      go_wp2_with (go_at_call 20; refine CC.out.mono ?_; rintro e w2 ⟨rfl, hb2⟩; have z1 : BoxA w2 _ _ _ _ := (hb2.block _ HX1.out.lt).trans HX1.out; have z0 := (hb2.block _ (Array.getElem?_eq_some_iff.1 HX0.out).1).trans HX0.out; have c0 := cell_of_row w2 _ 0 _ 26 (0, 0) z0; have c1 := cell_of_row w2 _ 1 _ 26 (0, 0) z0; have c2 := cell_of_row w2 _ 2 _ 26 (0, 0) z0; have c3 := cell_of_row w2 _ 3 _ 26 (0, 0) z0; obtain ⟨y1, y2, y3, y4, e1, e2, e3, e4, s0, f0, s1, f1, s2, f2, s3, f3, z4, o4⟩ := chain26 z1 (.slice none 0 0) ⟨false, 0⟩ false; dsimp only at s1 s2 s3 e1 e2 e3 e4)
      refine bodyPost_ret (results_inner z4 rfl rfl) rfl ?_
      rw [HR.out]
      have hb12 := HB.out.trans (hb2.mono HB.out.size)
      exact ⟨_, rfl, ⟨none, 0, rfl, fun i x hx => by simp [zeroAr] at hx⟩, hb12.trans (o4.below _ hb12.size (fun b hb h => by omega))⟩
  · have HR : Hid (innerRes a id = (zeroAr, checkRes a)) := Lib.hid (by unfold innerRes; rw [if_pos hck])
    have hne : (checkRes a != 0) = true := by simpa using hck
    clear hck herr
    go_enter Tryz.func37, Tryz.ntmps37
    go_wp2_with (go_at_call 20; refine CC.out.mono ?_; rintro e w2 ⟨rfl, hb2⟩; have z1 : BoxA w2 _ _ _ _ := (hb2.block _ HX1.out.lt).trans HX1.out; have z0 := (hb2.block _ (Array.getElem?_eq_some_iff.1 HX0.out).1).trans HX0.out; have c0 := cell_of_row w2 _ 0 _ 26 (0, 0) z0; have c1 := cell_of_row w2 _ 1 _ 26 (0, 0) z0; have c2 := cell_of_row w2 _ 2 _ 26 (0, 0) z0; have c3 := cell_of_row w2 _ 3 _ 26 (0, 0) z0; obtain ⟨y1, y2, y3, y4, e1, e2, e3, e4, s0, f0, s1, f1, s2, f2, s3, f3, z4, o4⟩ := chain26 z1 (.slice none 0 0) ⟨false, 0⟩ false; dsimp only at s1 s2 s3 e1 e2 e3 e4)
    refine bodyPost_ret (results_inner z4 rfl rfl) rfl ?_
    rw [HR.out]
    have hb12 := HB.out.trans (hb2.mono HB.out.size)
    exact ⟨_, rfl, ⟨none, 0, rfl, fun i x hx => by simp [zeroAr] at hx⟩, hb12.trans (o4.below _ hb12.size (fun b hb h => by omega))⟩

set_option maxRecDepth 100000 in
set_option maxHeartbeats 2000000 in
theorem inner_ok_true (v : Value) (ids : List Ty) (root : Bs) (i : Nat) (t : Ty) (w : World) (hck : checkRes ⟨ids, root, true⟩ = 0) (ht : ids[i]? = some t) (hv : TyIn w w.heap.size v ids) :
    Calls Tryz.prog 37 #[arV v root true, .int .i64 ((i : Int) + 1)] w fun e w' => ∃ v', e = .returned (.tuple #[arV v' t.result (true || decide (0 < t.params.length)), .int .i64 0]) ∧ TyIn w' w'.heap.size v' (t.params.map fun b => ⟨[], b⟩) ∧ Below w.heap.size w w' := by
  have hs := (check_small hck).1
  have hil : i < ids.length := (List.getElem?_eq_some_iff.1 ht).1
  have hpl5 : t.params.length ≤ 5 := hs.2 t (List.mem_of_getElem? ht)
  have hl8 : ids.length ≤ 8 := hs.1
  have HV := Lib.hid hv
  obtain ⟨A, c, rfl⟩ := tyIn_slice hv
  obtain ⟨w1, hw1⟩ : ∃ w1, (w.alloc (.cells #[.slice A ids.length c, .bool root.cell, .int .i64 root.n, .bool true] 26)).alloc (.cells #[.slice none 0 0, .bool false, .int .i64 0, .bool false] 26) = w1 := ⟨_, rfl⟩
  have hb : Below w.heap.size w w1 := by rw [← hw1]; exact ((Below.refl _ w).alloc (Nat.le_refl _) _).alloc (by simp) _
  have x0 : w1.heap[w.heap.size]? = some (.cells #[.slice A ids.length c, .bool root.cell, .int .i64 root.n, .bool true] 26 (0, 0)) := by rw [← hw1]; exact (Below.heap_alloc _ _ _ (by simp)).trans (World.alloc_heap_new w _)
  have x1 : BoxA w1 (w.heap.size + 1) (.slice none 0 0) ⟨false, 0⟩ false := by
    rw [← hw1]; have := World.alloc_heap_new (w.alloc (.cells #[.slice A ids.length c, .bool root.cell, .int .i64 root.n, .bool true] 26)) (.cells #[.slice none 0 0, .bool false, .int .i64 0, .bool false] 26); rwa [World.size_alloc] at this
  have HB := Lib.hid hb
  have HX0 := Lib.hid x0
  have HX1 := Lib.hid x1
  have c0 := cell_of_row w1 _ 0 _ 26 (0, 0) x0
  have c1 := cell_of_row w1 _ 1 _ 26 (0, 0) x0
  have c2 := cell_of_row w1 _ 2 _ 26 (0, 0) x0
  have c3 := cell_of_row w1 _ 3 _ 26 (0, 0) x0
  have CC : Hid (Calls Tryz.prog 20 #[arV (.slice A ids.length c) root true] w1 fun e w' => e = .returned (.int .i64 0) ∧ Below w1.heap.size w1 w') := Lib.hid (by
    have := check_any (.slice A ids.length c) ⟨ids, root, true⟩ w1 (by dsimp only; omega) (fun t ht => by have := hs.2 t ht; omega) (tyIn_later hv hb)
    rw [hck] at this
    exact this)
  obtain ⟨A', c', e', hA⟩ := hv
  injection e' with e1 _ e2
  subst e1 e2
  obtain ⟨b, off, pv, rfl, hbn, hbs, d0, d1, d2⟩ := hA i t ht
  obtain ⟨A2, cap2, rfl⟩ := bsIn_slice hbs
  have HBS := Lib.hid hbs
  have HD : Hid (∀ w2, Below w.heap.size w w2 → w2.cell? ⟨b, off + i * 3, none⟩ = some (.slice A2 t.params.length cap2) ∧ w2.cell? ⟨b, off + i * 3 + 1, none⟩ = some (.bool t.result.cell) ∧ w2.cell? ⟨b, off + i * 3 + 2, none⟩ = some (.int .i64 t.result.n)) := Lib.hid fun w2 h2 =>
    ⟨(h2.cell (p := ⟨b, _, none⟩) hbn).trans d0, (h2.cell (p := ⟨b, _, none⟩) hbn).trans d1, (h2.cell (p := ⟨b, _, none⟩) hbn).trans d2⟩
  have CE : Hid (∀ W B, Below w.heap.size w W → B < W.heap.size → Boxed W B 62 (.slice A2 t.params.length cap2) → Calls Tryz.prog 102 #[.func (.func 167) #[] #[.pointer (some ⟨B, 0, none⟩)], .func (.func 101) #[] #[]] W fun e w' => ∃ A4 c4, e = .returned (.slice A4 t.params.length c4) ∧ Below W.heap.size W w' ∧ w'.ownsRow W.heap.size 64 3 (.slice A4 t.params.length c4) t.params.length (t.params.flatMap tyOfCells)) := Lib.hid fun W B hW hB hbx => by
    have hbs' : BsIn W W.heap.size (.slice A2 t.params.length cap2) t.params := (HBS.out.below hW.block).more hW.size
    refine (eachTy_any 101 B t.params _ W (enters_of Tryz.func101 (by kernel_rfl) rfl) hB hbx (bsRow hbs') (by omega) (fun W x => inner1_any x W)).mono ?_
    rintro e w' ⟨v', rfl, hb', hr⟩
    obtain ⟨A4, c4, rfl⟩ : ∃ A4 c4, v' = .slice A4 t.params.length c4 := by
      rcases hr.2 with ⟨rfl, h0⟩ | ⟨g, cap, cur, rfl, _⟩
      · exact ⟨none, 0, by rw [h0]⟩
      · exact ⟨_, _, rfl⟩
    exact ⟨A4, c4, rfl, hb', hr⟩
  unfold arV at CC ⊢
  have hi1 : ¬ ((i : Int) + 1 < 1) := by omega
  have hi2 : ¬ ((ids.length : Int) < (i : Int) + 1) := by omega
  have hi3 : (i : Int) < (ids.length : Int) := by omega
  clear hb x0 x1 hs d0 d1 d2 hA hbs ht hck
  go_enter Tryz.func37, Tryz.ntmps37
  go_wp2_with (first
    | (go_at_call 20; refine CC.out.mono ?_; rintro e w2 ⟨rfl, hb2⟩; have z0 := (hb2.block _ (Array.getElem?_eq_some_iff.1 HX0.out).1).trans HX0.out; have c0 := cell_of_row w2 _ 0 _ 26 (0, 0) z0; have c1 := cell_of_row w2 _ 1 _ 26 (0, 0) z0; have c2 := cell_of_row w2 _ 2 _ 26 (0, 0) z0; have c3 := cell_of_row w2 _ 3 _ 26 (0, 0) z0; obtain ⟨d0, d1, d2⟩ := HD.out _ (HB.out.trans (hb2.mono HB.out.size)))
    | (go_at_call 103; refine (valuesBs_any _ _ _ _).mono ?_; rintro e w3 ⟨rfl, rfl⟩)
    | (go_at_call 102; refine (CE.out _ _ (((HB.out.trans (hb2.mono HB.out.size)).alloc (Nat.le_trans HB.out.size hb2.size) _).alloc (by have := HB.out.size; have := hb2.size; simp; omega) _) (by simp) (by have := Boxed.new (w2.alloc (.cells #[.slice A2 t.params.length cap2, .bool t.result.cell, .int .i64 t.result.n] 64)) 62 (.slice A2 t.params.length cap2); rwa [World.size_alloc] at this)).mono ?_; rintro e w5 ⟨A4, c4, rfl, hb5', hrow⟩; have hb5 : Below w2.heap.size w2 w5 := (((Below.refl _ w2).alloc (Nat.le_refl _) _).alloc (by simp) _).trans (hb5'.mono (by simp; omega)); have q0 : w5.heap[w2.heap.size]? = some (.cells #[.slice A2 t.params.length cap2, .bool t.result.cell, .int .i64 t.result.n] 64 (0, 0)) := (hb5'.block _ (by simp; omega)).trans ((Below.heap_alloc _ _ _ (by simp)).trans (World.alloc_heap_new w2 _)); have r0 := cell_of_row w5 _ 0 _ 64 (0, 0) q0; have r1 := cell_of_row w5 _ 1 _ 64 (0, 0) q0; have r2 := cell_of_row w5 _ 2 _ 64 (0, 0) q0; have z0' := (hb5.block _ (Array.getElem?_eq_some_iff.1 z0).1).trans z0; have c3 := cell_of_row w5 _ 3 _ 26 (0, 0) z0'; have z1 : BoxA w2 _ _ _ _ := (hb2.block _ HX1.out.lt).trans HX1.out; have z5 : BoxA w5 _ _ _ _ := (hb5.block _ z1.lt).trans z1; obtain ⟨y1, y2, y3, y4, e1, e2, e3, e4, s0, f0, s1, f1, s2, f2, s3, f3, z4, o4⟩ := chain26 z5 (.slice A4 t.params.length c4) t.result true; dsimp only at s1 s2 s3 e1 e2 e3 e4))
  all_goals first | exact absurd (by assumption) hi1 | exact absurd (by assumption) hi2 | skip
  all_goals (
    refine bodyPost_ret (results_inner z4 rfl rfl) rfl ?_
    have hb12 := HB.out.trans (hb2.mono HB.out.size)
    have hb15 := hb12.trans (hb5.mono hb12.size)
    refine ⟨_, rfl, tyIn_of_row (row_only hrow o4 (by have := HX1.out.lt; have := hb2.size; simp; omega)), hb15.trans (o4.below _ hb15.size (fun b hb h => by omega))⟩)

set_option maxRecDepth 100000 in
set_option maxHeartbeats 2000000 in
theorem inner_ok_false (v : Value) (ids : List Ty) (root : Bs) (i : Nat) (t : Ty) (w : World) (hck : checkRes ⟨ids, root, false⟩ = 0) (ht : ids[i]? = some t) (hv : TyIn w w.heap.size v ids) :
    Calls Tryz.prog 37 #[arV v root false, .int .i64 ((i : Int) + 1)] w fun e w' => ∃ v', e = .returned (.tuple #[arV v' t.result (false || decide (0 < t.params.length)), .int .i64 0]) ∧ TyIn w' w'.heap.size v' (t.params.map fun b => ⟨[], b⟩) ∧ Below w.heap.size w w' := by
  have hs := (check_small hck).1
  have hil : i < ids.length := (List.getElem?_eq_some_iff.1 ht).1
  have hpl5 : t.params.length ≤ 5 := hs.2 t (List.mem_of_getElem? ht)
  have hl8 : ids.length ≤ 8 := hs.1
  have HV := Lib.hid hv
  obtain ⟨A, c, rfl⟩ := tyIn_slice hv
  obtain ⟨w1, hw1⟩ : ∃ w1, (w.alloc (.cells #[.slice A ids.length c, .bool root.cell, .int .i64 root.n, .bool false] 26)).alloc (.cells #[.slice none 0 0, .bool false, .int .i64 0, .bool false] 26) = w1 := ⟨_, rfl⟩
  have hb : Below w.heap.size w w1 := by rw [← hw1]; exact ((Below.refl _ w).alloc (Nat.le_refl _) _).alloc (by simp) _
  have x0 : w1.heap[w.heap.size]? = some (.cells #[.slice A ids.length c, .bool root.cell, .int .i64 root.n, .bool false] 26 (0, 0)) := by rw [← hw1]; exact (Below.heap_alloc _ _ _ (by simp)).trans (World.alloc_heap_new w _)
  have x1 : BoxA w1 (w.heap.size + 1) (.slice none 0 0) ⟨false, 0⟩ false := by
    rw [← hw1]; have := World.alloc_heap_new (w.alloc (.cells #[.slice A ids.length c, .bool root.cell, .int .i64 root.n, .bool false] 26)) (.cells #[.slice none 0 0, .bool false, .int .i64 0, .bool false] 26); rwa [World.size_alloc] at this
  have HB := Lib.hid hb
  have HX0 := Lib.hid x0
  have HX1 := Lib.hid x1
  have c0 := cell_of_row w1 _ 0 _ 26 (0, 0) x0
  have c1 := cell_of_row w1 _ 1 _ 26 (0, 0) x0
  have c2 := cell_of_row w1 _ 2 _ 26 (0, 0) x0
  have c3 := cell_of_row w1 _ 3 _ 26 (0, 0) x0
  have CC : Hid (Calls Tryz.prog 20 #[arV (.slice A ids.length c) root false] w1 fun e w' => e = .returned (.int .i64 0) ∧ Below w1.heap.size w1 w') := Lib.hid (by
    have := check_any (.slice A ids.length c) ⟨ids, root, false⟩ w1 (by dsimp only; omega) (fun t ht => by have := hs.2 t ht; omega) (tyIn_later hv hb)
    rw [hck] at this
    exact this)
  obtain ⟨A', c', e', hA⟩ := hv
  injection e' with e1 _ e2
  subst e1 e2
  obtain ⟨b, off, pv, rfl, hbn, hbs, d0, d1, d2⟩ := hA i t ht
  obtain ⟨A2, cap2, rfl⟩ := bsIn_slice hbs
  have HBS := Lib.hid hbs
  have HD : Hid (∀ w2, Below w.heap.size w w2 → w2.cell? ⟨b, off + i * 3, none⟩ = some (.slice A2 t.params.length cap2) ∧ w2.cell? ⟨b, off + i * 3 + 1, none⟩ = some (.bool t.result.cell) ∧ w2.cell? ⟨b, off + i * 3 + 2, none⟩ = some (.int .i64 t.result.n)) := Lib.hid fun w2 h2 =>
    ⟨(h2.cell (p := ⟨b, _, none⟩) hbn).trans d0, (h2.cell (p := ⟨b, _, none⟩) hbn).trans d1, (h2.cell (p := ⟨b, _, none⟩) hbn).trans d2⟩
  have CE : Hid (∀ W B, Below w.heap.size w W → B < W.heap.size → Boxed W B 62 (.slice A2 t.params.length cap2) → Calls Tryz.prog 102 #[.func (.func 167) #[] #[.pointer (some ⟨B, 0, none⟩)], .func (.func 101) #[] #[]] W fun e w' => ∃ A4 c4, e = .returned (.slice A4 t.params.length c4) ∧ Below W.heap.size W w' ∧ w'.ownsRow W.heap.size 64 3 (.slice A4 t.params.length c4) t.params.length (t.params.flatMap tyOfCells)) := Lib.hid fun W B hW hB hbx => by
    have hbs' : BsIn W W.heap.size (.slice A2 t.params.length cap2) t.params := (HBS.out.below hW.block).more hW.size
    refine (eachTy_any 101 B t.params _ W (enters_of Tryz.func101 (by kernel_rfl) rfl) hB hbx (bsRow hbs') (by omega) (fun W x => inner1_any x W)).mono ?_
    rintro e w' ⟨v', rfl, hb', hr⟩
    obtain ⟨A4, c4, rfl⟩ : ∃ A4 c4, v' = .slice A4 t.params.length c4 := by
      rcases hr.2 with ⟨rfl, h0⟩ | ⟨g, cap, cur, rfl, _⟩
      · exact ⟨none, 0, by rw [h0]⟩
      · exact ⟨_, _, rfl⟩
    exact ⟨A4, c4, rfl, hb', hr⟩
  unfold arV at CC ⊢
  have hi1 : ¬ ((i : Int) + 1 < 1) := by omega
  have hi2 : ¬ ((ids.length : Int) < (i : Int) + 1) := by omega
  have hi3 : (i : Int) < (ids.length : Int) := by omega
  clear hb x0 x1 hs d0 d1 d2 hA hbs ht hck
  go_enter Tryz.func37, Tryz.ntmps37
  go_wp2_with (first
    | (go_at_call 20; refine CC.out.mono ?_; rintro e w2 ⟨rfl, hb2⟩; have z0 := (hb2.block _ (Array.getElem?_eq_some_iff.1 HX0.out).1).trans HX0.out; have c0 := cell_of_row w2 _ 0 _ 26 (0, 0) z0; have c1 := cell_of_row w2 _ 1 _ 26 (0, 0) z0; have c2 := cell_of_row w2 _ 2 _ 26 (0, 0) z0; have c3 := cell_of_row w2 _ 3 _ 26 (0, 0) z0; obtain ⟨d0, d1, d2⟩ := HD.out _ (HB.out.trans (hb2.mono HB.out.size)))
    | (go_at_call 103; refine (valuesBs_any _ _ _ _).mono ?_; rintro e w3 ⟨rfl, rfl⟩)
    | (go_at_call 102; refine (CE.out _ _ (((HB.out.trans (hb2.mono HB.out.size)).alloc (Nat.le_trans HB.out.size hb2.size) _).alloc (by have := HB.out.size; have := hb2.size; simp; omega) _) (by simp) (by have := Boxed.new (w2.alloc (.cells #[.slice A2 t.params.length cap2, .bool t.result.cell, .int .i64 t.result.n] 64)) 62 (.slice A2 t.params.length cap2); rwa [World.size_alloc] at this)).mono ?_; rintro e w5 ⟨A4, c4, rfl, hb5', hrow⟩; have hb5 : Below w2.heap.size w2 w5 := (((Below.refl _ w2).alloc (Nat.le_refl _) _).alloc (by simp) _).trans (hb5'.mono (by simp; omega)); have q0 : w5.heap[w2.heap.size]? = some (.cells #[.slice A2 t.params.length cap2, .bool t.result.cell, .int .i64 t.result.n] 64 (0, 0)) := (hb5'.block _ (by simp; omega)).trans ((Below.heap_alloc _ _ _ (by simp)).trans (World.alloc_heap_new w2 _)); have r0 := cell_of_row w5 _ 0 _ 64 (0, 0) q0; have r1 := cell_of_row w5 _ 1 _ 64 (0, 0) q0; have r2 := cell_of_row w5 _ 2 _ 64 (0, 0) q0; have z0' := (hb5.block _ (Array.getElem?_eq_some_iff.1 z0).1).trans z0; have c3 := cell_of_row w5 _ 3 _ 26 (0, 0) z0'; have z1 : BoxA w2 _ _ _ _ := (hb2.block _ HX1.out.lt).trans HX1.out; have z5 : BoxA w5 _ _ _ _ := (hb5.block _ z1.lt).trans z1; obtain ⟨y1, y2, y3, y4, e1, e2, e3, e4, s0, f0, s1, f1, s2, f2, s3, f3, z4, o4⟩ := chain26 z5 (.slice A4 t.params.length c4) t.result (decide (0 < t.params.length)); dsimp only at s1 s2 s3 e1 e2 e3 e4))
  all_goals first | exact absurd (by assumption) hi1 | exact absurd (by assumption) hi2 | skip
  all_goals (
    refine bodyPost_ret (results_inner z4 rfl rfl) rfl ?_
    have hb12 := HB.out.trans (hb2.mono HB.out.size)
    have hb15 := hb12.trans (hb5.mono hb12.size)
    refine ⟨_, rfl, tyIn_of_row (row_only hrow o4 (by have := HX1.out.lt; have := hb2.size; simp; omega)), hb15.trans (o4.below _ hb15.size (fun b hb h => by omega))⟩)

theorem inner_any (v : Value) (a : Ar) (id : Int) (w : World) (hl : a.ids.length ≤ 140737488355328) (hpl : ∀ t ∈ a.ids, t.params.length ≤ 140737488355328) (hv : TyIn w w.heap.size v a.ids) :
    Calls Tryz.prog 37 #[arV v a.root a.jumps, .int .i64 id] w fun e w' => ∃ v', e = .returned (.tuple #[arV v' (innerRes a id).1.root (innerRes a id).1.jumps, .int .i64 (innerRes a id).2]) ∧ TyIn w' w'.heap.size v' (innerRes a id).1.ids ∧ Below w.heap.size w w' := by
  by_cases herr : checkRes a ≠ 0 ∨ id < 1 ∨ (a.ids.length : Int) < id
  · exact inner_err v a id w hl hpl hv herr
  · have hc : checkRes a = 0 := Classical.not_not.1 fun h => herr (.inl h)
    have h1 : ¬ (id < 1 ∨ (a.ids.length : Int) < id) := fun h => herr (.inr h)
    obtain ⟨i, rfl⟩ : ∃ i : Nat, id = (i : Int) + 1 := ⟨(id - 1).toNat, by omega⟩
    have hi : i < a.ids.length := by omega
    have ht : a.ids[((i : Int) + 1).toNat - 1]? = some a.ids[i] := by rw [show ((i : Int) + 1).toNat - 1 = i by omega]; exact List.getElem?_eq_getElem hi
    have e : innerRes a ((i : Int) + 1) = (⟨(a.ids[i]).params.map fun b => ⟨[], b⟩, (a.ids[i]).result, a.jumps || decide (0 < (a.ids[i]).params.length)⟩, 0) := by
      unfold innerRes
      rw [if_neg (by rw [hc]; simp), if_neg h1, ht]
    rw [e]
    obtain ⟨ids, root, ju⟩ := a
    cases ju
    · exact inner_ok_false v ids root i _ w hc (List.getElem?_eq_getElem hi) hv
    · exact inner_ok_true v ids root i _ w hc (List.getElem?_eq_getElem hi) hv
end Go.Proofs.YtklfojmflmablaaGreatDoor
