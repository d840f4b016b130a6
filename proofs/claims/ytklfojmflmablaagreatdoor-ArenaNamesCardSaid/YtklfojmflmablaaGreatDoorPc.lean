/- Package arena: Place. -/
import Derived.Test.YtklfojmflmablaaGreatDoorGk
import Derived.Test.YtklfojmflmablaaGreatDoorTo
namespace Go.Proofs.YtklfojmflmablaaGreatDoor
open Go Go.RowKit Go.Shelf

theorem results_arPlace {tmps : Array Value} {W : World} {B : Nat} {b : Bs} {e : Int} (h : BoxB W B b) (t6 : tmps[6]?.getD undef = .pointer (some ⟨B, 0, none⟩)) (t7 : tmps[7]?.getD undef = .int .i64 e) :
    (results Tryz.f36 tmps).run Tryz.prog W = .ok (.tuple #[bsV b, .int .i64 e]) W := by
  have c0 := cell_of_row W B 0 _ 24 (0, 0) h
  have c1 := cell_of_row W B 1 _ 24 (0, 0) h
  simp at c0 c1
  simp [results, Tryz.results36, t6, t7, go_sem, loadVar, c0, c1, bsV]

theorem found_none {a : Ar} {id arg : Int} {fp : Pl} (hc : checkRes a = 0) (h : findRes (places a) (atB id arg) = (fp, false)) : foundRes a id arg = (zeroBs, 7) := by
  have hp : placeOf a id arg = none := by
    have := plAt_eq a id arg
    unfold plAt at this
    unfold findRes at h
    cases hf : (places a).find? (atB id arg) with
    | none => rw [hf] at this; simpa using this.symm
    | some p => rw [hf] at h; simp at h
  unfold foundRes
  rw [if_neg (by rw [hc]; simp), hp]
theorem found_some {a : Ar} {id arg : Int} {fp : Pl} (hc : checkRes a = 0) (h : findRes (places a) (atB id arg) = (fp, true)) : foundRes a id arg = (fp.b, 0) := by
  have hp : placeOf a id arg = some fp.b := by
    have := plAt_eq a id arg
    unfold plAt at this
    unfold findRes at h
    cases hf : (places a).find? (atB id arg) with
    | none => rw [hf] at h; simp at h
    | some p =>
      rw [hf] at h this
      simp only [Prod.mk.injEq, and_true] at h
      subst h
      cases hq : placeOf a id arg with
      | none => rw [hq] at this; cases this
      | some b => rw [hq] at this; simp only [Option.map_some, Option.some.injEq] at this; rw [this]
  unfold foundRes
  rw [if_neg (by rw [hc]; simp), hp]

set_option maxRecDepth 100000 in
set_option maxHeartbeats 2000000 in
theorem place_any (v : Value) (a : Ar) (id arg : Int) (w : World) (hl : a.ids.length ≤ 140737488355328) (hpl : ∀ t ∈ a.ids, t.params.length ≤ 140737488355328) (hv : TyIn w w.heap.size v a.ids) :
    Calls Tryz.prog 36 #[arV v a.root a.jumps, .int .i64 id, .int .i64 arg] w fun e w' => e = .returned (.tuple #[bsV (foundRes a id arg).1, .int .i64 (foundRes a id arg).2]) ∧ Below w.heap.size w w' := by
  have CC : Hid (∀ W, Below w.heap.size w W → Calls Tryz.prog 20 #[arV v a.root a.jumps] W fun e w' => e = .returned (.int .i64 (checkRes a)) ∧ Below W.heap.size W w') :=
    Lib.hid fun W hW => check_any v a W hl hpl ((hv.below hW.block).more hW.size)
  have HV := Lib.hid hv
  obtain ⟨A, c, rfl⟩ := tyIn_slice hv
  obtain ⟨w1, hw1⟩ : ∃ w1, (w.alloc (.cells #[.slice A a.ids.length c, .bool a.root.cell, .int .i64 a.root.n, .bool a.jumps] 26)).alloc (.cells #[.bool false, .int .i64 0] 24) = w1 := ⟨_, rfl⟩
  have hb : Below w.heap.size w w1 := by rw [← hw1]; exact ((Below.refl _ w).alloc (Nat.le_refl _) _).alloc (by simp) _
  have x0 : BoxA w1 w.heap.size (.slice A a.ids.length c) a.root a.jumps := by rw [← hw1]; exact (Below.heap_alloc _ _ _ (by simp)).trans (World.alloc_heap_new w _)
  have x1 : BoxB w1 (w.heap.size + 1) zeroBs := by
    rw [← hw1]
    have := World.alloc_heap_new (w.alloc (.cells #[.slice A a.ids.length c, .bool a.root.cell, .int .i64 a.root.n, .bool a.jumps] 26)) (.cells #[.bool false, .int .i64 0] 24); rwa [World.size_alloc] at this
  have HB := Lib.hid hb
  have HX0 := Lib.hid x0
  have HX1 := Lib.hid x1
  have c0 := cell_of_row w1 _ 0 _ 26 (0, 0) x0
  have c1 := cell_of_row w1 _ 1 _ 26 (0, 0) x0
  have c2 := cell_of_row w1 _ 2 _ 26 (0, 0) x0
  have c3 := cell_of_row w1 _ 3 _ 26 (0, 0) x0
  unfold arV at CC ⊢
  clear hb x0 x1 hv hpl
  by_cases hck : checkRes a = 0
  · rw [hck] at CC
    have HC := Lib.hid hck
    have hne : ((0 : Int) != 0) = false := rfl
    clear hck
    go_enter Tryz.func36, Tryz.ntmps36
    go_wp2_with (go_at_call 20; refine (CC.out _ HB.out).mono ?_; rintro e w2 ⟨rfl, hb2⟩; have z0 : BoxA w2 _ _ _ _ := (hb2.block _ HX0.out.lt).trans HX0.out; have z1 : BoxB w2 _ _ := (hb2.block _ HX1.out.lt).trans HX1.out; have HZ0 := Lib.hid z0; have HZ1 := Lib.hid z1; have HB2 := Lib.hid (HB.out.trans (hb2.mono HB.out.size)); have q0 := cell_of_row w2 _ 0 _ 26 (0, 0) z0; have q1 := cell_of_row w2 _ 1 _ 26 (0, 0) z0; have q2 := cell_of_row w2 _ 2 _ 26 (0, 0) z0; have q3 := cell_of_row w2 _ 3 _ 26 (0, 0) z0; clear z0 z1 hb2 c0 c1 c2 c3)
    have HLT : Hid (w.heap.size + 1 < w2.heap.size) := Lib.hid HZ1.out.lt
    have HS := Lib.hid (check_small HC.out).1
    have C88 : Hid (∀ W, Calls Tryz.prog 88 #[.int .i64 id, .int .i64 arg] W fun e w' => ∃ B C, e = .returned (.func (.func 161) #[] #[.pointer (some ⟨B, 0, none⟩), .pointer (some ⟨C, 0, none⟩)]) ∧ Boxed w' B 3 (.int .i64 id) ∧ Boxed w' C 3 (.int .i64 arg) ∧ Below W.heap.size W w') := Lib.hid fun W => by
      refine (at_any id arg W).mono ?_
      rintro e w' ⟨rfl, rfl⟩
      exact ⟨_, _, rfl, (Boxed.new W 3 _).alloc _, by have := Boxed.new (W.alloc (.cells #[.int .i64 id] 3)) 3 (.int .i64 arg); rwa [World.size_alloc] at this, ((Below.refl _ W).alloc (Nat.le_refl _) _).alloc (by simp) _⟩
    have C100 : Hid (∀ B C W, Boxed W B 3 (.int .i64 id) → Boxed W C 3 (.int .i64 arg) → Below w2.heap.size w2 W → Calls Tryz.prog 100 #[.agg #[.slice A a.ids.length c, .bool a.root.cell, .int .i64 a.root.n, .bool a.jumps], .func (.func 161) #[] #[.pointer (some ⟨B, 0, none⟩), .pointer (some ⟨C, 0, none⟩)]] W fun e w' =>
        e = .returned (.tuple #[plV (findRes (places a) (atB id arg)).1, .bool (findRes (places a) (atB id arg)).2]) ∧ Below W.heap.size W w') := Lib.hid fun B C W hB hC hW => by
      have hwW : Below w.heap.size w W := HB2.out.trans (hW.mono HB2.out.size)
      exact find_any (.slice A a.ids.length c) a _ _ W HS.out (tyIn_later HV.out hwW) ⟨161, _, rfl, enters_of Tryz.func161 (by kernel_rfl) rfl, fun W' hW' p =>
        at1_any p _ _ _ _ W' (cell_of_row W' _ 0 _ 3 (0, 0) ((hW' _ hB.lt).trans hB)) (cell_of_row W' _ 0 _ 3 (0, 0) ((hW' _ hC.lt).trans hC))⟩
    obtain ⟨⟨fp, fb⟩, hF⟩ : ∃ F, findRes (places a) (atB id arg) = F := ⟨_, rfl⟩
    rw [hF] at C100
    have HF := Lib.hid hF
    unfold plV at C100
    dsimp only at C100
    clear hF
    go_region_held3 (fun W => W.cell? ⟨w.heap.size, 0, none⟩ = some (.slice A a.ids.length c) ∧ W.cell? ⟨w.heap.size, 1, none⟩ = some (.bool a.root.cell) ∧ W.cell? ⟨w.heap.size, 2, none⟩ = some (.int .i64 a.root.n) ∧ W.cell? ⟨w.heap.size, 3, none⟩ = some (.bool a.jumps))
      (first
        | go_keep
        | (go_split_ands
           refine ⟨?_, ?_, ?_, ?_⟩ <;> (repeat' (first
             | assumption
             | refine cell_alloc_some _ ?_
             | refine cell_set_some _ (by have h1 := HLT.out; have h3 := hb4.size; dsimp only; simp at h3 ⊢; omega) ?_
             | refine (ho6.cell (by have h1 := HLT.out; have h3 := hb4.size; have h4 := hb5.size; simp at h3 h4 ⊢; omega) (by have h1 := HLT.out; have h3 := hb4.size; simp at h3 ⊢; omega)).trans ?_
             | refine (hb5.cell (by have h1 := HLT.out; have h3 := hb4.size; simp at h3 ⊢; omega)).trans ?_
             | refine (hb4.cell (by have h1 := HLT.out; simp; omega)).trans ?_)))
        | (trace_state; fail))
      (first
      | (go_at_call 88; refine (C88.out _).mono ?_; rintro e w4 ⟨B, C, rfl, hB4, hC4, hb4⟩)
      | (go_at_call 100; first | (refine (C100.out _ _ _ hB4 hC4 (((Below.refl _ w2).drew).trans hb4)).mono ?_; rintro e w5 ⟨rfl, hb5⟩) | (refine (C100.out _ _ _ (hB4.alloc _) (hC4.alloc _) ((((Below.refl _ w2).drew).trans hb4).alloc hb4.size _)).mono ?_; rintro e w5 ⟨rfl, hb5⟩; have z5 : BoxP w5 w4.heap.size zeroPl := (hb5.block _ (by simp)).trans (BoxP.new w4 zeroPl); obtain ⟨x1, x2, x3, x4, w6, e1, e2, e3, e4, e5, ⟨o0, s0⟩, f0, ⟨o1, s1⟩, f1, ⟨o2, s2⟩, f2, ⟨o3, s3⟩, f3, ⟨o4, s4⟩, f4, z6, ho6⟩ := chain111 z5 fp) | (refine (C100.out _ _ _ hB4 hC4 ((((Below.refl _ w2).drew).alloc (Nat.le_refl _) _).trans (hb4.mono (by simp)))).mono ?_; rintro e w5 ⟨rfl, hb5⟩; have z5 : BoxP w5 w2.heap.size zeroPl := (hb5.block _ (by have := hb4.size; simp at this; omega)).trans ((hb4.block _ (by simp)).trans (BoxP.new w2.drew zeroPl)); obtain ⟨x1, x2, x3, x4, w6, e1, e2, e3, e4, e5, ⟨o0, s0⟩, f0, ⟨o1, s1⟩, f1, ⟨o2, s2⟩, f2, ⟨o3, s3⟩, f3, ⟨o4, s4⟩, f4, z6, ho6⟩ := chain111 z5 fp)))
    · obtain ⟨W9, hW9⟩ : ∃ W9, w5.alloc (.cells #[.bool fp.b.cell, .int .i64 fp.b.n, .int .i64 fp.id, .int .i64 fp.arg, .bool fp.jumps] 111) = W9 := ⟨_, rfl⟩
      rw [hW9]
      have hb35 : Below w2.heap.size w2 w5 := (((Below.refl _ w2).drew).trans hb4).trans (hb5.mono hb4.size)
      have hb39 : Below w2.heap.size w2 W9 := by rw [← hW9]; exact hb35.alloc hb35.size _
      have z9 : BoxP W9 w5.heap.size fp := by rw [← hW9]; exact BoxP.new w5 fp
      have y9 : BoxB W9 (w.heap.size + 1) zeroBs := (hb39.block _ HLT.out).trans HZ1.out
      have HB9 := Lib.hid (HB2.out.trans (hb39.mono HB2.out.size))
      clear hb4 hb5 hb35 hb39 hB4 hC4 q0 q1 q2 q3
      have p0 := z9.c0
      have p1 := z9.c1
      cases fb with
      | false =>
        have HR := Lib.hid (found_none HC.out HF.out)
        obtain ⟨y1, y2, e1, e2, s0, f0, s1, f1, hy, ho⟩ := chain24 y9 zeroBs
        unfold zeroBs at e1 e2
        dsimp only at e1 e2
        have HY := Lib.hid hy
        have HO := Lib.hid ho
        clear z9 y9 hy ho
        go_wp2
        refine bodyPost_ret (results_arPlace HY.out rfl rfl) rfl ?_
        rw [HR.out]
        exact ⟨rfl, HB9.out.trans (HO.out.below _ HB9.out.size (fun b hb h => by omega))⟩
      | true =>
        have HR := Lib.hid (found_some HC.out HF.out)
        obtain ⟨y1, y2, e1, e2, s0, f0, s1, f1, hy, ho⟩ := chain24 y9 fp.b
        have HY := Lib.hid hy
        have HO := Lib.hid ho
        clear z9 y9 hy ho
        go_wp2
        refine bodyPost_ret (results_arPlace HY.out rfl rfl) rfl ?_
        rw [HR.out]
        exact ⟨rfl, HB9.out.trans (HO.out.below _ HB9.out.size (fun b hb h => by omega))⟩
    · obtain ⟨W9, hW9⟩ : ∃ W9, w6 = W9 := ⟨_, rfl⟩
      rw [hW9] at z6 ho6 ⊢
      have hb34 : Below w2.heap.size w2 w4 := ((Below.refl _ w2).drew).trans hb4
      have hb35 : Below w2.heap.size w2 w5 := (hb34.alloc hb34.size _).trans (hb5.mono (by simp; have := hb34.size; omega))
      have hb39 : Below w2.heap.size w2 W9 := hb35.trans (ho6.below _ hb35.size (fun b hb h => by have := hb34.size; omega))
      have z9 : BoxP W9 w4.heap.size fp := z6
      have y9 : BoxB W9 (w.heap.size + 1) zeroBs := (hb39.block _ HLT.out).trans HZ1.out
      have HB9 := Lib.hid (HB2.out.trans (hb39.mono HB2.out.size))
      clear hb4 hb5 hb34 hb35 hb39 hB4 hC4 q0 q1 q2 q3 s0 s1 s2 s3 s4 f0 f1 f2 f3 f4 e1 e2 e3 e4 e5 z6 ho6
      have p0 := z9.c0
      have p1 := z9.c1
      cases fb with
      | false =>
        have HR := Lib.hid (found_none HC.out HF.out)
        obtain ⟨y1, y2, e1, e2, s0, f0, s1, f1, hy, ho⟩ := chain24 y9 zeroBs
        unfold zeroBs at e1 e2
        dsimp only at e1 e2
        have HY := Lib.hid hy
        have HO := Lib.hid ho
        clear z9 y9 hy ho
        go_wp2
        refine bodyPost_ret (results_arPlace HY.out rfl rfl) rfl ?_
        rw [HR.out]
        exact ⟨rfl, HB9.out.trans (HO.out.below _ HB9.out.size (fun b hb h => by omega))⟩
      | true =>
        have HR := Lib.hid (found_some HC.out HF.out)
        obtain ⟨y1, y2, e1, e2, s0, f0, s1, f1, hy, ho⟩ := chain24 y9 fp.b
        have HY := Lib.hid hy
        have HO := Lib.hid ho
        clear z9 y9 hy ho
        go_wp2
        refine bodyPost_ret (results_arPlace HY.out rfl rfl) rfl ?_
        rw [HR.out]
        exact ⟨rfl, HB9.out.trans (HO.out.below _ HB9.out.size (fun b hb h => by omega))⟩
    · obtain ⟨W9, hW9⟩ : ∃ W9, w6 = W9 := ⟨_, rfl⟩
      rw [hW9] at z6 ho6 ⊢
      have hb34 : Below w2.heap.size w2 w4 := (((Below.refl _ w2).drew).alloc (Nat.le_refl _) _).trans (hb4.mono (by simp))
      have hb35 : Below w2.heap.size w2 w5 := hb34.trans (hb5.mono hb34.size)
      have hb39 : Below w2.heap.size w2 W9 := hb35.trans (ho6.below _ hb35.size (fun b hb h => by omega))
      have z9 : BoxP W9 w2.heap.size fp := z6
      have y9 : BoxB W9 (w.heap.size + 1) zeroBs := (hb39.block _ HLT.out).trans HZ1.out
      have HB9 := Lib.hid (HB2.out.trans (hb39.mono HB2.out.size))
      clear hb4 hb5 hb34 hb35 hb39 hB4 hC4 q0 q1 q2 q3 s0 s1 s2 s3 s4 f0 f1 f2 f3 f4 e1 e2 e3 e4 e5 z6 ho6
      have p0 := z9.c0
      have p1 := z9.c1
      cases fb with
      | false =>
        have HR := Lib.hid (found_none HC.out HF.out)
        obtain ⟨y1, y2, e1, e2, s0, f0, s1, f1, hy, ho⟩ := chain24 y9 zeroBs
        unfold zeroBs at e1 e2
        dsimp only at e1 e2
        have HY := Lib.hid hy
        have HO := Lib.hid ho
        clear z9 y9 hy ho
        go_wp2
        refine bodyPost_ret (results_arPlace HY.out rfl rfl) rfl ?_
        rw [HR.out]
        exact ⟨rfl, HB9.out.trans (HO.out.below _ HB9.out.size (fun b hb h => by omega))⟩
      | true =>
        have HR := Lib.hid (found_some HC.out HF.out)
        obtain ⟨y1, y2, e1, e2, s0, f0, s1, f1, hy, ho⟩ := chain24 y9 fp.b
        have HY := Lib.hid hy
        have HO := Lib.hid ho
        clear z9 y9 hy ho
        go_wp2
        refine bodyPost_ret (results_arPlace HY.out rfl rfl) rfl ?_
        rw [HR.out]
        exact ⟨rfl, HB9.out.trans (HO.out.below _ HB9.out.size (fun b hb h => by omega))⟩
  · have HR : Hid (foundRes a id arg = (zeroBs, checkRes a)) := Lib.hid (by unfold foundRes; rw [if_pos hck])
    have hne : (checkRes a != 0) = true := by simpa using hck
    clear hck
    go_enter Tryz.func36, Tryz.ntmps36
    go_wp2_with (go_at_call 20; refine (CC.out _ HB.out).mono ?_; rintro e w2 ⟨rfl, hb2⟩; obtain ⟨x1, x2, e1, e2, s0, f0, s1, f1, hy, ho⟩ := chain24 ((hb2.block _ HX1.out.lt).trans HX1.out) zeroBs; unfold zeroBs at e1 e2 s0 s1; dsimp only at e1 e2 s0 s1; have HY := Lib.hid hy; have HO := Lib.hid ho; clear hy ho)
    refine bodyPost_ret (results_arPlace HY.out rfl rfl) rfl ?_
    rw [HR.out]
    exact ⟨rfl, HB.out.trans ((hb2.mono HB.out.size).trans (HO.out.below _ (Nat.le_trans HB.out.size hb2.size) (fun b hb h => by omega)))⟩
end Go.Proofs.YtklfojmflmablaaGreatDoor
