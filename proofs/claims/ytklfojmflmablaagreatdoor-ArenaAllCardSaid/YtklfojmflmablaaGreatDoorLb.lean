/- ArenaAll: each move is a question or an answer, and those of places are all there. -/
import Derived.Test.YtklfojmflmablaaGreatDoorGk
import Derived.Test.YtklfojmflmablaaGreatDoorTo
import Derived.Test.YtklfojmflmablaaGreatDoorLs
import Derived.Deep.RegionHeld3
import Derived.BigQuiet
/- Package arena: Place. -/
namespace Go.Proofs.YtklfojmflmablaaGreatDoor
open Go Go.RowKit Go.Shelf

theorem results_arPlace {tmps : Array Value} {W : World} {B : Nat} {b : Bs} {e : Int} (h : BoxB W B b) (t6 : tmps[6]?.getD undef = .pointer (some ⟨B, 0, none⟩)) (t7 : tmps[7]?.getD undef = .int .i64 e) :
    (results Tryz.f36 tmps).run Tryz.prog W = .ok (.tuple #[bsV b, .int .i64 e]) W := by
  have c0 := cell_of_row W B 0 _ 24 (0, 0) h
  have c1 := cell_of_row W B 1 _ 24 (0, 0) h
  simp at c0 c1
  simp [results, Tryz.results36, t6, t7, go_sem, loadVar, c0, c1, bsV]

theorem found_none {a : Ar} {id arg : Int} {fp : Pl} (hc : checkRes a = 0) (h : findRes (places a) (atB id arg) = (fp, false)) : foundRes a id arg = (zeroBs, 7) := by
  have hp : placeOf a id arg = none := by
    have := plAt_eq a id arg
    unfold plAt at this
    unfold findRes at h
    cases hf : (places a).find? (atB id arg) with
    | none => rw [hf] at this; simpa using this.symm
    | some p => rw [hf] at h; simp at h
  unfold foundRes
  rw [if_neg (by rw [hc]; simp), hp]
theorem found_some {a : Ar} {id arg : Int} {fp : Pl} (hc : checkRes a = 0) (h : findRes (places a) (atB id arg) = (fp, true)) : foundRes a id arg = (fp.b, 0) := by
  have hp : placeOf a id arg = some fp.b := by
    have := plAt_eq a id arg
    unfold plAt at this
    unfold findRes at h
    cases hf : (places a).find? (atB id arg) with
    | none => rw [hf] at h; simp at h
    | some p =>
      rw [hf] at h this
      simp only [Prod.mk.injEq, and_true] at h
      subst h
      cases hq : placeOf a id arg with
      | none => rw [hq] at this; cases this
      | some b => rw [hq] at this; simp only [Option.map_some, Option.some.injEq] at this; rw [this]
  unfold foundRes
  rw [if_neg (by rw [hc]; simp), hp]

set_option maxRecDepth 100000 in
set_option maxHeartbeats 2000000 in
theorem place_any (v : Value) (a : Ar) (id arg : Int) (w : World) (hl : a.ids.length ≤ 140737488355328) (hpl : ∀ t ∈ a.ids, t.params.length ≤ 140737488355328) (hv : TyIn w w.heap.size v a.ids) :
    Calls Tryz.prog 36 #[arV v a.root a.jumps, .int .i64 id, .int .i64 arg] w fun e w' => e = .returned (.tuple #[bsV (foundRes a id arg).1, .int .i64 (foundRes a id arg).2]) ∧ Below w.heap.size w w' := by
  have CC : Hid (∀ W, Below w.heap.size w W → Calls Tryz.prog 20 #[arV v a.root a.jumps] W fun e w' => e = .returned (.int .i64 (checkRes a)) ∧ Below W.heap.size W w') :=
    Lib.hid fun W hW => check_any v a W hl hpl ((hv.below hW.block).more hW.size)
  have HV := Lib.hid hv
  obtain ⟨A, c, rfl⟩ := tyIn_slice hv
  obtain ⟨w1, hw1⟩ : ∃ w1, (w.alloc (.cells #[.slice A a.ids.length c, .bool a.root.cell, .int .i64 a.root.n, .bool a.jumps] 26)).alloc (.cells #[.bool false, .int .i64 0] 24) = w1 := ⟨_, rfl⟩
  have hb : Below w.heap.size w w1 := by rw [← hw1]; exact ((Below.refl _ w).alloc (Nat.le_refl _) _).alloc (by simp) _
  have x0 : BoxA w1 w.heap.size (.slice A a.ids.length c) a.root a.jumps := by rw [← hw1]; exact (Below.heap_alloc _ _ _ (by simp)).trans (World.alloc_heap_new w _)
  have x1 : BoxB w1 (w.heap.size + 1) zeroBs := by
    rw [← hw1]
    have := World.alloc_heap_new (w.alloc (.cells #[.slice A a.ids.length c, .bool a.root.cell, .int .i64 a.root.n, .bool a.jumps] 26)) (.cells #[.bool false, .int .i64 0] 24); rwa [World.size_alloc] at this
  have HB := Lib.hid hb
  have HX0 := Lib.hid x0
  have HX1 := Lib.hid x1
  have c0 := cell_of_row w1 _ 0 _ 26 (0, 0) x0
  have c1 := cell_of_row w1 _ 1 _ 26 (0, 0) x0
  have c2 := cell_of_row w1 _ 2 _ 26 (0, 0) x0
  have c3 := cell_of_row w1 _ 3 _ 26 (0, 0) x0
  unfold arV at CC ⊢
  clear hb x0 x1 hv hpl
  by_cases hck : checkRes a = 0
  · rw [hck] at CC
    have HC := Lib.hid hck
    have hne : ((0 : Int) != 0) = false := rfl
    clear hck
    go_enter Tryz.func36, Tryz.ntmps36
    go_wp2_with (go_at_call 20; refine (CC.out _ HB.out).mono ?_; rintro e w2 ⟨rfl, hb2⟩; have z0 : BoxA w2 _ _ _ _ := (hb2.block _ HX0.out.lt).trans HX0.out; have z1 : BoxB w2 _ _ := (hb2.block _ HX1.out.lt).trans HX1.out; have HZ0 := Lib.hid z0; have HZ1 := Lib.hid z1; have HB2 := Lib.hid (HB.out.trans (hb2.mono HB.out.size)); have q0 := cell_of_row w2 _ 0 _ 26 (0, 0) z0; have q1 := cell_of_row w2 _ 1 _ 26 (0, 0) z0; have q2 := cell_of_row w2 _ 2 _ 26 (0, 0) z0; have q3 := cell_of_row w2 _ 3 _ 26 (0, 0) z0; clear z0 z1 hb2 c0 c1 c2 c3)
    have HLT : Hid (w.heap.size + 1 < w2.heap.size) := Lib.hid HZ1.out.lt
    have HS := Lib.hid (check_small HC.out).1
    have C88 : Hid (∀ W, Calls Tryz.prog 88 #[.int .i64 id, .int .i64 arg] W fun e w' => ∃ B C, e = .returned (.func (.func 161) #[] #[.pointer (some ⟨B, 0, none⟩), .pointer (some ⟨C, 0, none⟩)]) ∧ Boxed w' B 3 (.int .i64 id) ∧ Boxed w' C 3 (.int .i64 arg) ∧ Below W.heap.size W w') := Lib.hid fun W => by
      refine (at_any id arg W).mono ?_
      rintro e w' ⟨rfl, rfl⟩
      exact ⟨_, _, rfl, (Boxed.new W 3 _).alloc _, by have := Boxed.new (W.alloc (.cells #[.int .i64 id] 3)) 3 (.int .i64 arg); rwa [World.size_alloc] at this, ((Below.refl _ W).alloc (Nat.le_refl _) _).alloc (by simp) _⟩
    have C100 : Hid (∀ B C W, Boxed W B 3 (.int .i64 id) → Boxed W C 3 (.int .i64 arg) → Below w2.heap.size w2 W → Calls Tryz.prog 100 #[.agg #[.slice A a.ids.length c, .bool a.root.cell, .int .i64 a.root.n, .bool a.jumps], .func (.func 161) #[] #[.pointer (some ⟨B, 0, none⟩), .pointer (some ⟨C, 0, none⟩)]] W fun e w' =>
        e = .returned (.tuple #[plV (findRes (places a) (atB id arg)).1, .bool (findRes (places a) (atB id arg)).2]) ∧ Below W.heap.size W w') := Lib.hid fun B C W hB hC hW => by
      have hwW : Below w.heap.size w W := HB2.out.trans (hW.mono HB2.out.size)
      exact find_any (.slice A a.ids.length c) a _ _ W HS.out (tyIn_later HV.out hwW) ⟨161, _, rfl, enters_of Tryz.func161 (by kernel_rfl) rfl, fun W' hW' p =>
        at1_any p _ _ _ _ W' (cell_of_row W' _ 0 _ 3 (0, 0) ((hW' _ hB.lt).trans hB)) (cell_of_row W' _ 0 _ 3 (0, 0) ((hW' _ hC.lt).trans hC))⟩
    obtain ⟨⟨fp, fb⟩, hF⟩ : ∃ F, findRes (places a) (atB id arg) = F := ⟨_, rfl⟩
    rw [hF] at C100
    have HF := Lib.hid hF
    unfold plV at C100
    dsimp only at C100
    clear hF
    go_region_held3 (fun W => W.cell? ⟨w.heap.size, 0, none⟩ = some (.slice A a.ids.length c) ∧ W.cell? ⟨w.heap.size, 1, none⟩ = some (.bool a.root.cell) ∧ W.cell? ⟨w.heap.size, 2, none⟩ = some (.int .i64 a.root.n) ∧ W.cell? ⟨w.heap.size, 3, none⟩ = some (.bool a.jumps))
      (first
        | go_keep
        | (go_split_ands
           refine ⟨?_, ?_, ?_, ?_⟩ <;> (repeat' (first
             | assumption
             | refine cell_alloc_some _ ?_
             | refine cell_set_some _ (by have h1 := HLT.out; have h3 := hb4.size; dsimp only; simp at h3 ⊢; omega) ?_
             | refine (ho6.cell (by have h1 := HLT.out; have h3 := hb4.size; have h4 := hb5.size; simp at h3 h4 ⊢; omega) (by have h1 := HLT.out; have h3 := hb4.size; simp at h3 ⊢; omega)).trans ?_
             | refine (hb5.cell (by have h1 := HLT.out; have h3 := hb4.size; simp at h3 ⊢; omega)).trans ?_
             | refine (hb4.cell (by have h1 := HLT.out; simp; omega)).trans ?_)))
        | (trace_state; fail))
      (first
      | (go_at_call 88; refine (C88.out _).mono ?_; rintro e w4 ⟨B, C, rfl, hB4, hC4, hb4⟩)
      | (go_at_call 100; first | (refine (C100.out _ _ _ hB4 hC4 (((Below.refl _ w2).drew).trans hb4)).mono ?_; rintro e w5 ⟨rfl, hb5⟩) | (refine (C100.out _ _ _ (hB4.alloc _) (hC4.alloc _) ((((Below.refl _ w2).drew).trans hb4).alloc hb4.size _)).mono ?_; rintro e w5 ⟨rfl, hb5⟩; have z5 : BoxP w5 w4.heap.size zeroPl := (hb5.block _ (by simp)).trans (BoxP.new w4 zeroPl); obtain ⟨x1, x2, x3, x4, w6, e1, e2, e3, e4, e5, ⟨o0, s0⟩, f0, ⟨o1, s1⟩, f1, ⟨o2, s2⟩, f2, ⟨o3, s3⟩, f3, ⟨o4, s4⟩, f4, z6, ho6⟩ := chain111 z5 fp) | (refine (C100.out _ _ _ hB4 hC4 ((((Below.refl _ w2).drew).alloc (Nat.le_refl _) _).trans (hb4.mono (by simp)))).mono ?_; rintro e w5 ⟨rfl, hb5⟩; have z5 : BoxP w5 w2.heap.size zeroPl := (hb5.block _ (by have := hb4.size; simp at this; omega)).trans ((hb4.block _ (by simp)).trans (BoxP.new w2.drew zeroPl)); obtain ⟨x1, x2, x3, x4, w6, e1, e2, e3, e4, e5, ⟨o0, s0⟩, f0, ⟨o1, s1⟩, f1, ⟨o2, s2⟩, f2, ⟨o3, s3⟩, f3, ⟨o4, s4⟩, f4, z6, ho6⟩ := chain111 z5 fp)))
    · obtain ⟨W9, hW9⟩ : ∃ W9, w5.alloc (.cells #[.bool fp.b.cell, .int .i64 fp.b.n, .int .i64 fp.id, .int .i64 fp.arg, .bool fp.jumps] 111) = W9 := ⟨_, rfl⟩
      rw [hW9]
      have hb35 : Below w2.heap.size w2 w5 := (((Below.refl _ w2).drew).trans hb4).trans (hb5.mono hb4.size)
      have hb39 : Below w2.heap.size w2 W9 := by rw [← hW9]; exact hb35.alloc hb35.size _
      have z9 : BoxP W9 w5.heap.size fp := by rw [← hW9]; exact BoxP.new w5 fp
      have y9 : BoxB W9 (w.heap.size + 1) zeroBs := (hb39.block _ HLT.out).trans HZ1.out
      have HB9 := Lib.hid (HB2.out.trans (hb39.mono HB2.out.size))
      clear hb4 hb5 hb35 hb39 hB4 hC4 q0 q1 q2 q3
      have p0 := z9.c0
      have p1 := z9.c1
      cases fb with
      | false =>
        have HR := Lib.hid (found_none HC.out HF.out)
        obtain ⟨y1, y2, e1, e2, s0, f0, s1, f1, hy, ho⟩ := chain24 y9 zeroBs
        unfold zeroBs at e1 e2
        dsimp only at e1 e2
        have HY := Lib.hid hy
        have HO := Lib.hid ho
        clear z9 y9 hy ho
        go_wp2
        refine bodyPost_ret (results_arPlace HY.out rfl rfl) rfl ?_
        rw [HR.out]
        exact ⟨rfl, HB9.out.trans (HO.out.below _ HB9.out.size (fun b hb h => by omega))⟩
      | true =>
        have HR := Lib.hid (found_some HC.out HF.out)
        obtain ⟨y1, y2, e1, e2, s0, f0, s1, f1, hy, ho⟩ := chain24 y9 fp.b
        have HY := Lib.hid hy
        have HO := Lib.hid ho
        clear z9 y9 hy ho
        go_wp2
        refine bodyPost_ret (results_arPlace HY.out rfl rfl) rfl ?_
        rw [HR.out]
        exact ⟨rfl, HB9.out.trans (HO.out.below _ HB9.out.size (fun b hb h => by omega))⟩
    · obtain ⟨W9, hW9⟩ : ∃ W9, w6 = W9 := ⟨_, rfl⟩
      rw [hW9] at z6 ho6 ⊢
      have hb34 : Below w2.heap.size w2 w4 := ((Below.refl _ w2).drew).trans hb4
      have hb35 : Below w2.heap.size w2 w5 := (hb34.alloc hb34.size _).trans (hb5.mono (by simp; have := hb34.size; omega))
      have hb39 : Below w2.heap.size w2 W9 := hb35.trans (ho6.below _ hb35.size (fun b hb h => by have := hb34.size; omega))
      have z9 : BoxP W9 w4.heap.size fp := z6
      have y9 : BoxB W9 (w.heap.size + 1) zeroBs := (hb39.block _ HLT.out).trans HZ1.out
      have HB9 := Lib.hid (HB2.out.trans (hb39.mono HB2.out.size))
      clear hb4 hb5 hb34 hb35 hb39 hB4 hC4 q0 q1 q2 q3 s0 s1 s2 s3 s4 f0 f1 f2 f3 f4 e1 e2 e3 e4 e5 z6 ho6
      have p0 := z9.c0
      have p1 := z9.c1
      cases fb with
      | false =>
        have HR := Lib.hid (found_none HC.out HF.out)
        obtain ⟨y1, y2, e1, e2, s0, f0, s1, f1, hy, ho⟩ := chain24 y9 zeroBs
        unfold zeroBs at e1 e2
        dsimp only at e1 e2
        have HY := Lib.hid hy
        have HO := Lib.hid ho
        clear z9 y9 hy ho
        go_wp2
        refine bodyPost_ret (results_arPlace HY.out rfl rfl) rfl ?_
        rw [HR.out]
        exact ⟨rfl, HB9.out.trans (HO.out.below _ HB9.out.size (fun b hb h => by omega))⟩
      | true =>
        have HR := Lib.hid (found_some HC.out HF.out)
        obtain ⟨y1, y2, e1, e2, s0, f0, s1, f1, hy, ho⟩ := chain24 y9 fp.b
        have HY := Lib.hid hy
        have HO := Lib.hid ho
        clear z9 y9 hy ho
        go_wp2
        refine bodyPost_ret (results_arPlace HY.out rfl rfl) rfl ?_
        rw [HR.out]
        exact ⟨rfl, HB9.out.trans (HO.out.below _ HB9.out.size (fun b hb h => by omega))⟩
    · obtain ⟨W9, hW9⟩ : ∃ W9, w6 = W9 := ⟨_, rfl⟩
      rw [hW9] at z6 ho6 ⊢
      have hb34 : Below w2.heap.size w2 w4 := (((Below.refl _ w2).drew).alloc (Nat.le_refl _) _).trans (hb4.mono (by simp))
      have hb35 : Below w2.heap.size w2 w5 := hb34.trans (hb5.mono hb34.size)
      have hb39 : Below w2.heap.size w2 W9 := hb35.trans (ho6.below _ hb35.size (fun b hb h => by omega))
      have z9 : BoxP W9 w2.heap.size fp := z6
      have y9 : BoxB W9 (w.heap.size + 1) zeroBs := (hb39.block _ HLT.out).trans HZ1.out
      have HB9 := Lib.hid (HB2.out.trans (hb39.mono HB2.out.size))
      clear hb4 hb5 hb34 hb35 hb39 hB4 hC4 q0 q1 q2 q3 s0 s1 s2 s3 s4 f0 f1 f2 f3 f4 e1 e2 e3 e4 e5 z6 ho6
      have p0 := z9.c0
      have p1 := z9.c1
      cases fb with
      | false =>
        have HR := Lib.hid (found_none HC.out HF.out)
        obtain ⟨y1, y2, e1, e2, s0, f0, s1, f1, hy, ho⟩ := chain24 y9 zeroBs
        unfold zeroBs at e1 e2
        dsimp only at e1 e2
        have HY := Lib.hid hy
        have HO := Lib.hid ho
        clear z9 y9 hy ho
        go_wp2
        refine bodyPost_ret (results_arPlace HY.out rfl rfl) rfl ?_
        rw [HR.out]
        exact ⟨rfl, HB9.out.trans (HO.out.below _ HB9.out.size (fun b hb h => by omega))⟩
      | true =>
        have HR := Lib.hid (found_some HC.out HF.out)
        obtain ⟨y1, y2, e1, e2, s0, f0, s1, f1, hy, ho⟩ := chain24 y9 fp.b
        have HY := Lib.hid hy
        have HO := Lib.hid ho
        clear z9 y9 hy ho
        go_wp2
        refine bodyPost_ret (results_arPlace HY.out rfl rfl) rfl ?_
        rw [HR.out]
        exact ⟨rfl, HB9.out.trans (HO.out.below _ HB9.out.size (fun b hb h => by omega))⟩
  · have HR : Hid (foundRes a id arg = (zeroBs, checkRes a)) := Lib.hid (by unfold foundRes; rw [if_pos hck])
    have hne : (checkRes a != 0) = true := by simpa using hck
    clear hck
    go_enter Tryz.func36, Tryz.ntmps36
    go_wp2_with (go_at_call 20; refine (CC.out _ HB.out).mono ?_; rintro e w2 ⟨rfl, hb2⟩; obtain ⟨x1, x2, e1, e2, s0, f0, s1, f1, hy, ho⟩ := chain24 ((hb2.block _ HX1.out.lt).trans HX1.out) zeroBs; unfold zeroBs at e1 e2 s0 s1; dsimp only at e1 e2 s0 s1; have HY := Lib.hid hy; have HO := Lib.hid ho; clear hy ho)
    refine bodyPost_ret (results_arPlace HY.out rfl rfl) rfl ?_
    rw [HR.out]
    exact ⟨rfl, HB.out.trans ((hb2.mono HB.out.size).trans (HO.out.below _ (Nat.le_trans HB.out.size hb2.size) (fun b hb h => by omega)))⟩
end Go.Proofs.YtklfojmflmablaaGreatDoor
/- ArenaAll: what it rests on. -/
namespace Go.Proofs.YtklfojmflmablaaGreatDoor
open Go Go.RowKit Go.Shelf

theorem ans_of {a : Ar} {m : Mv} {p : Pl} (hck : checkRes a = 0) (hw : whichPl a m = some p) : ansRes a m = answRes m p := by
  unfold ansRes
  rw [if_neg (by rw [hck]; simp), hw]
theorem ans_kind {a : Ar} {m : Mv} (hck : checkRes a = 0) (hm : m ∈ allMv a) : (m.kind = 3 ∧ ansRes a m = ([], 2)) ∨ (m.kind ≠ 3 ∧ ∃ la, ansRes a m = (la, 0) ∧ la.length ≤ 65 ∧ ∀ x ∈ la, x ∈ allMv a ∧ x.id = m.id ∧ x.arg = m.arg ∧ x.kind = 3) := by
  obtain ⟨p, hp, hm'⟩ := mem_all.1 hm
  have hw := which_of hp hm'
  obtain ⟨hpl, _, _⟩ := which_some' hw
  obtain ⟨h1, h64, _⟩ := place_right hck hpl
  have hk := which_kind hw
  rw [ans_of hck hw]
  have key : ∀ x ∈ tellOf p, x ∈ allMv a ∧ x.id = m.id ∧ x.arg = m.arg ∧ x.kind = 3 := fun x hx => by
    obtain ⟨q1, q2, q3, _⟩ := answ_mem.1 hx
    have := movesOf_mem hm'
    exact ⟨mem_all.2 ⟨p, hp, List.mem_append_right _ hx⟩, by rw [q1, this.1], by rw [q2, this.2], q3⟩
  unfold answRes
  rcases hk with h | h | h
  · right
    rw [if_pos h]
    exact ⟨by omega, _, rfl, answ_len p _ h64, key⟩
  · right
    rw [if_neg (by omega), if_pos h]
    exact ⟨by omega, _, rfl, answ_len p _ (by omega), fun x hx => key x (done_sub h1 hx)⟩
  · left
    rw [if_neg (by omega), if_neg (by omega)]
    exact ⟨h, rfl⟩
/-- Each answer is one of the question 'ask' of its place. -/
theorem ans_asked {a : Ar} {y : Mv} (hck : checkRes a = 0) (hy : y ∈ allMv a) (hk : y.kind = 3) : ∃ m ∈ allMv a, m.kind ≠ 3 ∧ ∃ la, ansRes a m = (la, 0) ∧ y ∈ la := by
  obtain ⟨p, hp, hm⟩ := mem_all.1 hy
  have hq : (⟨p.id, p.arg, 1, 0⟩ : Mv) ∈ movesOf p := List.mem_append_left _ (quests_mem.2 ⟨rfl, rfl, .inl ⟨rfl, rfl⟩⟩)
  refine ⟨⟨p.id, p.arg, 1, 0⟩, mem_all.2 ⟨p, hp, hq⟩, by simp, tellOf p, ?_, ?_⟩
  · rw [ans_of hck (which_of hp hq)]; rfl
  · rcases List.mem_append.1 hm with h | h
    · have := quests_mem.1 h; omega
    · exact h
theorem place_moves {a : Ar} {id arg : Int} {b : Bs} (hck : checkRes a = 0) (h : placeOf a id arg = some b) :
    (⟨id, arg, 1, 0⟩ : Mv) ∈ allMv a ∧ (⟨id, arg, 3, 0⟩ : Mv) ∈ allMv a ∧ ((⟨id, arg, 2, 0⟩ : Mv) ∈ allMv a ↔ b.cell = true) := by
  obtain ⟨h1, _, _⟩ := place_right hck h
  have hq : (⟨id, arg, 1, 0⟩ : Mv) ∈ movesOf ⟨b, id, arg, jumpsAt a id arg⟩ := List.mem_append_left _ (quests_mem.2 ⟨rfl, rfl, .inl ⟨rfl, rfl⟩⟩)
  have hw : whichPl a ⟨id, arg, 1, 0⟩ = some ⟨b, id, arg, jumpsAt a id arg⟩ := by
    rw [which_eq]
    simp only [h]
    rw [if_pos hq]
  have hp := (which_mem hw).1
  refine ⟨mem_all.2 ⟨_, hp, hq⟩, mem_all.2 ⟨_, hp, List.mem_append_right _ (answ_mem.2 ⟨rfl, rfl, rfl, .inr ⟨by simp, by show (0 : Int) < b.n; omega⟩⟩)⟩, ?_, ?_⟩
  · intro hm
    obtain ⟨q, hq', hmq⟩ := mem_all.1 hm
    obtain ⟨hq1, _⟩ := places_mem_at hq'
    have hid := movesOf_mem hmq
    dsimp only at hid
    rw [← hid.1, ← hid.2, h] at hq1
    have hb : b = q.b := Option.some.inj hq1
    rcases List.mem_append.1 hmq with h' | h'
    · have := quests_mem.1 h'
      rcases this.2.2 with h3 | h3
      · exact absurd h3.1 (by simp)
      · rw [hb]; exact h3.1
    · have := (answ_mem.1 h').2.2.1
      exact absurd this (by simp)
  · intro hc
    exact mem_all.2 ⟨_, hp, List.mem_append_left _ (quests_mem.2 ⟨rfl, rfl, .inr ⟨hc, rfl, by simp, by show (0 : Int) < b.n; omega⟩⟩)⟩
/-- What is told so far: each move that a question before the i-th one says, this question itself included. -/
def ToldTo (a : Ar) (l : List Mv) (i : Nat) (t : List Bool) : Prop :=
  t.length = l.length ∧ ∀ (q : Nat) (y : Mv), l[q]? = some y → (∃ (p : Nat) (m : Mv), p < i ∧ l[p]? = some m ∧ m.kind ≠ 3 ∧ (y = m ∨ y ∈ (ansRes a m).1)) → t[q]? = some true
/-- Within a round: the question itself, and the answers so far. -/
def ToldIn (a : Ar) (l : List Mv) (i : Nat) (la : List Mv) (n : Nat) (t : List Bool) : Prop :=
  ToldTo a l i t ∧ t[i]? = some true ∧ ∀ (q : Nat) (y : Mv), l[q]? = some y → y ∈ la.take n → t[q]? = some true
theorem set_told {t : List Bool} {k q : Nat} (h : t[q]? = some true) : (t.set k true)[q]? = some true := by
  rw [List.getElem?_set]
  have hlt : q < t.length := (List.getElem?_eq_some_iff.1 h).1
  by_cases e : k = q
  · subst e; simp [hlt]
  · rw [if_neg e]; exact h
theorem set_self {t : List Bool} {k : Nat} (h : k < t.length) : (t.set k true)[k]? = some true := by
  rw [List.getElem?_set]; simp [h]
theorem pair_inj {l : List Mv} (hp : l.Pairwise (fun a b => lessMv a b = true)) (hirr : ∀ y, lessMv y y = false) : ∀ (q p : Nat) (y : Mv), l[q]? = some y → l[p]? = some y → q = p := by
  intro q p y hq hp'
  obtain ⟨hq1, hq2⟩ := List.getElem?_eq_some_iff.1 hq
  obtain ⟨hp1, hp2⟩ := List.getElem?_eq_some_iff.1 hp'
  rw [List.pairwise_iff_getElem] at hp
  rcases Nat.lt_trichotomy q p with h | h | h
  · have := hp q p hq1 hp1 h
    rw [hq2, hp2, hirr] at this; exact absurd this (by simp)
  · exact h
  · have := hp p q hp1 hq1 h
    rw [hq2, hp2, hirr] at this; exact absurd this (by simp)
theorem told_start (a : Ar) (l : List Mv) : ToldTo a l 0 (List.replicate l.length false) :=
  ⟨by simp, fun _ _ _ ⟨_, _, h, _⟩ => absurd h (Nat.not_lt_zero _)⟩
theorem told_skip {a : Ar} {l : List Mv} {i : Nat} {t : List Bool} {m : Mv} (h : ToldTo a l i t) (hm : l[i]? = some m) (hk : m.kind = 3) : ToldTo a l (i + 1) t := by
  refine ⟨h.1, fun q y hy ⟨p, m', hp, hm', hk', hr⟩ => ?_⟩
  by_cases e : p = i
  · subst e; rw [hm] at hm'; cases hm'; exact absurd hk hk'
  · exact h.2 q y hy ⟨p, m', by omega, hm', hk', hr⟩
theorem told_in {a : Ar} {l la : List Mv} {i : Nat} {t : List Bool} (h : ToldTo a l i t) (hi : i < l.length) : ToldIn a l i la 0 (t.set i true) :=
  ⟨⟨by rw [List.length_set]; exact h.1, fun q y hy hr => set_told (h.2 q y hy hr)⟩, set_self (by rw [h.1]; exact hi), fun q y _ hy => by simp at hy⟩
theorem told_next {a : Ar} {l la : List Mv} {i n at_ : Nat} {t : List Bool} {x : Mv} (hinj : ∀ (q p : Nat) (y : Mv), l[q]? = some y → l[p]? = some y → q = p) (h : ToldIn a l i la n t) (hx : la[n]? = some x) (hat : l[at_]? = some x) : ToldIn a l i la (n + 1) (t.set at_ true) := by
  obtain ⟨h1, h2, h3⟩ := h
  refine ⟨⟨by rw [List.length_set]; exact h1.1, fun q y hy hr => set_told (h1.2 q y hy hr)⟩, set_told h2, fun q y hy hm => ?_⟩
  rw [List.take_add_one, hx] at hm
  rcases List.mem_append.1 hm with hm | hm
  · exact set_told (h3 q y hy hm)
  · have e : y = x := by simpa using hm
    subst e
    rw [hinj q at_ y hy hat]
    exact set_self (by rw [h1.1]; exact (List.getElem?_eq_some_iff.1 hat).1)
theorem told_out {a : Ar} {l la : List Mv} {i : Nat} {t : List Bool} {m : Mv} {e : Int} (hinj : ∀ (q p : Nat) (y : Mv), l[q]? = some y → l[p]? = some y → q = p) (h : ToldIn a l i la la.length t) (hm : l[i]? = some m) (ha : ansRes a m = (la, e)) : ToldTo a l (i + 1) t := by
  obtain ⟨h1, h2, h3⟩ := h
  refine ⟨h1.1, fun q y hy ⟨p, m', hp, hm', hk', hr⟩ => ?_⟩
  by_cases e' : p = i
  · subst e'
    rw [hm] at hm'; cases hm'
    rcases hr with rfl | hr
    · rw [hinj q p y hy hm]; exact h2
    · rw [ha] at hr
      exact h3 q y hy (by rw [List.take_length]; exact hr)
  · exact h1.2 q y hy ⟨p, m', by omega, hm', hk', hr⟩
theorem told_all {a : Ar} {t : List Bool} (hck : checkRes a = 0) (h : ToldTo a (allMv a) (allMv a).length t) : ∀ q, q < (allMv a).length → t[q]? = some true := by
  intro q hq
  have hy : (allMv a)[q]? = some (allMv a)[q] := List.getElem?_eq_getElem hq
  refine h.2 q _ hy ?_
  by_cases hk : ((allMv a)[q]).kind = 3
  · obtain ⟨m, hm, hmk, la, hla, hmem⟩ := ans_asked hck (List.getElem_mem hq) hk
    obtain ⟨p, hp⟩ := List.getElem?_of_mem hm
    exact ⟨p, m, (List.getElem?_eq_some_iff.1 hp).1, hp, hmk, .inr (by rw [hla]; exact hmem)⟩
  · exact ⟨q, _, hq, hy, hk, .inl rfl⟩
/-- The row of what is told. -/
def BoolsAt (W : World) (g : Nat) (t : List Bool) : Prop := W.heap[g]? = some (.cells (t.map Value.bool).toArray 4 (0, 0))
theorem bools_cell {W : World} {g q : Nat} {t : List Bool} {b : Bool} (h : BoolsAt W g t) (hq : t[q]? = some b) : W.cell? ⟨g, q, none⟩ = some (.bool b) := by
  rw [cell_of_row W g q _ 4 (0, 0) h]
  simp [hq]
theorem bools_free {W : World} {g q : Nat} {t : List Bool} (h : BoolsAt W g t) : W.frozen? ⟨g, q, none⟩ = false := by
  simp [World.frozen?, show W.heap[g]? = _ from h]
theorem bools_set {W : World} {g k : Nat} {t : List Bool} (h : BoolsAt W g t) : BoolsAt (W.setCell ⟨g, k, none⟩ (.bool true)) g (t.set k true) := by
  have := heap_setCell_same W g k _ 4 (.bool true) h
  unfold BoolsAt
  rw [this]
  simp [List.map_set]
theorem bools_lt {W : World} {g : Nat} {t : List Bool} (h : BoolsAt W g t) : g < W.heap.size := (Array.getElem?_eq_some_iff.1 h).1
theorem bools_below {W W' : World} {g : Nat} {t : List Bool} (h : BoolsAt W g t) (hb : Below W.heap.size W W') : BoolsAt W' g t :=
  (hb.block g (bools_lt h)).trans h
theorem info4 : (Tryz.prog.info? 4).map (fun i => (i.zero, i.size, i.bytes)) = some (some (.bool false), 1, 1) := by kernel_rfl
theorem mk_bools (W : World) (n : Nat) (hn : n ≤ 300) : ∃ w4, (Instr.makeSlice 69 (.int .i64 (n : Int)) (.int .i64 (n : Int))).run Tryz.prog W = .ok (.slice (some ⟨W.heap.size, 0, none⟩) n n) w4 ∧ BoolsAt w4 W.heap.size (List.replicate n false) ∧ Below W.heap.size W w4 := by
  obtain ⟨i0, hi, hz0, hz1, hz2⟩ := info_parts info4
  have hmk := run_make W 69 4 i0 (.bool false) Tryz.underlying69 hi hz0 .i64 .i64 n n (by omega) (Int.le_refl _) (by rw [hz2]; show (1 : Int) * n ≤ _; omega) (by omega)
  rw [hz1, Nat.mul_one, Int.toNat_natCast] at hmk
  refine ⟨_, hmk, ?_, (Below.refl _ W).alloc (Nat.le_refl _) _⟩
  unfold BoolsAt
  rw [World.alloc_heap_new]
  have : madeCells (Value.bool false).cells n = (List.map Value.bool (List.replicate n false)).toArray := by
    apply Array.toList_inj.1
    show (madeCells #[.bool false] n).toList = _
    rw [toList_madeCells_one]
    simp
  rw [this]
/-- A store of true: the cell, and what the world is then. -/
theorem bools_store {W : World} {g k : Nat} {t : List Bool} (h : BoolsAt W g t) (hk : k < t.length) : ∃ b w', W.cell? ⟨g, k, none⟩ = some (.bool b) ∧ W.frozen? ⟨g, k, none⟩ = false ∧ W.setCell ⟨g, k, none⟩ (.bool true) = w' ∧ BoolsAt w' g (t.set k true) ∧ Only (fun k => k = g) W w' :=
  ⟨t[k], _, bools_cell h (List.getElem?_eq_getElem hk), bools_free h, rfl, bools_set h, (Only.refl (fun k => k = g) W).setCell _ _ fun _ => rfl⟩
end Go.Proofs.YtklfojmflmablaaGreatDoor
/- ArenaAll. -/
namespace Go.Proofs.YtklfojmflmablaaGreatDoor
open Go Go.RowKit Go.Shelf

set_option maxRecDepth 100000 in
set_option maxHeartbeats 1000000 in
theorem law12_big (v : Value) (a : Ar) (w : World) (h : Laid w) (hv : TyIn w w.heap.size v a.ids) (hs : ∀ W, Below w.heap.size w W → Calls Tryz.prog 51 #[arV v a.root a.jumps] W fun e w' => e = .returned (.bool false) ∧ Below W.heap.size W w') :
    Calls Tryz.prog 12 #[arV v a.root a.jumps] w fun e w' => e = .returned (.bool true) ∧ Below w.heap.size w w' := by
  have CS := Lib.hid hs
  have HLD := Lib.hid h
  obtain ⟨A, c, rfl⟩ := tyIn_slice hv
  obtain ⟨n, hn⟩ : ∃ n, a.ids.length = n := ⟨_, rfl⟩
  rw [hn] at CS ⊢
  obtain ⟨w1, hw1⟩ : ∃ w1, w.alloc (.cells #[.slice A n c, .bool a.root.cell, .int .i64 a.root.n, .bool a.jumps] 26) = w1 := ⟨_, rfl⟩
  have hb : Below w.heap.size w w1 := by rw [← hw1]; exact (Below.refl _ w).alloc (Nat.le_refl _) _
  have x0 : BoxA w1 w.heap.size (.slice A n c) a.root a.jumps := by rw [← hw1]; exact World.alloc_heap_new w _
  have HB := Lib.hid hb
  obtain ⟨c0, c1, c2, c3⟩ := boxA_4 x0
  unfold arV at CS ⊢
  clear hb x0 hv hn hs h
  go_enter Tryz.func12, Tryz.ntmps12
  go_wp2_with (first
    | (go_at_call 51; refine (CS.out _ HB.out).mono ?_; rintro e w2 ⟨rfl, hb2⟩)
    | (go_at_call 18; refine (awake_any _ (HLD.out.later (HB.out.trans (hb2.mono HB.out.size)))).mono ?_; rintro e w3 ⟨rfl, hb3⟩))
  go_ret
  exact ⟨rfl, HB.out.trans ((hb2.mono HB.out.size).trans (hb3.mono (Nat.le_trans HB.out.size hb2.size)))⟩

set_option maxRecDepth 100000 in
set_option maxHeartbeats 4000000 in
theorem law12_small (v : Value) (a : Ar) (w : World) (h : Laid w) (hv : TyIn w w.heap.size v a.ids) (hth : thinB a = true) (hck : checkRes a = 0) (h300 : (allMv a).length ≤ 300) :
    Calls Tryz.prog 12 #[arV v a.root a.jumps] w fun e w' => e = .returned (.bool true) ∧ Below w.heap.size w w' := by
  have HLD := Lib.hid h
  have HV := Lib.hid hv
  obtain ⟨h12, h8⟩ := thin_len hth
  have h1000 : ∀ t ∈ a.ids, t.params.length ≤ 1000 := fun t ht => by have := h8 t ht; omega
  have hbig : ∀ t ∈ a.ids, t.params.length ≤ 140737488355328 := fun t ht => by have := h8 t ht; omega
  obtain ⟨A, c, rfl⟩ := tyIn_slice hv
  have CS : Hid (∀ W, Below w.heap.size w W → Calls Tryz.prog 51 #[arV (.slice A a.ids.length c) a.root a.jumps] W fun e w' => e = .returned (.bool true) ∧ Below W.heap.size W w') := Lib.hid fun W hW => by
    have := small_any _ a W (by omega) h1000 hth (tyIn_later HV.out hW)
    rwa [show smallB a = true by unfold smallB; rw [hth, hck, decide_eq_true h300]; rfl] at this
  have C52 : Hid (∀ W, Below w.heap.size w W → Calls Tryz.prog 52 #[arV (.slice A a.ids.length c) a.root a.jumps] W fun e w' => ∃ B cb, e = .returned (.tuple #[.slice B (allMv a).length cb, .bool true]) ∧ Hid (MvIn w' w'.heap.size (.slice B (allMv a).length cb) (allMv a)) ∧ Below W.heap.size W w') := Lib.hid fun W hW => by
    refine (lawMoves_any _ a W hck h300 (tyIn_later HV.out hW)).mono ?_
    rintro e w' ⟨x, rfl, hx, hb⟩
    have hx' := hx
    obtain ⟨B, cb, rfl, _⟩ := hx'
    exact ⟨B, cb, rfl, Lib.hid hx, hb⟩
  have C19 : Hid (∀ W, Below w.heap.size w W → Calls Tryz.prog 19 #[arV (.slice A a.ids.length c) a.root a.jumps] W fun e w' => ∃ A' c', e = .returned (arV (.slice A' a.ids.length c') a.root a.jumps) ∧ Hid (TyIn w' w'.heap.size (.slice A' a.ids.length c') a.ids) ∧ Below W.heap.size W w') := Lib.hid fun W hW => by
    refine (copy_any (.slice A a.ids.length c) a W (by omega) h1000 (tyIn_later HV.out hW)).mono ?_
    rintro e w' ⟨v', rfl, ht, hb⟩
    obtain ⟨A', c', rfl⟩ := tyIn_slice ht
    exact ⟨A', c', rfl, Lib.hid ht, hb⟩
  have C30 : Hid (∀ x la ae, ansRes a x = (la, ae) → ∀ W A' c', TyIn W W.heap.size (.slice A' a.ids.length c') a.ids → Calls Tryz.prog 30 #[arV (.slice A' a.ids.length c') a.root a.jumps, mvV x] W fun e w' => ∃ B c, e = .returned (.tuple #[.slice B la.length c, .int .i64 ae]) ∧ Hid (MvIn w' w'.heap.size (.slice B la.length c) la) ∧ Hid (∀ b off, B = some ⟨b, off, none⟩ → W.heap.size ≤ b) ∧ Below W.heap.size W w') := Lib.hid fun m la ae hAn W A' c' ht => by
    refine (answers_call _ a m W (by omega) hbig ht).mono ?_
    rintro e w' ⟨x, rfl, ho, hb⟩
    rw [hAn] at ho ⊢
    obtain ⟨B, k, c, rfl, rfl⟩ := mv_slice ho
    exact ⟨B, c, rfl, Lib.hid (mvIn_own ho), Lib.hid (fun b off e => (rowAt ho (g := b) (by subst e; rfl)).1), hb⟩
  have C36 : Hid (∀ (i j : Int) W A' c', TyIn W W.heap.size (.slice A' a.ids.length c') a.ids → Calls Tryz.prog 36 #[arV (.slice A' a.ids.length c') a.root a.jumps, .int .i64 i, .int .i64 j] W fun e w' => e = .returned (.tuple #[bsV (foundRes a i j).1, .int .i64 (foundRes a i j).2]) ∧ Below W.heap.size W w') := Lib.hid fun i j W A' c' ht => place_any _ a i j W (by omega) hbig ht
  have HPM : Hid (∀ i j : Int, (foundRes a i j = (zeroBs, 7)) ∨ ∃ b : Bs, foundRes a i j = (b, 0) ∧ (⟨i, j, 1, 0⟩ : Mv) ∈ allMv a ∧ (⟨i, j, 3, 0⟩ : Mv) ∈ allMv a ∧ ((⟨i, j, 2, 0⟩ : Mv) ∈ allMv a ↔ b.cell = true)) := Lib.hid fun i j => by
    unfold foundRes
    rw [if_neg (by rw [hck]; simp)]
    cases hp : placeOf a i j with
    | none => exact .inl rfl
    | some b => exact .inr ⟨b, rfl, place_moves hck hp⟩
  have HAK : Hid (∀ m ∈ allMv a, _) := Lib.hid fun m hm => ans_kind hck hm
  have HTA : Hid (∀ t, _ → ∀ q, q < (allMv a).length → t[q]? = some true) := Lib.hid fun t => told_all (t := t) hck
  have HINJ : Hid (∀ (q p : Nat) (y : Mv), (allMv a)[q]? = some y → (allMv a)[p]? = some y → q = p) := Lib.hid (pair_inj (allMv_pair a) less_irrefl)
  obtain ⟨n, hn⟩ : ∃ n, a.ids.length = n := ⟨_, rfl⟩
  obtain ⟨l, hl⟩ : ∃ l, allMv a = l := ⟨_, rfl⟩
  have hn12 : n ≤ 1000 := by omega
  rw [hn] at CS C52 C19 C30 C36 ⊢
  rw [hl] at C52 HAK HTA HINJ HPM h300
  obtain ⟨w1, hw1⟩ : ∃ w1, w.alloc (.cells #[.slice A n c, .bool a.root.cell, .int .i64 a.root.n, .bool a.jumps] 26) = w1 := ⟨_, rfl⟩
  have hb : Below w.heap.size w w1 := by rw [← hw1]; exact (Below.refl _ w).alloc (Nat.le_refl _) _
  have x0 : BoxA w1 w.heap.size (.slice A n c) a.root a.jumps := by rw [← hw1]; exact World.alloc_heap_new w _
  have HB := Lib.hid hb
  have HX0 := Lib.hid x0
  obtain ⟨c0, c1, c2, c3⟩ := boxA_4 x0
  unfold arV at CS C52 C19 C30 C36 ⊢
  clear hb x0 hv hn hl h HV h12 h8 h1000 hbig hth hck
  have H300 := Lib.hid h300
  clear h300
  go_enter Tryz.func12, Tryz.ntmps12
  go_wp2_with (first
    | (go_at_call 51; refine (CS.out _ HB.out).mono ?_; rintro e w2 ⟨rfl, hb2⟩; obtain ⟨q0, q1, q2, q3⟩ := boxA_4 ((hb2.block _ HX0.out.lt).trans HX0.out); have HB2 := Lib.hid (HB.out.trans (hb2.mono HB.out.size)); have HX2 : Hid (BoxA w2 w.heap.size (.slice A n c) a.root a.jumps) := Lib.hid ((hb2.block _ HX0.out.lt).trans HX0.out))
    | (go_at_call 52; refine (C52.out _ HB2.out).mono ?_; rintro e w3 ⟨B, cb, rfl, hin, hb3⟩; have HB3 := Lib.hid (HB2.out.trans (hb3.mono HB2.out.size)); have HX3 : Hid (BoxA w3 w.heap.size (.slice A n c) a.root a.jumps) := Lib.hid ((hb3.block _ HX2.out.lt).trans HX2.out); obtain ⟨w4, hmk, hbo4, hb4⟩ := mk_bools w3 l.length H300.out; have HBO4 := Lib.hid hbo4; have HB34 := Lib.hid hb4; clear hbo4 hb4))
  --S1
  have hA : _ := hin.out
  obtain ⟨B', c', he, hA⟩ := hA
  cases he
  have HA := Lib.hid hA
  have HX3L := Lib.hid HX3.out.lt
  obtain ⟨g, hg⟩ : ∃ g, w3.heap.size = g := ⟨_, rfl⟩
  obtain ⟨r0, r1, r2, r3⟩ := boxA_4 HX3.out
  clear hA q0 q1 q2 q3 c0 c1 c2 c3 hmk
  have HG := Lib.hid hg
  rw [hg] at HBO4 HB34 HX3L ⊢
  clear hg
  go_loopw [6, 7, 8, 9, 10] (fun k _ _ _ _ wr => ∃ (j : Nat) (t : List Bool), k = .int .i64 (j : Int) ∧ j ≤ l.length ∧ Hid (ToldTo a l j t) ∧ Hid (BoolsAt wr g t) ∧ Hid (Below g w3 wr)) (fun k _ _ _ _ _ => l.length + 1 - (intOf k).toNat)
  case atStart => exact ⟨0, _, rfl, Nat.zero_le _, Lib.hid (told_start a l), HBO4, HB34⟩
  case round =>
    obtain ⟨j, t, rfl, hj, HT, HBO, hB⟩ := hrel
    have HGW : Hid (g < wr.heap.size) := Lib.hid (bools_lt HBO.out)
    have HBW : Hid (Below w.heap.size w wr) := Lib.hid (HB3.out.trans (hB.out.mono (by have := HX3L.out; omega)))
    by_cases hlt : j < l.length
    · have h300 := H300.out
      have hle : (j : Int) < (l.length : Int) := by omega
      have k0 : (0 : Int) ≤ (j : Int) := by omega
      obtain ⟨y, hy⟩ : ∃ y, l[j]? = some y := ⟨_, List.getElem?_eq_getElem (by omega)⟩
      have hak := HAK.out y (List.mem_of_getElem? hy)
      have HY := Lib.hid hy
      obtain ⟨b, off, rfl, hbn, hc⟩ := HA.out j y hy
      have e0 := hc 0 _ rfl
      have e1 := hc 1 _ rfl
      have e2 := hc 2 _ rfl
      have e3 := hc 3 _ rfl
      simp only [Nat.add_zero] at e0
      have HBN : Hid (b < g) := Lib.hid (by have := HG.out; omega)
      have HBN2 : Hid (b < wr.heap.size) := Lib.hid (by have h1 := HBN.out; have h2 := HGW.out; omega)
      have HXL : Hid (w.heap.size < wr.heap.size) := Lib.hid (by have h1 := HX3L.out; have h2 := HGW.out; omega)
      have HTL : Hid (j < t.length) := Lib.hid (by rw [HT.out.1]; exact hlt)
      have q0 := (hB.out.cell (p := ⟨w.heap.size, 0, none⟩) HX3L.out).trans r0
      have q1 := (hB.out.cell (p := ⟨w.heap.size, 1, none⟩) HX3L.out).trans r1
      have q2 := (hB.out.cell (p := ⟨w.heap.size, 2, none⟩) HX3L.out).trans r2
      have q3 := (hB.out.cell (p := ⟨w.heap.size, 3, none⟩) HX3L.out).trans r3
      have m0 := (hB.out.cell (p := ⟨b, off + j * 4, none⟩) HBN.out).trans e0
      have m1 := (hB.out.cell (p := ⟨b, off + j * 4 + 1, none⟩) HBN.out).trans e1
      have m2 := (hB.out.cell (p := ⟨b, off + j * 4 + 2, none⟩) HBN.out).trans e2
      have m3 := (hB.out.cell (p := ⟨b, off + j * 4 + 3, none⟩) HBN.out).trans e3
      rcases hak with ⟨hk3, hans⟩ | ⟨hk3, la, hans, h65, hall⟩
      · have HST := Lib.hid (told_skip HT.out hy hk3)
        have CA := Lib.hid (C30.out y _ _ hans)
        obtain ⟨yi, ya, yk, yn⟩ := y
        unfold mvV at CA
        dsimp only at m0 m1 m2 m3 CA hk3
        subst hk3
        clear hy hc hans hbn e0 e1 e2 e3
        go_wp2
        have h1 : Below wr.heap.size wr wr.drew := (Below.refl _ wr).drew
        go_region_held3 (fun W => W.cell? ⟨w.heap.size, 0, none⟩ = some (.slice A n c) ∧ W.cell? ⟨w.heap.size, 1, none⟩ = some (.bool a.root.cell) ∧ W.cell? ⟨w.heap.size, 2, none⟩ = some (.int .i64 a.root.n) ∧ W.cell? ⟨w.heap.size, 3, none⟩ = some (.bool a.jumps) ∧ W.cell? ⟨b, off + j * 4, none⟩ = some (.int .i64 yi) ∧ W.cell? ⟨b, off + j * 4 + 1, none⟩ = some (.int .i64 ya) ∧ W.cell? ⟨b, off + j * 4 + 2, none⟩ = some (.int .u8 3) ∧ W.cell? ⟨b, off + j * 4 + 3, none⟩ = some (.int .i64 yn))
          (first
            | go_keep
            | (go_split_ands
               refine ⟨?_, ?_, ?_, ?_, ?_, ?_, ?_, ?_⟩ <;> (first
                 | assumption
                 | (refine (h1.cell (by have := HXL.out; simp; omega)).trans ?_; assumption)
                 | (refine (h1.cell (by have := HBN2.out; simp; omega)).trans ?_; assumption)))
            | (trace_state; fail))
          (first
          | (go_at_call 19; refine (C19.out _ (HBW.out.trans (h1.mono HBW.out.size))).mono ?_; rintro e W ⟨A', c', rfl, ht, hb⟩; have h1 : Below wr.heap.size wr W := h1.trans (hb.mono h1.size))
          | (go_at_call 30; refine (CA.out _ _ _ ht.out).mono ?_; rintro e W5 ⟨B5, c5, rfl, hka, hkb, hb⟩; have HW1 := Lib.hid h1.size; have h1 : Below wr.heap.size wr W5 := h1.trans (hb.mono h1.size)))
        rename_i hheld
        obtain ⟨z0, z1, z2, z3, z4, z5, z6, z7⟩ := hheld
        go_wp2
        go_roundw
        case rel => exact ⟨j + 1, t, by simp, by omega, HST, Lib.hid (bools_below HBO.out h1), Lib.hid (hB.out.trans (h1.mono (by have := HGW.out; omega)))⟩
        case measure => simp [intOf]; omega
      --S2
      · have HTI := Lib.hid (told_in (la := la) HT.out hlt)
        have HOUT : Hid (∀ t, ToldIn a l j la la.length t → ToldTo a l (j + 1) t) := Lib.hid fun t ht => told_out HINJ.out ht hy hans
        have CA := Lib.hid (C30.out y _ _ hans)
        have HALL := Lib.hid hall
        have H65 := Lib.hid h65
        obtain ⟨yi, ya, yk, yn⟩ := y
        unfold mvV at CA
        dsimp only at m0 m1 m2 m3 e0 e1 e2 e3 CA HALL
        have HE := Lib.hid (And.intro e0 (And.intro e1 (And.intro e2 e3)))
        clear hy hc hans hbn e0 e1 e2 e3 hall h65 hk3
        go_wp2
        have h1 : Below wr.heap.size wr wr.drew := (Below.refl _ wr).drew
        go_region_held3 (fun W => W.cell? ⟨w.heap.size, 0, none⟩ = some (.slice A n c) ∧ W.cell? ⟨w.heap.size, 1, none⟩ = some (.bool a.root.cell) ∧ W.cell? ⟨w.heap.size, 2, none⟩ = some (.int .i64 a.root.n) ∧ W.cell? ⟨w.heap.size, 3, none⟩ = some (.bool a.jumps) ∧ W.cell? ⟨b, off + j * 4, none⟩ = some (.int .i64 yi) ∧ W.cell? ⟨b, off + j * 4 + 1, none⟩ = some (.int .i64 ya) ∧ W.cell? ⟨b, off + j * 4 + 2, none⟩ = some (.int .u8 yk) ∧ W.cell? ⟨b, off + j * 4 + 3, none⟩ = some (.int .i64 yn))
          (first
            | go_keep
            | (go_split_ands
               refine ⟨?_, ?_, ?_, ?_, ?_, ?_, ?_, ?_⟩ <;> (first
                 | assumption
                 | (refine (h1.cell (by have := HXL.out; simp; omega)).trans ?_; assumption)
                 | (refine (h1.cell (by have := HBN2.out; simp; omega)).trans ?_; assumption)))
            | (trace_state; fail))
          (first
          | (go_at_call 19; refine (C19.out _ (HBW.out.trans (h1.mono HBW.out.size))).mono ?_; rintro e W ⟨A', c', rfl, ht, hb⟩; have h1 : Below wr.heap.size wr W := h1.trans (hb.mono h1.size))
          | (go_at_call 30; refine (CA.out _ _ _ ht.out).mono ?_; rintro e W5 ⟨B5, c5, rfl, hka, hkb, hb⟩; have HW1 := Lib.hid h1.size; have h1 : Below wr.heap.size wr W5 := h1.trans (hb.mono h1.size)))
        rename_i hheld
        obtain ⟨z0, z1, z2, z3, z4, z5, z6, z7⟩ := hheld
        have hg3 : ¬ ((300 : Int) < (la.length : Int)) := by have := H65.out; omega
        obtain ⟨bv, w6, s0, f0, st, hbo6, ho6⟩ := bools_store (bools_below HBO.out h1) HTL.out
        have HBO6 := Lib.hid hbo6
        have HB6 : Hid (Below g w3 w6) := Lib.hid ((hB.out.trans (h1.mono (by have := HGW.out; omega))).trans (ho6.below g (by have h2 := HGW.out; have h3 := h1.size; omega) (fun k hk he => by omega)))
        have HLA : Hid (MvIn W5 W5.heap.size (.slice B5 la.length c5) la) := hka
        have HO6 := Lib.hid ho6
        have HNG : Hid (∀ b off, B5 = some ⟨b, off, none⟩ → g < b) := Lib.hid fun b off e => by have h1 := hkb.out b off e; have h2 := HW1.out; have h3 := HGW.out; omega
        clear hbo6 ho6 h1 hkb
        go_wp2
        --S3
        obtain ⟨B6, c6, he, hA6⟩ := HLA.out
        cases he
        have HA6 := Lib.hid hA6
        clear hA6 z0 z1 z2 z3 z4 z5 z6 z7 s0 f0 st
        have HGN : Hid (g < w6.heap.size) := Lib.hid (bools_lt HBO6.out)
        go_loopw [9, 10] (fun k _ wi => ∃ (q : Nat) (t : List Bool), k = .int .i64 (q : Int) ∧ q ≤ la.length ∧ Hid (ToldIn a l j la q t) ∧ Hid (BoolsAt wi g t) ∧ Hid (Only (fun k => k = g) w6 wi)) (fun k _ _ => la.length + 1 - (intOf k).toNat)
        case atStart => exact ⟨0, _, rfl, Nat.zero_le _, HTI, HBO6, Lib.hid (Only.refl _ _)⟩
        case round =>
          obtain ⟨q, tq, rfl, hq, HTQ, HBQ, HOQ⟩ := hrel
          have HBQ3 : Hid (Below g w3 wr) := Lib.hid (HB6.out.trans (HOQ.out.below g (by have := HGN.out; omega) (fun k hk he => by omega)))
          by_cases hlq : q < la.length
          · have hleq : (q : Int) < (la.length : Int) := by omega
            have kq0 : (0 : Int) ≤ (q : Int) := by omega
            obtain ⟨x, hx⟩ : ∃ x, la[q]? = some x := ⟨_, List.getElem?_eq_getElem hlq⟩
            obtain ⟨hxl, hxi, hxa, hxk⟩ := HALL.out x (List.mem_of_getElem? hx)
            obtain ⟨b2, off2, rfl, hbn2, hc2⟩ := HA6.out q x hx
            have HNX : Hid (∀ p : Nat, l[p]? = some x → ToldIn a l j la (q + 1) (tq.set p true)) := Lib.hid fun p hp => told_next HINJ.out HTQ.out hx hp
            have HPL : Hid (∀ p : Nat, l[p]? = some x → p < tq.length) := Lib.hid fun p hp => by rw [HTQ.out.1.1]; exact (List.getElem?_eq_some_iff.1 hp).1
            have DX : Hid (∀ W, Below g w3 W → Calls Tryz.prog 54 #[.slice (some ⟨b, off, none⟩) l.length cb, mvV x] W fun e w' => ∃ p : Nat, e = .returned (.int .i64 (p : Int)) ∧ Hid (l[p]? = some x) ∧ Below W.heap.size W w') := Lib.hid fun W hW => by
              refine (find54_any _ l x W (by have := H300.out; omega) (hin.out.later (by rw [HG.out]; exact hW))).mono ?_
              rintro e w' ⟨r, rfl, hr, hb⟩
              rcases hr with ⟨_, h⟩ | ⟨p, rfl, hp⟩
              · exact absurd hxl h
              · exact ⟨p, rfl, Lib.hid hp, hb⟩
            have HGB : Hid (g < b2) := Lib.hid (HNG.out _ _ rfl)
            have HB2 : Hid (b2 < w6.heap.size) := Lib.hid (Nat.lt_of_lt_of_le hbn2 HO6.out.size)
            have hcx : ∀ i u, (x.cells4)[i]? = some u → wr.cell? ⟨b2, off2 + q * 4 + i, none⟩ = some u := fun i u hu => by
              have hne : b2 ≠ g := by have := HGB.out; omega
              exact (HOQ.out.cell (p := ⟨b2, off2 + q * 4 + i, none⟩) HB2.out hne).trans ((HO6.out.cell (p := ⟨b2, off2 + q * 4 + i, none⟩) hbn2 hne).trans (hc2 i u hu))
            have f0 := hcx 0 _ rfl
            have f1 := hcx 1 _ rfl
            have f2 := hcx 2 _ rfl
            have f3 := hcx 3 _ rfl
            simp only [Nat.add_zero] at f0
            have HB2W : Hid (b2 < wr.heap.size) := Lib.hid (Nat.lt_of_lt_of_le HB2.out HOQ.out.size)
            have HBW2 : Hid (b < wr.heap.size) := Lib.hid (by have h1 := HBN.out; have h2 := bools_lt HBQ.out; omega)
            have HE2 := HE.out
            have d0 := (HBQ3.out.cell (p := ⟨b, off + j * 4, none⟩) HBN.out).trans HE2.1
            have d1 := (HBQ3.out.cell (p := ⟨b, off + j * 4 + 1, none⟩) HBN.out).trans HE2.2.1
            obtain ⟨xi, xa, xk, xn⟩ := x
            unfold mvV at DX
            dsimp only at f0 f1 f2 f3 hxi hxa hxk DX
            subst hxi hxa hxk
            clear hx hbn2 hc2 hcx hxl HE2
            have n1 : (xi != xi) = false := by simp
            have n2 : (xa != xa) = false := by simp
            go_wp2_with (go_at_call 54; go_loud (refine (DX.out _ HBQ3.out).mono ?_; rintro e w8 ⟨p, rfl, hp, hb8⟩; have hr0 : decide ((p : Int) < 0) = false := (decide_eq_false (by omega)); have g0 := (hb8.cell (p := ⟨b2, off2 + q * 4, none⟩) HB2W.out).trans f0; have g1 := (hb8.cell (p := ⟨b2, off2 + q * 4 + 1, none⟩) HB2W.out).trans f1; have g2 := (hb8.cell (p := ⟨b2, off2 + q * 4 + 2, none⟩) HB2W.out).trans f2; have l0 := (hb8.cell (p := ⟨b, off + j * 4, none⟩) HBW2.out).trans d0; have l1 := (hb8.cell (p := ⟨b, off + j * 4 + 1, none⟩) HBW2.out).trans d1))
            --S5
            go_quiet (fail)
            have HP := hp
            have hpl : p < l.length := (List.getElem?_eq_some_iff.1 hp.out).1
            have hpi : (p : Int) < (l.length : Int) := by omega
            have h8 := below_drN hb8 nq
            obtain ⟨bq, w9, s0, f0', st, hbo9, ho9⟩ := bools_store (bools_below HBQ.out h8) (HPL.out p hp.out)
            go_wp2
            go_roundw
            case rel => exact ⟨q + 1, _, by simp, by omega, Lib.hid (HNX.out p HP.out), Lib.hid hbo9, Lib.hid ((HOQ.out.trans (Only.of_below (S := fun k => k = g) h8) (fun _ _ h => h)).trans ho9 (fun _ _ h => h))⟩
            case measure => simp [intOf]; omega
          · obtain rfl : q = la.length := by omega
            have HTO := Lib.hid (HOUT.out _ HTQ.out)
            go_wp2
            go_roundw
            case rel => exact ⟨j + 1, tq, by simp, by omega, HTO, HBQ, HBQ3⟩
            case measure => simp [intOf]; omega
    · obtain rfl : j = l.length := by omega
      have HTALL := Lib.hid (HTA.out t HT.out)
      have h300 := H300.out
      go_wp2
      go_loopw [11] (fun k wi => ∃ (q : Nat), k = .int .i64 (q : Int) ∧ q ≤ l.length ∧ Hid (Below wr.heap.size wr wi)) (fun k _ => l.length + 1 - (intOf k).toNat)
      case atStart => exact ⟨0, rfl, Nat.zero_le _, Lib.hid (Below.refl _ _)⟩
      case round =>
        obtain ⟨q, rfl, hq, hBq⟩ := hrel
        by_cases hlq : q < l.length
        · have hle : (q : Int) < (l.length : Int) := by omega
          have k0 : (0 : Int) ≤ (q : Int) := by omega
          have hcell := bools_cell (bools_below HBO.out hBq.out) (HTALL.out q hlq)
          go_wp2
          go_roundw
          case rel => exact ⟨q + 1, by simp, by omega, hBq⟩
          case measure => simp [intOf]; omega
        · obtain rfl : q = l.length := by omega
          have HB5 : Hid (Below g w3 wr) := Lib.hid (hB.out.trans (hBq.out.mono (by have := HGW.out; omega)))
          --S6
          go_wp2
          go_loopw [12, 13, 14, 15] (fun k _ _ _ wi => ∃ (i : Nat), k = .int .i64 (i : Int) ∧ i ≤ n + 1 ∧ Hid (Below g w3 wi)) (fun k _ _ _ _ => n + 2 - (intOf k).toNat)
          case atStart => exact ⟨0, rfl, Nat.zero_le _, HB5⟩
          case round =>
            obtain ⟨i, rfl, hi, hBi⟩ := hrel
            have q0 := (hBi.out.cell (p := ⟨w.heap.size, 0, none⟩) HX3L.out).trans r0
            by_cases hin2 : i ≤ n
            · have hle : (i : Int) ≤ (n : Int) := by omega
              go_wp2
              go_loopw [13, 14, 15] (fun k _ _ wi => ∃ (j : Nat), k = .int .i64 (j : Int) ∧ j ≤ 6 ∧ Hid (Below g w3 wi)) (fun k _ _ _ => 7 - (intOf k).toNat)
              case atStart => exact ⟨0, rfl, by omega, hBi⟩
              case round =>
                obtain ⟨j, rfl, hj, hBj⟩ := hrel
                have q0 := (hBj.out.cell (p := ⟨w.heap.size, 0, none⟩) HX3L.out).trans r0
                have q1 := (hBj.out.cell (p := ⟨w.heap.size, 1, none⟩) HX3L.out).trans r1
                have q2 := (hBj.out.cell (p := ⟨w.heap.size, 2, none⟩) HX3L.out).trans r2
                have q3 := (hBj.out.cell (p := ⟨w.heap.size, 3, none⟩) HX3L.out).trans r3
                have HBWj : Hid (Below w.heap.size w wr) := Lib.hid (HB3.out.trans (hBj.out.mono (by have := HX3L.out; omega)))
                have HGj : Hid (g ≤ wr.heap.size) := Lib.hid (by have h1 := hBj.out.size; have h2 := HG.out; omega)
                by_cases hlj : j ≤ 5
                · have hle5 : (j : Int) ≤ 5 := by omega
                  have cp := C36.out (i : Int) (j : Int)
                  rcases HPM.out i j with hF | ⟨bb, hF, hm1, hm3, hm2⟩
                  · rw [hF] at cp
                    unfold bsV zeroBs at cp
                    dsimp only at cp
                    have CP := Lib.hid cp
                    have he7 : ((7 : Int) == 0) = false := by decide
                    clear cp hF
                    go_wp2_with (first
                      | (go_at_call 19; refine (C19.out _ HBWj.out).mono ?_; rintro e W6 ⟨A', c', rfl, ht, hb6⟩)
                      | (go_at_call 36; go_loud (refine (CP.out _ _ _ ht.out).mono ?_; rintro e W7 ⟨rfl, hb7⟩; obtain ⟨y1, y2, e1, e2, s0, f0, s1, f1, hy, ho⟩ := chain24 (show BoxB (W7.alloc (.cells #[.bool false, .int .i64 0] 24)) W7.heap.size zeroBs from World.alloc_heap_new W7 _) zeroBs; unfold zeroBs at e1 e2 s0 s1; dsimp only at e1 e2 s0 s1)))
                    have hf := hb6.trans (hb7.mono hb6.size)
                    have hf2 : Below wr.heap.size wr y2 := (hf.trans ((Below.refl _ W7).alloc hf.size _)).trans (ho.below _ (by have := hf.size; simp; omega) (fun k hk h => by have := hf.size; omega))
                    --S7
                    go_quiet (fail)
                    go_wp2
                    go_roundw
                    case rel => exact ⟨j + 1, by simp, by omega, Lib.hid (hBj.out.trans ((below_drN hf2 _).mono HGj.out))⟩
                    case measure => simp [intOf]; omega
                  · rw [hF] at cp
                    unfold bsV at cp
                    dsimp only at cp
                    have CP := Lib.hid cp
                    have he0 : ((0 : Int) == 0) = true := by decide
                    have D1 : Hid (∀ (k : Int), (⟨i, j, k, 0⟩ : Mv) ∈ l → ∀ W, Below g w3 W → Calls Tryz.prog 54 #[.slice B l.length cb, .agg #[.int .i64 (i : Int), .int .i64 (j : Int), .int .u8 k, .int .i64 0]] W fun e w' => ∃ p : Nat, e = .returned (.int .i64 (p : Int)) ∧ Below W.heap.size W w') := Lib.hid fun k hk W hW => by
                      refine (find54_any _ l ⟨i, j, k, 0⟩ W (by omega) (hin.out.later (by rw [HG.out]; exact hW))).mono ?_
                      rintro e w' ⟨r, rfl, hr, hb⟩
                      rcases hr with ⟨_, h⟩ | ⟨p, rfl, hp⟩
                      · exact absurd hk h
                      · exact ⟨p, rfl, hb⟩
                    have E1 := Lib.hid (D1.out 1 hm1)
                    have E3 := Lib.hid (D1.out 3 hm3)
                    have E2 : Hid (∀ W, Below g w3 W → Calls Tryz.prog 54 #[.slice B l.length cb, .agg #[.int .i64 (i : Int), .int .i64 (j : Int), .int .u8 2, .int .i64 0]] W fun e w' => ∃ r : Int, e = .returned (.int .i64 r) ∧ decide (0 ≤ r) = bb.cell ∧ Below W.heap.size W w') := Lib.hid fun W hW => by
                      refine (find54_any _ l ⟨i, j, 2, 0⟩ W (by omega) (hin.out.later (by rw [HG.out]; exact hW))).mono ?_
                      rintro e w' ⟨r, rfl, hr, hb⟩
                      refine ⟨r, rfl, ?_, hb⟩
                      rcases hr with ⟨rfl, h⟩ | ⟨p, rfl, hp⟩
                      · cases hc : bb.cell with
                        | false => rfl
                        | true => exact absurd (hm2.2 hc) h
                      · rw [hm2.1 (List.mem_of_getElem? hp)]
                        simp
                    obtain ⟨bc, bn⟩ := bb
                    dsimp only at CP E2
                    clear cp hF hm1 hm2 hm3 D1
                    go_wp2_with (first
                      | (go_at_call 19; refine (C19.out _ HBWj.out).mono ?_; rintro e W6 ⟨A', c', rfl, ht, hb6⟩)
                      | (go_at_call 36; go_loud (refine (CP.out _ _ _ ht.out).mono ?_; rintro e W7 ⟨rfl, hb7⟩; obtain ⟨y1, y2, e1, e2, s0, f0, s1, f1, hy, ho⟩ := chain24 (show BoxB (W7.alloc (.cells #[.bool false, .int .i64 0] 24)) W7.heap.size zeroBs from World.alloc_heap_new W7 _) ⟨bc, bn⟩; unfold zeroBs at s0 s1; dsimp only at e1 e2 s0 s1)))
                    have hf := hb6.trans (hb7.mono hb6.size)
                    have hf2 : Below wr.heap.size wr y2 := (hf.trans ((Below.refl _ W7).alloc hf.size _)).trans (ho.below _ (by have := hf.size; simp; omega) (fun k hk h => by have := hf.size; omega))
                    have HF2 := Lib.hid (hBj.out.trans (hf2.mono HGj.out))
                    have c0 := cell_of_row y2 _ 0 _ 24 (0, 0) hy
                    have HYL := Lib.hid hy.lt
                    have h1 : Below y2.heap.size y2 y2.drew := (Below.refl _ y2).drew
                    clear s0 f0 s1 f1 e1 e2 ho hy hf hf2
                    --S8
                    go_region_held3 (fun W => W.cell? ⟨W7.heap.size, 0, none⟩ = some (.bool bc))
                      (first
                        | go_keep
                        | (refine (h1.cell HYL.out).trans ?_; assumption)
                        | (trace_state; fail))
                      ((go_at_call 54; first
                        | ((with_reducible refine (E1.out _ (HF2.out.trans (h1.mono (by have h1 := HF2.out.size; have h2 := HG.out; omega)))).mono ?_); rintro e w8 ⟨p, rfl, hb⟩; have h1 : Below y2.heap.size y2 w8 := h1.trans (hb.mono h1.size); have hr1 : decide ((p : Int) < 0) = false := (decide_eq_false (by omega)))
                        | ((with_reducible refine (E3.out _ (HF2.out.trans (h1.mono (by have h1 := HF2.out.size; have h2 := HG.out; omega)))).mono ?_); rintro e w8 ⟨p, rfl, hb⟩; have h1 : Below y2.heap.size y2 w8 := h1.trans (hb.mono h1.size); have hr1 : decide ((p : Int) < 0) = false := (decide_eq_false (by omega)))
                        | ((with_reducible refine (E2.out _ (HF2.out.trans (h1.mono (by have h1 := HF2.out.size; have h2 := HG.out; omega)))).mono ?_); rintro e w8 ⟨r, rfl, hr, hb⟩; have h1 : Below y2.heap.size y2 w8 := h1.trans (hb.mono h1.size))))
                    go_wp2
                    go_roundw
                    case rel => exact ⟨j + 1, by simp, by omega, Lib.hid (HF2.out.trans (h1.mono (by have h1 := HF2.out.size; have h2 := HG.out; omega)))⟩
                    case measure => simp [intOf]; omega
                · obtain rfl : j = 6 := by omega
                  have hle5 : ¬ (((6 : Nat) : Int) ≤ 5) := by omega
                  go_wp2
                  go_roundw
                  case rel => exact ⟨i + 1, by simp, by omega, hBj⟩
                  case measure => simp [intOf]; omega
            · obtain rfl : i = n + 1 := by omega
              have hle : ¬ (((n + 1 : Nat) : Int) ≤ (n : Int)) := by omega
              go_wp2_with (go_at_call 18; refine (awake_any _ (HLD.out.later (HB3.out.trans (hBi.out.mono (by have := HX3L.out; omega))))).mono ?_; rintro e w9 ⟨rfl, hb9⟩)
              go_ret
              exact ⟨rfl, HB3.out.trans ((hBi.out.mono (by have := HX3L.out; omega)).trans (hb9.mono (by have h1 := HX3L.out; have h2 := hBi.out.size; have h3 := HG.out; omega)))⟩

theorem law12_any (v : Value) (a : Ar) (w : World) (h : Laid w) (hv : TyIn w w.heap.size v a.ids) :
    Calls Tryz.prog 12 #[arV v a.root a.jumps] w fun e w' => e = .returned (.bool true) ∧ Below w.heap.size w w' := by
  cases hth : thinB a with
  | false => exact law12_big v a w h hv fun W hW => small_thick v a W hth (tyIn_later hv hW)
  | true =>
    obtain ⟨h12, h8⟩ := thin_len hth
    cases hsm : smallB a with
    | false =>
      refine law12_big v a w h hv fun W hW => ?_
      have := small_any v a W (by omega) (fun t ht => by have := h8 t ht; omega) hth (tyIn_later hv hW)
      rwa [hsm] at this
    | true =>
      unfold smallB at hsm
      simp only [Bool.and_eq_true, decide_eq_true_eq] at hsm
      exact law12_small v a w h hv hth hsm.1.2 hsm.2
end Go.Proofs.YtklfojmflmablaaGreatDoor
