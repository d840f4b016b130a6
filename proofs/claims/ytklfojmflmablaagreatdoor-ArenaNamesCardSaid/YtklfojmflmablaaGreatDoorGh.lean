/- The answers. -/
import Derived.Test.YtklfojmflmablaaGreatDoorRfP
import Derived.Test.YtklfojmflmablaaGreatDoorIn
import Derived.Test.YtklfojmflmablaaGreatDoorWr
/- Package arena: Has. -/
namespace Go.Proofs.YtklfojmflmablaaGreatDoor
open Go Go.RowKit Go.Shelf

set_option maxRecDepth 100000 in
set_option maxHeartbeats 2000000 in
theorem rightHas_any (v : Value) (a : Ar) (m : Mv) (w : World) (hck : checkRes a = 0) (hv : TyIn w w.heap.size v a.ids) :
    Calls Tryz.prog 82 #[arV v a.root a.jumps, mvV m] w fun e w' => e = .returned (.bool (refHas a m)) ∧ Below w.heap.size w w' := by
  have HC := Lib.hid hck
  have HV := Lib.hid hv
  obtain ⟨A, c, rfl⟩ := tyIn_slice hv
  obtain ⟨w2, hw1⟩ : ∃ w1, (w.alloc (.cells #[.slice A a.ids.length c, .bool a.root.cell, .int .i64 a.root.n, .bool a.jumps] 105)).alloc (.cells #[.int .i64 m.id, .int .i64 m.arg, .int .u8 m.kind, .int .i64 m.n] 40) = w1 := ⟨_, rfl⟩
  have hb : Below w.heap.size w w2 := by rw [← hw1]; exact ((Below.refl _ w).alloc (Nat.le_refl _) _).alloc (by simp) _
  have x0 : w2.heap[w.heap.size]? = some (.cells #[.slice A a.ids.length c, .bool a.root.cell, .int .i64 a.root.n, .bool a.jumps] 105 (0, 0)) := by rw [← hw1]; exact (Below.heap_alloc _ _ _ (by simp)).trans (World.alloc_heap_new w _)
  have x1 : BoxM w2 (w.heap.size + 1) m := by
    rw [← hw1]; have := BoxM.new (w.alloc (.cells #[.slice A a.ids.length c, .bool a.root.cell, .int .i64 a.root.n, .bool a.jumps] 105)) m; rwa [World.size_alloc] at this
  have HB2 := Lib.hid hb
  have HX1 := Lib.hid x1
  have HLT : Hid (w.heap.size + 1 < w2.heap.size) := Lib.hid x1.lt
  have c0 := cell_of_row w2 _ 0 _ 105 (0, 0) x0
  have c1 := cell_of_row w2 _ 1 _ 105 (0, 0) x0
  have c2 := cell_of_row w2 _ 2 _ 105 (0, 0) x0
  have c3 := cell_of_row w2 _ 3 _ 105 (0, 0) x0
  have m0 := x1.c0
  have m1 := x1.c1
  simp at c0 c1 c2 c3
  have HS := Lib.hid (check_small HC.out).1
  have C88 : Hid (∀ W, Calls Tryz.prog 88 #[.int .i64 m.id, .int .i64 m.arg] W fun e w' => ∃ B C, e = .returned (.func (.func 161) #[] #[.pointer (some ⟨B, 0, none⟩), .pointer (some ⟨C, 0, none⟩)]) ∧ Boxed w' B 3 (.int .i64 m.id) ∧ Boxed w' C 3 (.int .i64 m.arg) ∧ Below W.heap.size W w') := Lib.hid fun W => by
    refine (at_any m.id m.arg W).mono ?_
    rintro e w' ⟨rfl, rfl⟩
    exact ⟨_, _, rfl, (Boxed.new W 3 _).alloc _, by have := Boxed.new (W.alloc (.cells #[.int .i64 m.id] 3)) 3 (.int .i64 m.arg); rwa [World.size_alloc] at this, ((Below.refl _ W).alloc (Nat.le_refl _) _).alloc (by simp) _⟩
  have C100 : Hid (∀ B C W, Boxed W B 3 (.int .i64 m.id) → Boxed W C 3 (.int .i64 m.arg) → Below w2.heap.size w2 W → Calls Tryz.prog 100 #[.agg #[.slice A a.ids.length c, .bool a.root.cell, .int .i64 a.root.n, .bool a.jumps], .func (.func 161) #[] #[.pointer (some ⟨B, 0, none⟩), .pointer (some ⟨C, 0, none⟩)]] W fun e w' =>
      e = .returned (.tuple #[plV (findRes (places a) (atB m.id m.arg)).1, .bool (findRes (places a) (atB m.id m.arg)).2]) ∧ Below W.heap.size W w') := Lib.hid fun B C W hB hC hW => by
    have hwW : Below w.heap.size w W := HB2.out.trans (hW.mono HB2.out.size)
    exact find_any (.slice A a.ids.length c) a _ _ W HS.out (tyIn_later HV.out hwW) ⟨161, _, rfl, enters_of Tryz.func161 (by kernel_rfl) rfl, fun W' hW' p =>
      at1_any p _ _ _ _ W' (cell_of_row W' _ 0 _ 3 (0, 0) ((hW' _ hB.lt).trans hB)) (cell_of_row W' _ 0 _ 3 (0, 0) ((hW' _ hC.lt).trans hC))⟩
  obtain ⟨⟨fp, fb⟩, hF⟩ : ∃ F, findRes (places a) (atB m.id m.arg) = F := ⟨_, rfl⟩
  rw [hF] at C100
  have HF := Lib.hid hF
  have HR : Hid (refHas a m = (whichPl a m).isSome) := Lib.hid (which_has a m).symm
  unfold plV at C100
  unfold arV
  obtain ⟨mi, ma, mk, mn⟩ := m
  unfold mvV
  dsimp only at hw1 m0 m1 HF HR C88 C100 ⊢
  clear hF hb hv hck x0 x1
  go_enter Tryz.func82, Tryz.ntmps82
  go_wp2
  go_region_held3 (fun W => W.cell? ⟨w.heap.size, 0, none⟩ = some (.slice A a.ids.length c) ∧ W.cell? ⟨w.heap.size, 1, none⟩ = some (.bool a.root.cell) ∧ W.cell? ⟨w.heap.size, 2, none⟩ = some (.int .i64 a.root.n) ∧ W.cell? ⟨w.heap.size, 3, none⟩ = some (.bool a.jumps) ∧
      W.cell? ⟨w.heap.size + 1, 0, none⟩ = some (.int .i64 mi) ∧ W.cell? ⟨w.heap.size + 1, 1, none⟩ = some (.int .i64 ma))
    (first
      | go_keep
      | (go_split_ands
         refine ⟨?_, ?_, ?_, ?_, ?_, ?_⟩ <;> (repeat' (first
           | assumption
           | refine cell_alloc_some _ ?_
           | refine cell_set_some _ (by have h1 := HLT.out; have h3 := hb4.size; dsimp only; simp at h3 ⊢; omega) ?_
           | refine (ho6.cell (by have h1 := HLT.out; have h3 := hb4.size; have h4 := hb5.size; simp at h3 h4 ⊢; omega) (by have h1 := HLT.out; have h3 := hb4.size; simp at h3 ⊢; omega)).trans ?_
           | refine (hb5.cell (by have h1 := HLT.out; have h3 := hb4.size; simp at h3 ⊢; omega)).trans ?_
           | refine (hb4.cell (by have h1 := HLT.out; simp; omega)).trans ?_)))
      | (trace_state; fail))
    (first
    | (go_at_call 88; refine (C88.out _).mono ?_; rintro e w4 ⟨B, C, rfl, hB4, hC4, hb4⟩)
    | (go_at_call 100; first | (refine (C100.out _ _ _ hB4 hC4 (((Below.refl _ w2).drew).trans hb4)).mono ?_; rintro e w5 ⟨rfl, hb5⟩) | (refine (C100.out _ _ _ (hB4.alloc _) (hC4.alloc _) ((((Below.refl _ w2).drew).trans hb4).alloc hb4.size _)).mono ?_; rintro e w5 ⟨rfl, hb5⟩; have z5 : BoxP w5 w4.heap.size zeroPl := (hb5.block _ (by simp)).trans (BoxP.new w4 zeroPl); obtain ⟨x1, x2, x3, x4, w6, e1, e2, e3, e4, e5, ⟨o0, s0⟩, f0, ⟨o1, s1⟩, f1, ⟨o2, s2⟩, f2, ⟨o3, s3⟩, f3, ⟨o4, s4⟩, f4, z6, ho6⟩ := chain111 z5 fp) | (refine (C100.out _ _ _ hB4 hC4 ((((Below.refl _ w2).drew).alloc (Nat.le_refl _) _).trans (hb4.mono (by simp)))).mono ?_; rintro e w5 ⟨rfl, hb5⟩; have z5 : BoxP w5 w2.heap.size zeroPl := (hb5.block _ (by have := hb4.size; simp at this; omega)).trans ((hb4.block _ (by simp)).trans (BoxP.new w2.drew zeroPl)); obtain ⟨x1, x2, x3, x4, w6, e1, e2, e3, e4, e5, ⟨o0, s0⟩, f0, ⟨o1, s1⟩, f1, ⟨o2, s2⟩, f2, ⟨o3, s3⟩, f3, ⟨o4, s4⟩, f4, z6, ho6⟩ := chain111 z5 fp)))
  · obtain ⟨W9, hW9⟩ : ∃ W9, w5.alloc (.cells #[.bool fp.b.cell, .int .i64 fp.b.n, .int .i64 fp.id, .int .i64 fp.arg, .bool fp.jumps] 111) = W9 := ⟨_, rfl⟩
    rw [hW9]
    have hb35 : Below w2.heap.size w2 w5 := (((Below.refl _ w2).drew).trans hb4).trans (hb5.mono hb4.size)
    have hb39 : Below w2.heap.size w2 W9 := by rw [← hW9]; exact hb35.alloc hb35.size _
    have z9 : BoxP W9 w5.heap.size fp := by rw [← hW9]; exact BoxP.new w5 fp
    have y9 : BoxM W9 (w.heap.size + 1) ⟨mi, ma, mk, mn⟩ := (hb39.block _ HLT.out).trans HX1.out
    have HB9 := Lib.hid (HB2.out.trans (hb39.mono HB2.out.size))
    clear hb4 hb5 hb39 hB4 hC4
    have p0 := z9.c0
    have p1 := z9.c1
    have p2 := z9.c2
    have p3 := z9.c3
    have p4 := z9.c4
    have n0 := y9.c0
    have n1 := y9.c1
    have n2 := y9.c2
    have n3 := y9.c3
    cases fb with
    | false =>
      have HW : Hid (refHas a ⟨mi, ma, mk, mn⟩ = false) := Lib.hid (by rw [HR.out, which_none1 (m := ⟨mi, ma, mk, mn⟩) HF.out]; rfl)
      clear z9 y9
      go_wp2
      go_ret
      exact ⟨by rw [HW.out]; rfl, HB9.out⟩
    | true =>
      have HN64 : Hid (fp.b.n ≤ 9223372036854775807) := Lib.hid (by have := places_ok HC.out (find_mem (m := ⟨mi, ma, mk, mn⟩) HF.out); omega)
      have C160 : Hid (∀ W, Calls Tryz.prog 160 #[plV fp, mvV ⟨mi, ma, mk, mn⟩] W fun e w' => e = .returned (.bool (hasMv fp ⟨mi, ma, mk, mn⟩)) ∧ Below W.heap.size W w') := Lib.hid fun W => has_any fp _ W HN64.out
      have HW : Hid (refHas a ⟨mi, ma, mk, mn⟩ = hasMv fp ⟨mi, ma, mk, mn⟩) := Lib.hid (by
        rw [HR.out]
        cases hh : hasMv fp ⟨mi, ma, mk, mn⟩ with
        | false => rw [which_none2 (m := ⟨mi, ma, mk, mn⟩) HF.out hh]; rfl
        | true => rw [which_some (m := ⟨mi, ma, mk, mn⟩) HF.out hh]; rfl)
      unfold plV mvV at C160
      dsimp only at C160
      clear z9 y9
      go_wp2_with (go_at_call 160; refine (C160.out _).mono ?_; rintro e w10 ⟨rfl, hb10⟩)
      go_ret
      exact ⟨by rw [HW.out]; rfl, HB9.out.trans (hb10.mono HB9.out.size)⟩
  · obtain ⟨W9, hW9⟩ : ∃ W9, w6 = W9 := ⟨_, rfl⟩
    rw [hW9] at z6 ho6 ⊢
    have hb34 : Below w2.heap.size w2 w4 := ((Below.refl _ w2).drew).trans hb4
    have hb35 : Below w2.heap.size w2 w5 := (hb34.alloc hb34.size _).trans (hb5.mono (by simp; have := hb34.size; omega))
    have hb39 : Below w2.heap.size w2 W9 := hb35.trans (ho6.below _ hb35.size (fun b hb h => by have := hb34.size; omega))
    have z9 : BoxP W9 w4.heap.size fp := z6
    clear s0 s1 s2 s3 s4 f0 f1 f2 f3 f4 e1 e2 e3 e4 e5 z6 ho6
    have y9 : BoxM W9 (w.heap.size + 1) ⟨mi, ma, mk, mn⟩ := (hb39.block _ HLT.out).trans HX1.out
    have HB9 := Lib.hid (HB2.out.trans (hb39.mono HB2.out.size))
    clear hb4 hb5 hb39 hB4 hC4
    have p0 := z9.c0
    have p1 := z9.c1
    have p2 := z9.c2
    have p3 := z9.c3
    have p4 := z9.c4
    have n0 := y9.c0
    have n1 := y9.c1
    have n2 := y9.c2
    have n3 := y9.c3
    cases fb with
    | false =>
      have HW : Hid (refHas a ⟨mi, ma, mk, mn⟩ = false) := Lib.hid (by rw [HR.out, which_none1 (m := ⟨mi, ma, mk, mn⟩) HF.out]; rfl)
      clear z9 y9
      go_wp2
      go_ret
      exact ⟨by rw [HW.out]; rfl, HB9.out⟩
    | true =>
      have HN64 : Hid (fp.b.n ≤ 9223372036854775807) := Lib.hid (by have := places_ok HC.out (find_mem (m := ⟨mi, ma, mk, mn⟩) HF.out); omega)
      have C160 : Hid (∀ W, Calls Tryz.prog 160 #[plV fp, mvV ⟨mi, ma, mk, mn⟩] W fun e w' => e = .returned (.bool (hasMv fp ⟨mi, ma, mk, mn⟩)) ∧ Below W.heap.size W w') := Lib.hid fun W => has_any fp _ W HN64.out
      have HW : Hid (refHas a ⟨mi, ma, mk, mn⟩ = hasMv fp ⟨mi, ma, mk, mn⟩) := Lib.hid (by
        rw [HR.out]
        cases hh : hasMv fp ⟨mi, ma, mk, mn⟩ with
        | false => rw [which_none2 (m := ⟨mi, ma, mk, mn⟩) HF.out hh]; rfl
        | true => rw [which_some (m := ⟨mi, ma, mk, mn⟩) HF.out hh]; rfl)
      unfold plV mvV at C160
      dsimp only at C160
      clear z9 y9
      go_wp2_with (go_at_call 160; refine (C160.out _).mono ?_; rintro e w10 ⟨rfl, hb10⟩)
      go_ret
      exact ⟨by rw [HW.out]; rfl, HB9.out.trans (hb10.mono HB9.out.size)⟩
  · obtain ⟨W9, hW9⟩ : ∃ W9, w6 = W9 := ⟨_, rfl⟩
    rw [hW9] at z6 ho6 ⊢
    have hb34 : Below w2.heap.size w2 w4 := (((Below.refl _ w2).drew).alloc (Nat.le_refl _) _).trans (hb4.mono (by simp))
    have hb35 : Below w2.heap.size w2 w5 := hb34.trans (hb5.mono hb34.size)
    have hb39 : Below w2.heap.size w2 W9 := hb35.trans (ho6.below _ hb35.size (fun b hb h => by omega))
    have z9 : BoxP W9 w2.heap.size fp := z6
    clear s0 s1 s2 s3 s4 f0 f1 f2 f3 f4 e1 e2 e3 e4 e5 z6 ho6
    have y9 : BoxM W9 (w.heap.size + 1) ⟨mi, ma, mk, mn⟩ := (hb39.block _ HLT.out).trans HX1.out
    have HB9 := Lib.hid (HB2.out.trans (hb39.mono HB2.out.size))
    clear hb4 hb5 hb39 hB4 hC4
    have p0 := z9.c0
    have p1 := z9.c1
    have p2 := z9.c2
    have p3 := z9.c3
    have p4 := z9.c4
    have n0 := y9.c0
    have n1 := y9.c1
    have n2 := y9.c2
    have n3 := y9.c3
    cases fb with
    | false =>
      have HW : Hid (refHas a ⟨mi, ma, mk, mn⟩ = false) := Lib.hid (by rw [HR.out, which_none1 (m := ⟨mi, ma, mk, mn⟩) HF.out]; rfl)
      clear z9 y9
      go_wp2
      go_ret
      exact ⟨by rw [HW.out]; rfl, HB9.out⟩
    | true =>
      have HN64 : Hid (fp.b.n ≤ 9223372036854775807) := Lib.hid (by have := places_ok HC.out (find_mem (m := ⟨mi, ma, mk, mn⟩) HF.out); omega)
      have C160 : Hid (∀ W, Calls Tryz.prog 160 #[plV fp, mvV ⟨mi, ma, mk, mn⟩] W fun e w' => e = .returned (.bool (hasMv fp ⟨mi, ma, mk, mn⟩)) ∧ Below W.heap.size W w') := Lib.hid fun W => has_any fp _ W HN64.out
      have HW : Hid (refHas a ⟨mi, ma, mk, mn⟩ = hasMv fp ⟨mi, ma, mk, mn⟩) := Lib.hid (by
        rw [HR.out]
        cases hh : hasMv fp ⟨mi, ma, mk, mn⟩ with
        | false => rw [which_none2 (m := ⟨mi, ma, mk, mn⟩) HF.out hh]; rfl
        | true => rw [which_some (m := ⟨mi, ma, mk, mn⟩) HF.out hh]; rfl)
      unfold plV mvV at C160
      dsimp only at C160
      clear z9 y9
      go_wp2_with (go_at_call 160; refine (C160.out _).mono ?_; rintro e w10 ⟨rfl, hb10⟩)
      go_ret
      exact ⟨by rw [HW.out]; rfl, HB9.out.trans (hb10.mono HB9.out.size)⟩

def hasRes (a : Ar) (m : Mv) : Bool × Int := if checkRes a ≠ 0 then (false, checkRes a) else (refHas a m, 0)
set_option maxRecDepth 100000 in
set_option maxHeartbeats 1000000 in
theorem arHas_any (v : Value) (a : Ar) (m : Mv) (w : World) (hl : a.ids.length ≤ 140737488355328) (hpl : ∀ t ∈ a.ids, t.params.length ≤ 140737488355328) (hv : TyIn w w.heap.size v a.ids) :
    Calls Tryz.prog 28 #[arV v a.root a.jumps, mvV m] w fun e w' => e = .returned (.tuple #[.bool (hasRes a m).1, .int .i64 (hasRes a m).2]) ∧ Below w.heap.size w w' := by
  have CC : Hid (∀ W, Below w.heap.size w W → Calls Tryz.prog 20 #[arV v a.root a.jumps] W fun e w' => e = .returned (.int .i64 (checkRes a)) ∧ Below W.heap.size W w') :=
    Lib.hid fun W hW => check_any v a W hl hpl (tyIn_later hv hW)
  have CH : Hid (checkRes a = 0 → ∀ W, Below w.heap.size w W → Calls Tryz.prog 82 #[arV v a.root a.jumps, mvV m] W fun e w' => e = .returned (.bool (refHas a m)) ∧ Below W.heap.size W w') :=
    Lib.hid fun hck W hW => rightHas_any v a m W hck (tyIn_later hv hW)
  obtain ⟨A, c, rfl⟩ := tyIn_slice hv
  obtain ⟨w1, hw1⟩ : ∃ w1, (w.alloc (.cells #[.slice A a.ids.length c, .bool a.root.cell, .int .i64 a.root.n, .bool a.jumps] 26)).alloc (.cells #[.int .i64 m.id, .int .i64 m.arg, .int .u8 m.kind, .int .i64 m.n] 40) = w1 := ⟨_, rfl⟩
  have hb : Below w.heap.size w w1 := by rw [← hw1]; exact ((Below.refl _ w).alloc (Nat.le_refl _) _).alloc (by simp) _
  have x0 : BoxA w1 w.heap.size (.slice A a.ids.length c) a.root a.jumps := by rw [← hw1]; exact (Below.heap_alloc _ _ _ (by simp)).trans (World.alloc_heap_new w _)
  have x1 : BoxM w1 (w.heap.size + 1) m := by
    rw [← hw1]; have := BoxM.new (w.alloc (.cells #[.slice A a.ids.length c, .bool a.root.cell, .int .i64 a.root.n, .bool a.jumps] 26)) m; rwa [World.size_alloc] at this
  have HB := Lib.hid hb
  have HX0 := Lib.hid x0
  have HX1 := Lib.hid x1
  have c0 := cell_of_row w1 _ 0 _ 26 (0, 0) x0
  have c1 := cell_of_row w1 _ 1 _ 26 (0, 0) x0
  have c2 := cell_of_row w1 _ 2 _ 26 (0, 0) x0
  have c3 := cell_of_row w1 _ 3 _ 26 (0, 0) x0
  unfold arV at CC CH ⊢
  unfold mvV at CH ⊢
  clear hb x0 x1 hv hpl
  by_cases hck : checkRes a = 0
  · have CH' := Lib.hid (CH.out hck)
    have HR : Hid (hasRes a m = (refHas a m, 0)) := Lib.hid (by unfold hasRes; rw [if_neg (by rw [hck]; simp)])
    rw [hck] at CC
    have hne : ((0 : Int) != 0) = false := rfl
    clear CH hck
    go_enter Tryz.func28, Tryz.ntmps28
    go_wp2_with (first
      | (go_at_call 20; refine (CC.out _ HB.out).mono ?_; rintro e w2 ⟨rfl, hb2⟩; have z0 : BoxA w2 _ _ _ _ := (hb2.block _ HX0.out.lt).trans HX0.out; have z1 : BoxM w2 _ _ := (hb2.block _ HX1.out.lt).trans HX1.out; have q0 := cell_of_row w2 _ 0 _ 26 (0, 0) z0; have q1 := cell_of_row w2 _ 1 _ 26 (0, 0) z0; have q2 := cell_of_row w2 _ 2 _ 26 (0, 0) z0; have q3 := cell_of_row w2 _ 3 _ 26 (0, 0) z0; have m0 := z1.c0; have m1 := z1.c1; have m2 := z1.c2; have m3 := z1.c3; have HB2 := Lib.hid (HB.out.trans (hb2.mono HB.out.size)); clear z0 z1 hb2)
      | (go_at_call 82; refine (CH'.out _ HB2.out).mono ?_; rintro e w3 ⟨rfl, hb3⟩))
    refine bodyPost_ret (results_tmp2 rfl _ _ _) rfl ?_
    rw [HR.out]
    exact ⟨rfl, HB2.out.trans (hb3.mono HB2.out.size)⟩
  · have HR : Hid (hasRes a m = (false, checkRes a)) := Lib.hid (by unfold hasRes; rw [if_pos hck])
    have hne : (checkRes a != 0) = true := by simpa using hck
    clear hck CH
    go_enter Tryz.func28, Tryz.ntmps28
    go_wp2_with (go_at_call 20; refine (CC.out _ HB.out).mono ?_; rintro e w2 ⟨rfl, hb2⟩)
    refine bodyPost_ret (results_tmp2 rfl _ _ _) rfl ?_
    rw [HR.out]
    exact ⟨rfl, HB.out.trans (hb2.mono HB.out.size)⟩
end Go.Proofs.YtklfojmflmablaaGreatDoor
/- Package arena: Answers. -/
namespace Go.Proofs.YtklfojmflmablaaGreatDoor
open Go Go.RowKit Go.Shelf

/-- What the document says of the answers of a question, or the error. -/
def ansRes (a : Ar) (m : Mv) : List Mv × Int := if checkRes a ≠ 0 then ([], checkRes a) else match whichPl a m with | none => ([], 7) | some p => answRes m p

set_option maxRecDepth 100000 in
set_option maxHeartbeats 1000000 in
theorem ansAsk_any (v : Value) (a : Ar) (m : Mv) (p : Pl) (B : Nat) (W : World) (hck : checkRes a = 0) (hk : m.kind = 1) (hm : BoxM W B m) (hv : TyIn W W.heap.size v a.ids) :
    Calls Tryz.prog 87 #[arV v a.root a.jumps, plV p, .pointer (some ⟨B, 0, none⟩)] W fun e W' => ∃ x, e = .returned (.tuple #[x, .int .i64 0]) ∧ OwnMv W' W.heap.size x (movesBy a (atB p.id p.arg) tellOf) ∧ Below W.heap.size W W' := by
  have HV := Lib.hid hv
  have HC := Lib.hid hck
  obtain ⟨A, c, rfl⟩ := tyIn_slice hv
  obtain ⟨w1, hw1⟩ : ∃ w1, (W.alloc (.cells #[.slice A a.ids.length c, .bool a.root.cell, .int .i64 a.root.n, .bool a.jumps] 105)).alloc (.cells #[.bool p.b.cell, .int .i64 p.b.n, .int .i64 p.id, .int .i64 p.arg, .bool p.jumps] 111) = w1 := ⟨_, rfl⟩
  have hb : Below W.heap.size W w1 := by rw [← hw1]; exact ((Below.refl _ W).alloc (Nat.le_refl _) _).alloc (by simp) _
  have x0 : w1.heap[W.heap.size]? = some (.cells #[.slice A a.ids.length c, .bool a.root.cell, .int .i64 a.root.n, .bool a.jumps] 105 (0, 0)) := by rw [← hw1]; exact (Below.heap_alloc _ _ _ (by simp)).trans (World.alloc_heap_new W _)
  have x1 : BoxP w1 (W.heap.size + 1) p := by
    rw [← hw1]; have := BoxP.new (W.alloc (.cells #[.slice A a.ids.length c, .bool a.root.cell, .int .i64 a.root.n, .bool a.jumps] 105)) p; rwa [World.size_alloc] at this
  have x2 : BoxM w1 B m := (hb.block _ hm.lt).trans hm
  have HB := Lib.hid hb
  have HX0 : Hid (W.heap.size < w1.heap.size) := Lib.hid (Array.getElem?_eq_some_iff.1 x0).1
  have c0 := cell_of_row w1 _ 0 _ 105 (0, 0) x0
  have c1 := cell_of_row w1 _ 1 _ 105 (0, 0) x0
  have c2 := cell_of_row w1 _ 2 _ 105 (0, 0) x0
  have c3 := cell_of_row w1 _ 3 _ 105 (0, 0) x0
  have p2 := x1.c2
  have p3 := x1.c3
  have m2 := x2.c2
  rw [hk] at m2
  have C88 : Hid (∀ W, Calls Tryz.prog 88 #[.int .i64 p.id, .int .i64 p.arg] W fun e w' => ∃ B C, e = .returned (.func (.func 161) #[] #[.pointer (some ⟨B, 0, none⟩), .pointer (some ⟨C, 0, none⟩)]) ∧ Boxed w' B 3 (.int .i64 p.id) ∧ Boxed w' C 3 (.int .i64 p.arg) ∧ Below W.heap.size W w') := Lib.hid fun W => by
    refine (at_any p.id p.arg W).mono ?_
    rintro e w' ⟨rfl, rfl⟩
    exact ⟨_, _, rfl, (Boxed.new W 3 _).alloc _, by have := Boxed.new (W.alloc (.cells #[.int .i64 p.id] 3)) 3 (.int .i64 p.arg); rwa [World.size_alloc] at this, ((Below.refl _ W).alloc (Nat.le_refl _) _).alloc (by simp) _⟩
  have C72 : Hid (∀ W2 B C, Below w1.heap.size w1 W2 → Boxed W2 B 3 (.int .i64 p.id) → Boxed W2 C 3 (.int .i64 p.arg) → Calls Tryz.prog 72 #[.agg #[.slice A a.ids.length c, .bool a.root.cell, .int .i64 a.root.n, .bool a.jumps], .func (.func 161) #[] #[.pointer (some ⟨B, 0, none⟩), .pointer (some ⟨C, 0, none⟩)], .func (.func 89) #[] #[]] W2 fun e w' =>
      ∃ v', e = .returned v' ∧ Below W2.heap.size W2 w' ∧ OwnMv w' W2.heap.size v' (movesBy a (atB p.id p.arg) tellOf)) := Lib.hid fun W2 B C h2 hB hC =>
    moves_any (.slice A a.ids.length c) a _ (atB p.id p.arg) _ tellOf W2 (check_small HC.out).1 (places_64 HC.out) (movesBy_tell HC.out) (tyIn_later HV.out (HB.out.trans (h2.mono HB.out.size))) ⟨161, _, rfl, enters_of Tryz.func161 (by kernel_rfl) rfl, fun W' hW' q =>
      at1_any q _ _ _ _ W' (cell_of_row W' _ 0 _ 3 (0, 0) ((hW' _ hB.lt).trans hB)) (cell_of_row W' _ 0 _ 3 (0, 0) ((hW' _ hC.lt).trans hC))⟩ told_some
  unfold plV
  unfold arV
  clear hb x0 x1 x2 hm hv hck hk
  go_enter Tryz.func87, Tryz.ntmps87
  go_wp2
  go_region_with (first
    | (go_at_call 88; refine (C88.out _).mono ?_; rintro e w2 ⟨B2, C2, rfl, hB2, hC2, hb2'⟩; have hb2 : Below w1.heap.size w1 w2 := ((Below.refl _ w1).drew).trans hb2'; have q0 := (hb2.cell (p := ⟨W.heap.size, 0, none⟩) HX0.out).trans c0; have q1 := (hb2.cell (p := ⟨W.heap.size, 1, none⟩) HX0.out).trans c1; have q2 := (hb2.cell (p := ⟨W.heap.size, 2, none⟩) HX0.out).trans c2; have q3 := (hb2.cell (p := ⟨W.heap.size, 3, none⟩) HX0.out).trans c3)
    | (go_at_call 72; refine (C72.out _ _ _ hb2 hB2 hC2).mono ?_; rintro e w3 ⟨v3, rfl, hb3, hown⟩))
  all_goals go_wp2
  all_goals refine bodyPost_ret (results_tmp2 rfl _ _ _) rfl ?_
  all_goals exact ⟨_, rfl, rowMv_less hown (Nat.le_trans HB.out.size hb2.size), HB.out.trans ((hb2.trans (hb3.mono hb2.size)).mono HB.out.size)⟩

set_option maxRecDepth 100000 in
set_option maxHeartbeats 1000000 in
theorem ansPut_any (v : Value) (a : Ar) (m : Mv) (p : Pl) (B : Nat) (W : World) (hck : checkRes a = 0) (hk : m.kind = 2) (hm : BoxM W B m) (hv : TyIn W W.heap.size v a.ids) :
    Calls Tryz.prog 87 #[arV v a.root a.jumps, plV p, .pointer (some ⟨B, 0, none⟩)] W fun e W' => ∃ x, e = .returned (.tuple #[x, .int .i64 0]) ∧ OwnMv W' W.heap.size x (movesBy a (atB p.id p.arg) doneOf) ∧ Below W.heap.size W W' := by
  have HV := Lib.hid hv
  have HC := Lib.hid hck
  obtain ⟨A, c, rfl⟩ := tyIn_slice hv
  obtain ⟨w1, hw1⟩ : ∃ w1, (W.alloc (.cells #[.slice A a.ids.length c, .bool a.root.cell, .int .i64 a.root.n, .bool a.jumps] 105)).alloc (.cells #[.bool p.b.cell, .int .i64 p.b.n, .int .i64 p.id, .int .i64 p.arg, .bool p.jumps] 111) = w1 := ⟨_, rfl⟩
  have hb : Below W.heap.size W w1 := by rw [← hw1]; exact ((Below.refl _ W).alloc (Nat.le_refl _) _).alloc (by simp) _
  have x0 : w1.heap[W.heap.size]? = some (.cells #[.slice A a.ids.length c, .bool a.root.cell, .int .i64 a.root.n, .bool a.jumps] 105 (0, 0)) := by rw [← hw1]; exact (Below.heap_alloc _ _ _ (by simp)).trans (World.alloc_heap_new W _)
  have x1 : BoxP w1 (W.heap.size + 1) p := by
    rw [← hw1]; have := BoxP.new (W.alloc (.cells #[.slice A a.ids.length c, .bool a.root.cell, .int .i64 a.root.n, .bool a.jumps] 105)) p; rwa [World.size_alloc] at this
  have x2 : BoxM w1 B m := (hb.block _ hm.lt).trans hm
  have HB := Lib.hid hb
  have HX0 : Hid (W.heap.size < w1.heap.size) := Lib.hid (Array.getElem?_eq_some_iff.1 x0).1
  have c0 := cell_of_row w1 _ 0 _ 105 (0, 0) x0
  have c1 := cell_of_row w1 _ 1 _ 105 (0, 0) x0
  have c2 := cell_of_row w1 _ 2 _ 105 (0, 0) x0
  have c3 := cell_of_row w1 _ 3 _ 105 (0, 0) x0
  have p2 := x1.c2
  have p3 := x1.c3
  have m2 := x2.c2
  rw [hk] at m2
  have C88 : Hid (∀ W, Calls Tryz.prog 88 #[.int .i64 p.id, .int .i64 p.arg] W fun e w' => ∃ B C, e = .returned (.func (.func 161) #[] #[.pointer (some ⟨B, 0, none⟩), .pointer (some ⟨C, 0, none⟩)]) ∧ Boxed w' B 3 (.int .i64 p.id) ∧ Boxed w' C 3 (.int .i64 p.arg) ∧ Below W.heap.size W w') := Lib.hid fun W => by
    refine (at_any p.id p.arg W).mono ?_
    rintro e w' ⟨rfl, rfl⟩
    exact ⟨_, _, rfl, (Boxed.new W 3 _).alloc _, by have := Boxed.new (W.alloc (.cells #[.int .i64 p.id] 3)) 3 (.int .i64 p.arg); rwa [World.size_alloc] at this, ((Below.refl _ W).alloc (Nat.le_refl _) _).alloc (by simp) _⟩
  have C72 : Hid (∀ W2 B C, Below w1.heap.size w1 W2 → Boxed W2 B 3 (.int .i64 p.id) → Boxed W2 C 3 (.int .i64 p.arg) → Calls Tryz.prog 72 #[.agg #[.slice A a.ids.length c, .bool a.root.cell, .int .i64 a.root.n, .bool a.jumps], .func (.func 161) #[] #[.pointer (some ⟨B, 0, none⟩), .pointer (some ⟨C, 0, none⟩)], .func (.func 90) #[] #[]] W2 fun e w' =>
      ∃ v', e = .returned v' ∧ Below W2.heap.size W2 w' ∧ OwnMv w' W2.heap.size v' (movesBy a (atB p.id p.arg) doneOf)) := Lib.hid fun W2 B C h2 hB hC =>
    moves_any (.slice A a.ids.length c) a _ (atB p.id p.arg) _ doneOf W2 (check_small HC.out).1 (places_64 HC.out) (movesBy_done HC.out) (tyIn_later HV.out (HB.out.trans (h2.mono HB.out.size))) ⟨161, _, rfl, enters_of Tryz.func161 (by kernel_rfl) rfl, fun W' hW' q =>
      at1_any q _ _ _ _ W' (cell_of_row W' _ 0 _ 3 (0, 0) ((hW' _ hB.lt).trans hB)) (cell_of_row W' _ 0 _ 3 (0, 0) ((hW' _ hC.lt).trans hC))⟩ done_some
  unfold plV
  unfold arV
  clear hb x0 x1 x2 hm hv hck hk
  go_enter Tryz.func87, Tryz.ntmps87
  go_wp2
  go_region_with (first
    | (go_at_call 88; refine (C88.out _).mono ?_; rintro e w2 ⟨B2, C2, rfl, hB2, hC2, hb2'⟩; have hb2 : Below w1.heap.size w1 w2 := ((Below.refl _ w1).drew).trans hb2'; have q0 := (hb2.cell (p := ⟨W.heap.size, 0, none⟩) HX0.out).trans c0; have q1 := (hb2.cell (p := ⟨W.heap.size, 1, none⟩) HX0.out).trans c1; have q2 := (hb2.cell (p := ⟨W.heap.size, 2, none⟩) HX0.out).trans c2; have q3 := (hb2.cell (p := ⟨W.heap.size, 3, none⟩) HX0.out).trans c3)
    | (go_at_call 72; refine (C72.out _ _ _ hb2 hB2 hC2).mono ?_; rintro e w3 ⟨v3, rfl, hb3, hown⟩))
  all_goals go_wp2
  all_goals refine bodyPost_ret (results_tmp2 rfl _ _ _) rfl ?_
  all_goals exact ⟨_, rfl, rowMv_less hown (Nat.le_trans HB.out.size hb2.size), HB.out.trans ((hb2.trans (hb3.mono hb2.size)).mono HB.out.size)⟩

set_option maxRecDepth 100000 in
set_option maxHeartbeats 1000000 in
theorem ansTell_any (v : Value) (root : Bs) (ju : Bool) (m : Mv) (p : Pl) (B : Nat) (W : World) (h1 : m.kind ≠ 1) (h2 : m.kind ≠ 2) (hm : BoxM W B m) (hv : ∃ A n c, v = .slice A n c) :
    Calls Tryz.prog 87 #[arV v root ju, plV p, .pointer (some ⟨B, 0, none⟩)] W fun e W' => e = .returned (.tuple #[.slice none 0 0, .int .i64 2]) ∧ Below W.heap.size W W' := by
  obtain ⟨A, n, c, rfl⟩ := hv
  obtain ⟨w1, hw1⟩ : ∃ w1, (W.alloc (.cells #[.slice A n c, .bool root.cell, .int .i64 root.n, .bool ju] 105)).alloc (.cells #[.bool p.b.cell, .int .i64 p.b.n, .int .i64 p.id, .int .i64 p.arg, .bool p.jumps] 111) = w1 := ⟨_, rfl⟩
  have hb : Below W.heap.size W w1 := by rw [← hw1]; exact ((Below.refl _ W).alloc (Nat.le_refl _) _).alloc (by simp) _
  have x2 : BoxM w1 B m := (hb.block _ hm.lt).trans hm
  have HB := Lib.hid hb
  have m2 := x2.c2
  have e1 : (m.kind == 1) = false := by simpa using h1
  have e2 : (m.kind == 2) = false := by simpa using h2
  unfold plV
  unfold arV
  clear hb x2 hm h1 h2
  go_enter Tryz.func87, Tryz.ntmps87
  go_wp2
  refine bodyPost_ret (results_tmp2 rfl _ _ _) rfl ?_
  exact ⟨rfl, HB.out⟩

/-- What the closure of Answers returns of any place. -/
def answAt (a : Ar) (m : Mv) (p : Pl) : List Mv × Int := if m.kind = 1 then (movesBy a (atB p.id p.arg) tellOf, 0) else if m.kind = 2 then (movesBy a (atB p.id p.arg) doneOf, 0) else ([], 2)
theorem answAt_eq {a : Ar} {m : Mv} {p : Pl} (h : whichPl a m = some p) : answAt a m p = answRes m p := by
  unfold answAt answRes
  rw [told_eq h, told_eq h]
theorem answers1_any (v : Value) (a : Ar) (m : Mv) (p : Pl) (B : Nat) (W : World) (hck : checkRes a = 0) (hm : BoxM W B m) (hv : TyIn W W.heap.size v a.ids) :
    Calls Tryz.prog 87 #[arV v a.root a.jumps, plV p, .pointer (some ⟨B, 0, none⟩)] W fun e W' => ∃ x er, e = .returned (.tuple #[x, .int .i64 er]) ∧ (er = (answAt a m p).2 ∧ OwnMv W' W.heap.size x (answAt a m p).1) ∧ Below W.heap.size W W' := by
  by_cases h1 : m.kind = 1
  · have e : answAt a m p = (movesBy a (atB p.id p.arg) tellOf, 0) := by unfold answAt; rw [if_pos h1]
    rw [e]
    refine (ansAsk_any v a m p B W hck h1 hm hv).mono ?_
    rintro e W' ⟨x, rfl, ho, hb⟩
    exact ⟨x, 0, rfl, ⟨rfl, ho⟩, hb⟩
  · by_cases h2 : m.kind = 2
    · have e : answAt a m p = (movesBy a (atB p.id p.arg) doneOf, 0) := by unfold answAt; rw [if_neg h1, if_pos h2]
      rw [e]
      refine (ansPut_any v a m p B W hck h2 hm hv).mono ?_
      rintro e W' ⟨x, rfl, ho, hb⟩
      exact ⟨x, 0, rfl, ⟨rfl, ho⟩, hb⟩
    · have e : answAt a m p = ([], 2) := by unfold answAt; rw [if_neg h1, if_neg h2]
      rw [e]
      obtain ⟨A, c, e2⟩ := tyIn_slice hv
      refine (ansTell_any v a.root a.jumps m p B W h1 h2 hm ⟨A, _, c, e2⟩).mono ?_
      rintro e W' ⟨rfl, hb⟩
      exact ⟨_, 2, rfl, ⟨rfl, OwnMv.nil _ _⟩, hb⟩

theorem toldQ_ans {a : Ar} {m : Mv} {x : Value} {er : Int} {w' : World} {n : Nat} {Q : Pl → Prop} (h : ToldQ (.slice none 0 0) (whichPl a m) x er Q) (hc : checkRes a = 0) (hQ : ∀ p, Q p → er = (answAt a m p).2 ∧ OwnMv w' n x (answAt a m p).1) : er = (ansRes a m).2 ∧ OwnMv w' n x (ansRes a m).1 := by
  unfold ansRes
  rw [if_neg (by rw [hc]; simp)]
  cases hw : whichPl a m with
  | none => rw [hw] at h; obtain ⟨rfl, rfl⟩ := h; exact ⟨rfl, OwnMv.nil _ _⟩
  | some p => rw [hw] at h; have := hQ p h; rw [answAt_eq hw] at this; exact this

set_option maxRecDepth 100000 in
set_option maxHeartbeats 1000000 in
theorem answers_call (v : Value) (a : Ar) (m : Mv) (w : World) (hl : a.ids.length ≤ 140737488355328) (hpl : ∀ t ∈ a.ids, t.params.length ≤ 140737488355328) (hv : TyIn w w.heap.size v a.ids) :
    Calls Tryz.prog 30 #[arV v a.root a.jumps, mvV m] w fun e w' => ∃ x, e = .returned (.tuple #[x, .int .i64 (ansRes a m).2]) ∧ OwnMv w' w.heap.size x (ansRes a m).1 ∧ Below w.heap.size w w' := by
  obtain ⟨A, c, rfl⟩ := tyIn_slice hv
  obtain ⟨w1, hw1⟩ : ∃ w1, (w.alloc (.cells #[.slice A a.ids.length c, .bool a.root.cell, .int .i64 a.root.n, .bool a.jumps] 26)).alloc (.cells #[.int .i64 m.id, .int .i64 m.arg, .int .u8 m.kind, .int .i64 m.n] 40) = w1 := ⟨_, rfl⟩
  have hb : Below w.heap.size w w1 := by rw [← hw1]; exact ((Below.refl _ w).alloc (Nat.le_refl _) _).alloc (by simp) _
  have x0 : w1.heap[w.heap.size]? = some (.cells #[.slice A a.ids.length c, .bool a.root.cell, .int .i64 a.root.n, .bool a.jumps] 26 (0, 0)) := by rw [← hw1]; exact (Below.heap_alloc _ _ _ (by simp)).trans (World.alloc_heap_new w _)
  have x1 : BoxM w1 (w.heap.size + 1) m := by
    rw [← hw1]; have := BoxM.new (w.alloc (.cells #[.slice A a.ids.length c, .bool a.root.cell, .int .i64 a.root.n, .bool a.jumps] 26)) m; rwa [World.size_alloc] at this
  have HB := Lib.hid hb
  have c0 := cell_of_row w1 _ 0 _ 26 (0, 0) x0
  have c1 := cell_of_row w1 _ 1 _ 26 (0, 0) x0
  have c2 := cell_of_row w1 _ 2 _ 26 (0, 0) x0
  have c3 := cell_of_row w1 _ 3 _ 26 (0, 0) x0
  have m0 := x1.c0
  have m1 := x1.c1
  have m2 := x1.c2
  have m3 := x1.c3
  have CT : Hid (Calls Tryz.prog 86 #[arV (.slice A a.ids.length c) a.root a.jumps, mvV m, .func (.func 87) #[] #[.pointer (some ⟨w.heap.size + 1, 0, none⟩)]] w1 fun e w' => ∃ x, e = .returned (.tuple #[x, .int .i64 (ansRes a m).2]) ∧ OwnMv w' w1.heap.size x (ansRes a m).1 ∧ Below w1.heap.size w1 w') := Lib.hid (by
    refine (toldM_any (.slice A a.ids.length c) a m 87 _ w1 hl hpl (tyIn_later hv hb) (enters_of Tryz.func87 (by kernel_rfl) rfl) (fun p x er W W' => er = (answAt a m p).2 ∧ OwnMv W' W.heap.size x (answAt a m p).1) ?_).mono ?_
    · intro hck W hW p
      refine (answers1_any (.slice A a.ids.length c) a m p _ W hck ((hW.block _ x1.lt).trans x1) (tyIn_later hv (hb.trans (hW.mono hb.size)))).mono ?_
      rintro e W' ⟨x, er, rfl, hp, hb'⟩
      exact ⟨_, _, rfl, hp, hb'⟩
    · rintro e w' ⟨hb', x, er, rfl, (⟨h1, rfl, rfl⟩ | ⟨h1, h2⟩)⟩
      · have e1 : ansRes a m = ([], checkRes a) := by unfold ansRes; rw [if_pos h1]
        rw [e1]
        exact ⟨_, rfl, OwnMv.nil _ _, hb'⟩
      · obtain ⟨rfl, ho⟩ := toldQ_ans (w' := w') (n := w1.heap.size) h2 h1 (fun p ⟨W, hW, hp⟩ => ⟨hp.1, rowMv_less hp.2 hW.size⟩)
        exact ⟨_, rfl, ho, hb'⟩)
  unfold arV mvV at CT ⊢
  clear hb x0 x1 hv hpl
  go_enter Tryz.func30, Tryz.ntmps30
  go_wp2_with (go_at_call 86; refine CT.out.mono ?_; rintro e w2 ⟨x, rfl, ho, hb2⟩)
  refine bodyPost_ret (results_tmp2 rfl _ _ _) rfl ?_
  exact ⟨_, rfl, rowMv_less ho HB.out.size, HB.out.trans (hb2.mono HB.out.size)⟩
end Go.Proofs.YtklfojmflmablaaGreatDoor
