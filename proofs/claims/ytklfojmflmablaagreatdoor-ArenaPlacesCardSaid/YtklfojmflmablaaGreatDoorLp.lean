/- ArenaPlaces. -/
import Derived.Test.YtklfojmflmablaaGreatDoorPc
import Derived.Test.YtklfojmflmablaaGreatDoorGk
import Derived.Test.YtklfojmflmablaaGreatDoorGi
import Derived.Test.YtklfojmflmablaaGreatDoorAw
namespace Go.Proofs.YtklfojmflmablaaGreatDoor
open Go Go.RowKit Go.Shelf

theorem boxA_c {W : World} {B : Nat} {v : Value} {r : Bs} {j : Bool} (h : BoxA W B v r j) : W.cell? ⟨B, 0, none⟩ = some v ∧ W.cell? ⟨B, 1, none⟩ = some (.bool r.cell) ∧ W.cell? ⟨B, 2, none⟩ = some (.int .i64 r.n) ∧ W.cell? ⟨B, 3, none⟩ = some (.bool j) :=
  ⟨cell_of_row W B 0 _ 26 (0, 0) h, cell_of_row W B 1 _ 26 (0, 0) h, cell_of_row W B 2 _ 26 (0, 0) h, cell_of_row W B 3 _ 26 (0, 0) h⟩
theorem boxB_c {W : World} {B : Nat} {r : Bs} (h : BoxB W B r) : W.cell? ⟨B, 0, none⟩ = some (.bool r.cell) ∧ W.cell? ⟨B, 1, none⟩ = some (.int .i64 r.n) :=
  ⟨cell_of_row W B 0 _ 24 (0, 0) h, cell_of_row W B 1 _ 24 (0, 0) h⟩
theorem boxA_keep {W W' : World} {B : Nat} {v : Value} {r : Bs} {j : Bool} (h : BoxA W B v r j) (hb : Below W.heap.size W W') : BoxA W' B v r j := (hb.block _ h.lt).trans h
theorem boxB_keep {W W' : World} {B : Nat} {r : Bs} (h : BoxB W B r) (hb : Below W.heap.size W W') : BoxB W' B r := (hb.block _ h.lt).trans h
def BoxQ (W : World) (B : Nat) (id arg : Int) : Prop := W.heap[B]? = some (.cells #[.int .i64 id, .int .i64 arg] 46 (0, 0))
theorem BoxQ.lt {W : World} {B : Nat} {id arg : Int} (h : BoxQ W B id arg) : B < W.heap.size := (Array.getElem?_eq_some_iff.1 h).1
theorem boxQ_keep {W W' : World} {B : Nat} {id arg : Int} (h : BoxQ W B id arg) (hb : Below W.heap.size W W') : BoxQ W' B id arg := (hb.block _ h.lt).trans h
theorem boxQ_c {W : World} {B : Nat} {id arg : Int} (h : BoxQ W B id arg) : W.cell? ⟨B, 0, none⟩ = some (.int .i64 id) ∧ W.cell? ⟨B, 1, none⟩ = some (.int .i64 arg) :=
  ⟨cell_of_row W B 0 _ 46 (0, 0) h, cell_of_row W B 1 _ 46 (0, 0) h⟩
theorem named_below {W w W' : World} {o : Obj} (e : w.alloc o = W') (h : Below W.heap.size W w) : Below W.heap.size W W' := e ▸ h.alloc h.size _
theorem named_box {w W' : World} {o : Obj} (e : w.alloc o = W') : W'.heap[w.heap.size]? = some o := e ▸ World.alloc_heap_new w o
theorem named_later {w W' : World} {o : Obj} (e : w.alloc o = W') : Below w.heap.size w W' := e ▸ (Below.refl _ w).alloc (Nat.le_refl _) _
theorem below_alloc (W W' : World) (h : Below W.heap.size W W') (o : Obj) : Below W.heap.size W (W'.alloc o) := h.alloc h.size _

set_option maxRecDepth 100000 in
set_option maxHeartbeats 4000000 in
theorem law5_any (v : Value) (a : Ar) (id arg : Int) (w : World) (h : Laid w) (hv : TyIn w w.heap.size v a.ids) :
    Calls Tryz.prog 5 #[arV v a.root a.jumps, .agg #[.int .i64 id, .int .i64 arg]] w fun e w' => e = .returned (.bool true) ∧ Below w.heap.size w w' := by
  have HL := Lib.hid h
  have CT : Hid (∀ W, Below w.heap.size w W → Calls Tryz.prog 17 #[arV v a.root a.jumps] W fun e w' => e = .returned (.bool (thinB a)) ∧ Below W.heap.size W w') := Lib.hid fun W hW => thin_any v a W (tyIn_later hv hW)
  have HV := Lib.hid hv
  obtain ⟨A, c, rfl⟩ := tyIn_slice hv
  obtain ⟨w1, hw1⟩ : ∃ w1, (w.alloc (.cells #[.slice A a.ids.length c, .bool a.root.cell, .int .i64 a.root.n, .bool a.jumps] 26)).alloc (.cells #[.int .i64 id, .int .i64 arg] 46) = w1 := ⟨_, rfl⟩
  have hb : Below w.heap.size w w1 := by rw [← hw1]; exact ((Below.refl _ w).alloc (Nat.le_refl _) _).alloc (by simp) _
  have x0 : BoxA w1 w.heap.size (.slice A a.ids.length c) a.root a.jumps := by rw [← hw1]; exact (Below.heap_alloc _ _ _ (by simp)).trans (World.alloc_heap_new w _)
  have x1 : BoxQ w1 (w.heap.size + 1) id arg := by
    rw [← hw1]; have := World.alloc_heap_new (w.alloc (.cells #[.slice A a.ids.length c, .bool a.root.cell, .int .i64 a.root.n, .bool a.jumps] 26)) (.cells #[.int .i64 id, .int .i64 arg] 46); rwa [World.size_alloc] at this
  have HB := Lib.hid hb
  have HX0 := Lib.hid x0
  have HX1 := Lib.hid x1
  obtain ⟨c0, c1, c2, c3⟩ := boxA_c x0
  clear hb x0 x1 hv h
  cases hth : thinB a with
  | false =>
    rw [hth] at CT
    unfold arV at CT ⊢
    clear hth
    go_enter Tryz.func5, Tryz.ntmps5
    go_wp2_with (first
      | (go_at_call 17; refine (CT.out _ HB.out).mono ?_; rintro e w2 ⟨rfl, hb2⟩)
      | (go_at_call 18; refine (awake_any _ (HL.out.later (HB.out.trans (hb2.mono HB.out.size)))).mono ?_; rintro e w3 ⟨rfl, hb3⟩))
    go_ret
    exact ⟨rfl, HB.out.trans ((hb2.mono HB.out.size).trans (hb3.mono (Nat.le_trans HB.out.size hb2.size)))⟩
  | true =>
    rw [hth] at CT
    obtain ⟨h12, h8⟩ := thin_len hth
    have h1000 : ∀ t ∈ a.ids, t.params.length ≤ 1000 := fun t ht => by have := h8 t ht; omega
    have hbig : ∀ t ∈ a.ids, t.params.length ≤ 140737488355328 := fun t ht => by have := h8 t ht; omega
    have C19 : Hid (∀ W, Below w.heap.size w W → Calls Tryz.prog 19 #[arV (.slice A a.ids.length c) a.root a.jumps] W fun e w' => ∃ A' c', e = .returned (arV (.slice A' a.ids.length c') a.root a.jumps) ∧ Hid (TyIn w' w'.heap.size (.slice A' a.ids.length c') a.ids) ∧ Below W.heap.size W w') := Lib.hid fun W hW => by
      refine (copy_any (.slice A a.ids.length c) a W (by omega) h1000 (tyIn_later HV.out hW)).mono ?_
      rintro e w' ⟨v', rfl, ht, hb⟩
      obtain ⟨A', c', rfl⟩ := tyIn_slice ht
      exact ⟨A', c', rfl, Lib.hid ht, hb⟩
    obtain ⟨⟨fb, fe⟩, hF⟩ : ∃ F, foundRes a id arg = F := ⟨_, rfl⟩
    obtain ⟨⟨ia, ie⟩, hI⟩ : ∃ I, innerRes a id = I := ⟨_, rfl⟩
    have C36 : Hid (∀ W3 W A' c', TyIn W3 W3.heap.size (.slice A' a.ids.length c') a.ids → Below W3.heap.size W3 W → Calls Tryz.prog 36 #[arV (.slice A' a.ids.length c') a.root a.jumps, .int .i64 id, .int .i64 arg] W fun e w' => e = .returned (.tuple #[bsV fb, .int .i64 fe]) ∧ Below W.heap.size W w') := Lib.hid fun W3 W A' c' h3 hW => by
      have := place_any (.slice A' a.ids.length c') a id arg W (by omega) hbig (tyIn_later h3 hW)
      rw [hF] at this
      exact this
    have C38 : Hid (∀ W, Below w.heap.size w W → Calls Tryz.prog 38 #[arV (.slice A a.ids.length c) a.root a.jumps, .int .i64 id, .int .i64 arg] W fun e w' => e = .returned (.tuple #[bsV fb, .int .i64 fe]) ∧ Below W.heap.size W w') := Lib.hid fun W hW => by
      have := refFound_any (.slice A a.ids.length c) a id arg W (by omega) h1000 (tyIn_later HV.out hW)
      rw [hF] at this
      exact this
    have hil : ia.ids.length ≤ 1000 ∧ ∀ t ∈ ia.ids, t.params.length ≤ 1000 := by
      have e : ia = (innerRes a id).1 := by rw [hI]
      rw [e]
      unfold innerRes
      split
      · exact ⟨by simp [zeroAr], fun t ht => by simp [zeroAr] at ht⟩
      · split
        · exact ⟨by simp [zeroAr], fun t ht => by simp [zeroAr] at ht⟩
        · split
          · exact ⟨by simp [zeroAr], fun t ht => by simp [zeroAr] at ht⟩
          · rename_i t ht
            exact ⟨by have := h8 t (List.mem_of_getElem? ht); simp; omega, fun t' ht' => by obtain ⟨b, _, rfl⟩ := List.mem_map.1 ht'; simp⟩
    have C37 : Hid (∀ W3 W A' c', TyIn W3 W3.heap.size (.slice A' a.ids.length c') a.ids → Below W3.heap.size W3 W → Calls Tryz.prog 37 #[arV (.slice A' a.ids.length c') a.root a.jumps, .int .i64 id] W fun e w' => ∃ B c, e = .returned (.tuple #[arV (.slice B ia.ids.length c) ia.root ia.jumps, .int .i64 ie]) ∧ Hid (TyIn w' w'.heap.size (.slice B ia.ids.length c) ia.ids) ∧ Below W.heap.size W w') := Lib.hid fun W3 W A' c' h3 hW => by
      refine (inner_any (.slice A' a.ids.length c') a id W (by omega) hbig (tyIn_later h3 hW)).mono ?_
      rintro e w' ⟨v', rfl, ht, hb⟩
      rw [hI] at ht ⊢
      obtain ⟨B, c, rfl⟩ := tyIn_slice ht
      exact ⟨B, c, rfl, Lib.hid ht, hb⟩
    have C39 : Hid (∀ W, Below w.heap.size w W → Calls Tryz.prog 39 #[arV (.slice A a.ids.length c) a.root a.jumps, .int .i64 id] W fun e w' => ∃ B c, e = .returned (.tuple #[arV (.slice B ia.ids.length c) ia.root ia.jumps, .int .i64 ie]) ∧ Hid (TyIn w' w'.heap.size (.slice B ia.ids.length c) ia.ids) ∧ Below W.heap.size W w') := Lib.hid fun W hW => by
      refine (refInner_any (.slice A a.ids.length c) a id W (by omega) h1000 (tyIn_later HV.out hW)).mono ?_
      rintro e w' ⟨v', rfl, ht, hb⟩
      rw [hI] at ht ⊢
      obtain ⟨B, c, rfl⟩ := tyIn_slice ht
      exact ⟨B, c, rfl, Lib.hid ht, hb⟩
    have CS : Hid (∀ (x : Ar) W Bx cx By cy, x.ids.length ≤ 1000 ∧ (∀ t ∈ x.ids, t.params.length ≤ 1000) → TyIn W W.heap.size (.slice Bx x.ids.length cx) x.ids → TyIn W W.heap.size (.slice By x.ids.length cy) x.ids → Calls Tryz.prog 27 #[arV (.slice Bx x.ids.length cx) x.root x.jumps, arV (.slice By x.ids.length cy) x.root x.jumps] W fun e w' => e = .returned (.bool true) ∧ Below W.heap.size W w') :=
      Lib.hid fun x W Bx cx By cy hx h1 h2 => same_any _ _ x W hx.1 hx.2 h1 h2
    have HA1 : Hid (a.ids.length ≤ 1000 ∧ ∀ t ∈ a.ids, t.params.length ≤ 1000) := Lib.hid ⟨by omega, h1000⟩
    have HI1 := Lib.hid hil
    have g24 := guard24
    have hE : ∀ W, (binOp .eql 24 (.agg #[.bool fb.cell, .int .i64 fb.n]) (.agg #[.bool fb.cell, .int .i64 fb.n])).run Tryz.prog W = .ok (.bool true) W := fun W => by rw [eq24]; simp
    unfold arV at CT C19 C36 C37 C38 C39 CS ⊢
    unfold bsV at C36 C38
    clear hth h12 h8 h1000 hbig hF hI hil
    go_enter Tryz.func5, Tryz.ntmps5
    go_wp2_with (first
      | (go_at_call 17; refine (CT.out _ HB.out).mono ?_; rintro e w2 ⟨rfl, hb2⟩; have HB2 := Lib.hid (HB.out.trans (hb2.mono HB.out.size)); have HY0 := Lib.hid (boxA_keep HX0.out hb2); have HY1 := Lib.hid (boxQ_keep HX1.out hb2); obtain ⟨d0, d1, d2, d3⟩ := boxA_c HY0.out; clear hb2)
      | (go_at_call 19; refine (C19.out _ HB2.out).mono ?_; rintro e w3 ⟨A3, k3, rfl, ht3, hb3⟩; obtain ⟨W3, hW3⟩ : ∃ W3, w3.alloc (.cells #[.slice A3 a.ids.length k3, .bool a.root.cell, .int .i64 a.root.n, .bool a.jumps] 26) = W3 := ⟨_, rfl⟩; have hn3 : Below w2.heap.size w2 W3 := named_below hW3 hb3; have HZ5 : Hid (BoxA W3 w3.heap.size (.slice A3 a.ids.length k3) a.root a.jumps) := Lib.hid (named_box hW3); have HT3 := Lib.hid (tyIn_later ht3.out (named_later hW3)); have HB3 := Lib.hid (HB2.out.trans (hn3.mono HB2.out.size)); have HY03 := Lib.hid (boxA_keep HY0.out hn3); have HY13 := Lib.hid (boxQ_keep HY1.out hn3); obtain ⟨e0, e1, e2, e3⟩ := boxA_c HZ5.out; obtain ⟨p0, p1⟩ := boxQ_c HY13.out; clear hb3 hn3 ht3)
      | (go_at_call 36; refine (C36.out W3 _ _ _ HT3.out (Below.refl _ _)).mono ?_; rintro e w4 ⟨rfl, hb4⟩; obtain ⟨W4, hW4⟩ : ∃ W4, w4.alloc (.cells #[.bool fb.cell, .int .i64 fb.n] 24) = W4 := ⟨_, rfl⟩; have hn4 : Below W3.heap.size W3 W4 := named_below hW4 hb4; have HZ6 : Hid (BoxB W4 w4.heap.size fb) := Lib.hid (named_box hW4); have HN4 := Lib.hid hn4; have HB4 := Lib.hid (HB3.out.trans (hn4.mono HB3.out.size)); have HZ54 := Lib.hid (boxA_keep HZ5.out hn4); have HY04 := Lib.hid (boxA_keep HY03.out hn4); have HY14 := Lib.hid (boxQ_keep HY13.out hn4); obtain ⟨f0, f1, f2, f3⟩ := boxA_c HZ54.out; obtain ⟨q0, q1⟩ := boxQ_c HY14.out; clear hb4 hn4)
      | (go_at_call 37; refine (C37.out W3 _ _ _ HT3.out HN4.out).mono ?_; rintro e w5 ⟨A5, k5, rfl, ht5, hb5⟩; obtain ⟨W5, hW5⟩ : ∃ W5, w5.alloc (.cells #[.slice A5 ia.ids.length k5, .bool ia.root.cell, .int .i64 ia.root.n, .bool ia.jumps] 26) = W5 := ⟨_, rfl⟩; have hn5 : Below W4.heap.size W4 W5 := named_below hW5 hb5; have HZ8 : Hid (BoxA W5 w5.heap.size (.slice A5 ia.ids.length k5) ia.root ia.jumps) := Lib.hid (named_box hW5); have HT5 := Lib.hid (tyIn_later ht5.out (named_later hW5)); have HN5 := Lib.hid (HN4.out.trans (hn5.mono HN4.out.size)); have HB5 := Lib.hid (HB4.out.trans (hn5.mono HB4.out.size)); have HZ55 := Lib.hid (boxA_keep HZ54.out hn5); have HZ65 := Lib.hid (boxB_keep HZ6.out hn5); have HY05 := Lib.hid (boxA_keep HY04.out hn5); have HY15 := Lib.hid (boxQ_keep HY14.out hn5); obtain ⟨g0, g1, g2, g3⟩ := boxA_c HY05.out; obtain ⟨r0, r1⟩ := boxQ_c HY15.out; clear hb5 hn5 ht5)
      | (go_at_call 38; refine (C38.out _ HB5.out).mono ?_; rintro e w6 ⟨rfl, hb6⟩; obtain ⟨W6, hW6⟩ : ∃ W6, w6.alloc (.cells #[.bool fb.cell, .int .i64 fb.n] 24) = W6 := ⟨_, rfl⟩; have hn6 : Below W5.heap.size W5 W6 := named_below hW6 hb6; have HZ10 : Hid (BoxB W6 w6.heap.size fb) := Lib.hid (named_box hW6); have HT56 := Lib.hid (tyIn_later HT5.out hn6); have HN6 := Lib.hid (HN5.out.trans (hn6.mono HN5.out.size)); have HB6 := Lib.hid (HB5.out.trans (hn6.mono HB5.out.size)); have HZ56 := Lib.hid (boxA_keep HZ55.out hn6); have HZ66 := Lib.hid (boxB_keep HZ65.out hn6); have HZ86 := Lib.hid (boxA_keep HZ8.out hn6); have HY06 := Lib.hid (boxA_keep HY05.out hn6); have HY16 := Lib.hid (boxQ_keep HY15.out hn6); obtain ⟨s0, s1, s2, s3⟩ := boxA_c HY06.out; obtain ⟨t0, t1⟩ := boxQ_c HY16.out; clear hb6 hn6)
      | (go_at_call 39; refine (C39.out _ HB6.out).mono ?_; rintro e w7 ⟨A7, k7, rfl, ht7, hb7⟩; obtain ⟨W7, hW7⟩ : ∃ W7, w7.alloc (.cells #[.slice A7 ia.ids.length k7, .bool ia.root.cell, .int .i64 ia.root.n, .bool ia.jumps] 26) = W7 := ⟨_, rfl⟩; have hn7 : Below W6.heap.size W6 W7 := named_below hW7 hb7; have HZ12 : Hid (BoxA W7 w7.heap.size (.slice A7 ia.ids.length k7) ia.root ia.jumps) := Lib.hid (named_box hW7); have HT7 := Lib.hid (tyIn_later ht7.out (named_later hW7)); have HT57 := Lib.hid (tyIn_later HT56.out hn7); have HN7 := Lib.hid (HN6.out.trans (hn7.mono HN6.out.size)); have HB7 := Lib.hid (HB6.out.trans (hn7.mono HB6.out.size)); have HZ57 := Lib.hid (boxA_keep HZ56.out hn7); have HZ87 := Lib.hid (boxA_keep HZ86.out hn7); have HY07 := Lib.hid (boxA_keep HY06.out hn7); obtain ⟨a0, a1, a2, a3⟩ := boxA_c HZ12.out; obtain ⟨b0, b1, b2, b3⟩ := boxA_c HZ87.out; obtain ⟨m0, m1⟩ := boxB_c (boxB_keep HZ66.out hn7); obtain ⟨n0, n1⟩ := boxB_c (boxB_keep HZ10.out hn7); clear hb7 hn7 ht7)
      | (go_at_call 27; first
          | (with_reducible refine (CS.out ia _ _ _ _ _ HI1.out HT57.out HT7.out).mono ?_); rintro e w8 ⟨rfl, hb8⟩; have HB8 := Lib.hid (HB7.out.trans (hb8.mono HB7.out.size)); obtain ⟨i0, i1, i2, i3⟩ := boxA_c (boxA_keep HY07.out hb8); obtain ⟨j0, j1, j2, j3⟩ := boxA_c (boxA_keep HZ57.out hb8); have HN8 := Lib.hid (HN7.out.trans (hb8.mono HN7.out.size)); clear hb8
          | (with_reducible refine (CS.out a _ _ _ _ _ HA1.out (tyIn_later HV.out HB8.out) (tyIn_later HT3.out HN8.out)).mono ?_); rintro e w9 ⟨rfl, hb9⟩; have HB9 := Lib.hid (HB8.out.trans (hb9.mono HB8.out.size)); clear hb9)
      | (go_at_call 18; refine (awake_any _ (HL.out.later HB9.out)).mono ?_; rintro e w10 ⟨rfl, hb10⟩))
    go_ret
    exact ⟨rfl, HB9.out.trans (hb10.mono HB9.out.size)⟩
end Go.Proofs.YtklfojmflmablaaGreatDoor
