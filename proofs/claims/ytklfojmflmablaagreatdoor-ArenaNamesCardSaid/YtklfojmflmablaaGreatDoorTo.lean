/- Package arena: what is told of a move and its place. -/
import Derived.Deep.RegionHeld3
import Derived.Test.YtklfojmflmablaaGreatDoorCkB
import Derived.Test.YtklfojmflmablaaGreatDoorArX
import Derived.Test.YtklfojmflmablaaGreatDoorArZ
import Derived.Test.YtklfojmflmablaaGreatDoorSt
namespace Go.Proofs.YtklfojmflmablaaGreatDoor
open Go Go.RowKit Go.Shelf

theorem check_small {a : Ar} (h : checkRes a = 0) : smallAr a ∧ okBs a.root = true ∧ ∀ t ∈ a.ids, okTy t = true := by
  unfold checkRes at h
  by_cases h1 : (decide (8 < a.ids.length) || a.ids.any (fun t => decide (5 < t.params.length))) = true
  · rw [if_pos h1] at h; omega
  · rw [if_neg h1] at h
    by_cases h2 : (!(okBs a.root) || a.ids.any (fun t => !(okTy t))) = true
    · rw [if_pos h2] at h; omega
    · simp only [Bool.or_eq_true, decide_eq_true_eq, List.any_eq_true, not_or, not_exists, not_and, Bool.not_eq_true', Bool.not_eq_false'] at h1 h2
      exact ⟨⟨by omega, fun t ht => by have := h1.2 t ht; omega⟩, by simpa using h2.1, fun t ht => by simpa using h2.2 t ht⟩
theorem okBs_n {b : Bs} (h : okBs b = true) : 1 ≤ b.n ∧ b.n ≤ 64 := by simpa [okBs] using h
theorem parPl_ok {bs : List Bs} (h : ∀ b ∈ bs, okBs b = true) : ∀ {i j : Nat} {p : Pl}, p ∈ parPl i j bs → p.b.n ≤ 64 := by
  induction bs with
  | nil => intro i j p hp; cases hp
  | cons b bs ih =>
    intro i j p hp
    rcases List.mem_cons.1 hp with rfl | hp
    · exact (okBs_n (h b (by simp))).2
    · exact ih (fun b hb => h b (by simp [hb])) hp
theorem idPl_ok {ju : Bool} {ts : List Ty} (h : ∀ t ∈ ts, okTy t = true) : ∀ {i : Nat} {p : Pl}, p ∈ idPl ju i ts → p.b.n ≤ 64 := by
  induction ts with
  | nil => intro i p hp; cases hp
  | cons t ts ih =>
    intro i p hp
    have ht := h t (by simp)
    unfold okTy at ht
    simp only [Bool.and_eq_true, List.all_eq_true] at ht
    rw [idPl_cons, List.mem_append] at hp
    rcases hp with hp | hp
    · rcases List.mem_cons.1 hp with rfl | hp
      · exact (okBs_n ht.2.1).2
      · exact parPl_ok ht.2.2 hp
    · exact ih (fun t ht => h t (by simp [ht])) hp
theorem places_ok {a : Ar} (h : checkRes a = 0) {p : Pl} (hp : p ∈ places a) : p.b.n ≤ 64 := by
  obtain ⟨_, h1, h2⟩ := check_small h
  rcases List.mem_cons.1 hp with rfl | hp
  · exact (okBs_n h1).2
  · exact idPl_ok h2 hp

/-- The place of a move of an arena. -/
def whichPl (a : Ar) (m : Mv) : Option Pl := match (places a).find? (atB m.id m.arg) with | none => none | some p => if hasMv p m then some p else none

def ToldQ (Z : Value) (o : Option Pl) (x : Value) (er : Int) (Q : Pl → Prop) : Prop := match o with | none => x = Z ∧ er = 7 | some p => Q p
theorem toldQ_none {Z : Value} {o : Option Pl} {Q : Pl → Prop} (h : o = none) : ToldQ Z o Z 7 Q := by subst h; exact ⟨rfl, rfl⟩
theorem toldQ_some {Z : Value} {o : Option Pl} {x : Value} {er : Int} {Q : Pl → Prop} {p : Pl} (h : o = some p) (hq : Q p) : ToldQ Z o x er Q := by subst h; exact hq

theorem which_none1 {a : Ar} {m : Mv} {fp : Pl} (h : findRes (places a) (atB m.id m.arg) = (fp, false)) : whichPl a m = none := by
  unfold findRes at h
  unfold whichPl
  cases hf : (places a).find? (atB m.id m.arg) with
  | none => rfl
  | some p => rw [hf] at h; simp at h
theorem find_mem {a : Ar} {m : Mv} {fp : Pl} (h : findRes (places a) (atB m.id m.arg) = (fp, true)) : fp ∈ places a := by
  unfold findRes at h
  cases hf : (places a).find? (atB m.id m.arg) with
  | none => rw [hf] at h; simp at h
  | some p =>
    rw [hf] at h
    simp only [Prod.mk.injEq, and_true] at h
    subst h
    exact List.mem_of_find?_eq_some hf
theorem find_is {a : Ar} {m : Mv} {fp : Pl} (h : findRes (places a) (atB m.id m.arg) = (fp, true)) : (places a).find? (atB m.id m.arg) = some fp := by
  unfold findRes at h
  cases hf : (places a).find? (atB m.id m.arg) with
  | none => rw [hf] at h; simp at h
  | some p =>
    rw [hf] at h
    simp only [Prod.mk.injEq, and_true] at h
    subst h
    rfl
theorem which_none2 {a : Ar} {m : Mv} {fp : Pl} (h : findRes (places a) (atB m.id m.arg) = (fp, true)) (hh : hasMv fp m = false) : whichPl a m = none := by
  unfold whichPl
  rw [find_is h]
  simp [hh]
theorem which_some {a : Ar} {m : Mv} {fp : Pl} (h : findRes (places a) (atB m.id m.arg) = (fp, true)) (hh : hasMv fp m = true) : whichPl a m = some fp := by
  unfold whichPl
  rw [find_is h]
  simp [hh]

theorem cell_alloc_some {W : World} {a : Addr} {v : Value} (o : Obj) (h : W.cell? a = some v) : (W.alloc o).cell? a = some v := cell_kept h (World.grownBy_alloc W o none) (fun r e => by cases e)
theorem cell_set_some {W : World} {a p : Addr} {v : Value} (u : Value) (hne : a.block ≠ p.block) (h : W.cell? a = some v) : (W.setCell p u).cell? a = some v := (World.cell?_of_block (Below.heap_setCell W p u a.block hne)).trans h

set_option maxRecDepth 100000 in
set_option maxHeartbeats 2000000 in
theorem toldB_any (v : Value) (a : Ar) (m : Mv) (k : Nat) (cp : Array Value) (w : World) (hl : a.ids.length ≤ 140737488355328) (hpl : ∀ t ∈ a.ids, t.params.length ≤ 140737488355328) (hv : TyIn w w.heap.size v a.ids)
    (ek : ∀ args w, (callFunc k args).run Tryz.prog w = .ok (.enter k args) w) (Post : Pl → Value → Int → World → World → Prop)
    (hT : checkRes a = 0 → ∀ W, Below w.heap.size w W → ∀ p, Calls Tryz.prog k (#[arV v a.root a.jumps, plV p] ++ cp) W fun e W' => ∃ x er, e = .returned (.tuple #[x, .int .i64 er]) ∧ Post p x er W W' ∧ Below W.heap.size W W') :
    Calls Tryz.prog 83 #[arV v a.root a.jumps, mvV m, .func (.func k) #[] cp] w fun e w' => Below w.heap.size w w' ∧ ∃ x er, e = .returned (.tuple #[x, .int .i64 er]) ∧
      ((checkRes a ≠ 0 ∧ x = .bool false ∧ er = checkRes a) ∨ (checkRes a = 0 ∧ ToldQ (.bool false) (whichPl a m) x er fun p => ∃ W, Below w.heap.size w W ∧ Post p x er W w')) := by
  have CC : Hid (∀ W, Below w.heap.size w W → Calls Tryz.prog 20 #[arV v a.root a.jumps] W fun e w' => e = .returned (.int .i64 (checkRes a)) ∧ Below W.heap.size W w') :=
    Lib.hid fun W hW => check_any v a W hl hpl ((hv.below hW.block).more hW.size)
  have HT := Lib.hid hT
  have HV := Lib.hid hv
  obtain ⟨A, c, rfl⟩ := tyIn_slice hv
  obtain ⟨w1, hw1⟩ : ∃ w1, (w.alloc (.cells #[.slice A a.ids.length c, .bool a.root.cell, .int .i64 a.root.n, .bool a.jumps] 26)).alloc (.cells #[.int .i64 m.id, .int .i64 m.arg, .int .u8 m.kind, .int .i64 m.n] 40) = w1 := ⟨_, rfl⟩
  have hb : Below w.heap.size w w1 := by rw [← hw1]; exact ((Below.refl _ w).alloc (Nat.le_refl _) _).alloc (by simp) _
  have x1 : w1.heap[w.heap.size]? = some (.cells #[.slice A a.ids.length c, .bool a.root.cell, .int .i64 a.root.n, .bool a.jumps] 26 (0, 0)) := by rw [← hw1]; exact (Below.heap_alloc _ _ _ (by simp)).trans (World.alloc_heap_new w _)
  have x2 : BoxM w1 (w.heap.size + 1) m := by
    rw [← hw1]; have := BoxM.new (w.alloc (.cells #[.slice A a.ids.length c, .bool a.root.cell, .int .i64 a.root.n, .bool a.jumps] 26)) m; rwa [World.size_alloc] at this
  have HB := Lib.hid hb
  have c0 := cell_of_row w1 _ 0 _ 26 (0, 0) x1
  have c1 := cell_of_row w1 _ 1 _ 26 (0, 0) x1
  have c2 := cell_of_row w1 _ 2 _ 26 (0, 0) x1
  have c3 := cell_of_row w1 _ 3 _ 26 (0, 0) x1
  unfold arV at CC HT ⊢
  unfold mvV
  have HX1 := Lib.hid x1
  have HX2 := Lib.hid x2
  clear hb hv x1 x2 hpl hT
  by_cases hck : checkRes a = 0
  · rw [hck] at CC
    have HC := Lib.hid hck
    clear hck
    go_enter Tryz.func83, Tryz.ntmps83
    go_wp2_with (go_at_call 20; refine (CC.out _ HB.out).mono ?_; rintro e w2 ⟨rfl, hb2⟩; have y1 := (hb2.block _ (Array.getElem?_eq_some_iff.1 HX1.out).1).trans HX1.out; have c0 := cell_of_row w2 _ 0 _ 26 (0, 0) y1; have c1 := cell_of_row w2 _ 1 _ 26 (0, 0) y1; have c2 := cell_of_row w2 _ 2 _ 26 (0, 0) y1; have c3 := cell_of_row w2 _ 3 _ 26 (0, 0) y1)
    obtain ⟨w3, hw3⟩ : ∃ w3, w2.alloc (.cells #[.slice A a.ids.length c, .bool a.root.cell, .int .i64 a.root.n, .bool a.jumps] 105) = w3 := ⟨_, rfl⟩
    rw [hw3]
    have hb3 : Below w.heap.size w w3 := by rw [← hw3]; exact (HB.out.trans (hb2.mono HB.out.size)).alloc (by have := HB.out.size; have := hb2.size; omega) _
    have z1 := (hb2.block _ (Array.getElem?_eq_some_iff.1 HX1.out).1).trans HX1.out
    have z2 : BoxM w2 _ _ := (hb2.block _ HX2.out.lt).trans HX2.out
    have y1 : w3.heap[w.heap.size]? = some (.cells #[.slice A a.ids.length c, .bool a.root.cell, .int .i64 a.root.n, .bool a.jumps] 26 (0, 0)) := by rw [← hw3]; exact (Below.heap_alloc _ _ _ (Array.getElem?_eq_some_iff.1 z1).1).trans z1
    have y2 : BoxM w3 (w.heap.size + 1) m := by rw [← hw3]; exact (Below.heap_alloc _ _ _ z2.lt).trans z2
    have y3 : w3.heap[w2.heap.size]? = some (.cells #[.slice A a.ids.length c, .bool a.root.cell, .int .i64 a.root.n, .bool a.jumps] 105 (0, 0)) := by rw [← hw3]; exact World.alloc_heap_new w2 _
    have HB3 := Lib.hid hb3
    have HY2 := Lib.hid y2
    have HY3 := Lib.hid y3
    have m0 := y2.c0
    have m1 := y2.c1
    have r0 := cell_of_row w3 _ 0 _ 105 (0, 0) y3
    have r1 := cell_of_row w3 _ 1 _ 105 (0, 0) y3
    have r2 := cell_of_row w3 _ 2 _ 105 (0, 0) y3
    have r3 := cell_of_row w3 _ 3 _ 105 (0, 0) y3
    have hl2 : w2.heap.size < w3.heap.size := (Array.getElem?_eq_some_iff.1 y3).1
    have hl1 : w.heap.size + 1 < w3.heap.size := y2.lt
    have HS := Lib.hid (check_small HC.out).1
    clear hb3 z1 z2 y1 y2 y3 c0 c1 c2 c3 hb2 hw3
    have C88 : Hid (∀ W, Calls Tryz.prog 88 #[.int .i64 m.id, .int .i64 m.arg] W fun e w' => ∃ B C, e = .returned (.func (.func 161) #[] #[.pointer (some ⟨B, 0, none⟩), .pointer (some ⟨C, 0, none⟩)]) ∧ Boxed w' B 3 (.int .i64 m.id) ∧ Boxed w' C 3 (.int .i64 m.arg) ∧ Below W.heap.size W w') := Lib.hid fun W => by
      refine (at_any m.id m.arg W).mono ?_
      rintro e w' ⟨rfl, rfl⟩
      exact ⟨_, _, rfl, (Boxed.new W 3 _).alloc _, by have := Boxed.new (W.alloc (.cells #[.int .i64 m.id] 3)) 3 (.int .i64 m.arg); rwa [World.size_alloc] at this, ((Below.refl _ W).alloc (Nat.le_refl _) _).alloc (by simp) _⟩
    have C100 : Hid (∀ B C W, Boxed W B 3 (.int .i64 m.id) → Boxed W C 3 (.int .i64 m.arg) → Below w3.heap.size w3 W → Calls Tryz.prog 100 #[.agg #[.slice A a.ids.length c, .bool a.root.cell, .int .i64 a.root.n, .bool a.jumps], .func (.func 161) #[] #[.pointer (some ⟨B, 0, none⟩), .pointer (some ⟨C, 0, none⟩)]] W fun e w' =>
        e = .returned (.tuple #[plV (findRes (places a) (atB m.id m.arg)).1, .bool (findRes (places a) (atB m.id m.arg)).2]) ∧ Below W.heap.size W w') := Lib.hid fun B C W hB hC hW => by
      have hwW : Below w.heap.size w W := HB3.out.trans (hW.mono HB3.out.size)
      exact find_any (.slice A a.ids.length c) a _ _ W HS.out (tyIn_later HV.out hwW) ⟨161, _, rfl, enters_of Tryz.func161 (by kernel_rfl) rfl, fun W' hW' p =>
        at1_any p _ _ _ _ W' (cell_of_row W' _ 0 _ 3 (0, 0) ((hW' _ hB.lt).trans hB)) (cell_of_row W' _ 0 _ 3 (0, 0) ((hW' _ hC.lt).trans hC))⟩
    obtain ⟨⟨fp, fb⟩, hF⟩ : ∃ F, findRes (places a) (atB m.id m.arg) = F := ⟨_, rfl⟩
    rw [hF] at C100
    have HF := Lib.hid hF
    unfold plV at C100
    dsimp only at C100
    clear hF
    have HL2 := Lib.hid hl2
    have HL1 := Lib.hid hl1
    go_region_held3 (fun W => W.cell? ⟨w2.heap.size, 0, none⟩ = some (.slice A a.ids.length c) ∧ W.cell? ⟨w2.heap.size, 1, none⟩ = some (.bool a.root.cell) ∧ W.cell? ⟨w2.heap.size, 2, none⟩ = some (.int .i64 a.root.n) ∧ W.cell? ⟨w2.heap.size, 3, none⟩ = some (.bool a.jumps) ∧
        W.cell? ⟨w.heap.size + 1, 0, none⟩ = some (.int .i64 m.id) ∧ W.cell? ⟨w.heap.size + 1, 1, none⟩ = some (.int .i64 m.arg))
      (first
        | go_keep
        | (go_split_ands
           refine ⟨?_, ?_, ?_, ?_, ?_, ?_⟩ <;> (repeat' (first
             | assumption
             | refine cell_alloc_some _ ?_
             | refine cell_set_some _ (by have h1 := HL2.out; have h2 := HL1.out; have h3 := hb4.size; dsimp only; simp at h3 ⊢; omega) ?_
             | refine (ho6.cell (by have h1 := HL2.out; have h2 := HL1.out; have h3 := hb4.size; have h4 := hb5.size; simp at h3 h4 ⊢; omega) (by have h1 := HL2.out; have h2 := HL1.out; have h3 := hb4.size; simp at h3 ⊢; omega)).trans ?_
             | refine (hb5.cell (by have h1 := HL2.out; have h2 := HL1.out; have h3 := hb4.size; simp at h3 ⊢; omega)).trans ?_
             | refine (hb4.cell (by have h1 := HL2.out; have h2 := HL1.out; simp; omega)).trans ?_)))
        | (trace_state; fail))
      (first
      | (go_at_call 88; refine (C88.out _).mono ?_; rintro e w4 ⟨B, C, rfl, hB4, hC4, hb4⟩)
      | (go_at_call 100; first | (refine (C100.out _ _ _ hB4 hC4 (((Below.refl _ w3).drew).trans hb4)).mono ?_; rintro e w5 ⟨rfl, hb5⟩) | (refine (C100.out _ _ _ (hB4.alloc _) (hC4.alloc _) ((((Below.refl _ w3).drew).trans hb4).alloc hb4.size _)).mono ?_; rintro e w5 ⟨rfl, hb5⟩; have z5 : BoxP w5 w4.heap.size zeroPl := (hb5.block _ (by simp)).trans (BoxP.new w4 zeroPl); obtain ⟨x1, x2, x3, x4, w6, e1, e2, e3, e4, e5, ⟨o0, s0⟩, f0, ⟨o1, s1⟩, f1, ⟨o2, s2⟩, f2, ⟨o3, s3⟩, f3, ⟨o4, s4⟩, f4, z6, ho6⟩ := chain111 z5 fp) | (refine (C100.out _ _ _ hB4 hC4 ((((Below.refl _ w3).drew).alloc (Nat.le_refl _) _).trans (hb4.mono (by simp)))).mono ?_; rintro e w5 ⟨rfl, hb5⟩; have z5 : BoxP w5 w3.heap.size zeroPl := (hb5.block _ (by have := hb4.size; simp at this; omega)).trans ((hb4.block _ (by simp)).trans (BoxP.new w3.drew zeroPl)); obtain ⟨x1, x2, x3, x4, w6, e1, e2, e3, e4, e5, ⟨o0, s0⟩, f0, ⟨o1, s1⟩, f1, ⟨o2, s2⟩, f2, ⟨o3, s3⟩, f3, ⟨o4, s4⟩, f4, z6, ho6⟩ := chain111 z5 fp)))
    · rename_i hheld
      obtain ⟨u0, u1, u2, u3, _, _⟩ := hheld
      obtain ⟨W9, hW9⟩ : ∃ W9, w5.alloc (.cells #[.bool fp.b.cell, .int .i64 fp.b.n, .int .i64 fp.id, .int .i64 fp.arg, .bool fp.jumps] 111) = W9 := ⟨_, rfl⟩
      rw [hW9] at u0 u1 u2 u3 ⊢
      have hb35 : Below w3.heap.size w3 w5 := (((Below.refl _ w3).drew).trans hb4).trans (hb5.mono hb4.size)
      have hb9 : Below w.heap.size w W9 := by rw [← hW9]; exact (HB3.out.trans (hb35.mono HB3.out.size)).alloc (Nat.le_trans HB3.out.size hb35.size) _
      have hsz9 : w3.heap.size ≤ W9.heap.size := by rw [← hW9]; simp; have := hb35.size; omega
      have z9 : BoxP W9 w5.heap.size fp := by rw [← hW9]; exact BoxP.new w5 fp
      have m9 : BoxM W9 (w.heap.size + 1) m := by rw [← hW9]; exact (Below.heap_alloc _ _ _ (Nat.lt_of_lt_of_le HL1.out hb35.size)).trans ((hb35.block _ HL1.out).trans HY2.out)
      clear hb4 hb5 hb35 hB4 hC4
      have HU0 := Lib.hid u0
      have HU1 := Lib.hid u1
      have HU2 := Lib.hid u2
      have HU3 := Lib.hid u3
      have HUL : Hid (w2.heap.size < W9.heap.size) := Lib.hid (Nat.lt_of_lt_of_le HL2.out (by simpa using hsz9))
      have HZ9 := Lib.hid z9
      have HM9 := Lib.hid m9
      have HB9 := Lib.hid hb9
      have p0 := z9.c0
      have p1 := z9.c1
      have p2 := z9.c2
      have p3 := z9.c3
      have p4 := z9.c4
      have n0 := m9.c0
      have n1 := m9.c1
      have n2 := m9.c2
      have n3 := m9.c3
      clear z9 m9 hb9 hsz9 m0 m1 r0 r1 r2 r3 hl1 hl2
      cases fb with
      | false =>
        have HW : Hid (whichPl a m = none) := Lib.hid (which_none1 HF.out)
        go_wp2
        refine bodyPost_ret (results_tmp2 rfl _ _ _) rfl ?_
        exact ⟨HB9.out, _, _, rfl, .inr ⟨HC.out, toldQ_none HW.out⟩⟩
      | true =>
        have HN64 : Hid (fp.b.n ≤ 9223372036854775807) := Lib.hid (by have := places_ok HC.out (find_mem HF.out); omega)
        have C160 : Hid (∀ W, Calls Tryz.prog 160 #[plV fp, mvV m] W fun e w' => e = .returned (.bool (hasMv fp m)) ∧ Below W.heap.size W w') := Lib.hid fun W => has_any fp m W HN64.out
        unfold plV mvV at C160
        cases hh : hasMv fp m with
        | false =>
          rw [hh] at C160
          have HW : Hid (whichPl a m = none) := Lib.hid (which_none2 HF.out hh)
          clear hh
          go_wp2_with (go_at_call 160; refine (C160.out _).mono ?_; rintro e w10 ⟨rfl, hb10⟩)
          refine bodyPost_ret (results_tmp2 rfl _ _ _) rfl ?_
          exact ⟨HB9.out.trans (hb10.mono HB9.out.size), _, _, rfl, .inr ⟨HC.out, toldQ_none HW.out⟩⟩
        | true =>
          rw [hh] at C160
          have HW : Hid (whichPl a m = some fp) := Lib.hid (which_some HF.out hh)
          clear hh
          have CT : Hid (∀ W, Below W9.heap.size W9 W → Calls Tryz.prog k (#[.agg #[.slice A a.ids.length c, .bool a.root.cell, .int .i64 a.root.n, .bool a.jumps], plV fp] ++ cp) W fun e W' => ∃ x er, e = .returned (.tuple #[x, .int .i64 er]) ∧ Post fp x er W W' ∧ Below W.heap.size W W') :=
            Lib.hid fun W hW => HT.out HC.out W (HB9.out.trans (hW.mono HB9.out.size)) fp
          unfold plV at CT
          go_wp2_with (first
            | (go_at_call 160; refine (C160.out _).mono ?_; rintro e w10 ⟨rfl, hb10⟩; have v0 := (hb10.cell (p := ⟨w2.heap.size, 0, none⟩) HUL.out).trans HU0.out; have v1 := (hb10.cell (p := ⟨w2.heap.size, 1, none⟩) HUL.out).trans HU1.out; have v2 := (hb10.cell (p := ⟨w2.heap.size, 2, none⟩) HUL.out).trans HU2.out; have v3 := (hb10.cell (p := ⟨w2.heap.size, 3, none⟩) HUL.out).trans HU3.out; have zz : BoxP w10 _ fp := (hb10.block _ HZ9.out.lt).trans HZ9.out; have q0 := zz.c0; have q1 := zz.c1; have q2 := zz.c2; have q3 := zz.c3; have q4 := zz.c4)
            | (go_at_fn k; refine (CT.out _ hb10).mono ?_; rintro e w11 ⟨x, er, rfl, hpost, hb11⟩))
          refine bodyPost_ret (results_tmp2 rfl _ _ _) rfl ?_
          have hb12 := HB9.out.trans (hb10.mono HB9.out.size)
          exact ⟨hb12.trans (hb11.mono hb12.size), _, _, rfl, .inr ⟨HC.out, toldQ_some HW.out ⟨w10, hb12, hpost⟩⟩⟩
    · rename_i hheld
      obtain ⟨u0, u1, u2, u3, _, _⟩ := hheld
      obtain ⟨W9, hW9⟩ : ∃ W9, w6 = W9 := ⟨_, rfl⟩
      rw [hW9] at u0 u1 u2 u3 z6 ho6 ⊢
      have hb34 : Below w3.heap.size w3 w4 := ((Below.refl _ w3).drew).trans hb4
      have hb35 : Below w3.heap.size w3 w5 := (hb34.alloc hb34.size _).trans (hb5.mono (by simp; have := hb34.size; omega))
      have hb39 : Below w3.heap.size w3 W9 := hb35.trans (ho6.below _ hb35.size (fun b hb h => by have := hb34.size; omega))
      have hb9 : Below w.heap.size w W9 := HB3.out.trans (hb39.mono HB3.out.size)
      have hsz9 : w3.heap.size ≤ W9.heap.size := hb39.size
      have z9 : BoxP W9 w4.heap.size fp := z6
      have m9 : BoxM W9 (w.heap.size + 1) m := (hb39.block _ HL1.out).trans HY2.out
      clear hb4 hb5 hb34 hb35 hb39 hB4 hC4 s0 s1 s2 s3 s4 f0 f1 f2 f3 f4 e1 e2 e3 e4 e5 z6 ho6
      have HU0 := Lib.hid u0
      have HU1 := Lib.hid u1
      have HU2 := Lib.hid u2
      have HU3 := Lib.hid u3
      have HUL : Hid (w2.heap.size < W9.heap.size) := Lib.hid (Nat.lt_of_lt_of_le HL2.out (by simpa using hsz9))
      have HZ9 := Lib.hid z9
      have HM9 := Lib.hid m9
      have HB9 := Lib.hid hb9
      have p0 := z9.c0
      have p1 := z9.c1
      have p2 := z9.c2
      have p3 := z9.c3
      have p4 := z9.c4
      have n0 := m9.c0
      have n1 := m9.c1
      have n2 := m9.c2
      have n3 := m9.c3
      clear z9 m9 hb9 hsz9 m0 m1 r0 r1 r2 r3 hl1 hl2
      cases fb with
      | false =>
        have HW : Hid (whichPl a m = none) := Lib.hid (which_none1 HF.out)
        go_wp2
        refine bodyPost_ret (results_tmp2 rfl _ _ _) rfl ?_
        exact ⟨HB9.out, _, _, rfl, .inr ⟨HC.out, toldQ_none HW.out⟩⟩
      | true =>
        have HN64 : Hid (fp.b.n ≤ 9223372036854775807) := Lib.hid (by have := places_ok HC.out (find_mem HF.out); omega)
        have C160 : Hid (∀ W, Calls Tryz.prog 160 #[plV fp, mvV m] W fun e w' => e = .returned (.bool (hasMv fp m)) ∧ Below W.heap.size W w') := Lib.hid fun W => has_any fp m W HN64.out
        unfold plV mvV at C160
        cases hh : hasMv fp m with
        | false =>
          rw [hh] at C160
          have HW : Hid (whichPl a m = none) := Lib.hid (which_none2 HF.out hh)
          clear hh
          go_wp2_with (go_at_call 160; refine (C160.out _).mono ?_; rintro e w10 ⟨rfl, hb10⟩)
          refine bodyPost_ret (results_tmp2 rfl _ _ _) rfl ?_
          exact ⟨HB9.out.trans (hb10.mono HB9.out.size), _, _, rfl, .inr ⟨HC.out, toldQ_none HW.out⟩⟩
        | true =>
          rw [hh] at C160
          have HW : Hid (whichPl a m = some fp) := Lib.hid (which_some HF.out hh)
          clear hh
          have CT : Hid (∀ W, Below W9.heap.size W9 W → Calls Tryz.prog k (#[.agg #[.slice A a.ids.length c, .bool a.root.cell, .int .i64 a.root.n, .bool a.jumps], plV fp] ++ cp) W fun e W' => ∃ x er, e = .returned (.tuple #[x, .int .i64 er]) ∧ Post fp x er W W' ∧ Below W.heap.size W W') :=
            Lib.hid fun W hW => HT.out HC.out W (HB9.out.trans (hW.mono HB9.out.size)) fp
          unfold plV at CT
          go_wp2_with (first
            | (go_at_call 160; refine (C160.out _).mono ?_; rintro e w10 ⟨rfl, hb10⟩; have v0 := (hb10.cell (p := ⟨w2.heap.size, 0, none⟩) HUL.out).trans HU0.out; have v1 := (hb10.cell (p := ⟨w2.heap.size, 1, none⟩) HUL.out).trans HU1.out; have v2 := (hb10.cell (p := ⟨w2.heap.size, 2, none⟩) HUL.out).trans HU2.out; have v3 := (hb10.cell (p := ⟨w2.heap.size, 3, none⟩) HUL.out).trans HU3.out; have zz : BoxP w10 _ fp := (hb10.block _ HZ9.out.lt).trans HZ9.out; have q0 := zz.c0; have q1 := zz.c1; have q2 := zz.c2; have q3 := zz.c3; have q4 := zz.c4)
            | (go_at_fn k; refine (CT.out _ hb10).mono ?_; rintro e w11 ⟨x, er, rfl, hpost, hb11⟩))
          refine bodyPost_ret (results_tmp2 rfl _ _ _) rfl ?_
          have hb12 := HB9.out.trans (hb10.mono HB9.out.size)
          exact ⟨hb12.trans (hb11.mono hb12.size), _, _, rfl, .inr ⟨HC.out, toldQ_some HW.out ⟨w10, hb12, hpost⟩⟩⟩
    · rename_i hheld
      obtain ⟨u0, u1, u2, u3, _, _⟩ := hheld
      obtain ⟨W9, hW9⟩ : ∃ W9, w6 = W9 := ⟨_, rfl⟩
      rw [hW9] at u0 u1 u2 u3 z6 ho6 ⊢
      have hb34 : Below w3.heap.size w3 w4 := (((Below.refl _ w3).drew).alloc (Nat.le_refl _) _).trans (hb4.mono (by simp))
      have hb35 : Below w3.heap.size w3 w5 := hb34.trans (hb5.mono hb34.size)
      have hb39 : Below w3.heap.size w3 W9 := hb35.trans (ho6.below _ hb35.size (fun b hb h => by omega))
      have hb9 : Below w.heap.size w W9 := HB3.out.trans (hb39.mono HB3.out.size)
      have hsz9 : w3.heap.size ≤ W9.heap.size := hb39.size
      have z9 : BoxP W9 w3.heap.size fp := z6
      have m9 : BoxM W9 (w.heap.size + 1) m := (hb39.block _ HL1.out).trans HY2.out
      clear hb4 hb5 hb34 hb35 hb39 hB4 hC4 s0 s1 s2 s3 s4 f0 f1 f2 f3 f4 e1 e2 e3 e4 e5 z6 ho6
      have HU0 := Lib.hid u0
      have HU1 := Lib.hid u1
      have HU2 := Lib.hid u2
      have HU3 := Lib.hid u3
      have HUL : Hid (w2.heap.size < W9.heap.size) := Lib.hid (Nat.lt_of_lt_of_le HL2.out (by simpa using hsz9))
      have HZ9 := Lib.hid z9
      have HM9 := Lib.hid m9
      have HB9 := Lib.hid hb9
      have p0 := z9.c0
      have p1 := z9.c1
      have p2 := z9.c2
      have p3 := z9.c3
      have p4 := z9.c4
      have n0 := m9.c0
      have n1 := m9.c1
      have n2 := m9.c2
      have n3 := m9.c3
      clear z9 m9 hb9 hsz9 m0 m1 r0 r1 r2 r3 hl1 hl2
      cases fb with
      | false =>
        have HW : Hid (whichPl a m = none) := Lib.hid (which_none1 HF.out)
        go_wp2
        refine bodyPost_ret (results_tmp2 rfl _ _ _) rfl ?_
        exact ⟨HB9.out, _, _, rfl, .inr ⟨HC.out, toldQ_none HW.out⟩⟩
      | true =>
        have HN64 : Hid (fp.b.n ≤ 9223372036854775807) := Lib.hid (by have := places_ok HC.out (find_mem HF.out); omega)
        have C160 : Hid (∀ W, Calls Tryz.prog 160 #[plV fp, mvV m] W fun e w' => e = .returned (.bool (hasMv fp m)) ∧ Below W.heap.size W w') := Lib.hid fun W => has_any fp m W HN64.out
        unfold plV mvV at C160
        cases hh : hasMv fp m with
        | false =>
          rw [hh] at C160
          have HW : Hid (whichPl a m = none) := Lib.hid (which_none2 HF.out hh)
          clear hh
          go_wp2_with (go_at_call 160; refine (C160.out _).mono ?_; rintro e w10 ⟨rfl, hb10⟩)
          refine bodyPost_ret (results_tmp2 rfl _ _ _) rfl ?_
          exact ⟨HB9.out.trans (hb10.mono HB9.out.size), _, _, rfl, .inr ⟨HC.out, toldQ_none HW.out⟩⟩
        | true =>
          rw [hh] at C160
          have HW : Hid (whichPl a m = some fp) := Lib.hid (which_some HF.out hh)
          clear hh
          have CT : Hid (∀ W, Below W9.heap.size W9 W → Calls Tryz.prog k (#[.agg #[.slice A a.ids.length c, .bool a.root.cell, .int .i64 a.root.n, .bool a.jumps], plV fp] ++ cp) W fun e W' => ∃ x er, e = .returned (.tuple #[x, .int .i64 er]) ∧ Post fp x er W W' ∧ Below W.heap.size W W') :=
            Lib.hid fun W hW => HT.out HC.out W (HB9.out.trans (hW.mono HB9.out.size)) fp
          unfold plV at CT
          go_wp2_with (first
            | (go_at_call 160; refine (C160.out _).mono ?_; rintro e w10 ⟨rfl, hb10⟩; have v0 := (hb10.cell (p := ⟨w2.heap.size, 0, none⟩) HUL.out).trans HU0.out; have v1 := (hb10.cell (p := ⟨w2.heap.size, 1, none⟩) HUL.out).trans HU1.out; have v2 := (hb10.cell (p := ⟨w2.heap.size, 2, none⟩) HUL.out).trans HU2.out; have v3 := (hb10.cell (p := ⟨w2.heap.size, 3, none⟩) HUL.out).trans HU3.out; have zz : BoxP w10 _ fp := (hb10.block _ HZ9.out.lt).trans HZ9.out; have q0 := zz.c0; have q1 := zz.c1; have q2 := zz.c2; have q3 := zz.c3; have q4 := zz.c4)
            | (go_at_fn k; refine (CT.out _ hb10).mono ?_; rintro e w11 ⟨x, er, rfl, hpost, hb11⟩))
          refine bodyPost_ret (results_tmp2 rfl _ _ _) rfl ?_
          have hb12 := HB9.out.trans (hb10.mono HB9.out.size)
          exact ⟨hb12.trans (hb11.mono hb12.size), _, _, rfl, .inr ⟨HC.out, toldQ_some HW.out ⟨w10, hb12, hpost⟩⟩⟩
  · have HC := Lib.hid hck
    have hne : (checkRes a != 0) = true := by simpa using hck
    clear hck
    go_enter Tryz.func83, Tryz.ntmps83
    go_wp2_with (go_at_call 20; refine (CC.out _ HB.out).mono ?_; rintro e w2 ⟨rfl, hb2⟩)
    refine bodyPost_ret (results_tmp2 rfl _ _ _) rfl ?_
    exact ⟨HB.out.trans (hb2.mono HB.out.size), _, _, rfl, .inl ⟨HC.out, rfl, rfl⟩⟩
end Go.Proofs.YtklfojmflmablaaGreatDoor
