/- ArenaTexts: the reference: Parse, way by way. -/
import Derived.Test.YtklfojmflmablaaGreatDoorLtw
import Derived.BigRegion
/- The reference: Parse. -/
namespace Go.Proofs.YtklfojmflmablaaGreatDoor
open Go Go.RowKit Go.Shelf

theorem results_refParse {tmps : Array Value} {W : World} {B : Nat} {m : Mv} {e : Int} (h : BoxM W B m) (t2 : tmps[2]?.getD undef = .pointer (some ⟨B, 0, none⟩)) (t3 : tmps[3]?.getD undef = .int .i64 e) :
    (results Tryz.f45 tmps).run Tryz.prog W = .ok (.tuple #[mvV m, .int .i64 e]) W := by
  have c0 := h.c0
  have c1 := h.c1
  have c2 := h.c2
  have c3 := h.c3
  simp [results, Tryz.results45, t2, t3, go_sem, loadVar, c0, c1, c2, c3, mvV]

theorem box_id {W : World} {B : Nat} {m : Mv} (h : BoxM W B m) (x : Int) : ∃ W', W.setCell ⟨B, 0, none⟩ (.int .i64 x) = W' ∧ W.cell? ⟨B, 0, none⟩ = some (.int .i64 m.id) ∧ W.frozen? ⟨B, 0, none⟩ = false ∧ BoxM W' B ⟨x, m.arg, m.kind, m.n⟩ ∧ Only (fun k => k = B) W W' :=
  ⟨_, rfl, h.c0, by simp [World.frozen?, show W.heap[B]? = _ from h], heap_setCell_same W B 0 _ 40 _ h, (Only.refl (fun k => k = B) W).setCell _ _ fun _ => rfl⟩
theorem box_arg {W : World} {B : Nat} {m : Mv} (h : BoxM W B m) (x : Int) : ∃ W', W.setCell ⟨B, 1, none⟩ (.int .i64 x) = W' ∧ W.cell? ⟨B, 1, none⟩ = some (.int .i64 m.arg) ∧ W.frozen? ⟨B, 1, none⟩ = false ∧ BoxM W' B ⟨m.id, x, m.kind, m.n⟩ ∧ Only (fun k => k = B) W W' :=
  ⟨_, rfl, h.c1, by simp [World.frozen?, show W.heap[B]? = _ from h], heap_setCell_same W B 1 _ 40 _ h, (Only.refl (fun k => k = B) W).setCell _ _ fun _ => rfl⟩
theorem box_kind {W : World} {B : Nat} {m : Mv} (h : BoxM W B m) (x : Int) : ∃ W', W.setCell ⟨B, 2, none⟩ (.int .u8 x) = W' ∧ W.cell? ⟨B, 2, none⟩ = some (.int .u8 m.kind) ∧ W.frozen? ⟨B, 2, none⟩ = false ∧ BoxM W' B ⟨m.id, m.arg, x, m.n⟩ ∧ Only (fun k => k = B) W W' :=
  ⟨_, rfl, h.c2, by simp [World.frozen?, show W.heap[B]? = _ from h], heap_setCell_same W B 2 _ 40 _ h, (Only.refl (fun k => k = B) W).setCell _ _ fun _ => rfl⟩
theorem box_n {W : World} {B : Nat} {m : Mv} (h : BoxM W B m) (x : Int) : ∃ W', W.setCell ⟨B, 3, none⟩ (.int .i64 x) = W' ∧ W.cell? ⟨B, 3, none⟩ = some (.int .i64 m.n) ∧ W.frozen? ⟨B, 3, none⟩ = false ∧ BoxM W' B ⟨m.id, m.arg, m.kind, x⟩ ∧ Only (fun k => k = B) W W' :=
  ⟨_, rfl, h.c3, by simp [World.frozen?, show W.heap[B]? = _ from h], heap_setCell_same W B 3 _ 40 _ h, (Only.refl (fun k => k = B) W).setCell _ _ fun _ => rfl⟩
set_option maxRecDepth 100000 in
set_option maxHeartbeats 1000000 in
theorem pp_n1fe (s S1 S3 : ByteArray) (n1 n3 : Int) (k1 k3 : Nat) (w : World)
    (C1 : Hid (∀ W, Calls Tryz.prog 113 #[.string s] W fun e w' => e = .returned (.tuple #[.int .i64 n1, .int .i64 (k1 : Int)]) ∧ W = w'))
    (hk1 : k1 ≤ s.size) (hs : s.size ≤ 1000) (hS1 : s.extract k1 s.size = S1) (hp1 : 0 < S1.size) (c : UInt8) (hc : S1[0]'hp1 = c)
    (h46 : ((c.toNat : Int) == 46) = false)
    (h63 : ((c.toNat : Int) == 63) = true)
    (hem : S1.toList.isEmpty = false)
    (hS3 : S1.extract 1 S1.size = S3) (C3 : Hid (∀ W, Calls Tryz.prog 113 #[.string S3] W fun e w' => e = .returned (.tuple #[.int .i64 n3, .int .i64 (k3 : Int)]) ∧ W = w'))
    (hst : (S1.toList == [33, 42]) = false)
    (T : ByteArray) (es : Int) (hes : (es != 0) = true) (CT : Hid (∀ W, Calls Tryz.prog 44 #[mvV ⟨n1, 0, 1, n3⟩] W fun e w' => e = .returned (.tuple #[.string T, .int .i64 es]) ∧ Below W.heap.size W w')) :
    Calls Tryz.prog 45 #[.string s] w fun e w' => e = .returned (.tuple #[mvV zeroMv, .int .i64 4]) ∧ Below w.heap.size w w' := by
  have i1 : (0 : Int) < (S1.size : Int) := by omega
  have i2 : (k1 : Int) ≤ (s.size : Int) := by omega
  obtain ⟨w1, hw1⟩ : ∃ w1, (w.alloc (.cells #[.int .i64 0, .int .i64 0, .int .u8 0, .int .i64 0] 40)).alloc (.cells #[.int .i64 0, .int .i64 0, .int .u8 0, .int .i64 0] 40) = w1 := ⟨_, rfl⟩
  have hb : Below w.heap.size w w1 := by rw [← hw1]; exact ((Below.refl _ w).alloc (Nat.le_refl _) _).alloc (by simp) _
  have y0 : BoxM w1 w.heap.size zeroMv := by rw [← hw1]; exact (Below.heap_alloc _ _ _ (by simp)).trans (World.alloc_heap_new w _)
  have y1 : BoxM w1.drew (w.heap.size + 1) ⟨0, 0, 0, 0⟩ := by
    rw [← hw1]
    have := World.alloc_heap_new (w.alloc (.cells #[.int .i64 0, .int .i64 0, .int .u8 0, .int .i64 0] 40)) (.cells #[.int .i64 0, .int .i64 0, .int .u8 0, .int .i64 0] 40); rwa [World.size_alloc] at this
  obtain ⟨v1, e1, s1, f1, by1, o1⟩ := box_id y1 n1
  have o12 : Only (fun k => k = w.heap.size + 1) w1 v1 := ⟨o1.os, o1.tape, o1.output, o1.size, fun k hk hne => o1.block k hk hne⟩
  obtain ⟨v3, e3, s3, f3, by3, o3⟩ := box_kind by1 1
  have o13 := o12.trans o3 (fun _ _ h => h)
  obtain ⟨v4, e4, s4, f4, by4, o4⟩ := box_n by3 n3
  have o14 := o13.trans o4 (fun _ _ h => h)
  obtain ⟨c0, c1, c2', c3⟩ := And.intro by4.c0 (And.intro by4.c1 (And.intro by4.c2 by4.c3))
  have HBX := Lib.hid by4
  have HON := Lib.hid o14
  have HY0 := Lib.hid y0
  have HB := Lib.hid hb
  have HL0 := Lib.hid y0.lt
  dsimp only at *
  unfold mvV at *
  clear y0 y1 hb by1 by3 by4 o1 o12 o3 o13 o4 o14
  go_enter Tryz.func45, Tryz.ntmps45
  go_wp2_with (go_at_call 113; first | ((with_reducible refine (C1.out _).mono ?_); rintro e w2 ⟨rfl, rfl⟩))
  go_region
  all_goals go_wp2_with (first | (go_at_call 113; first | ((with_reducible refine (C3.out _).mono ?_); rintro e w2 ⟨rfl, rfl⟩)) | (go_at_call 44; refine (CT.out _).mono ?_; rintro e w6 ⟨rfl, hb6⟩; have z4 := (hb6.block _ HBX.out.lt).trans HBX.out; obtain ⟨a0, a1, a2, a3⟩ := And.intro (BoxM.c0 z4) (And.intro (BoxM.c1 z4) (And.intro (BoxM.c2 z4) (BoxM.c3 z4))); have z2 : BoxM w6 w.heap.size zeroMv := (hb6.block _ (Nat.lt_of_lt_of_le HL0.out HON.out.size)).trans ((HON.out.block _ HL0.out (by omega)).trans HY0.out); obtain ⟨x1, x2, x3, x4, g1, g2, g3, g4, t0, u0, t1, u1, t2, u2, t3, u3, hx4, ho⟩ := chain40 z2 zeroMv; have HX4 := Lib.hid hx4; have HO := Lib.hid ho; have HB6 := Lib.hid hb6; clear hx4 ho; unfold zeroMv at t0 t1 t2 t3 g1 g2 g3 g4; dsimp only at a0 a1 a2 a3 t0 t1 t2 t3 g1 g2 g3 g4))
  all_goals refine bodyPost_ret (results_refParse HX4.out rfl rfl) rfl ?_
  all_goals exact ⟨rfl, (HB.out.trans ((HON.out.below w.heap.size (by have := HL0.out; omega) (fun b hb h => by omega)).trans (HB6.out.mono (Nat.le_trans (Nat.le_of_lt HL0.out) HON.out.size)))).trans (HO.out.below _ (Nat.le_trans (Nat.le_trans (Nat.le_of_lt HL0.out) HON.out.size) HB6.out.size) (fun b hb h => by omega))⟩
set_option maxRecDepth 100000 in
set_option maxHeartbeats 1000000 in
theorem pp_n1fn (s S1 S3 : ByteArray) (n1 n3 : Int) (k1 k3 : Nat) (w : World)
    (C1 : Hid (∀ W, Calls Tryz.prog 113 #[.string s] W fun e w' => e = .returned (.tuple #[.int .i64 n1, .int .i64 (k1 : Int)]) ∧ W = w'))
    (hk1 : k1 ≤ s.size) (hs : s.size ≤ 1000) (hS1 : s.extract k1 s.size = S1) (hp1 : 0 < S1.size) (c : UInt8) (hc : S1[0]'hp1 = c)
    (h46 : ((c.toNat : Int) == 46) = false)
    (h63 : ((c.toNat : Int) == 63) = true)
    (hem : S1.toList.isEmpty = false)
    (hS3 : S1.extract 1 S1.size = S3) (C3 : Hid (∀ W, Calls Tryz.prog 113 #[.string S3] W fun e w' => e = .returned (.tuple #[.int .i64 n3, .int .i64 (k3 : Int)]) ∧ W = w'))
    (hst : (S1.toList == [33, 42]) = false)
    (T : ByteArray) (CT : Hid (∀ W, Calls Tryz.prog 44 #[mvV ⟨n1, 0, 1, n3⟩] W fun e w' => e = .returned (.tuple #[.string T, .int .i64 0]) ∧ Below W.heap.size W w'))
    (hT : (T.toList == s.toList) = false) :
    Calls Tryz.prog 45 #[.string s] w fun e w' => e = .returned (.tuple #[mvV zeroMv, .int .i64 4]) ∧ Below w.heap.size w w' := by
  have i1 : (0 : Int) < (S1.size : Int) := by omega
  have i2 : (k1 : Int) ≤ (s.size : Int) := by omega
  obtain ⟨w1, hw1⟩ : ∃ w1, (w.alloc (.cells #[.int .i64 0, .int .i64 0, .int .u8 0, .int .i64 0] 40)).alloc (.cells #[.int .i64 0, .int .i64 0, .int .u8 0, .int .i64 0] 40) = w1 := ⟨_, rfl⟩
  have hb : Below w.heap.size w w1 := by rw [← hw1]; exact ((Below.refl _ w).alloc (Nat.le_refl _) _).alloc (by simp) _
  have y0 : BoxM w1 w.heap.size zeroMv := by rw [← hw1]; exact (Below.heap_alloc _ _ _ (by simp)).trans (World.alloc_heap_new w _)
  have y1 : BoxM w1.drew (w.heap.size + 1) ⟨0, 0, 0, 0⟩ := by
    rw [← hw1]
    have := World.alloc_heap_new (w.alloc (.cells #[.int .i64 0, .int .i64 0, .int .u8 0, .int .i64 0] 40)) (.cells #[.int .i64 0, .int .i64 0, .int .u8 0, .int .i64 0] 40); rwa [World.size_alloc] at this
  obtain ⟨v1, e1, s1, f1, by1, o1⟩ := box_id y1 n1
  have o12 : Only (fun k => k = w.heap.size + 1) w1 v1 := ⟨o1.os, o1.tape, o1.output, o1.size, fun k hk hne => o1.block k hk hne⟩
  obtain ⟨v3, e3, s3, f3, by3, o3⟩ := box_kind by1 1
  have o13 := o12.trans o3 (fun _ _ h => h)
  obtain ⟨v4, e4, s4, f4, by4, o4⟩ := box_n by3 n3
  have o14 := o13.trans o4 (fun _ _ h => h)
  obtain ⟨c0, c1, c2', c3⟩ := And.intro by4.c0 (And.intro by4.c1 (And.intro by4.c2 by4.c3))
  have HBX := Lib.hid by4
  have HON := Lib.hid o14
  have HY0 := Lib.hid y0
  have HB := Lib.hid hb
  have HL0 := Lib.hid y0.lt
  dsimp only at *
  unfold mvV at *
  clear y0 y1 hb by1 by3 by4 o1 o12 o3 o13 o4 o14
  go_enter Tryz.func45, Tryz.ntmps45
  go_wp2_with (go_at_call 113; first | ((with_reducible refine (C1.out _).mono ?_); rintro e w2 ⟨rfl, rfl⟩))
  go_region
  all_goals go_wp2_with (first | (go_at_call 113; first | ((with_reducible refine (C3.out _).mono ?_); rintro e w2 ⟨rfl, rfl⟩)) | (go_at_call 44; refine (CT.out _).mono ?_; rintro e w6 ⟨rfl, hb6⟩; have z4 := (hb6.block _ HBX.out.lt).trans HBX.out; obtain ⟨a0, a1, a2, a3⟩ := And.intro (BoxM.c0 z4) (And.intro (BoxM.c1 z4) (And.intro (BoxM.c2 z4) (BoxM.c3 z4))); have z2 : BoxM w6 w.heap.size zeroMv := (hb6.block _ (Nat.lt_of_lt_of_le HL0.out HON.out.size)).trans ((HON.out.block _ HL0.out (by omega)).trans HY0.out); obtain ⟨x1, x2, x3, x4, g1, g2, g3, g4, t0, u0, t1, u1, t2, u2, t3, u3, hx4, ho⟩ := chain40 z2 zeroMv; have HX4 := Lib.hid hx4; have HO := Lib.hid ho; have HB6 := Lib.hid hb6; clear hx4 ho; unfold zeroMv at t0 t1 t2 t3 g1 g2 g3 g4; dsimp only at a0 a1 a2 a3 t0 t1 t2 t3 g1 g2 g3 g4))
  all_goals refine bodyPost_ret (results_refParse HX4.out rfl rfl) rfl ?_
  all_goals exact ⟨rfl, (HB.out.trans ((HON.out.below w.heap.size (by have := HL0.out; omega) (fun b hb h => by omega)).trans (HB6.out.mono (Nat.le_trans (Nat.le_of_lt HL0.out) HON.out.size)))).trans (HO.out.below _ (Nat.le_trans (Nat.le_trans (Nat.le_of_lt HL0.out) HON.out.size) HB6.out.size) (fun b hb h => by omega))⟩
set_option maxRecDepth 100000 in
set_option maxHeartbeats 1000000 in
theorem pp_n1fy (s S1 S3 : ByteArray) (n1 n3 : Int) (k1 k3 : Nat) (w : World)
    (C1 : Hid (∀ W, Calls Tryz.prog 113 #[.string s] W fun e w' => e = .returned (.tuple #[.int .i64 n1, .int .i64 (k1 : Int)]) ∧ W = w'))
    (hk1 : k1 ≤ s.size) (hs : s.size ≤ 1000) (hS1 : s.extract k1 s.size = S1) (hp1 : 0 < S1.size) (c : UInt8) (hc : S1[0]'hp1 = c)
    (h46 : ((c.toNat : Int) == 46) = false)
    (h63 : ((c.toNat : Int) == 63) = true)
    (hem : S1.toList.isEmpty = false)
    (hS3 : S1.extract 1 S1.size = S3) (C3 : Hid (∀ W, Calls Tryz.prog 113 #[.string S3] W fun e w' => e = .returned (.tuple #[.int .i64 n3, .int .i64 (k3 : Int)]) ∧ W = w'))
    (hst : (S1.toList == [33, 42]) = false)
    (T : ByteArray) (CT : Hid (∀ W, Calls Tryz.prog 44 #[mvV ⟨n1, 0, 1, n3⟩] W fun e w' => e = .returned (.tuple #[.string T, .int .i64 0]) ∧ Below W.heap.size W w'))
    (hT : (T.toList == s.toList) = true) :
    Calls Tryz.prog 45 #[.string s] w fun e w' => e = .returned (.tuple #[mvV ⟨n1, 0, 1, n3⟩, .int .i64 0]) ∧ Below w.heap.size w w' := by
  have i1 : (0 : Int) < (S1.size : Int) := by omega
  have i2 : (k1 : Int) ≤ (s.size : Int) := by omega
  obtain ⟨w1, hw1⟩ : ∃ w1, (w.alloc (.cells #[.int .i64 0, .int .i64 0, .int .u8 0, .int .i64 0] 40)).alloc (.cells #[.int .i64 0, .int .i64 0, .int .u8 0, .int .i64 0] 40) = w1 := ⟨_, rfl⟩
  have hb : Below w.heap.size w w1 := by rw [← hw1]; exact ((Below.refl _ w).alloc (Nat.le_refl _) _).alloc (by simp) _
  have y0 : BoxM w1 w.heap.size zeroMv := by rw [← hw1]; exact (Below.heap_alloc _ _ _ (by simp)).trans (World.alloc_heap_new w _)
  have y1 : BoxM w1.drew (w.heap.size + 1) ⟨0, 0, 0, 0⟩ := by
    rw [← hw1]
    have := World.alloc_heap_new (w.alloc (.cells #[.int .i64 0, .int .i64 0, .int .u8 0, .int .i64 0] 40)) (.cells #[.int .i64 0, .int .i64 0, .int .u8 0, .int .i64 0] 40); rwa [World.size_alloc] at this
  obtain ⟨v1, e1, s1, f1, by1, o1⟩ := box_id y1 n1
  have o12 : Only (fun k => k = w.heap.size + 1) w1 v1 := ⟨o1.os, o1.tape, o1.output, o1.size, fun k hk hne => o1.block k hk hne⟩
  obtain ⟨v3, e3, s3, f3, by3, o3⟩ := box_kind by1 1
  have o13 := o12.trans o3 (fun _ _ h => h)
  obtain ⟨v4, e4, s4, f4, by4, o4⟩ := box_n by3 n3
  have o14 := o13.trans o4 (fun _ _ h => h)
  obtain ⟨c0, c1, c2', c3⟩ := And.intro by4.c0 (And.intro by4.c1 (And.intro by4.c2 by4.c3))
  have HBX := Lib.hid by4
  have HON := Lib.hid o14
  have HY0 := Lib.hid y0
  have HB := Lib.hid hb
  have HL0 := Lib.hid y0.lt
  dsimp only at *
  unfold mvV at *
  clear y0 y1 hb by1 by3 by4 o1 o12 o3 o13 o4 o14
  go_enter Tryz.func45, Tryz.ntmps45
  go_wp2_with (go_at_call 113; first | ((with_reducible refine (C1.out _).mono ?_); rintro e w2 ⟨rfl, rfl⟩))
  go_region
  all_goals go_wp2_with (first | (go_at_call 113; first | ((with_reducible refine (C3.out _).mono ?_); rintro e w2 ⟨rfl, rfl⟩)) | (go_at_call 44; refine (CT.out _).mono ?_; rintro e w6 ⟨rfl, hb6⟩; have z4 := (hb6.block _ HBX.out.lt).trans HBX.out; obtain ⟨a0, a1, a2, a3⟩ := And.intro (BoxM.c0 z4) (And.intro (BoxM.c1 z4) (And.intro (BoxM.c2 z4) (BoxM.c3 z4))); have z2 : BoxM w6 w.heap.size zeroMv := (hb6.block _ (Nat.lt_of_lt_of_le HL0.out HON.out.size)).trans ((HON.out.block _ HL0.out (by omega)).trans HY0.out); obtain ⟨x1, x2, x3, x4, g1, g2, g3, g4, t0, u0, t1, u1, t2, u2, t3, u3, hx4, ho⟩ := chain40 z2 ⟨n1, 0, 1, n3⟩; have HX4 := Lib.hid hx4; have HO := Lib.hid ho; have HB6 := Lib.hid hb6; clear hx4 ho; unfold zeroMv at t0 t1 t2 t3; dsimp only at a0 a1 a2 a3 t0 t1 t2 t3 g1 g2 g3 g4))
  all_goals refine bodyPost_ret (results_refParse HX4.out rfl rfl) rfl ?_
  all_goals exact ⟨rfl, (HB.out.trans ((HON.out.below w.heap.size (by have := HL0.out; omega) (fun b hb h => by omega)).trans (HB6.out.mono (Nat.le_trans (Nat.le_of_lt HL0.out) HON.out.size)))).trans (HO.out.below _ (Nat.le_trans (Nat.le_trans (Nat.le_of_lt HL0.out) HON.out.size) HB6.out.size) (fun b hb h => by omega))⟩
set_option maxRecDepth 100000 in
set_option maxHeartbeats 1000000 in
theorem pp_n2fe (s S1 S3 : ByteArray) (n1 n3 : Int) (k1 k3 : Nat) (w : World)
    (C1 : Hid (∀ W, Calls Tryz.prog 113 #[.string s] W fun e w' => e = .returned (.tuple #[.int .i64 n1, .int .i64 (k1 : Int)]) ∧ W = w'))
    (hk1 : k1 ≤ s.size) (hs : s.size ≤ 1000) (hS1 : s.extract k1 s.size = S1) (hp1 : 0 < S1.size) (c : UInt8) (hc : S1[0]'hp1 = c)
    (h46 : ((c.toNat : Int) == 46) = false)
    (h63 : ((c.toNat : Int) == 63) = false)
    (h61 : ((c.toNat : Int) == 61) = true)
    (hem : S1.toList.isEmpty = false)
    (hS3 : S1.extract 1 S1.size = S3) (C3 : Hid (∀ W, Calls Tryz.prog 113 #[.string S3] W fun e w' => e = .returned (.tuple #[.int .i64 n3, .int .i64 (k3 : Int)]) ∧ W = w'))
    (hst : (S1.toList == [33, 42]) = false)
    (T : ByteArray) (es : Int) (hes : (es != 0) = true) (CT : Hid (∀ W, Calls Tryz.prog 44 #[mvV ⟨n1, 0, 2, n3⟩] W fun e w' => e = .returned (.tuple #[.string T, .int .i64 es]) ∧ Below W.heap.size W w')) :
    Calls Tryz.prog 45 #[.string s] w fun e w' => e = .returned (.tuple #[mvV zeroMv, .int .i64 4]) ∧ Below w.heap.size w w' := by
  have i1 : (0 : Int) < (S1.size : Int) := by omega
  have i2 : (k1 : Int) ≤ (s.size : Int) := by omega
  obtain ⟨w1, hw1⟩ : ∃ w1, (w.alloc (.cells #[.int .i64 0, .int .i64 0, .int .u8 0, .int .i64 0] 40)).alloc (.cells #[.int .i64 0, .int .i64 0, .int .u8 0, .int .i64 0] 40) = w1 := ⟨_, rfl⟩
  have hb : Below w.heap.size w w1 := by rw [← hw1]; exact ((Below.refl _ w).alloc (Nat.le_refl _) _).alloc (by simp) _
  have y0 : BoxM w1 w.heap.size zeroMv := by rw [← hw1]; exact (Below.heap_alloc _ _ _ (by simp)).trans (World.alloc_heap_new w _)
  have y1 : BoxM w1.drew (w.heap.size + 1) ⟨0, 0, 0, 0⟩ := by
    rw [← hw1]
    have := World.alloc_heap_new (w.alloc (.cells #[.int .i64 0, .int .i64 0, .int .u8 0, .int .i64 0] 40)) (.cells #[.int .i64 0, .int .i64 0, .int .u8 0, .int .i64 0] 40); rwa [World.size_alloc] at this
  obtain ⟨v1, e1, s1, f1, by1, o1⟩ := box_id y1 n1
  have o12 : Only (fun k => k = w.heap.size + 1) w1 v1 := ⟨o1.os, o1.tape, o1.output, o1.size, fun k hk hne => o1.block k hk hne⟩
  obtain ⟨v3, e3, s3, f3, by3, o3⟩ := box_kind by1 2
  have o13 := o12.trans o3 (fun _ _ h => h)
  obtain ⟨v4, e4, s4, f4, by4, o4⟩ := box_n by3 n3
  have o14 := o13.trans o4 (fun _ _ h => h)
  obtain ⟨c0, c1, c2', c3⟩ := And.intro by4.c0 (And.intro by4.c1 (And.intro by4.c2 by4.c3))
  have HBX := Lib.hid by4
  have HON := Lib.hid o14
  have HY0 := Lib.hid y0
  have HB := Lib.hid hb
  have HL0 := Lib.hid y0.lt
  dsimp only at *
  unfold mvV at *
  clear y0 y1 hb by1 by3 by4 o1 o12 o3 o13 o4 o14
  go_enter Tryz.func45, Tryz.ntmps45
  go_wp2_with (go_at_call 113; first | ((with_reducible refine (C1.out _).mono ?_); rintro e w2 ⟨rfl, rfl⟩))
  go_region
  all_goals go_wp2_with (first | (go_at_call 113; first | ((with_reducible refine (C3.out _).mono ?_); rintro e w2 ⟨rfl, rfl⟩)) | (go_at_call 44; refine (CT.out _).mono ?_; rintro e w6 ⟨rfl, hb6⟩; have z4 := (hb6.block _ HBX.out.lt).trans HBX.out; obtain ⟨a0, a1, a2, a3⟩ := And.intro (BoxM.c0 z4) (And.intro (BoxM.c1 z4) (And.intro (BoxM.c2 z4) (BoxM.c3 z4))); have z2 : BoxM w6 w.heap.size zeroMv := (hb6.block _ (Nat.lt_of_lt_of_le HL0.out HON.out.size)).trans ((HON.out.block _ HL0.out (by omega)).trans HY0.out); obtain ⟨x1, x2, x3, x4, g1, g2, g3, g4, t0, u0, t1, u1, t2, u2, t3, u3, hx4, ho⟩ := chain40 z2 zeroMv; have HX4 := Lib.hid hx4; have HO := Lib.hid ho; have HB6 := Lib.hid hb6; clear hx4 ho; unfold zeroMv at t0 t1 t2 t3 g1 g2 g3 g4; dsimp only at a0 a1 a2 a3 t0 t1 t2 t3 g1 g2 g3 g4))
  all_goals refine bodyPost_ret (results_refParse HX4.out rfl rfl) rfl ?_
  all_goals exact ⟨rfl, (HB.out.trans ((HON.out.below w.heap.size (by have := HL0.out; omega) (fun b hb h => by omega)).trans (HB6.out.mono (Nat.le_trans (Nat.le_of_lt HL0.out) HON.out.size)))).trans (HO.out.below _ (Nat.le_trans (Nat.le_trans (Nat.le_of_lt HL0.out) HON.out.size) HB6.out.size) (fun b hb h => by omega))⟩
set_option maxRecDepth 100000 in
set_option maxHeartbeats 1000000 in
theorem pp_n2fn (s S1 S3 : ByteArray) (n1 n3 : Int) (k1 k3 : Nat) (w : World)
    (C1 : Hid (∀ W, Calls Tryz.prog 113 #[.string s] W fun e w' => e = .returned (.tuple #[.int .i64 n1, .int .i64 (k1 : Int)]) ∧ W = w'))
    (hk1 : k1 ≤ s.size) (hs : s.size ≤ 1000) (hS1 : s.extract k1 s.size = S1) (hp1 : 0 < S1.size) (c : UInt8) (hc : S1[0]'hp1 = c)
    (h46 : ((c.toNat : Int) == 46) = false)
    (h63 : ((c.toNat : Int) == 63) = false)
    (h61 : ((c.toNat : Int) == 61) = true)
    (hem : S1.toList.isEmpty = false)
    (hS3 : S1.extract 1 S1.size = S3) (C3 : Hid (∀ W, Calls Tryz.prog 113 #[.string S3] W fun e w' => e = .returned (.tuple #[.int .i64 n3, .int .i64 (k3 : Int)]) ∧ W = w'))
    (hst : (S1.toList == [33, 42]) = false)
    (T : ByteArray) (CT : Hid (∀ W, Calls Tryz.prog 44 #[mvV ⟨n1, 0, 2, n3⟩] W fun e w' => e = .returned (.tuple #[.string T, .int .i64 0]) ∧ Below W.heap.size W w'))
    (hT : (T.toList == s.toList) = false) :
    Calls Tryz.prog 45 #[.string s] w fun e w' => e = .returned (.tuple #[mvV zeroMv, .int .i64 4]) ∧ Below w.heap.size w w' := by
  have i1 : (0 : Int) < (S1.size : Int) := by omega
  have i2 : (k1 : Int) ≤ (s.size : Int) := by omega
  obtain ⟨w1, hw1⟩ : ∃ w1, (w.alloc (.cells #[.int .i64 0, .int .i64 0, .int .u8 0, .int .i64 0] 40)).alloc (.cells #[.int .i64 0, .int .i64 0, .int .u8 0, .int .i64 0] 40) = w1 := ⟨_, rfl⟩
  have hb : Below w.heap.size w w1 := by rw [← hw1]; exact ((Below.refl _ w).alloc (Nat.le_refl _) _).alloc (by simp) _
  have y0 : BoxM w1 w.heap.size zeroMv := by rw [← hw1]; exact (Below.heap_alloc _ _ _ (by simp)).trans (World.alloc_heap_new w _)
  have y1 : BoxM w1.drew (w.heap.size + 1) ⟨0, 0, 0, 0⟩ := by
    rw [← hw1]
    have := World.alloc_heap_new (w.alloc (.cells #[.int .i64 0, .int .i64 0, .int .u8 0, .int .i64 0] 40)) (.cells #[.int .i64 0, .int .i64 0, .int .u8 0, .int .i64 0] 40); rwa [World.size_alloc] at this
  obtain ⟨v1, e1, s1, f1, by1, o1⟩ := box_id y1 n1
  have o12 : Only (fun k => k = w.heap.size + 1) w1 v1 := ⟨o1.os, o1.tape, o1.output, o1.size, fun k hk hne => o1.block k hk hne⟩
  obtain ⟨v3, e3, s3, f3, by3, o3⟩ := box_kind by1 2
  have o13 := o12.trans o3 (fun _ _ h => h)
  obtain ⟨v4, e4, s4, f4, by4, o4⟩ := box_n by3 n3
  have o14 := o13.trans o4 (fun _ _ h => h)
  obtain ⟨c0, c1, c2', c3⟩ := And.intro by4.c0 (And.intro by4.c1 (And.intro by4.c2 by4.c3))
  have HBX := Lib.hid by4
  have HON := Lib.hid o14
  have HY0 := Lib.hid y0
  have HB := Lib.hid hb
  have HL0 := Lib.hid y0.lt
  dsimp only at *
  unfold mvV at *
  clear y0 y1 hb by1 by3 by4 o1 o12 o3 o13 o4 o14
  go_enter Tryz.func45, Tryz.ntmps45
  go_wp2_with (go_at_call 113; first | ((with_reducible refine (C1.out _).mono ?_); rintro e w2 ⟨rfl, rfl⟩))
  go_region
  all_goals go_wp2_with (first | (go_at_call 113; first | ((with_reducible refine (C3.out _).mono ?_); rintro e w2 ⟨rfl, rfl⟩)) | (go_at_call 44; refine (CT.out _).mono ?_; rintro e w6 ⟨rfl, hb6⟩; have z4 := (hb6.block _ HBX.out.lt).trans HBX.out; obtain ⟨a0, a1, a2, a3⟩ := And.intro (BoxM.c0 z4) (And.intro (BoxM.c1 z4) (And.intro (BoxM.c2 z4) (BoxM.c3 z4))); have z2 : BoxM w6 w.heap.size zeroMv := (hb6.block _ (Nat.lt_of_lt_of_le HL0.out HON.out.size)).trans ((HON.out.block _ HL0.out (by omega)).trans HY0.out); obtain ⟨x1, x2, x3, x4, g1, g2, g3, g4, t0, u0, t1, u1, t2, u2, t3, u3, hx4, ho⟩ := chain40 z2 zeroMv; have HX4 := Lib.hid hx4; have HO := Lib.hid ho; have HB6 := Lib.hid hb6; clear hx4 ho; unfold zeroMv at t0 t1 t2 t3 g1 g2 g3 g4; dsimp only at a0 a1 a2 a3 t0 t1 t2 t3 g1 g2 g3 g4))
  all_goals refine bodyPost_ret (results_refParse HX4.out rfl rfl) rfl ?_
  all_goals exact ⟨rfl, (HB.out.trans ((HON.out.below w.heap.size (by have := HL0.out; omega) (fun b hb h => by omega)).trans (HB6.out.mono (Nat.le_trans (Nat.le_of_lt HL0.out) HON.out.size)))).trans (HO.out.below _ (Nat.le_trans (Nat.le_trans (Nat.le_of_lt HL0.out) HON.out.size) HB6.out.size) (fun b hb h => by omega))⟩
set_option maxRecDepth 100000 in
set_option maxHeartbeats 1000000 in
theorem pp_n2fy (s S1 S3 : ByteArray) (n1 n3 : Int) (k1 k3 : Nat) (w : World)
    (C1 : Hid (∀ W, Calls Tryz.prog 113 #[.string s] W fun e w' => e = .returned (.tuple #[.int .i64 n1, .int .i64 (k1 : Int)]) ∧ W = w'))
    (hk1 : k1 ≤ s.size) (hs : s.size ≤ 1000) (hS1 : s.extract k1 s.size = S1) (hp1 : 0 < S1.size) (c : UInt8) (hc : S1[0]'hp1 = c)
    (h46 : ((c.toNat : Int) == 46) = false)
    (h63 : ((c.toNat : Int) == 63) = false)
    (h61 : ((c.toNat : Int) == 61) = true)
    (hem : S1.toList.isEmpty = false)
    (hS3 : S1.extract 1 S1.size = S3) (C3 : Hid (∀ W, Calls Tryz.prog 113 #[.string S3] W fun e w' => e = .returned (.tuple #[.int .i64 n3, .int .i64 (k3 : Int)]) ∧ W = w'))
    (hst : (S1.toList == [33, 42]) = false)
    (T : ByteArray) (CT : Hid (∀ W, Calls Tryz.prog 44 #[mvV ⟨n1, 0, 2, n3⟩] W fun e w' => e = .returned (.tuple #[.string T, .int .i64 0]) ∧ Below W.heap.size W w'))
    (hT : (T.toList == s.toList) = true) :
    Calls Tryz.prog 45 #[.string s] w fun e w' => e = .returned (.tuple #[mvV ⟨n1, 0, 2, n3⟩, .int .i64 0]) ∧ Below w.heap.size w w' := by
  have i1 : (0 : Int) < (S1.size : Int) := by omega
  have i2 : (k1 : Int) ≤ (s.size : Int) := by omega
  obtain ⟨w1, hw1⟩ : ∃ w1, (w.alloc (.cells #[.int .i64 0, .int .i64 0, .int .u8 0, .int .i64 0] 40)).alloc (.cells #[.int .i64 0, .int .i64 0, .int .u8 0, .int .i64 0] 40) = w1 := ⟨_, rfl⟩
  have hb : Below w.heap.size w w1 := by rw [← hw1]; exact ((Below.refl _ w).alloc (Nat.le_refl _) _).alloc (by simp) _
  have y0 : BoxM w1 w.heap.size zeroMv := by rw [← hw1]; exact (Below.heap_alloc _ _ _ (by simp)).trans (World.alloc_heap_new w _)
  have y1 : BoxM w1.drew (w.heap.size + 1) ⟨0, 0, 0, 0⟩ := by
    rw [← hw1]
    have := World.alloc_heap_new (w.alloc (.cells #[.int .i64 0, .int .i64 0, .int .u8 0, .int .i64 0] 40)) (.cells #[.int .i64 0, .int .i64 0, .int .u8 0, .int .i64 0] 40); rwa [World.size_alloc] at this
  obtain ⟨v1, e1, s1, f1, by1, o1⟩ := box_id y1 n1
  have o12 : Only (fun k => k = w.heap.size + 1) w1 v1 := ⟨o1.os, o1.tape, o1.output, o1.size, fun k hk hne => o1.block k hk hne⟩
  obtain ⟨v3, e3, s3, f3, by3, o3⟩ := box_kind by1 2
  have o13 := o12.trans o3 (fun _ _ h => h)
  obtain ⟨v4, e4, s4, f4, by4, o4⟩ := box_n by3 n3
  have o14 := o13.trans o4 (fun _ _ h => h)
  obtain ⟨c0, c1, c2', c3⟩ := And.intro by4.c0 (And.intro by4.c1 (And.intro by4.c2 by4.c3))
  have HBX := Lib.hid by4
  have HON := Lib.hid o14
  have HY0 := Lib.hid y0
  have HB := Lib.hid hb
  have HL0 := Lib.hid y0.lt
  dsimp only at *
  unfold mvV at *
  clear y0 y1 hb by1 by3 by4 o1 o12 o3 o13 o4 o14
  go_enter Tryz.func45, Tryz.ntmps45
  go_wp2_with (go_at_call 113; first | ((with_reducible refine (C1.out _).mono ?_); rintro e w2 ⟨rfl, rfl⟩))
  go_region
  all_goals go_wp2_with (first | (go_at_call 113; first | ((with_reducible refine (C3.out _).mono ?_); rintro e w2 ⟨rfl, rfl⟩)) | (go_at_call 44; refine (CT.out _).mono ?_; rintro e w6 ⟨rfl, hb6⟩; have z4 := (hb6.block _ HBX.out.lt).trans HBX.out; obtain ⟨a0, a1, a2, a3⟩ := And.intro (BoxM.c0 z4) (And.intro (BoxM.c1 z4) (And.intro (BoxM.c2 z4) (BoxM.c3 z4))); have z2 : BoxM w6 w.heap.size zeroMv := (hb6.block _ (Nat.lt_of_lt_of_le HL0.out HON.out.size)).trans ((HON.out.block _ HL0.out (by omega)).trans HY0.out); obtain ⟨x1, x2, x3, x4, g1, g2, g3, g4, t0, u0, t1, u1, t2, u2, t3, u3, hx4, ho⟩ := chain40 z2 ⟨n1, 0, 2, n3⟩; have HX4 := Lib.hid hx4; have HO := Lib.hid ho; have HB6 := Lib.hid hb6; clear hx4 ho; unfold zeroMv at t0 t1 t2 t3; dsimp only at a0 a1 a2 a3 t0 t1 t2 t3 g1 g2 g3 g4))
  all_goals refine bodyPost_ret (results_refParse HX4.out rfl rfl) rfl ?_
  all_goals exact ⟨rfl, (HB.out.trans ((HON.out.below w.heap.size (by have := HL0.out; omega) (fun b hb h => by omega)).trans (HB6.out.mono (Nat.le_trans (Nat.le_of_lt HL0.out) HON.out.size)))).trans (HO.out.below _ (Nat.le_trans (Nat.le_trans (Nat.le_of_lt HL0.out) HON.out.size) HB6.out.size) (fun b hb h => by omega))⟩
set_option maxRecDepth 100000 in
set_option maxHeartbeats 1000000 in
theorem pp_n3fe (s S1 S3 : ByteArray) (n1 n3 : Int) (k1 k3 : Nat) (w : World)
    (C1 : Hid (∀ W, Calls Tryz.prog 113 #[.string s] W fun e w' => e = .returned (.tuple #[.int .i64 n1, .int .i64 (k1 : Int)]) ∧ W = w'))
    (hk1 : k1 ≤ s.size) (hs : s.size ≤ 1000) (hS1 : s.extract k1 s.size = S1) (hp1 : 0 < S1.size) (c : UInt8) (hc : S1[0]'hp1 = c)
    (h46 : ((c.toNat : Int) == 46) = false)
    (h63 : ((c.toNat : Int) == 63) = false)
    (h61 : ((c.toNat : Int) == 61) = false)
    (h33 : ((c.toNat : Int) == 33) = true)
    (hem : S1.toList.isEmpty = false)
    (hS3 : S1.extract 1 S1.size = S3) (C3 : Hid (∀ W, Calls Tryz.prog 113 #[.string S3] W fun e w' => e = .returned (.tuple #[.int .i64 n3, .int .i64 (k3 : Int)]) ∧ W = w'))
    (hst : (S1.toList == [33, 42]) = false)
    (T : ByteArray) (es : Int) (hes : (es != 0) = true) (CT : Hid (∀ W, Calls Tryz.prog 44 #[mvV ⟨n1, 0, 3, n3⟩] W fun e w' => e = .returned (.tuple #[.string T, .int .i64 es]) ∧ Below W.heap.size W w')) :
    Calls Tryz.prog 45 #[.string s] w fun e w' => e = .returned (.tuple #[mvV zeroMv, .int .i64 4]) ∧ Below w.heap.size w w' := by
  have i1 : (0 : Int) < (S1.size : Int) := by omega
  have i2 : (k1 : Int) ≤ (s.size : Int) := by omega
  obtain ⟨w1, hw1⟩ : ∃ w1, (w.alloc (.cells #[.int .i64 0, .int .i64 0, .int .u8 0, .int .i64 0] 40)).alloc (.cells #[.int .i64 0, .int .i64 0, .int .u8 0, .int .i64 0] 40) = w1 := ⟨_, rfl⟩
  have hb : Below w.heap.size w w1 := by rw [← hw1]; exact ((Below.refl _ w).alloc (Nat.le_refl _) _).alloc (by simp) _
  have y0 : BoxM w1 w.heap.size zeroMv := by rw [← hw1]; exact (Below.heap_alloc _ _ _ (by simp)).trans (World.alloc_heap_new w _)
  have y1 : BoxM w1.drew (w.heap.size + 1) ⟨0, 0, 0, 0⟩ := by
    rw [← hw1]
    have := World.alloc_heap_new (w.alloc (.cells #[.int .i64 0, .int .i64 0, .int .u8 0, .int .i64 0] 40)) (.cells #[.int .i64 0, .int .i64 0, .int .u8 0, .int .i64 0] 40); rwa [World.size_alloc] at this
  obtain ⟨v1, e1, s1, f1, by1, o1⟩ := box_id y1 n1
  have o12 : Only (fun k => k = w.heap.size + 1) w1 v1 := ⟨o1.os, o1.tape, o1.output, o1.size, fun k hk hne => o1.block k hk hne⟩
  obtain ⟨v3, e3, s3, f3, by3, o3⟩ := box_kind by1 3
  have o13 := o12.trans o3 (fun _ _ h => h)
  obtain ⟨v4, e4, s4, f4, by4, o4⟩ := box_n by3 n3
  have o14 := o13.trans o4 (fun _ _ h => h)
  obtain ⟨c0, c1, c2', c3⟩ := And.intro by4.c0 (And.intro by4.c1 (And.intro by4.c2 by4.c3))
  have HBX := Lib.hid by4
  have HON := Lib.hid o14
  have HY0 := Lib.hid y0
  have HB := Lib.hid hb
  have HL0 := Lib.hid y0.lt
  dsimp only at *
  unfold mvV at *
  clear y0 y1 hb by1 by3 by4 o1 o12 o3 o13 o4 o14
  go_enter Tryz.func45, Tryz.ntmps45
  go_wp2_with (go_at_call 113; first | ((with_reducible refine (C1.out _).mono ?_); rintro e w2 ⟨rfl, rfl⟩))
  go_region
  all_goals go_wp2_with (first | (go_at_call 113; first | ((with_reducible refine (C3.out _).mono ?_); rintro e w2 ⟨rfl, rfl⟩)) | (go_at_call 44; refine (CT.out _).mono ?_; rintro e w6 ⟨rfl, hb6⟩; have z4 := (hb6.block _ HBX.out.lt).trans HBX.out; obtain ⟨a0, a1, a2, a3⟩ := And.intro (BoxM.c0 z4) (And.intro (BoxM.c1 z4) (And.intro (BoxM.c2 z4) (BoxM.c3 z4))); have z2 : BoxM w6 w.heap.size zeroMv := (hb6.block _ (Nat.lt_of_lt_of_le HL0.out HON.out.size)).trans ((HON.out.block _ HL0.out (by omega)).trans HY0.out); obtain ⟨x1, x2, x3, x4, g1, g2, g3, g4, t0, u0, t1, u1, t2, u2, t3, u3, hx4, ho⟩ := chain40 z2 zeroMv; have HX4 := Lib.hid hx4; have HO := Lib.hid ho; have HB6 := Lib.hid hb6; clear hx4 ho; unfold zeroMv at t0 t1 t2 t3 g1 g2 g3 g4; dsimp only at a0 a1 a2 a3 t0 t1 t2 t3 g1 g2 g3 g4))
  all_goals refine bodyPost_ret (results_refParse HX4.out rfl rfl) rfl ?_
  all_goals exact ⟨rfl, (HB.out.trans ((HON.out.below w.heap.size (by have := HL0.out; omega) (fun b hb h => by omega)).trans (HB6.out.mono (Nat.le_trans (Nat.le_of_lt HL0.out) HON.out.size)))).trans (HO.out.below _ (Nat.le_trans (Nat.le_trans (Nat.le_of_lt HL0.out) HON.out.size) HB6.out.size) (fun b hb h => by omega))⟩
set_option maxRecDepth 100000 in
set_option maxHeartbeats 1000000 in
theorem pp_n3fn (s S1 S3 : ByteArray) (n1 n3 : Int) (k1 k3 : Nat) (w : World)
    (C1 : Hid (∀ W, Calls Tryz.prog 113 #[.string s] W fun e w' => e = .returned (.tuple #[.int .i64 n1, .int .i64 (k1 : Int)]) ∧ W = w'))
    (hk1 : k1 ≤ s.size) (hs : s.size ≤ 1000) (hS1 : s.extract k1 s.size = S1) (hp1 : 0 < S1.size) (c : UInt8) (hc : S1[0]'hp1 = c)
    (h46 : ((c.toNat : Int) == 46) = false)
    (h63 : ((c.toNat : Int) == 63) = false)
    (h61 : ((c.toNat : Int) == 61) = false)
    (h33 : ((c.toNat : Int) == 33) = true)
    (hem : S1.toList.isEmpty = false)
    (hS3 : S1.extract 1 S1.size = S3) (C3 : Hid (∀ W, Calls Tryz.prog 113 #[.string S3] W fun e w' => e = .returned (.tuple #[.int .i64 n3, .int .i64 (k3 : Int)]) ∧ W = w'))
    (hst : (S1.toList == [33, 42]) = false)
    (T : ByteArray) (CT : Hid (∀ W, Calls Tryz.prog 44 #[mvV ⟨n1, 0, 3, n3⟩] W fun e w' => e = .returned (.tuple #[.string T, .int .i64 0]) ∧ Below W.heap.size W w'))
    (hT : (T.toList == s.toList) = false) :
    Calls Tryz.prog 45 #[.string s] w fun e w' => e = .returned (.tuple #[mvV zeroMv, .int .i64 4]) ∧ Below w.heap.size w w' := by
  have i1 : (0 : Int) < (S1.size : Int) := by omega
  have i2 : (k1 : Int) ≤ (s.size : Int) := by omega
  obtain ⟨w1, hw1⟩ : ∃ w1, (w.alloc (.cells #[.int .i64 0, .int .i64 0, .int .u8 0, .int .i64 0] 40)).alloc (.cells #[.int .i64 0, .int .i64 0, .int .u8 0, .int .i64 0] 40) = w1 := ⟨_, rfl⟩
  have hb : Below w.heap.size w w1 := by rw [← hw1]; exact ((Below.refl _ w).alloc (Nat.le_refl _) _).alloc (by simp) _
  have y0 : BoxM w1 w.heap.size zeroMv := by rw [← hw1]; exact (Below.heap_alloc _ _ _ (by simp)).trans (World.alloc_heap_new w _)
  have y1 : BoxM w1.drew (w.heap.size + 1) ⟨0, 0, 0, 0⟩ := by
    rw [← hw1]
    have := World.alloc_heap_new (w.alloc (.cells #[.int .i64 0, .int .i64 0, .int .u8 0, .int .i64 0] 40)) (.cells #[.int .i64 0, .int .i64 0, .int .u8 0, .int .i64 0] 40); rwa [World.size_alloc] at this
  obtain ⟨v1, e1, s1, f1, by1, o1⟩ := box_id y1 n1
  have o12 : Only (fun k => k = w.heap.size + 1) w1 v1 := ⟨o1.os, o1.tape, o1.output, o1.size, fun k hk hne => o1.block k hk hne⟩
  obtain ⟨v3, e3, s3, f3, by3, o3⟩ := box_kind by1 3
  have o13 := o12.trans o3 (fun _ _ h => h)
  obtain ⟨v4, e4, s4, f4, by4, o4⟩ := box_n by3 n3
  have o14 := o13.trans o4 (fun _ _ h => h)
  obtain ⟨c0, c1, c2', c3⟩ := And.intro by4.c0 (And.intro by4.c1 (And.intro by4.c2 by4.c3))
  have HBX := Lib.hid by4
  have HON := Lib.hid o14
  have HY0 := Lib.hid y0
  have HB := Lib.hid hb
  have HL0 := Lib.hid y0.lt
  dsimp only at *
  unfold mvV at *
  clear y0 y1 hb by1 by3 by4 o1 o12 o3 o13 o4 o14
  go_enter Tryz.func45, Tryz.ntmps45
  go_wp2_with (go_at_call 113; first | ((with_reducible refine (C1.out _).mono ?_); rintro e w2 ⟨rfl, rfl⟩))
  go_region
  all_goals go_wp2_with (first | (go_at_call 113; first | ((with_reducible refine (C3.out _).mono ?_); rintro e w2 ⟨rfl, rfl⟩)) | (go_at_call 44; refine (CT.out _).mono ?_; rintro e w6 ⟨rfl, hb6⟩; have z4 := (hb6.block _ HBX.out.lt).trans HBX.out; obtain ⟨a0, a1, a2, a3⟩ := And.intro (BoxM.c0 z4) (And.intro (BoxM.c1 z4) (And.intro (BoxM.c2 z4) (BoxM.c3 z4))); have z2 : BoxM w6 w.heap.size zeroMv := (hb6.block _ (Nat.lt_of_lt_of_le HL0.out HON.out.size)).trans ((HON.out.block _ HL0.out (by omega)).trans HY0.out); obtain ⟨x1, x2, x3, x4, g1, g2, g3, g4, t0, u0, t1, u1, t2, u2, t3, u3, hx4, ho⟩ := chain40 z2 zeroMv; have HX4 := Lib.hid hx4; have HO := Lib.hid ho; have HB6 := Lib.hid hb6; clear hx4 ho; unfold zeroMv at t0 t1 t2 t3 g1 g2 g3 g4; dsimp only at a0 a1 a2 a3 t0 t1 t2 t3 g1 g2 g3 g4))
  all_goals refine bodyPost_ret (results_refParse HX4.out rfl rfl) rfl ?_
  all_goals exact ⟨rfl, (HB.out.trans ((HON.out.below w.heap.size (by have := HL0.out; omega) (fun b hb h => by omega)).trans (HB6.out.mono (Nat.le_trans (Nat.le_of_lt HL0.out) HON.out.size)))).trans (HO.out.below _ (Nat.le_trans (Nat.le_trans (Nat.le_of_lt HL0.out) HON.out.size) HB6.out.size) (fun b hb h => by omega))⟩
set_option maxRecDepth 100000 in
set_option maxHeartbeats 1000000 in
theorem pp_n3fy (s S1 S3 : ByteArray) (n1 n3 : Int) (k1 k3 : Nat) (w : World)
    (C1 : Hid (∀ W, Calls Tryz.prog 113 #[.string s] W fun e w' => e = .returned (.tuple #[.int .i64 n1, .int .i64 (k1 : Int)]) ∧ W = w'))
    (hk1 : k1 ≤ s.size) (hs : s.size ≤ 1000) (hS1 : s.extract k1 s.size = S1) (hp1 : 0 < S1.size) (c : UInt8) (hc : S1[0]'hp1 = c)
    (h46 : ((c.toNat : Int) == 46) = false)
    (h63 : ((c.toNat : Int) == 63) = false)
    (h61 : ((c.toNat : Int) == 61) = false)
    (h33 : ((c.toNat : Int) == 33) = true)
    (hem : S1.toList.isEmpty = false)
    (hS3 : S1.extract 1 S1.size = S3) (C3 : Hid (∀ W, Calls Tryz.prog 113 #[.string S3] W fun e w' => e = .returned (.tuple #[.int .i64 n3, .int .i64 (k3 : Int)]) ∧ W = w'))
    (hst : (S1.toList == [33, 42]) = false)
    (T : ByteArray) (CT : Hid (∀ W, Calls Tryz.prog 44 #[mvV ⟨n1, 0, 3, n3⟩] W fun e w' => e = .returned (.tuple #[.string T, .int .i64 0]) ∧ Below W.heap.size W w'))
    (hT : (T.toList == s.toList) = true) :
    Calls Tryz.prog 45 #[.string s] w fun e w' => e = .returned (.tuple #[mvV ⟨n1, 0, 3, n3⟩, .int .i64 0]) ∧ Below w.heap.size w w' := by
  have i1 : (0 : Int) < (S1.size : Int) := by omega
  have i2 : (k1 : Int) ≤ (s.size : Int) := by omega
  obtain ⟨w1, hw1⟩ : ∃ w1, (w.alloc (.cells #[.int .i64 0, .int .i64 0, .int .u8 0, .int .i64 0] 40)).alloc (.cells #[.int .i64 0, .int .i64 0, .int .u8 0, .int .i64 0] 40) = w1 := ⟨_, rfl⟩
  have hb : Below w.heap.size w w1 := by rw [← hw1]; exact ((Below.refl _ w).alloc (Nat.le_refl _) _).alloc (by simp) _
  have y0 : BoxM w1 w.heap.size zeroMv := by rw [← hw1]; exact (Below.heap_alloc _ _ _ (by simp)).trans (World.alloc_heap_new w _)
  have y1 : BoxM w1.drew (w.heap.size + 1) ⟨0, 0, 0, 0⟩ := by
    rw [← hw1]
    have := World.alloc_heap_new (w.alloc (.cells #[.int .i64 0, .int .i64 0, .int .u8 0, .int .i64 0] 40)) (.cells #[.int .i64 0, .int .i64 0, .int .u8 0, .int .i64 0] 40); rwa [World.size_alloc] at this
  obtain ⟨v1, e1, s1, f1, by1, o1⟩ := box_id y1 n1
  have o12 : Only (fun k => k = w.heap.size + 1) w1 v1 := ⟨o1.os, o1.tape, o1.output, o1.size, fun k hk hne => o1.block k hk hne⟩
  obtain ⟨v3, e3, s3, f3, by3, o3⟩ := box_kind by1 3
  have o13 := o12.trans o3 (fun _ _ h => h)
  obtain ⟨v4, e4, s4, f4, by4, o4⟩ := box_n by3 n3
  have o14 := o13.trans o4 (fun _ _ h => h)
  obtain ⟨c0, c1, c2', c3⟩ := And.intro by4.c0 (And.intro by4.c1 (And.intro by4.c2 by4.c3))
  have HBX := Lib.hid by4
  have HON := Lib.hid o14
  have HY0 := Lib.hid y0
  have HB := Lib.hid hb
  have HL0 := Lib.hid y0.lt
  dsimp only at *
  unfold mvV at *
  clear y0 y1 hb by1 by3 by4 o1 o12 o3 o13 o4 o14
  go_enter Tryz.func45, Tryz.ntmps45
  go_wp2_with (go_at_call 113; first | ((with_reducible refine (C1.out _).mono ?_); rintro e w2 ⟨rfl, rfl⟩))
  go_region
  all_goals go_wp2_with (first | (go_at_call 113; first | ((with_reducible refine (C3.out _).mono ?_); rintro e w2 ⟨rfl, rfl⟩)) | (go_at_call 44; refine (CT.out _).mono ?_; rintro e w6 ⟨rfl, hb6⟩; have z4 := (hb6.block _ HBX.out.lt).trans HBX.out; obtain ⟨a0, a1, a2, a3⟩ := And.intro (BoxM.c0 z4) (And.intro (BoxM.c1 z4) (And.intro (BoxM.c2 z4) (BoxM.c3 z4))); have z2 : BoxM w6 w.heap.size zeroMv := (hb6.block _ (Nat.lt_of_lt_of_le HL0.out HON.out.size)).trans ((HON.out.block _ HL0.out (by omega)).trans HY0.out); obtain ⟨x1, x2, x3, x4, g1, g2, g3, g4, t0, u0, t1, u1, t2, u2, t3, u3, hx4, ho⟩ := chain40 z2 ⟨n1, 0, 3, n3⟩; have HX4 := Lib.hid hx4; have HO := Lib.hid ho; have HB6 := Lib.hid hb6; clear hx4 ho; unfold zeroMv at t0 t1 t2 t3; dsimp only at a0 a1 a2 a3 t0 t1 t2 t3 g1 g2 g3 g4))
  all_goals refine bodyPost_ret (results_refParse HX4.out rfl rfl) rfl ?_
  all_goals exact ⟨rfl, (HB.out.trans ((HON.out.below w.heap.size (by have := HL0.out; omega) (fun b hb h => by omega)).trans (HB6.out.mono (Nat.le_trans (Nat.le_of_lt HL0.out) HON.out.size)))).trans (HO.out.below _ (Nat.le_trans (Nat.le_trans (Nat.le_of_lt HL0.out) HON.out.size) HB6.out.size) (fun b hb h => by omega))⟩
set_option maxRecDepth 100000 in
set_option maxHeartbeats 1000000 in
theorem pp_n3te (s S1 S3 : ByteArray) (n1 n3 : Int) (k1 k3 : Nat) (w : World)
    (C1 : Hid (∀ W, Calls Tryz.prog 113 #[.string s] W fun e w' => e = .returned (.tuple #[.int .i64 n1, .int .i64 (k1 : Int)]) ∧ W = w'))
    (hk1 : k1 ≤ s.size) (hs : s.size ≤ 1000) (hS1 : s.extract k1 s.size = S1) (hp1 : 0 < S1.size) (c : UInt8) (hc : S1[0]'hp1 = c)
    (h46 : ((c.toNat : Int) == 46) = false)
    (h63 : ((c.toNat : Int) == 63) = false)
    (h61 : ((c.toNat : Int) == 61) = false)
    (h33 : ((c.toNat : Int) == 33) = true)
    (hem : S1.toList.isEmpty = false)
    (hS3 : S1.extract 1 S1.size = S3) (C3 : Hid (∀ W, Calls Tryz.prog 113 #[.string S3] W fun e w' => e = .returned (.tuple #[.int .i64 n3, .int .i64 (k3 : Int)]) ∧ W = w'))
    (hst : (S1.toList == [33, 42]) = true)
    (T : ByteArray) (es : Int) (hes : (es != 0) = true) (CT : Hid (∀ W, Calls Tryz.prog 44 #[mvV ⟨n1, 0, 3, (-1)⟩] W fun e w' => e = .returned (.tuple #[.string T, .int .i64 es]) ∧ Below W.heap.size W w')) :
    Calls Tryz.prog 45 #[.string s] w fun e w' => e = .returned (.tuple #[mvV zeroMv, .int .i64 4]) ∧ Below w.heap.size w w' := by
  have i1 : (0 : Int) < (S1.size : Int) := by omega
  have i2 : (k1 : Int) ≤ (s.size : Int) := by omega
  obtain ⟨w1, hw1⟩ : ∃ w1, (w.alloc (.cells #[.int .i64 0, .int .i64 0, .int .u8 0, .int .i64 0] 40)).alloc (.cells #[.int .i64 0, .int .i64 0, .int .u8 0, .int .i64 0] 40) = w1 := ⟨_, rfl⟩
  have hb : Below w.heap.size w w1 := by rw [← hw1]; exact ((Below.refl _ w).alloc (Nat.le_refl _) _).alloc (by simp) _
  have y0 : BoxM w1 w.heap.size zeroMv := by rw [← hw1]; exact (Below.heap_alloc _ _ _ (by simp)).trans (World.alloc_heap_new w _)
  have y1 : BoxM w1.drew (w.heap.size + 1) ⟨0, 0, 0, 0⟩ := by
    rw [← hw1]
    have := World.alloc_heap_new (w.alloc (.cells #[.int .i64 0, .int .i64 0, .int .u8 0, .int .i64 0] 40)) (.cells #[.int .i64 0, .int .i64 0, .int .u8 0, .int .i64 0] 40); rwa [World.size_alloc] at this
  obtain ⟨v1, e1, s1, f1, by1, o1⟩ := box_id y1 n1
  have o12 : Only (fun k => k = w.heap.size + 1) w1 v1 := ⟨o1.os, o1.tape, o1.output, o1.size, fun k hk hne => o1.block k hk hne⟩
  obtain ⟨v3, e3, s3, f3, by3, o3⟩ := box_kind by1 3
  have o13 := o12.trans o3 (fun _ _ h => h)
  obtain ⟨v4, e4, s4, f4, by4, o4⟩ := box_n by3 n3
  have o14 := o13.trans o4 (fun _ _ h => h)
  obtain ⟨v5, e5, s5, f5, by5, o5⟩ := box_n by4 (-1)
  have o15 := o14.trans o5 (fun _ _ h => h)
  obtain ⟨c0, c1, c2', c3⟩ := And.intro by5.c0 (And.intro by5.c1 (And.intro by5.c2 by5.c3))
  have HBX := Lib.hid by5
  have HON := Lib.hid o15
  have HY0 := Lib.hid y0
  have HB := Lib.hid hb
  have HL0 := Lib.hid y0.lt
  dsimp only at *
  unfold mvV at *
  clear y0 y1 hb by1 by3 by4 by5 o1 o12 o3 o13 o4 o14 o5 o15
  go_enter Tryz.func45, Tryz.ntmps45
  go_wp2_with (go_at_call 113; first | ((with_reducible refine (C1.out _).mono ?_); rintro e w2 ⟨rfl, rfl⟩))
  go_region
  all_goals go_wp2_with (first | (go_at_call 113; first | ((with_reducible refine (C3.out _).mono ?_); rintro e w2 ⟨rfl, rfl⟩)) | (go_at_call 44; refine (CT.out _).mono ?_; rintro e w6 ⟨rfl, hb6⟩; have z4 := (hb6.block _ HBX.out.lt).trans HBX.out; obtain ⟨a0, a1, a2, a3⟩ := And.intro (BoxM.c0 z4) (And.intro (BoxM.c1 z4) (And.intro (BoxM.c2 z4) (BoxM.c3 z4))); have z2 : BoxM w6 w.heap.size zeroMv := (hb6.block _ (Nat.lt_of_lt_of_le HL0.out HON.out.size)).trans ((HON.out.block _ HL0.out (by omega)).trans HY0.out); obtain ⟨x1, x2, x3, x4, g1, g2, g3, g4, t0, u0, t1, u1, t2, u2, t3, u3, hx4, ho⟩ := chain40 z2 zeroMv; have HX4 := Lib.hid hx4; have HO := Lib.hid ho; have HB6 := Lib.hid hb6; clear hx4 ho; unfold zeroMv at t0 t1 t2 t3 g1 g2 g3 g4; dsimp only at a0 a1 a2 a3 t0 t1 t2 t3 g1 g2 g3 g4))
  all_goals refine bodyPost_ret (results_refParse HX4.out rfl rfl) rfl ?_
  all_goals exact ⟨rfl, (HB.out.trans ((HON.out.below w.heap.size (by have := HL0.out; omega) (fun b hb h => by omega)).trans (HB6.out.mono (Nat.le_trans (Nat.le_of_lt HL0.out) HON.out.size)))).trans (HO.out.below _ (Nat.le_trans (Nat.le_trans (Nat.le_of_lt HL0.out) HON.out.size) HB6.out.size) (fun b hb h => by omega))⟩
set_option maxRecDepth 100000 in
set_option maxHeartbeats 1000000 in
theorem pp_n3tn (s S1 S3 : ByteArray) (n1 n3 : Int) (k1 k3 : Nat) (w : World)
    (C1 : Hid (∀ W, Calls Tryz.prog 113 #[.string s] W fun e w' => e = .returned (.tuple #[.int .i64 n1, .int .i64 (k1 : Int)]) ∧ W = w'))
    (hk1 : k1 ≤ s.size) (hs : s.size ≤ 1000) (hS1 : s.extract k1 s.size = S1) (hp1 : 0 < S1.size) (c : UInt8) (hc : S1[0]'hp1 = c)
    (h46 : ((c.toNat : Int) == 46) = false)
    (h63 : ((c.toNat : Int) == 63) = false)
    (h61 : ((c.toNat : Int) == 61) = false)
    (h33 : ((c.toNat : Int) == 33) = true)
    (hem : S1.toList.isEmpty = false)
    (hS3 : S1.extract 1 S1.size = S3) (C3 : Hid (∀ W, Calls Tryz.prog 113 #[.string S3] W fun e w' => e = .returned (.tuple #[.int .i64 n3, .int .i64 (k3 : Int)]) ∧ W = w'))
    (hst : (S1.toList == [33, 42]) = true)
    (T : ByteArray) (CT : Hid (∀ W, Calls Tryz.prog 44 #[mvV ⟨n1, 0, 3, (-1)⟩] W fun e w' => e = .returned (.tuple #[.string T, .int .i64 0]) ∧ Below W.heap.size W w'))
    (hT : (T.toList == s.toList) = false) :
    Calls Tryz.prog 45 #[.string s] w fun e w' => e = .returned (.tuple #[mvV zeroMv, .int .i64 4]) ∧ Below w.heap.size w w' := by
  have i1 : (0 : Int) < (S1.size : Int) := by omega
  have i2 : (k1 : Int) ≤ (s.size : Int) := by omega
  obtain ⟨w1, hw1⟩ : ∃ w1, (w.alloc (.cells #[.int .i64 0, .int .i64 0, .int .u8 0, .int .i64 0] 40)).alloc (.cells #[.int .i64 0, .int .i64 0, .int .u8 0, .int .i64 0] 40) = w1 := ⟨_, rfl⟩
  have hb : Below w.heap.size w w1 := by rw [← hw1]; exact ((Below.refl _ w).alloc (Nat.le_refl _) _).alloc (by simp) _
  have y0 : BoxM w1 w.heap.size zeroMv := by rw [← hw1]; exact (Below.heap_alloc _ _ _ (by simp)).trans (World.alloc_heap_new w _)
  have y1 : BoxM w1.drew (w.heap.size + 1) ⟨0, 0, 0, 0⟩ := by
    rw [← hw1]
    have := World.alloc_heap_new (w.alloc (.cells #[.int .i64 0, .int .i64 0, .int .u8 0, .int .i64 0] 40)) (.cells #[.int .i64 0, .int .i64 0, .int .u8 0, .int .i64 0] 40); rwa [World.size_alloc] at this
  obtain ⟨v1, e1, s1, f1, by1, o1⟩ := box_id y1 n1
  have o12 : Only (fun k => k = w.heap.size + 1) w1 v1 := ⟨o1.os, o1.tape, o1.output, o1.size, fun k hk hne => o1.block k hk hne⟩
  obtain ⟨v3, e3, s3, f3, by3, o3⟩ := box_kind by1 3
  have o13 := o12.trans o3 (fun _ _ h => h)
  obtain ⟨v4, e4, s4, f4, by4, o4⟩ := box_n by3 n3
  have o14 := o13.trans o4 (fun _ _ h => h)
  obtain ⟨v5, e5, s5, f5, by5, o5⟩ := box_n by4 (-1)
  have o15 := o14.trans o5 (fun _ _ h => h)
  obtain ⟨c0, c1, c2', c3⟩ := And.intro by5.c0 (And.intro by5.c1 (And.intro by5.c2 by5.c3))
  have HBX := Lib.hid by5
  have HON := Lib.hid o15
  have HY0 := Lib.hid y0
  have HB := Lib.hid hb
  have HL0 := Lib.hid y0.lt
  dsimp only at *
  unfold mvV at *
  clear y0 y1 hb by1 by3 by4 by5 o1 o12 o3 o13 o4 o14 o5 o15
  go_enter Tryz.func45, Tryz.ntmps45
  go_wp2_with (go_at_call 113; first | ((with_reducible refine (C1.out _).mono ?_); rintro e w2 ⟨rfl, rfl⟩))
  go_region
  all_goals go_wp2_with (first | (go_at_call 113; first | ((with_reducible refine (C3.out _).mono ?_); rintro e w2 ⟨rfl, rfl⟩)) | (go_at_call 44; refine (CT.out _).mono ?_; rintro e w6 ⟨rfl, hb6⟩; have z4 := (hb6.block _ HBX.out.lt).trans HBX.out; obtain ⟨a0, a1, a2, a3⟩ := And.intro (BoxM.c0 z4) (And.intro (BoxM.c1 z4) (And.intro (BoxM.c2 z4) (BoxM.c3 z4))); have z2 : BoxM w6 w.heap.size zeroMv := (hb6.block _ (Nat.lt_of_lt_of_le HL0.out HON.out.size)).trans ((HON.out.block _ HL0.out (by omega)).trans HY0.out); obtain ⟨x1, x2, x3, x4, g1, g2, g3, g4, t0, u0, t1, u1, t2, u2, t3, u3, hx4, ho⟩ := chain40 z2 zeroMv; have HX4 := Lib.hid hx4; have HO := Lib.hid ho; have HB6 := Lib.hid hb6; clear hx4 ho; unfold zeroMv at t0 t1 t2 t3 g1 g2 g3 g4; dsimp only at a0 a1 a2 a3 t0 t1 t2 t3 g1 g2 g3 g4))
  all_goals refine bodyPost_ret (results_refParse HX4.out rfl rfl) rfl ?_
  all_goals exact ⟨rfl, (HB.out.trans ((HON.out.below w.heap.size (by have := HL0.out; omega) (fun b hb h => by omega)).trans (HB6.out.mono (Nat.le_trans (Nat.le_of_lt HL0.out) HON.out.size)))).trans (HO.out.below _ (Nat.le_trans (Nat.le_trans (Nat.le_of_lt HL0.out) HON.out.size) HB6.out.size) (fun b hb h => by omega))⟩
set_option maxRecDepth 100000 in
set_option maxHeartbeats 1000000 in
theorem pp_n3ty (s S1 S3 : ByteArray) (n1 n3 : Int) (k1 k3 : Nat) (w : World)
    (C1 : Hid (∀ W, Calls Tryz.prog 113 #[.string s] W fun e w' => e = .returned (.tuple #[.int .i64 n1, .int .i64 (k1 : Int)]) ∧ W = w'))
    (hk1 : k1 ≤ s.size) (hs : s.size ≤ 1000) (hS1 : s.extract k1 s.size = S1) (hp1 : 0 < S1.size) (c : UInt8) (hc : S1[0]'hp1 = c)
    (h46 : ((c.toNat : Int) == 46) = false)
    (h63 : ((c.toNat : Int) == 63) = false)
    (h61 : ((c.toNat : Int) == 61) = false)
    (h33 : ((c.toNat : Int) == 33) = true)
    (hem : S1.toList.isEmpty = false)
    (hS3 : S1.extract 1 S1.size = S3) (C3 : Hid (∀ W, Calls Tryz.prog 113 #[.string S3] W fun e w' => e = .returned (.tuple #[.int .i64 n3, .int .i64 (k3 : Int)]) ∧ W = w'))
    (hst : (S1.toList == [33, 42]) = true)
    (T : ByteArray) (CT : Hid (∀ W, Calls Tryz.prog 44 #[mvV ⟨n1, 0, 3, (-1)⟩] W fun e w' => e = .returned (.tuple #[.string T, .int .i64 0]) ∧ Below W.heap.size W w'))
    (hT : (T.toList == s.toList) = true) :
    Calls Tryz.prog 45 #[.string s] w fun e w' => e = .returned (.tuple #[mvV ⟨n1, 0, 3, (-1)⟩, .int .i64 0]) ∧ Below w.heap.size w w' := by
  have i1 : (0 : Int) < (S1.size : Int) := by omega
  have i2 : (k1 : Int) ≤ (s.size : Int) := by omega
  obtain ⟨w1, hw1⟩ : ∃ w1, (w.alloc (.cells #[.int .i64 0, .int .i64 0, .int .u8 0, .int .i64 0] 40)).alloc (.cells #[.int .i64 0, .int .i64 0, .int .u8 0, .int .i64 0] 40) = w1 := ⟨_, rfl⟩
  have hb : Below w.heap.size w w1 := by rw [← hw1]; exact ((Below.refl _ w).alloc (Nat.le_refl _) _).alloc (by simp) _
  have y0 : BoxM w1 w.heap.size zeroMv := by rw [← hw1]; exact (Below.heap_alloc _ _ _ (by simp)).trans (World.alloc_heap_new w _)
  have y1 : BoxM w1.drew (w.heap.size + 1) ⟨0, 0, 0, 0⟩ := by
    rw [← hw1]
    have := World.alloc_heap_new (w.alloc (.cells #[.int .i64 0, .int .i64 0, .int .u8 0, .int .i64 0] 40)) (.cells #[.int .i64 0, .int .i64 0, .int .u8 0, .int .i64 0] 40); rwa [World.size_alloc] at this
  obtain ⟨v1, e1, s1, f1, by1, o1⟩ := box_id y1 n1
  have o12 : Only (fun k => k = w.heap.size + 1) w1 v1 := ⟨o1.os, o1.tape, o1.output, o1.size, fun k hk hne => o1.block k hk hne⟩
  obtain ⟨v3, e3, s3, f3, by3, o3⟩ := box_kind by1 3
  have o13 := o12.trans o3 (fun _ _ h => h)
  obtain ⟨v4, e4, s4, f4, by4, o4⟩ := box_n by3 n3
  have o14 := o13.trans o4 (fun _ _ h => h)
  obtain ⟨v5, e5, s5, f5, by5, o5⟩ := box_n by4 (-1)
  have o15 := o14.trans o5 (fun _ _ h => h)
  obtain ⟨c0, c1, c2', c3⟩ := And.intro by5.c0 (And.intro by5.c1 (And.intro by5.c2 by5.c3))
  have HBX := Lib.hid by5
  have HON := Lib.hid o15
  have HY0 := Lib.hid y0
  have HB := Lib.hid hb
  have HL0 := Lib.hid y0.lt
  dsimp only at *
  unfold mvV at *
  clear y0 y1 hb by1 by3 by4 by5 o1 o12 o3 o13 o4 o14 o5 o15
  go_enter Tryz.func45, Tryz.ntmps45
  go_wp2_with (go_at_call 113; first | ((with_reducible refine (C1.out _).mono ?_); rintro e w2 ⟨rfl, rfl⟩))
  go_region
  all_goals go_wp2_with (first | (go_at_call 113; first | ((with_reducible refine (C3.out _).mono ?_); rintro e w2 ⟨rfl, rfl⟩)) | (go_at_call 44; refine (CT.out _).mono ?_; rintro e w6 ⟨rfl, hb6⟩; have z4 := (hb6.block _ HBX.out.lt).trans HBX.out; obtain ⟨a0, a1, a2, a3⟩ := And.intro (BoxM.c0 z4) (And.intro (BoxM.c1 z4) (And.intro (BoxM.c2 z4) (BoxM.c3 z4))); have z2 : BoxM w6 w.heap.size zeroMv := (hb6.block _ (Nat.lt_of_lt_of_le HL0.out HON.out.size)).trans ((HON.out.block _ HL0.out (by omega)).trans HY0.out); obtain ⟨x1, x2, x3, x4, g1, g2, g3, g4, t0, u0, t1, u1, t2, u2, t3, u3, hx4, ho⟩ := chain40 z2 ⟨n1, 0, 3, (-1)⟩; have HX4 := Lib.hid hx4; have HO := Lib.hid ho; have HB6 := Lib.hid hb6; clear hx4 ho; unfold zeroMv at t0 t1 t2 t3; dsimp only at a0 a1 a2 a3 t0 t1 t2 t3 g1 g2 g3 g4))
  all_goals refine bodyPost_ret (results_refParse HX4.out rfl rfl) rfl ?_
  all_goals exact ⟨rfl, (HB.out.trans ((HON.out.below w.heap.size (by have := HL0.out; omega) (fun b hb h => by omega)).trans (HB6.out.mono (Nat.le_trans (Nat.le_of_lt HL0.out) HON.out.size)))).trans (HO.out.below _ (Nat.le_trans (Nat.le_trans (Nat.le_of_lt HL0.out) HON.out.size) HB6.out.size) (fun b hb h => by omega))⟩
set_option maxRecDepth 100000 in
set_option maxHeartbeats 1000000 in
theorem pp_n0fe (s S1 S3 : ByteArray) (n1 n3 : Int) (k1 k3 : Nat) (w : World)
    (C1 : Hid (∀ W, Calls Tryz.prog 113 #[.string s] W fun e w' => e = .returned (.tuple #[.int .i64 n1, .int .i64 (k1 : Int)]) ∧ W = w'))
    (hk1 : k1 ≤ s.size) (hs : s.size ≤ 1000) (hS1 : s.extract k1 s.size = S1) (hp1 : 0 < S1.size) (c : UInt8) (hc : S1[0]'hp1 = c)
    (h46 : ((c.toNat : Int) == 46) = false)
    (h63 : ((c.toNat : Int) == 63) = false)
    (h61 : ((c.toNat : Int) == 61) = false)
    (h33 : ((c.toNat : Int) == 33) = false)
    (hem : S1.toList.isEmpty = false)
    (hS3 : S1.extract 1 S1.size = S3) (C3 : Hid (∀ W, Calls Tryz.prog 113 #[.string S3] W fun e w' => e = .returned (.tuple #[.int .i64 n3, .int .i64 (k3 : Int)]) ∧ W = w'))
    (hst : (S1.toList == [33, 42]) = false)
    (T : ByteArray) (es : Int) (hes : (es != 0) = true) (CT : Hid (∀ W, Calls Tryz.prog 44 #[mvV ⟨n1, 0, 0, n3⟩] W fun e w' => e = .returned (.tuple #[.string T, .int .i64 es]) ∧ Below W.heap.size W w')) :
    Calls Tryz.prog 45 #[.string s] w fun e w' => e = .returned (.tuple #[mvV zeroMv, .int .i64 4]) ∧ Below w.heap.size w w' := by
  have i1 : (0 : Int) < (S1.size : Int) := by omega
  have i2 : (k1 : Int) ≤ (s.size : Int) := by omega
  obtain ⟨w1, hw1⟩ : ∃ w1, (w.alloc (.cells #[.int .i64 0, .int .i64 0, .int .u8 0, .int .i64 0] 40)).alloc (.cells #[.int .i64 0, .int .i64 0, .int .u8 0, .int .i64 0] 40) = w1 := ⟨_, rfl⟩
  have hb : Below w.heap.size w w1 := by rw [← hw1]; exact ((Below.refl _ w).alloc (Nat.le_refl _) _).alloc (by simp) _
  have y0 : BoxM w1 w.heap.size zeroMv := by rw [← hw1]; exact (Below.heap_alloc _ _ _ (by simp)).trans (World.alloc_heap_new w _)
  have y1 : BoxM w1.drew (w.heap.size + 1) ⟨0, 0, 0, 0⟩ := by
    rw [← hw1]
    have := World.alloc_heap_new (w.alloc (.cells #[.int .i64 0, .int .i64 0, .int .u8 0, .int .i64 0] 40)) (.cells #[.int .i64 0, .int .i64 0, .int .u8 0, .int .i64 0] 40); rwa [World.size_alloc] at this
  obtain ⟨v1, e1, s1, f1, by1, o1⟩ := box_id y1 n1
  have o12 : Only (fun k => k = w.heap.size + 1) w1 v1 := ⟨o1.os, o1.tape, o1.output, o1.size, fun k hk hne => o1.block k hk hne⟩
  obtain ⟨v4, e4, s4, f4, by4, o4⟩ := box_n by1 n3
  have o14 := o12.trans o4 (fun _ _ h => h)
  obtain ⟨c0, c1, c2', c3⟩ := And.intro by4.c0 (And.intro by4.c1 (And.intro by4.c2 by4.c3))
  have HBX := Lib.hid by4
  have HON := Lib.hid o14
  have HY0 := Lib.hid y0
  have HB := Lib.hid hb
  have HL0 := Lib.hid y0.lt
  dsimp only at *
  unfold mvV at *
  clear y0 y1 hb by1 by4 o1 o12 o4 o14
  go_enter Tryz.func45, Tryz.ntmps45
  go_wp2_with (go_at_call 113; first | ((with_reducible refine (C1.out _).mono ?_); rintro e w2 ⟨rfl, rfl⟩))
  go_region
  all_goals go_wp2_with (first | (go_at_call 113; first | ((with_reducible refine (C3.out _).mono ?_); rintro e w2 ⟨rfl, rfl⟩)) | (go_at_call 44; refine (CT.out _).mono ?_; rintro e w6 ⟨rfl, hb6⟩; have z4 := (hb6.block _ HBX.out.lt).trans HBX.out; obtain ⟨a0, a1, a2, a3⟩ := And.intro (BoxM.c0 z4) (And.intro (BoxM.c1 z4) (And.intro (BoxM.c2 z4) (BoxM.c3 z4))); have z2 : BoxM w6 w.heap.size zeroMv := (hb6.block _ (Nat.lt_of_lt_of_le HL0.out HON.out.size)).trans ((HON.out.block _ HL0.out (by omega)).trans HY0.out); obtain ⟨x1, x2, x3, x4, g1, g2, g3, g4, t0, u0, t1, u1, t2, u2, t3, u3, hx4, ho⟩ := chain40 z2 zeroMv; have HX4 := Lib.hid hx4; have HO := Lib.hid ho; have HB6 := Lib.hid hb6; clear hx4 ho; unfold zeroMv at t0 t1 t2 t3 g1 g2 g3 g4; dsimp only at a0 a1 a2 a3 t0 t1 t2 t3 g1 g2 g3 g4))
  all_goals refine bodyPost_ret (results_refParse HX4.out rfl rfl) rfl ?_
  all_goals exact ⟨rfl, (HB.out.trans ((HON.out.below w.heap.size (by have := HL0.out; omega) (fun b hb h => by omega)).trans (HB6.out.mono (Nat.le_trans (Nat.le_of_lt HL0.out) HON.out.size)))).trans (HO.out.below _ (Nat.le_trans (Nat.le_trans (Nat.le_of_lt HL0.out) HON.out.size) HB6.out.size) (fun b hb h => by omega))⟩
set_option maxRecDepth 100000 in
set_option maxHeartbeats 1000000 in
theorem pp_y1fe (s S1 S3 : ByteArray) (n1 n3 : Int) (k1 k3 : Nat) (w : World)
    (C1 : Hid (∀ W, Calls Tryz.prog 113 #[.string s] W fun e w' => e = .returned (.tuple #[.int .i64 n1, .int .i64 (k1 : Int)]) ∧ W = w'))
    (hk1 : k1 ≤ s.size) (hs : s.size ≤ 1000) (hS1 : s.extract k1 s.size = S1) (hp1 : 0 < S1.size) (c : UInt8) (hc : S1[0]'hp1 = c)
    (h46 : ((c.toNat : Int) == 46) = true) (Sb S2 : ByteArray) (n2 : Int) (k2 : Nat) (hSb : S1.extract 1 S1.size = Sb) (C2 : Hid (∀ W, Calls Tryz.prog 113 #[.string Sb] W fun e w' => e = .returned (.tuple #[.int .i64 n2, .int .i64 (k2 : Int)]) ∧ W = w')) (hk2 : 1 + k2 ≤ S1.size) (hS2 : S1.extract (1 + k2) S1.size = S2) (hp2 : 0 < S2.size) (c2 : UInt8) (hc2 : S2[0]'hp2 = c2) (hz : S1.size ≤ 1000)
    (h63 : ((c2.toNat : Int) == 63) = true)
    (hem : S2.toList.isEmpty = false)
    (hS3 : S2.extract 1 S2.size = S3) (C3 : Hid (∀ W, Calls Tryz.prog 113 #[.string S3] W fun e w' => e = .returned (.tuple #[.int .i64 n3, .int .i64 (k3 : Int)]) ∧ W = w'))
    (hst : (S2.toList == [33, 42]) = false)
    (T : ByteArray) (es : Int) (hes : (es != 0) = true) (CT : Hid (∀ W, Calls Tryz.prog 44 #[mvV ⟨n1, n2, 1, n3⟩] W fun e w' => e = .returned (.tuple #[.string T, .int .i64 es]) ∧ Below W.heap.size W w')) :
    Calls Tryz.prog 45 #[.string s] w fun e w' => e = .returned (.tuple #[mvV zeroMv, .int .i64 4]) ∧ Below w.heap.size w w' := by
  have i1 : (0 : Int) < (S1.size : Int) := by omega
  have i2 : (k1 : Int) ≤ (s.size : Int) := by omega
  have i3 : (0 : Int) < (S2.size : Int) := by omega
  have i4 : ((1 : Int) + (k2 : Int)) ≤ (S1.size : Int) := by omega
  have i5 : IntKind.i64.wrap ((1 : Int) + (k2 : Int)) = (1 : Int) + (k2 : Int) := by rw [IntKind.wrap_i64]; omega
  obtain ⟨w1, hw1⟩ : ∃ w1, (w.alloc (.cells #[.int .i64 0, .int .i64 0, .int .u8 0, .int .i64 0] 40)).alloc (.cells #[.int .i64 0, .int .i64 0, .int .u8 0, .int .i64 0] 40) = w1 := ⟨_, rfl⟩
  have hb : Below w.heap.size w w1 := by rw [← hw1]; exact ((Below.refl _ w).alloc (Nat.le_refl _) _).alloc (by simp) _
  have y0 : BoxM w1 w.heap.size zeroMv := by rw [← hw1]; exact (Below.heap_alloc _ _ _ (by simp)).trans (World.alloc_heap_new w _)
  have y1 : BoxM w1.drew (w.heap.size + 1) ⟨0, 0, 0, 0⟩ := by
    rw [← hw1]
    have := World.alloc_heap_new (w.alloc (.cells #[.int .i64 0, .int .i64 0, .int .u8 0, .int .i64 0] 40)) (.cells #[.int .i64 0, .int .i64 0, .int .u8 0, .int .i64 0] 40); rwa [World.size_alloc] at this
  obtain ⟨v1, e1, s1, f1, by1, o1⟩ := box_id y1 n1
  have by1d : BoxM v1.drew (w.heap.size + 1) ⟨n1, 0, 0, 0⟩ := by1
  obtain ⟨v2, e2, s2, f2, by2, o2⟩ := box_arg by1d n2
  have o12 : Only (fun k => k = w.heap.size + 1) w1 v2 := ⟨o2.os.trans o1.os, o2.tape.trans o1.tape, o2.output.trans o1.output, Nat.le_trans o1.size o2.size, fun k hk hne => (o2.block k (Nat.lt_of_lt_of_le hk o1.size) hne).trans (o1.block k hk hne)⟩
  obtain ⟨v3, e3, s3, f3, by3, o3⟩ := box_kind by2 1
  have o13 := o12.trans o3 (fun _ _ h => h)
  obtain ⟨v4, e4, s4, f4, by4, o4⟩ := box_n by3 n3
  have o14 := o13.trans o4 (fun _ _ h => h)
  obtain ⟨c0, c1, c2', c3⟩ := And.intro by4.c0 (And.intro by4.c1 (And.intro by4.c2 by4.c3))
  have HBX := Lib.hid by4
  have HON := Lib.hid o14
  have HY0 := Lib.hid y0
  have HB := Lib.hid hb
  have HL0 := Lib.hid y0.lt
  dsimp only at *
  unfold mvV at *
  clear y0 y1 hb by1 by2 by1d by3 by4 o1 o12 o2 o3 o13 o4 o14
  go_enter Tryz.func45, Tryz.ntmps45
  go_wp2_with (go_at_call 113; first | ((with_reducible refine (C1.out _).mono ?_); rintro e w2 ⟨rfl, rfl⟩))
  go_region
  all_goals go_wp2_with (go_at_call 113; first | ((with_reducible refine (C2.out _).mono ?_); rintro e w2 ⟨rfl, rfl⟩))
  all_goals go_region
  all_goals go_wp2_with (first | (go_at_call 113; first | ((with_reducible refine (C3.out _).mono ?_); rintro e w2 ⟨rfl, rfl⟩)) | (go_at_call 44; refine (CT.out _).mono ?_; rintro e w6 ⟨rfl, hb6⟩; have z4 := (hb6.block _ HBX.out.lt).trans HBX.out; obtain ⟨a0, a1, a2, a3⟩ := And.intro (BoxM.c0 z4) (And.intro (BoxM.c1 z4) (And.intro (BoxM.c2 z4) (BoxM.c3 z4))); have z2 : BoxM w6 w.heap.size zeroMv := (hb6.block _ (Nat.lt_of_lt_of_le HL0.out HON.out.size)).trans ((HON.out.block _ HL0.out (by omega)).trans HY0.out); obtain ⟨x1, x2, x3, x4, g1, g2, g3, g4, t0, u0, t1, u1, t2, u2, t3, u3, hx4, ho⟩ := chain40 z2 zeroMv; have HX4 := Lib.hid hx4; have HO := Lib.hid ho; have HB6 := Lib.hid hb6; clear hx4 ho; unfold zeroMv at t0 t1 t2 t3 g1 g2 g3 g4; dsimp only at a0 a1 a2 a3 t0 t1 t2 t3 g1 g2 g3 g4))
  all_goals refine bodyPost_ret (results_refParse HX4.out rfl rfl) rfl ?_
  all_goals exact ⟨rfl, (HB.out.trans ((HON.out.below w.heap.size (by have := HL0.out; omega) (fun b hb h => by omega)).trans (HB6.out.mono (Nat.le_trans (Nat.le_of_lt HL0.out) HON.out.size)))).trans (HO.out.below _ (Nat.le_trans (Nat.le_trans (Nat.le_of_lt HL0.out) HON.out.size) HB6.out.size) (fun b hb h => by omega))⟩
set_option maxRecDepth 100000 in
set_option maxHeartbeats 1000000 in
theorem pp_y1fn (s S1 S3 : ByteArray) (n1 n3 : Int) (k1 k3 : Nat) (w : World)
    (C1 : Hid (∀ W, Calls Tryz.prog 113 #[.string s] W fun e w' => e = .returned (.tuple #[.int .i64 n1, .int .i64 (k1 : Int)]) ∧ W = w'))
    (hk1 : k1 ≤ s.size) (hs : s.size ≤ 1000) (hS1 : s.extract k1 s.size = S1) (hp1 : 0 < S1.size) (c : UInt8) (hc : S1[0]'hp1 = c)
    (h46 : ((c.toNat : Int) == 46) = true) (Sb S2 : ByteArray) (n2 : Int) (k2 : Nat) (hSb : S1.extract 1 S1.size = Sb) (C2 : Hid (∀ W, Calls Tryz.prog 113 #[.string Sb] W fun e w' => e = .returned (.tuple #[.int .i64 n2, .int .i64 (k2 : Int)]) ∧ W = w')) (hk2 : 1 + k2 ≤ S1.size) (hS2 : S1.extract (1 + k2) S1.size = S2) (hp2 : 0 < S2.size) (c2 : UInt8) (hc2 : S2[0]'hp2 = c2) (hz : S1.size ≤ 1000)
    (h63 : ((c2.toNat : Int) == 63) = true)
    (hem : S2.toList.isEmpty = false)
    (hS3 : S2.extract 1 S2.size = S3) (C3 : Hid (∀ W, Calls Tryz.prog 113 #[.string S3] W fun e w' => e = .returned (.tuple #[.int .i64 n3, .int .i64 (k3 : Int)]) ∧ W = w'))
    (hst : (S2.toList == [33, 42]) = false)
    (T : ByteArray) (CT : Hid (∀ W, Calls Tryz.prog 44 #[mvV ⟨n1, n2, 1, n3⟩] W fun e w' => e = .returned (.tuple #[.string T, .int .i64 0]) ∧ Below W.heap.size W w'))
    (hT : (T.toList == s.toList) = false) :
    Calls Tryz.prog 45 #[.string s] w fun e w' => e = .returned (.tuple #[mvV zeroMv, .int .i64 4]) ∧ Below w.heap.size w w' := by
  have i1 : (0 : Int) < (S1.size : Int) := by omega
  have i2 : (k1 : Int) ≤ (s.size : Int) := by omega
  have i3 : (0 : Int) < (S2.size : Int) := by omega
  have i4 : ((1 : Int) + (k2 : Int)) ≤ (S1.size : Int) := by omega
  have i5 : IntKind.i64.wrap ((1 : Int) + (k2 : Int)) = (1 : Int) + (k2 : Int) := by rw [IntKind.wrap_i64]; omega
  obtain ⟨w1, hw1⟩ : ∃ w1, (w.alloc (.cells #[.int .i64 0, .int .i64 0, .int .u8 0, .int .i64 0] 40)).alloc (.cells #[.int .i64 0, .int .i64 0, .int .u8 0, .int .i64 0] 40) = w1 := ⟨_, rfl⟩
  have hb : Below w.heap.size w w1 := by rw [← hw1]; exact ((Below.refl _ w).alloc (Nat.le_refl _) _).alloc (by simp) _
  have y0 : BoxM w1 w.heap.size zeroMv := by rw [← hw1]; exact (Below.heap_alloc _ _ _ (by simp)).trans (World.alloc_heap_new w _)
  have y1 : BoxM w1.drew (w.heap.size + 1) ⟨0, 0, 0, 0⟩ := by
    rw [← hw1]
    have := World.alloc_heap_new (w.alloc (.cells #[.int .i64 0, .int .i64 0, .int .u8 0, .int .i64 0] 40)) (.cells #[.int .i64 0, .int .i64 0, .int .u8 0, .int .i64 0] 40); rwa [World.size_alloc] at this
  obtain ⟨v1, e1, s1, f1, by1, o1⟩ := box_id y1 n1
  have by1d : BoxM v1.drew (w.heap.size + 1) ⟨n1, 0, 0, 0⟩ := by1
  obtain ⟨v2, e2, s2, f2, by2, o2⟩ := box_arg by1d n2
  have o12 : Only (fun k => k = w.heap.size + 1) w1 v2 := ⟨o2.os.trans o1.os, o2.tape.trans o1.tape, o2.output.trans o1.output, Nat.le_trans o1.size o2.size, fun k hk hne => (o2.block k (Nat.lt_of_lt_of_le hk o1.size) hne).trans (o1.block k hk hne)⟩
  obtain ⟨v3, e3, s3, f3, by3, o3⟩ := box_kind by2 1
  have o13 := o12.trans o3 (fun _ _ h => h)
  obtain ⟨v4, e4, s4, f4, by4, o4⟩ := box_n by3 n3
  have o14 := o13.trans o4 (fun _ _ h => h)
  obtain ⟨c0, c1, c2', c3⟩ := And.intro by4.c0 (And.intro by4.c1 (And.intro by4.c2 by4.c3))
  have HBX := Lib.hid by4
  have HON := Lib.hid o14
  have HY0 := Lib.hid y0
  have HB := Lib.hid hb
  have HL0 := Lib.hid y0.lt
  dsimp only at *
  unfold mvV at *
  clear y0 y1 hb by1 by2 by1d by3 by4 o1 o12 o2 o3 o13 o4 o14
  go_enter Tryz.func45, Tryz.ntmps45
  go_wp2_with (go_at_call 113; first | ((with_reducible refine (C1.out _).mono ?_); rintro e w2 ⟨rfl, rfl⟩))
  go_region
  all_goals go_wp2_with (go_at_call 113; first | ((with_reducible refine (C2.out _).mono ?_); rintro e w2 ⟨rfl, rfl⟩))
  all_goals go_region
  all_goals go_wp2_with (first | (go_at_call 113; first | ((with_reducible refine (C3.out _).mono ?_); rintro e w2 ⟨rfl, rfl⟩)) | (go_at_call 44; refine (CT.out _).mono ?_; rintro e w6 ⟨rfl, hb6⟩; have z4 := (hb6.block _ HBX.out.lt).trans HBX.out; obtain ⟨a0, a1, a2, a3⟩ := And.intro (BoxM.c0 z4) (And.intro (BoxM.c1 z4) (And.intro (BoxM.c2 z4) (BoxM.c3 z4))); have z2 : BoxM w6 w.heap.size zeroMv := (hb6.block _ (Nat.lt_of_lt_of_le HL0.out HON.out.size)).trans ((HON.out.block _ HL0.out (by omega)).trans HY0.out); obtain ⟨x1, x2, x3, x4, g1, g2, g3, g4, t0, u0, t1, u1, t2, u2, t3, u3, hx4, ho⟩ := chain40 z2 zeroMv; have HX4 := Lib.hid hx4; have HO := Lib.hid ho; have HB6 := Lib.hid hb6; clear hx4 ho; unfold zeroMv at t0 t1 t2 t3 g1 g2 g3 g4; dsimp only at a0 a1 a2 a3 t0 t1 t2 t3 g1 g2 g3 g4))
  all_goals refine bodyPost_ret (results_refParse HX4.out rfl rfl) rfl ?_
  all_goals exact ⟨rfl, (HB.out.trans ((HON.out.below w.heap.size (by have := HL0.out; omega) (fun b hb h => by omega)).trans (HB6.out.mono (Nat.le_trans (Nat.le_of_lt HL0.out) HON.out.size)))).trans (HO.out.below _ (Nat.le_trans (Nat.le_trans (Nat.le_of_lt HL0.out) HON.out.size) HB6.out.size) (fun b hb h => by omega))⟩
set_option maxRecDepth 100000 in
set_option maxHeartbeats 1000000 in
theorem pp_y1fy (s S1 S3 : ByteArray) (n1 n3 : Int) (k1 k3 : Nat) (w : World)
    (C1 : Hid (∀ W, Calls Tryz.prog 113 #[.string s] W fun e w' => e = .returned (.tuple #[.int .i64 n1, .int .i64 (k1 : Int)]) ∧ W = w'))
    (hk1 : k1 ≤ s.size) (hs : s.size ≤ 1000) (hS1 : s.extract k1 s.size = S1) (hp1 : 0 < S1.size) (c : UInt8) (hc : S1[0]'hp1 = c)
    (h46 : ((c.toNat : Int) == 46) = true) (Sb S2 : ByteArray) (n2 : Int) (k2 : Nat) (hSb : S1.extract 1 S1.size = Sb) (C2 : Hid (∀ W, Calls Tryz.prog 113 #[.string Sb] W fun e w' => e = .returned (.tuple #[.int .i64 n2, .int .i64 (k2 : Int)]) ∧ W = w')) (hk2 : 1 + k2 ≤ S1.size) (hS2 : S1.extract (1 + k2) S1.size = S2) (hp2 : 0 < S2.size) (c2 : UInt8) (hc2 : S2[0]'hp2 = c2) (hz : S1.size ≤ 1000)
    (h63 : ((c2.toNat : Int) == 63) = true)
    (hem : S2.toList.isEmpty = false)
    (hS3 : S2.extract 1 S2.size = S3) (C3 : Hid (∀ W, Calls Tryz.prog 113 #[.string S3] W fun e w' => e = .returned (.tuple #[.int .i64 n3, .int .i64 (k3 : Int)]) ∧ W = w'))
    (hst : (S2.toList == [33, 42]) = false)
    (T : ByteArray) (CT : Hid (∀ W, Calls Tryz.prog 44 #[mvV ⟨n1, n2, 1, n3⟩] W fun e w' => e = .returned (.tuple #[.string T, .int .i64 0]) ∧ Below W.heap.size W w'))
    (hT : (T.toList == s.toList) = true) :
    Calls Tryz.prog 45 #[.string s] w fun e w' => e = .returned (.tuple #[mvV ⟨n1, n2, 1, n3⟩, .int .i64 0]) ∧ Below w.heap.size w w' := by
  have i1 : (0 : Int) < (S1.size : Int) := by omega
  have i2 : (k1 : Int) ≤ (s.size : Int) := by omega
  have i3 : (0 : Int) < (S2.size : Int) := by omega
  have i4 : ((1 : Int) + (k2 : Int)) ≤ (S1.size : Int) := by omega
  have i5 : IntKind.i64.wrap ((1 : Int) + (k2 : Int)) = (1 : Int) + (k2 : Int) := by rw [IntKind.wrap_i64]; omega
  obtain ⟨w1, hw1⟩ : ∃ w1, (w.alloc (.cells #[.int .i64 0, .int .i64 0, .int .u8 0, .int .i64 0] 40)).alloc (.cells #[.int .i64 0, .int .i64 0, .int .u8 0, .int .i64 0] 40) = w1 := ⟨_, rfl⟩
  have hb : Below w.heap.size w w1 := by rw [← hw1]; exact ((Below.refl _ w).alloc (Nat.le_refl _) _).alloc (by simp) _
  have y0 : BoxM w1 w.heap.size zeroMv := by rw [← hw1]; exact (Below.heap_alloc _ _ _ (by simp)).trans (World.alloc_heap_new w _)
  have y1 : BoxM w1.drew (w.heap.size + 1) ⟨0, 0, 0, 0⟩ := by
    rw [← hw1]
    have := World.alloc_heap_new (w.alloc (.cells #[.int .i64 0, .int .i64 0, .int .u8 0, .int .i64 0] 40)) (.cells #[.int .i64 0, .int .i64 0, .int .u8 0, .int .i64 0] 40); rwa [World.size_alloc] at this
  obtain ⟨v1, e1, s1, f1, by1, o1⟩ := box_id y1 n1
  have by1d : BoxM v1.drew (w.heap.size + 1) ⟨n1, 0, 0, 0⟩ := by1
  obtain ⟨v2, e2, s2, f2, by2, o2⟩ := box_arg by1d n2
  have o12 : Only (fun k => k = w.heap.size + 1) w1 v2 := ⟨o2.os.trans o1.os, o2.tape.trans o1.tape, o2.output.trans o1.output, Nat.le_trans o1.size o2.size, fun k hk hne => (o2.block k (Nat.lt_of_lt_of_le hk o1.size) hne).trans (o1.block k hk hne)⟩
  obtain ⟨v3, e3, s3, f3, by3, o3⟩ := box_kind by2 1
  have o13 := o12.trans o3 (fun _ _ h => h)
  obtain ⟨v4, e4, s4, f4, by4, o4⟩ := box_n by3 n3
  have o14 := o13.trans o4 (fun _ _ h => h)
  obtain ⟨c0, c1, c2', c3⟩ := And.intro by4.c0 (And.intro by4.c1 (And.intro by4.c2 by4.c3))
  have HBX := Lib.hid by4
  have HON := Lib.hid o14
  have HY0 := Lib.hid y0
  have HB := Lib.hid hb
  have HL0 := Lib.hid y0.lt
  dsimp only at *
  unfold mvV at *
  clear y0 y1 hb by1 by2 by1d by3 by4 o1 o12 o2 o3 o13 o4 o14
  go_enter Tryz.func45, Tryz.ntmps45
  go_wp2_with (go_at_call 113; first | ((with_reducible refine (C1.out _).mono ?_); rintro e w2 ⟨rfl, rfl⟩))
  go_region
  all_goals go_wp2_with (go_at_call 113; first | ((with_reducible refine (C2.out _).mono ?_); rintro e w2 ⟨rfl, rfl⟩))
  all_goals go_region
  all_goals go_wp2_with (first | (go_at_call 113; first | ((with_reducible refine (C3.out _).mono ?_); rintro e w2 ⟨rfl, rfl⟩)) | (go_at_call 44; refine (CT.out _).mono ?_; rintro e w6 ⟨rfl, hb6⟩; have z4 := (hb6.block _ HBX.out.lt).trans HBX.out; obtain ⟨a0, a1, a2, a3⟩ := And.intro (BoxM.c0 z4) (And.intro (BoxM.c1 z4) (And.intro (BoxM.c2 z4) (BoxM.c3 z4))); have z2 : BoxM w6 w.heap.size zeroMv := (hb6.block _ (Nat.lt_of_lt_of_le HL0.out HON.out.size)).trans ((HON.out.block _ HL0.out (by omega)).trans HY0.out); obtain ⟨x1, x2, x3, x4, g1, g2, g3, g4, t0, u0, t1, u1, t2, u2, t3, u3, hx4, ho⟩ := chain40 z2 ⟨n1, n2, 1, n3⟩; have HX4 := Lib.hid hx4; have HO := Lib.hid ho; have HB6 := Lib.hid hb6; clear hx4 ho; unfold zeroMv at t0 t1 t2 t3; dsimp only at a0 a1 a2 a3 t0 t1 t2 t3 g1 g2 g3 g4))
  all_goals refine bodyPost_ret (results_refParse HX4.out rfl rfl) rfl ?_
  all_goals exact ⟨rfl, (HB.out.trans ((HON.out.below w.heap.size (by have := HL0.out; omega) (fun b hb h => by omega)).trans (HB6.out.mono (Nat.le_trans (Nat.le_of_lt HL0.out) HON.out.size)))).trans (HO.out.below _ (Nat.le_trans (Nat.le_trans (Nat.le_of_lt HL0.out) HON.out.size) HB6.out.size) (fun b hb h => by omega))⟩
set_option maxRecDepth 100000 in
set_option maxHeartbeats 1000000 in
theorem pp_y2fe (s S1 S3 : ByteArray) (n1 n3 : Int) (k1 k3 : Nat) (w : World)
    (C1 : Hid (∀ W, Calls Tryz.prog 113 #[.string s] W fun e w' => e = .returned (.tuple #[.int .i64 n1, .int .i64 (k1 : Int)]) ∧ W = w'))
    (hk1 : k1 ≤ s.size) (hs : s.size ≤ 1000) (hS1 : s.extract k1 s.size = S1) (hp1 : 0 < S1.size) (c : UInt8) (hc : S1[0]'hp1 = c)
    (h46 : ((c.toNat : Int) == 46) = true) (Sb S2 : ByteArray) (n2 : Int) (k2 : Nat) (hSb : S1.extract 1 S1.size = Sb) (C2 : Hid (∀ W, Calls Tryz.prog 113 #[.string Sb] W fun e w' => e = .returned (.tuple #[.int .i64 n2, .int .i64 (k2 : Int)]) ∧ W = w')) (hk2 : 1 + k2 ≤ S1.size) (hS2 : S1.extract (1 + k2) S1.size = S2) (hp2 : 0 < S2.size) (c2 : UInt8) (hc2 : S2[0]'hp2 = c2) (hz : S1.size ≤ 1000)
    (h63 : ((c2.toNat : Int) == 63) = false)
    (h61 : ((c2.toNat : Int) == 61) = true)
    (hem : S2.toList.isEmpty = false)
    (hS3 : S2.extract 1 S2.size = S3) (C3 : Hid (∀ W, Calls Tryz.prog 113 #[.string S3] W fun e w' => e = .returned (.tuple #[.int .i64 n3, .int .i64 (k3 : Int)]) ∧ W = w'))
    (hst : (S2.toList == [33, 42]) = false)
    (T : ByteArray) (es : Int) (hes : (es != 0) = true) (CT : Hid (∀ W, Calls Tryz.prog 44 #[mvV ⟨n1, n2, 2, n3⟩] W fun e w' => e = .returned (.tuple #[.string T, .int .i64 es]) ∧ Below W.heap.size W w')) :
    Calls Tryz.prog 45 #[.string s] w fun e w' => e = .returned (.tuple #[mvV zeroMv, .int .i64 4]) ∧ Below w.heap.size w w' := by
  have i1 : (0 : Int) < (S1.size : Int) := by omega
  have i2 : (k1 : Int) ≤ (s.size : Int) := by omega
  have i3 : (0 : Int) < (S2.size : Int) := by omega
  have i4 : ((1 : Int) + (k2 : Int)) ≤ (S1.size : Int) := by omega
  have i5 : IntKind.i64.wrap ((1 : Int) + (k2 : Int)) = (1 : Int) + (k2 : Int) := by rw [IntKind.wrap_i64]; omega
  obtain ⟨w1, hw1⟩ : ∃ w1, (w.alloc (.cells #[.int .i64 0, .int .i64 0, .int .u8 0, .int .i64 0] 40)).alloc (.cells #[.int .i64 0, .int .i64 0, .int .u8 0, .int .i64 0] 40) = w1 := ⟨_, rfl⟩
  have hb : Below w.heap.size w w1 := by rw [← hw1]; exact ((Below.refl _ w).alloc (Nat.le_refl _) _).alloc (by simp) _
  have y0 : BoxM w1 w.heap.size zeroMv := by rw [← hw1]; exact (Below.heap_alloc _ _ _ (by simp)).trans (World.alloc_heap_new w _)
  have y1 : BoxM w1.drew (w.heap.size + 1) ⟨0, 0, 0, 0⟩ := by
    rw [← hw1]
    have := World.alloc_heap_new (w.alloc (.cells #[.int .i64 0, .int .i64 0, .int .u8 0, .int .i64 0] 40)) (.cells #[.int .i64 0, .int .i64 0, .int .u8 0, .int .i64 0] 40); rwa [World.size_alloc] at this
  obtain ⟨v1, e1, s1, f1, by1, o1⟩ := box_id y1 n1
  have by1d : BoxM v1.drew (w.heap.size + 1) ⟨n1, 0, 0, 0⟩ := by1
  obtain ⟨v2, e2, s2, f2, by2, o2⟩ := box_arg by1d n2
  have o12 : Only (fun k => k = w.heap.size + 1) w1 v2 := ⟨o2.os.trans o1.os, o2.tape.trans o1.tape, o2.output.trans o1.output, Nat.le_trans o1.size o2.size, fun k hk hne => (o2.block k (Nat.lt_of_lt_of_le hk o1.size) hne).trans (o1.block k hk hne)⟩
  obtain ⟨v3, e3, s3, f3, by3, o3⟩ := box_kind by2 2
  have o13 := o12.trans o3 (fun _ _ h => h)
  obtain ⟨v4, e4, s4, f4, by4, o4⟩ := box_n by3 n3
  have o14 := o13.trans o4 (fun _ _ h => h)
  obtain ⟨c0, c1, c2', c3⟩ := And.intro by4.c0 (And.intro by4.c1 (And.intro by4.c2 by4.c3))
  have HBX := Lib.hid by4
  have HON := Lib.hid o14
  have HY0 := Lib.hid y0
  have HB := Lib.hid hb
  have HL0 := Lib.hid y0.lt
  dsimp only at *
  unfold mvV at *
  clear y0 y1 hb by1 by2 by1d by3 by4 o1 o12 o2 o3 o13 o4 o14
  go_enter Tryz.func45, Tryz.ntmps45
  go_wp2_with (go_at_call 113; first | ((with_reducible refine (C1.out _).mono ?_); rintro e w2 ⟨rfl, rfl⟩))
  go_region
  all_goals go_wp2_with (go_at_call 113; first | ((with_reducible refine (C2.out _).mono ?_); rintro e w2 ⟨rfl, rfl⟩))
  all_goals go_region
  all_goals go_wp2_with (first | (go_at_call 113; first | ((with_reducible refine (C3.out _).mono ?_); rintro e w2 ⟨rfl, rfl⟩)) | (go_at_call 44; refine (CT.out _).mono ?_; rintro e w6 ⟨rfl, hb6⟩; have z4 := (hb6.block _ HBX.out.lt).trans HBX.out; obtain ⟨a0, a1, a2, a3⟩ := And.intro (BoxM.c0 z4) (And.intro (BoxM.c1 z4) (And.intro (BoxM.c2 z4) (BoxM.c3 z4))); have z2 : BoxM w6 w.heap.size zeroMv := (hb6.block _ (Nat.lt_of_lt_of_le HL0.out HON.out.size)).trans ((HON.out.block _ HL0.out (by omega)).trans HY0.out); obtain ⟨x1, x2, x3, x4, g1, g2, g3, g4, t0, u0, t1, u1, t2, u2, t3, u3, hx4, ho⟩ := chain40 z2 zeroMv; have HX4 := Lib.hid hx4; have HO := Lib.hid ho; have HB6 := Lib.hid hb6; clear hx4 ho; unfold zeroMv at t0 t1 t2 t3 g1 g2 g3 g4; dsimp only at a0 a1 a2 a3 t0 t1 t2 t3 g1 g2 g3 g4))
  all_goals refine bodyPost_ret (results_refParse HX4.out rfl rfl) rfl ?_
  all_goals exact ⟨rfl, (HB.out.trans ((HON.out.below w.heap.size (by have := HL0.out; omega) (fun b hb h => by omega)).trans (HB6.out.mono (Nat.le_trans (Nat.le_of_lt HL0.out) HON.out.size)))).trans (HO.out.below _ (Nat.le_trans (Nat.le_trans (Nat.le_of_lt HL0.out) HON.out.size) HB6.out.size) (fun b hb h => by omega))⟩
set_option maxRecDepth 100000 in
set_option maxHeartbeats 1000000 in
theorem pp_y2fn (s S1 S3 : ByteArray) (n1 n3 : Int) (k1 k3 : Nat) (w : World)
    (C1 : Hid (∀ W, Calls Tryz.prog 113 #[.string s] W fun e w' => e = .returned (.tuple #[.int .i64 n1, .int .i64 (k1 : Int)]) ∧ W = w'))
    (hk1 : k1 ≤ s.size) (hs : s.size ≤ 1000) (hS1 : s.extract k1 s.size = S1) (hp1 : 0 < S1.size) (c : UInt8) (hc : S1[0]'hp1 = c)
    (h46 : ((c.toNat : Int) == 46) = true) (Sb S2 : ByteArray) (n2 : Int) (k2 : Nat) (hSb : S1.extract 1 S1.size = Sb) (C2 : Hid (∀ W, Calls Tryz.prog 113 #[.string Sb] W fun e w' => e = .returned (.tuple #[.int .i64 n2, .int .i64 (k2 : Int)]) ∧ W = w')) (hk2 : 1 + k2 ≤ S1.size) (hS2 : S1.extract (1 + k2) S1.size = S2) (hp2 : 0 < S2.size) (c2 : UInt8) (hc2 : S2[0]'hp2 = c2) (hz : S1.size ≤ 1000)
    (h63 : ((c2.toNat : Int) == 63) = false)
    (h61 : ((c2.toNat : Int) == 61) = true)
    (hem : S2.toList.isEmpty = false)
    (hS3 : S2.extract 1 S2.size = S3) (C3 : Hid (∀ W, Calls Tryz.prog 113 #[.string S3] W fun e w' => e = .returned (.tuple #[.int .i64 n3, .int .i64 (k3 : Int)]) ∧ W = w'))
    (hst : (S2.toList == [33, 42]) = false)
    (T : ByteArray) (CT : Hid (∀ W, Calls Tryz.prog 44 #[mvV ⟨n1, n2, 2, n3⟩] W fun e w' => e = .returned (.tuple #[.string T, .int .i64 0]) ∧ Below W.heap.size W w'))
    (hT : (T.toList == s.toList) = false) :
    Calls Tryz.prog 45 #[.string s] w fun e w' => e = .returned (.tuple #[mvV zeroMv, .int .i64 4]) ∧ Below w.heap.size w w' := by
  have i1 : (0 : Int) < (S1.size : Int) := by omega
  have i2 : (k1 : Int) ≤ (s.size : Int) := by omega
  have i3 : (0 : Int) < (S2.size : Int) := by omega
  have i4 : ((1 : Int) + (k2 : Int)) ≤ (S1.size : Int) := by omega
  have i5 : IntKind.i64.wrap ((1 : Int) + (k2 : Int)) = (1 : Int) + (k2 : Int) := by rw [IntKind.wrap_i64]; omega
  obtain ⟨w1, hw1⟩ : ∃ w1, (w.alloc (.cells #[.int .i64 0, .int .i64 0, .int .u8 0, .int .i64 0] 40)).alloc (.cells #[.int .i64 0, .int .i64 0, .int .u8 0, .int .i64 0] 40) = w1 := ⟨_, rfl⟩
  have hb : Below w.heap.size w w1 := by rw [← hw1]; exact ((Below.refl _ w).alloc (Nat.le_refl _) _).alloc (by simp) _
  have y0 : BoxM w1 w.heap.size zeroMv := by rw [← hw1]; exact (Below.heap_alloc _ _ _ (by simp)).trans (World.alloc_heap_new w _)
  have y1 : BoxM w1.drew (w.heap.size + 1) ⟨0, 0, 0, 0⟩ := by
    rw [← hw1]
    have := World.alloc_heap_new (w.alloc (.cells #[.int .i64 0, .int .i64 0, .int .u8 0, .int .i64 0] 40)) (.cells #[.int .i64 0, .int .i64 0, .int .u8 0, .int .i64 0] 40); rwa [World.size_alloc] at this
  obtain ⟨v1, e1, s1, f1, by1, o1⟩ := box_id y1 n1
  have by1d : BoxM v1.drew (w.heap.size + 1) ⟨n1, 0, 0, 0⟩ := by1
  obtain ⟨v2, e2, s2, f2, by2, o2⟩ := box_arg by1d n2
  have o12 : Only (fun k => k = w.heap.size + 1) w1 v2 := ⟨o2.os.trans o1.os, o2.tape.trans o1.tape, o2.output.trans o1.output, Nat.le_trans o1.size o2.size, fun k hk hne => (o2.block k (Nat.lt_of_lt_of_le hk o1.size) hne).trans (o1.block k hk hne)⟩
  obtain ⟨v3, e3, s3, f3, by3, o3⟩ := box_kind by2 2
  have o13 := o12.trans o3 (fun _ _ h => h)
  obtain ⟨v4, e4, s4, f4, by4, o4⟩ := box_n by3 n3
  have o14 := o13.trans o4 (fun _ _ h => h)
  obtain ⟨c0, c1, c2', c3⟩ := And.intro by4.c0 (And.intro by4.c1 (And.intro by4.c2 by4.c3))
  have HBX := Lib.hid by4
  have HON := Lib.hid o14
  have HY0 := Lib.hid y0
  have HB := Lib.hid hb
  have HL0 := Lib.hid y0.lt
  dsimp only at *
  unfold mvV at *
  clear y0 y1 hb by1 by2 by1d by3 by4 o1 o12 o2 o3 o13 o4 o14
  go_enter Tryz.func45, Tryz.ntmps45
  go_wp2_with (go_at_call 113; first | ((with_reducible refine (C1.out _).mono ?_); rintro e w2 ⟨rfl, rfl⟩))
  go_region
  all_goals go_wp2_with (go_at_call 113; first | ((with_reducible refine (C2.out _).mono ?_); rintro e w2 ⟨rfl, rfl⟩))
  all_goals go_region
  all_goals go_wp2_with (first | (go_at_call 113; first | ((with_reducible refine (C3.out _).mono ?_); rintro e w2 ⟨rfl, rfl⟩)) | (go_at_call 44; refine (CT.out _).mono ?_; rintro e w6 ⟨rfl, hb6⟩; have z4 := (hb6.block _ HBX.out.lt).trans HBX.out; obtain ⟨a0, a1, a2, a3⟩ := And.intro (BoxM.c0 z4) (And.intro (BoxM.c1 z4) (And.intro (BoxM.c2 z4) (BoxM.c3 z4))); have z2 : BoxM w6 w.heap.size zeroMv := (hb6.block _ (Nat.lt_of_lt_of_le HL0.out HON.out.size)).trans ((HON.out.block _ HL0.out (by omega)).trans HY0.out); obtain ⟨x1, x2, x3, x4, g1, g2, g3, g4, t0, u0, t1, u1, t2, u2, t3, u3, hx4, ho⟩ := chain40 z2 zeroMv; have HX4 := Lib.hid hx4; have HO := Lib.hid ho; have HB6 := Lib.hid hb6; clear hx4 ho; unfold zeroMv at t0 t1 t2 t3 g1 g2 g3 g4; dsimp only at a0 a1 a2 a3 t0 t1 t2 t3 g1 g2 g3 g4))
  all_goals refine bodyPost_ret (results_refParse HX4.out rfl rfl) rfl ?_
  all_goals exact ⟨rfl, (HB.out.trans ((HON.out.below w.heap.size (by have := HL0.out; omega) (fun b hb h => by omega)).trans (HB6.out.mono (Nat.le_trans (Nat.le_of_lt HL0.out) HON.out.size)))).trans (HO.out.below _ (Nat.le_trans (Nat.le_trans (Nat.le_of_lt HL0.out) HON.out.size) HB6.out.size) (fun b hb h => by omega))⟩
set_option maxRecDepth 100000 in
set_option maxHeartbeats 1000000 in
theorem pp_y2fy (s S1 S3 : ByteArray) (n1 n3 : Int) (k1 k3 : Nat) (w : World)
    (C1 : Hid (∀ W, Calls Tryz.prog 113 #[.string s] W fun e w' => e = .returned (.tuple #[.int .i64 n1, .int .i64 (k1 : Int)]) ∧ W = w'))
    (hk1 : k1 ≤ s.size) (hs : s.size ≤ 1000) (hS1 : s.extract k1 s.size = S1) (hp1 : 0 < S1.size) (c : UInt8) (hc : S1[0]'hp1 = c)
    (h46 : ((c.toNat : Int) == 46) = true) (Sb S2 : ByteArray) (n2 : Int) (k2 : Nat) (hSb : S1.extract 1 S1.size = Sb) (C2 : Hid (∀ W, Calls Tryz.prog 113 #[.string Sb] W fun e w' => e = .returned (.tuple #[.int .i64 n2, .int .i64 (k2 : Int)]) ∧ W = w')) (hk2 : 1 + k2 ≤ S1.size) (hS2 : S1.extract (1 + k2) S1.size = S2) (hp2 : 0 < S2.size) (c2 : UInt8) (hc2 : S2[0]'hp2 = c2) (hz : S1.size ≤ 1000)
    (h63 : ((c2.toNat : Int) == 63) = false)
    (h61 : ((c2.toNat : Int) == 61) = true)
    (hem : S2.toList.isEmpty = false)
    (hS3 : S2.extract 1 S2.size = S3) (C3 : Hid (∀ W, Calls Tryz.prog 113 #[.string S3] W fun e w' => e = .returned (.tuple #[.int .i64 n3, .int .i64 (k3 : Int)]) ∧ W = w'))
    (hst : (S2.toList == [33, 42]) = false)
    (T : ByteArray) (CT : Hid (∀ W, Calls Tryz.prog 44 #[mvV ⟨n1, n2, 2, n3⟩] W fun e w' => e = .returned (.tuple #[.string T, .int .i64 0]) ∧ Below W.heap.size W w'))
    (hT : (T.toList == s.toList) = true) :
    Calls Tryz.prog 45 #[.string s] w fun e w' => e = .returned (.tuple #[mvV ⟨n1, n2, 2, n3⟩, .int .i64 0]) ∧ Below w.heap.size w w' := by
  have i1 : (0 : Int) < (S1.size : Int) := by omega
  have i2 : (k1 : Int) ≤ (s.size : Int) := by omega
  have i3 : (0 : Int) < (S2.size : Int) := by omega
  have i4 : ((1 : Int) + (k2 : Int)) ≤ (S1.size : Int) := by omega
  have i5 : IntKind.i64.wrap ((1 : Int) + (k2 : Int)) = (1 : Int) + (k2 : Int) := by rw [IntKind.wrap_i64]; omega
  obtain ⟨w1, hw1⟩ : ∃ w1, (w.alloc (.cells #[.int .i64 0, .int .i64 0, .int .u8 0, .int .i64 0] 40)).alloc (.cells #[.int .i64 0, .int .i64 0, .int .u8 0, .int .i64 0] 40) = w1 := ⟨_, rfl⟩
  have hb : Below w.heap.size w w1 := by rw [← hw1]; exact ((Below.refl _ w).alloc (Nat.le_refl _) _).alloc (by simp) _
  have y0 : BoxM w1 w.heap.size zeroMv := by rw [← hw1]; exact (Below.heap_alloc _ _ _ (by simp)).trans (World.alloc_heap_new w _)
  have y1 : BoxM w1.drew (w.heap.size + 1) ⟨0, 0, 0, 0⟩ := by
    rw [← hw1]
    have := World.alloc_heap_new (w.alloc (.cells #[.int .i64 0, .int .i64 0, .int .u8 0, .int .i64 0] 40)) (.cells #[.int .i64 0, .int .i64 0, .int .u8 0, .int .i64 0] 40); rwa [World.size_alloc] at this
  obtain ⟨v1, e1, s1, f1, by1, o1⟩ := box_id y1 n1
  have by1d : BoxM v1.drew (w.heap.size + 1) ⟨n1, 0, 0, 0⟩ := by1
  obtain ⟨v2, e2, s2, f2, by2, o2⟩ := box_arg by1d n2
  have o12 : Only (fun k => k = w.heap.size + 1) w1 v2 := ⟨o2.os.trans o1.os, o2.tape.trans o1.tape, o2.output.trans o1.output, Nat.le_trans o1.size o2.size, fun k hk hne => (o2.block k (Nat.lt_of_lt_of_le hk o1.size) hne).trans (o1.block k hk hne)⟩
  obtain ⟨v3, e3, s3, f3, by3, o3⟩ := box_kind by2 2
  have o13 := o12.trans o3 (fun _ _ h => h)
  obtain ⟨v4, e4, s4, f4, by4, o4⟩ := box_n by3 n3
  have o14 := o13.trans o4 (fun _ _ h => h)
  obtain ⟨c0, c1, c2', c3⟩ := And.intro by4.c0 (And.intro by4.c1 (And.intro by4.c2 by4.c3))
  have HBX := Lib.hid by4
  have HON := Lib.hid o14
  have HY0 := Lib.hid y0
  have HB := Lib.hid hb
  have HL0 := Lib.hid y0.lt
  dsimp only at *
  unfold mvV at *
  clear y0 y1 hb by1 by2 by1d by3 by4 o1 o12 o2 o3 o13 o4 o14
  go_enter Tryz.func45, Tryz.ntmps45
  go_wp2_with (go_at_call 113; first | ((with_reducible refine (C1.out _).mono ?_); rintro e w2 ⟨rfl, rfl⟩))
  go_region
  all_goals go_wp2_with (go_at_call 113; first | ((with_reducible refine (C2.out _).mono ?_); rintro e w2 ⟨rfl, rfl⟩))
  all_goals go_region
  all_goals go_wp2_with (first | (go_at_call 113; first | ((with_reducible refine (C3.out _).mono ?_); rintro e w2 ⟨rfl, rfl⟩)) | (go_at_call 44; refine (CT.out _).mono ?_; rintro e w6 ⟨rfl, hb6⟩; have z4 := (hb6.block _ HBX.out.lt).trans HBX.out; obtain ⟨a0, a1, a2, a3⟩ := And.intro (BoxM.c0 z4) (And.intro (BoxM.c1 z4) (And.intro (BoxM.c2 z4) (BoxM.c3 z4))); have z2 : BoxM w6 w.heap.size zeroMv := (hb6.block _ (Nat.lt_of_lt_of_le HL0.out HON.out.size)).trans ((HON.out.block _ HL0.out (by omega)).trans HY0.out); obtain ⟨x1, x2, x3, x4, g1, g2, g3, g4, t0, u0, t1, u1, t2, u2, t3, u3, hx4, ho⟩ := chain40 z2 ⟨n1, n2, 2, n3⟩; have HX4 := Lib.hid hx4; have HO := Lib.hid ho; have HB6 := Lib.hid hb6; clear hx4 ho; unfold zeroMv at t0 t1 t2 t3; dsimp only at a0 a1 a2 a3 t0 t1 t2 t3 g1 g2 g3 g4))
  all_goals refine bodyPost_ret (results_refParse HX4.out rfl rfl) rfl ?_
  all_goals exact ⟨rfl, (HB.out.trans ((HON.out.below w.heap.size (by have := HL0.out; omega) (fun b hb h => by omega)).trans (HB6.out.mono (Nat.le_trans (Nat.le_of_lt HL0.out) HON.out.size)))).trans (HO.out.below _ (Nat.le_trans (Nat.le_trans (Nat.le_of_lt HL0.out) HON.out.size) HB6.out.size) (fun b hb h => by omega))⟩
set_option maxRecDepth 100000 in
set_option maxHeartbeats 1000000 in
theorem pp_y3fe (s S1 S3 : ByteArray) (n1 n3 : Int) (k1 k3 : Nat) (w : World)
    (C1 : Hid (∀ W, Calls Tryz.prog 113 #[.string s] W fun e w' => e = .returned (.tuple #[.int .i64 n1, .int .i64 (k1 : Int)]) ∧ W = w'))
    (hk1 : k1 ≤ s.size) (hs : s.size ≤ 1000) (hS1 : s.extract k1 s.size = S1) (hp1 : 0 < S1.size) (c : UInt8) (hc : S1[0]'hp1 = c)
    (h46 : ((c.toNat : Int) == 46) = true) (Sb S2 : ByteArray) (n2 : Int) (k2 : Nat) (hSb : S1.extract 1 S1.size = Sb) (C2 : Hid (∀ W, Calls Tryz.prog 113 #[.string Sb] W fun e w' => e = .returned (.tuple #[.int .i64 n2, .int .i64 (k2 : Int)]) ∧ W = w')) (hk2 : 1 + k2 ≤ S1.size) (hS2 : S1.extract (1 + k2) S1.size = S2) (hp2 : 0 < S2.size) (c2 : UInt8) (hc2 : S2[0]'hp2 = c2) (hz : S1.size ≤ 1000)
    (h63 : ((c2.toNat : Int) == 63) = false)
    (h61 : ((c2.toNat : Int) == 61) = false)
    (h33 : ((c2.toNat : Int) == 33) = true)
    (hem : S2.toList.isEmpty = false)
    (hS3 : S2.extract 1 S2.size = S3) (C3 : Hid (∀ W, Calls Tryz.prog 113 #[.string S3] W fun e w' => e = .returned (.tuple #[.int .i64 n3, .int .i64 (k3 : Int)]) ∧ W = w'))
    (hst : (S2.toList == [33, 42]) = false)
    (T : ByteArray) (es : Int) (hes : (es != 0) = true) (CT : Hid (∀ W, Calls Tryz.prog 44 #[mvV ⟨n1, n2, 3, n3⟩] W fun e w' => e = .returned (.tuple #[.string T, .int .i64 es]) ∧ Below W.heap.size W w')) :
    Calls Tryz.prog 45 #[.string s] w fun e w' => e = .returned (.tuple #[mvV zeroMv, .int .i64 4]) ∧ Below w.heap.size w w' := by
  have i1 : (0 : Int) < (S1.size : Int) := by omega
  have i2 : (k1 : Int) ≤ (s.size : Int) := by omega
  have i3 : (0 : Int) < (S2.size : Int) := by omega
  have i4 : ((1 : Int) + (k2 : Int)) ≤ (S1.size : Int) := by omega
  have i5 : IntKind.i64.wrap ((1 : Int) + (k2 : Int)) = (1 : Int) + (k2 : Int) := by rw [IntKind.wrap_i64]; omega
  obtain ⟨w1, hw1⟩ : ∃ w1, (w.alloc (.cells #[.int .i64 0, .int .i64 0, .int .u8 0, .int .i64 0] 40)).alloc (.cells #[.int .i64 0, .int .i64 0, .int .u8 0, .int .i64 0] 40) = w1 := ⟨_, rfl⟩
  have hb : Below w.heap.size w w1 := by rw [← hw1]; exact ((Below.refl _ w).alloc (Nat.le_refl _) _).alloc (by simp) _
  have y0 : BoxM w1 w.heap.size zeroMv := by rw [← hw1]; exact (Below.heap_alloc _ _ _ (by simp)).trans (World.alloc_heap_new w _)
  have y1 : BoxM w1.drew (w.heap.size + 1) ⟨0, 0, 0, 0⟩ := by
    rw [← hw1]
    have := World.alloc_heap_new (w.alloc (.cells #[.int .i64 0, .int .i64 0, .int .u8 0, .int .i64 0] 40)) (.cells #[.int .i64 0, .int .i64 0, .int .u8 0, .int .i64 0] 40); rwa [World.size_alloc] at this
  obtain ⟨v1, e1, s1, f1, by1, o1⟩ := box_id y1 n1
  have by1d : BoxM v1.drew (w.heap.size + 1) ⟨n1, 0, 0, 0⟩ := by1
  obtain ⟨v2, e2, s2, f2, by2, o2⟩ := box_arg by1d n2
  have o12 : Only (fun k => k = w.heap.size + 1) w1 v2 := ⟨o2.os.trans o1.os, o2.tape.trans o1.tape, o2.output.trans o1.output, Nat.le_trans o1.size o2.size, fun k hk hne => (o2.block k (Nat.lt_of_lt_of_le hk o1.size) hne).trans (o1.block k hk hne)⟩
  obtain ⟨v3, e3, s3, f3, by3, o3⟩ := box_kind by2 3
  have o13 := o12.trans o3 (fun _ _ h => h)
  obtain ⟨v4, e4, s4, f4, by4, o4⟩ := box_n by3 n3
  have o14 := o13.trans o4 (fun _ _ h => h)
  obtain ⟨c0, c1, c2', c3⟩ := And.intro by4.c0 (And.intro by4.c1 (And.intro by4.c2 by4.c3))
  have HBX := Lib.hid by4
  have HON := Lib.hid o14
  have HY0 := Lib.hid y0
  have HB := Lib.hid hb
  have HL0 := Lib.hid y0.lt
  dsimp only at *
  unfold mvV at *
  clear y0 y1 hb by1 by2 by1d by3 by4 o1 o12 o2 o3 o13 o4 o14
  go_enter Tryz.func45, Tryz.ntmps45
  go_wp2_with (go_at_call 113; first | ((with_reducible refine (C1.out _).mono ?_); rintro e w2 ⟨rfl, rfl⟩))
  go_region
  all_goals go_wp2_with (go_at_call 113; first | ((with_reducible refine (C2.out _).mono ?_); rintro e w2 ⟨rfl, rfl⟩))
  all_goals go_region
  all_goals go_wp2_with (first | (go_at_call 113; first | ((with_reducible refine (C3.out _).mono ?_); rintro e w2 ⟨rfl, rfl⟩)) | (go_at_call 44; refine (CT.out _).mono ?_; rintro e w6 ⟨rfl, hb6⟩; have z4 := (hb6.block _ HBX.out.lt).trans HBX.out; obtain ⟨a0, a1, a2, a3⟩ := And.intro (BoxM.c0 z4) (And.intro (BoxM.c1 z4) (And.intro (BoxM.c2 z4) (BoxM.c3 z4))); have z2 : BoxM w6 w.heap.size zeroMv := (hb6.block _ (Nat.lt_of_lt_of_le HL0.out HON.out.size)).trans ((HON.out.block _ HL0.out (by omega)).trans HY0.out); obtain ⟨x1, x2, x3, x4, g1, g2, g3, g4, t0, u0, t1, u1, t2, u2, t3, u3, hx4, ho⟩ := chain40 z2 zeroMv; have HX4 := Lib.hid hx4; have HO := Lib.hid ho; have HB6 := Lib.hid hb6; clear hx4 ho; unfold zeroMv at t0 t1 t2 t3 g1 g2 g3 g4; dsimp only at a0 a1 a2 a3 t0 t1 t2 t3 g1 g2 g3 g4))
  all_goals refine bodyPost_ret (results_refParse HX4.out rfl rfl) rfl ?_
  all_goals exact ⟨rfl, (HB.out.trans ((HON.out.below w.heap.size (by have := HL0.out; omega) (fun b hb h => by omega)).trans (HB6.out.mono (Nat.le_trans (Nat.le_of_lt HL0.out) HON.out.size)))).trans (HO.out.below _ (Nat.le_trans (Nat.le_trans (Nat.le_of_lt HL0.out) HON.out.size) HB6.out.size) (fun b hb h => by omega))⟩
set_option maxRecDepth 100000 in
set_option maxHeartbeats 1000000 in
theorem pp_y3fn (s S1 S3 : ByteArray) (n1 n3 : Int) (k1 k3 : Nat) (w : World)
    (C1 : Hid (∀ W, Calls Tryz.prog 113 #[.string s] W fun e w' => e = .returned (.tuple #[.int .i64 n1, .int .i64 (k1 : Int)]) ∧ W = w'))
    (hk1 : k1 ≤ s.size) (hs : s.size ≤ 1000) (hS1 : s.extract k1 s.size = S1) (hp1 : 0 < S1.size) (c : UInt8) (hc : S1[0]'hp1 = c)
    (h46 : ((c.toNat : Int) == 46) = true) (Sb S2 : ByteArray) (n2 : Int) (k2 : Nat) (hSb : S1.extract 1 S1.size = Sb) (C2 : Hid (∀ W, Calls Tryz.prog 113 #[.string Sb] W fun e w' => e = .returned (.tuple #[.int .i64 n2, .int .i64 (k2 : Int)]) ∧ W = w')) (hk2 : 1 + k2 ≤ S1.size) (hS2 : S1.extract (1 + k2) S1.size = S2) (hp2 : 0 < S2.size) (c2 : UInt8) (hc2 : S2[0]'hp2 = c2) (hz : S1.size ≤ 1000)
    (h63 : ((c2.toNat : Int) == 63) = false)
    (h61 : ((c2.toNat : Int) == 61) = false)
    (h33 : ((c2.toNat : Int) == 33) = true)
    (hem : S2.toList.isEmpty = false)
    (hS3 : S2.extract 1 S2.size = S3) (C3 : Hid (∀ W, Calls Tryz.prog 113 #[.string S3] W fun e w' => e = .returned (.tuple #[.int .i64 n3, .int .i64 (k3 : Int)]) ∧ W = w'))
    (hst : (S2.toList == [33, 42]) = false)
    (T : ByteArray) (CT : Hid (∀ W, Calls Tryz.prog 44 #[mvV ⟨n1, n2, 3, n3⟩] W fun e w' => e = .returned (.tuple #[.string T, .int .i64 0]) ∧ Below W.heap.size W w'))
    (hT : (T.toList == s.toList) = false) :
    Calls Tryz.prog 45 #[.string s] w fun e w' => e = .returned (.tuple #[mvV zeroMv, .int .i64 4]) ∧ Below w.heap.size w w' := by
  have i1 : (0 : Int) < (S1.size : Int) := by omega
  have i2 : (k1 : Int) ≤ (s.size : Int) := by omega
  have i3 : (0 : Int) < (S2.size : Int) := by omega
  have i4 : ((1 : Int) + (k2 : Int)) ≤ (S1.size : Int) := by omega
  have i5 : IntKind.i64.wrap ((1 : Int) + (k2 : Int)) = (1 : Int) + (k2 : Int) := by rw [IntKind.wrap_i64]; omega
  obtain ⟨w1, hw1⟩ : ∃ w1, (w.alloc (.cells #[.int .i64 0, .int .i64 0, .int .u8 0, .int .i64 0] 40)).alloc (.cells #[.int .i64 0, .int .i64 0, .int .u8 0, .int .i64 0] 40) = w1 := ⟨_, rfl⟩
  have hb : Below w.heap.size w w1 := by rw [← hw1]; exact ((Below.refl _ w).alloc (Nat.le_refl _) _).alloc (by simp) _
  have y0 : BoxM w1 w.heap.size zeroMv := by rw [← hw1]; exact (Below.heap_alloc _ _ _ (by simp)).trans (World.alloc_heap_new w _)
  have y1 : BoxM w1.drew (w.heap.size + 1) ⟨0, 0, 0, 0⟩ := by
    rw [← hw1]
    have := World.alloc_heap_new (w.alloc (.cells #[.int .i64 0, .int .i64 0, .int .u8 0, .int .i64 0] 40)) (.cells #[.int .i64 0, .int .i64 0, .int .u8 0, .int .i64 0] 40); rwa [World.size_alloc] at this
  obtain ⟨v1, e1, s1, f1, by1, o1⟩ := box_id y1 n1
  have by1d : BoxM v1.drew (w.heap.size + 1) ⟨n1, 0, 0, 0⟩ := by1
  obtain ⟨v2, e2, s2, f2, by2, o2⟩ := box_arg by1d n2
  have o12 : Only (fun k => k = w.heap.size + 1) w1 v2 := ⟨o2.os.trans o1.os, o2.tape.trans o1.tape, o2.output.trans o1.output, Nat.le_trans o1.size o2.size, fun k hk hne => (o2.block k (Nat.lt_of_lt_of_le hk o1.size) hne).trans (o1.block k hk hne)⟩
  obtain ⟨v3, e3, s3, f3, by3, o3⟩ := box_kind by2 3
  have o13 := o12.trans o3 (fun _ _ h => h)
  obtain ⟨v4, e4, s4, f4, by4, o4⟩ := box_n by3 n3
  have o14 := o13.trans o4 (fun _ _ h => h)
  obtain ⟨c0, c1, c2', c3⟩ := And.intro by4.c0 (And.intro by4.c1 (And.intro by4.c2 by4.c3))
  have HBX := Lib.hid by4
  have HON := Lib.hid o14
  have HY0 := Lib.hid y0
  have HB := Lib.hid hb
  have HL0 := Lib.hid y0.lt
  dsimp only at *
  unfold mvV at *
  clear y0 y1 hb by1 by2 by1d by3 by4 o1 o12 o2 o3 o13 o4 o14
  go_enter Tryz.func45, Tryz.ntmps45
  go_wp2_with (go_at_call 113; first | ((with_reducible refine (C1.out _).mono ?_); rintro e w2 ⟨rfl, rfl⟩))
  go_region
  all_goals go_wp2_with (go_at_call 113; first | ((with_reducible refine (C2.out _).mono ?_); rintro e w2 ⟨rfl, rfl⟩))
  all_goals go_region
  all_goals go_wp2_with (first | (go_at_call 113; first | ((with_reducible refine (C3.out _).mono ?_); rintro e w2 ⟨rfl, rfl⟩)) | (go_at_call 44; refine (CT.out _).mono ?_; rintro e w6 ⟨rfl, hb6⟩; have z4 := (hb6.block _ HBX.out.lt).trans HBX.out; obtain ⟨a0, a1, a2, a3⟩ := And.intro (BoxM.c0 z4) (And.intro (BoxM.c1 z4) (And.intro (BoxM.c2 z4) (BoxM.c3 z4))); have z2 : BoxM w6 w.heap.size zeroMv := (hb6.block _ (Nat.lt_of_lt_of_le HL0.out HON.out.size)).trans ((HON.out.block _ HL0.out (by omega)).trans HY0.out); obtain ⟨x1, x2, x3, x4, g1, g2, g3, g4, t0, u0, t1, u1, t2, u2, t3, u3, hx4, ho⟩ := chain40 z2 zeroMv; have HX4 := Lib.hid hx4; have HO := Lib.hid ho; have HB6 := Lib.hid hb6; clear hx4 ho; unfold zeroMv at t0 t1 t2 t3 g1 g2 g3 g4; dsimp only at a0 a1 a2 a3 t0 t1 t2 t3 g1 g2 g3 g4))
  all_goals refine bodyPost_ret (results_refParse HX4.out rfl rfl) rfl ?_
  all_goals exact ⟨rfl, (HB.out.trans ((HON.out.below w.heap.size (by have := HL0.out; omega) (fun b hb h => by omega)).trans (HB6.out.mono (Nat.le_trans (Nat.le_of_lt HL0.out) HON.out.size)))).trans (HO.out.below _ (Nat.le_trans (Nat.le_trans (Nat.le_of_lt HL0.out) HON.out.size) HB6.out.size) (fun b hb h => by omega))⟩
set_option maxRecDepth 100000 in
set_option maxHeartbeats 1000000 in
theorem pp_y3fy (s S1 S3 : ByteArray) (n1 n3 : Int) (k1 k3 : Nat) (w : World)
    (C1 : Hid (∀ W, Calls Tryz.prog 113 #[.string s] W fun e w' => e = .returned (.tuple #[.int .i64 n1, .int .i64 (k1 : Int)]) ∧ W = w'))
    (hk1 : k1 ≤ s.size) (hs : s.size ≤ 1000) (hS1 : s.extract k1 s.size = S1) (hp1 : 0 < S1.size) (c : UInt8) (hc : S1[0]'hp1 = c)
    (h46 : ((c.toNat : Int) == 46) = true) (Sb S2 : ByteArray) (n2 : Int) (k2 : Nat) (hSb : S1.extract 1 S1.size = Sb) (C2 : Hid (∀ W, Calls Tryz.prog 113 #[.string Sb] W fun e w' => e = .returned (.tuple #[.int .i64 n2, .int .i64 (k2 : Int)]) ∧ W = w')) (hk2 : 1 + k2 ≤ S1.size) (hS2 : S1.extract (1 + k2) S1.size = S2) (hp2 : 0 < S2.size) (c2 : UInt8) (hc2 : S2[0]'hp2 = c2) (hz : S1.size ≤ 1000)
    (h63 : ((c2.toNat : Int) == 63) = false)
    (h61 : ((c2.toNat : Int) == 61) = false)
    (h33 : ((c2.toNat : Int) == 33) = true)
    (hem : S2.toList.isEmpty = false)
    (hS3 : S2.extract 1 S2.size = S3) (C3 : Hid (∀ W, Calls Tryz.prog 113 #[.string S3] W fun e w' => e = .returned (.tuple #[.int .i64 n3, .int .i64 (k3 : Int)]) ∧ W = w'))
    (hst : (S2.toList == [33, 42]) = false)
    (T : ByteArray) (CT : Hid (∀ W, Calls Tryz.prog 44 #[mvV ⟨n1, n2, 3, n3⟩] W fun e w' => e = .returned (.tuple #[.string T, .int .i64 0]) ∧ Below W.heap.size W w'))
    (hT : (T.toList == s.toList) = true) :
    Calls Tryz.prog 45 #[.string s] w fun e w' => e = .returned (.tuple #[mvV ⟨n1, n2, 3, n3⟩, .int .i64 0]) ∧ Below w.heap.size w w' := by
  have i1 : (0 : Int) < (S1.size : Int) := by omega
  have i2 : (k1 : Int) ≤ (s.size : Int) := by omega
  have i3 : (0 : Int) < (S2.size : Int) := by omega
  have i4 : ((1 : Int) + (k2 : Int)) ≤ (S1.size : Int) := by omega
  have i5 : IntKind.i64.wrap ((1 : Int) + (k2 : Int)) = (1 : Int) + (k2 : Int) := by rw [IntKind.wrap_i64]; omega
  obtain ⟨w1, hw1⟩ : ∃ w1, (w.alloc (.cells #[.int .i64 0, .int .i64 0, .int .u8 0, .int .i64 0] 40)).alloc (.cells #[.int .i64 0, .int .i64 0, .int .u8 0, .int .i64 0] 40) = w1 := ⟨_, rfl⟩
  have hb : Below w.heap.size w w1 := by rw [← hw1]; exact ((Below.refl _ w).alloc (Nat.le_refl _) _).alloc (by simp) _
  have y0 : BoxM w1 w.heap.size zeroMv := by rw [← hw1]; exact (Below.heap_alloc _ _ _ (by simp)).trans (World.alloc_heap_new w _)
  have y1 : BoxM w1.drew (w.heap.size + 1) ⟨0, 0, 0, 0⟩ := by
    rw [← hw1]
    have := World.alloc_heap_new (w.alloc (.cells #[.int .i64 0, .int .i64 0, .int .u8 0, .int .i64 0] 40)) (.cells #[.int .i64 0, .int .i64 0, .int .u8 0, .int .i64 0] 40); rwa [World.size_alloc] at this
  obtain ⟨v1, e1, s1, f1, by1, o1⟩ := box_id y1 n1
  have by1d : BoxM v1.drew (w.heap.size + 1) ⟨n1, 0, 0, 0⟩ := by1
  obtain ⟨v2, e2, s2, f2, by2, o2⟩ := box_arg by1d n2
  have o12 : Only (fun k => k = w.heap.size + 1) w1 v2 := ⟨o2.os.trans o1.os, o2.tape.trans o1.tape, o2.output.trans o1.output, Nat.le_trans o1.size o2.size, fun k hk hne => (o2.block k (Nat.lt_of_lt_of_le hk o1.size) hne).trans (o1.block k hk hne)⟩
  obtain ⟨v3, e3, s3, f3, by3, o3⟩ := box_kind by2 3
  have o13 := o12.trans o3 (fun _ _ h => h)
  obtain ⟨v4, e4, s4, f4, by4, o4⟩ := box_n by3 n3
  have o14 := o13.trans o4 (fun _ _ h => h)
  obtain ⟨c0, c1, c2', c3⟩ := And.intro by4.c0 (And.intro by4.c1 (And.intro by4.c2 by4.c3))
  have HBX := Lib.hid by4
  have HON := Lib.hid o14
  have HY0 := Lib.hid y0
  have HB := Lib.hid hb
  have HL0 := Lib.hid y0.lt
  dsimp only at *
  unfold mvV at *
  clear y0 y1 hb by1 by2 by1d by3 by4 o1 o12 o2 o3 o13 o4 o14
  go_enter Tryz.func45, Tryz.ntmps45
  go_wp2_with (go_at_call 113; first | ((with_reducible refine (C1.out _).mono ?_); rintro e w2 ⟨rfl, rfl⟩))
  go_region
  all_goals go_wp2_with (go_at_call 113; first | ((with_reducible refine (C2.out _).mono ?_); rintro e w2 ⟨rfl, rfl⟩))
  all_goals go_region
  all_goals go_wp2_with (first | (go_at_call 113; first | ((with_reducible refine (C3.out _).mono ?_); rintro e w2 ⟨rfl, rfl⟩)) | (go_at_call 44; refine (CT.out _).mono ?_; rintro e w6 ⟨rfl, hb6⟩; have z4 := (hb6.block _ HBX.out.lt).trans HBX.out; obtain ⟨a0, a1, a2, a3⟩ := And.intro (BoxM.c0 z4) (And.intro (BoxM.c1 z4) (And.intro (BoxM.c2 z4) (BoxM.c3 z4))); have z2 : BoxM w6 w.heap.size zeroMv := (hb6.block _ (Nat.lt_of_lt_of_le HL0.out HON.out.size)).trans ((HON.out.block _ HL0.out (by omega)).trans HY0.out); obtain ⟨x1, x2, x3, x4, g1, g2, g3, g4, t0, u0, t1, u1, t2, u2, t3, u3, hx4, ho⟩ := chain40 z2 ⟨n1, n2, 3, n3⟩; have HX4 := Lib.hid hx4; have HO := Lib.hid ho; have HB6 := Lib.hid hb6; clear hx4 ho; unfold zeroMv at t0 t1 t2 t3; dsimp only at a0 a1 a2 a3 t0 t1 t2 t3 g1 g2 g3 g4))
  all_goals refine bodyPost_ret (results_refParse HX4.out rfl rfl) rfl ?_
  all_goals exact ⟨rfl, (HB.out.trans ((HON.out.below w.heap.size (by have := HL0.out; omega) (fun b hb h => by omega)).trans (HB6.out.mono (Nat.le_trans (Nat.le_of_lt HL0.out) HON.out.size)))).trans (HO.out.below _ (Nat.le_trans (Nat.le_trans (Nat.le_of_lt HL0.out) HON.out.size) HB6.out.size) (fun b hb h => by omega))⟩
set_option maxRecDepth 100000 in
set_option maxHeartbeats 1000000 in
theorem pp_y3te (s S1 S3 : ByteArray) (n1 n3 : Int) (k1 k3 : Nat) (w : World)
    (C1 : Hid (∀ W, Calls Tryz.prog 113 #[.string s] W fun e w' => e = .returned (.tuple #[.int .i64 n1, .int .i64 (k1 : Int)]) ∧ W = w'))
    (hk1 : k1 ≤ s.size) (hs : s.size ≤ 1000) (hS1 : s.extract k1 s.size = S1) (hp1 : 0 < S1.size) (c : UInt8) (hc : S1[0]'hp1 = c)
    (h46 : ((c.toNat : Int) == 46) = true) (Sb S2 : ByteArray) (n2 : Int) (k2 : Nat) (hSb : S1.extract 1 S1.size = Sb) (C2 : Hid (∀ W, Calls Tryz.prog 113 #[.string Sb] W fun e w' => e = .returned (.tuple #[.int .i64 n2, .int .i64 (k2 : Int)]) ∧ W = w')) (hk2 : 1 + k2 ≤ S1.size) (hS2 : S1.extract (1 + k2) S1.size = S2) (hp2 : 0 < S2.size) (c2 : UInt8) (hc2 : S2[0]'hp2 = c2) (hz : S1.size ≤ 1000)
    (h63 : ((c2.toNat : Int) == 63) = false)
    (h61 : ((c2.toNat : Int) == 61) = false)
    (h33 : ((c2.toNat : Int) == 33) = true)
    (hem : S2.toList.isEmpty = false)
    (hS3 : S2.extract 1 S2.size = S3) (C3 : Hid (∀ W, Calls Tryz.prog 113 #[.string S3] W fun e w' => e = .returned (.tuple #[.int .i64 n3, .int .i64 (k3 : Int)]) ∧ W = w'))
    (hst : (S2.toList == [33, 42]) = true)
    (T : ByteArray) (es : Int) (hes : (es != 0) = true) (CT : Hid (∀ W, Calls Tryz.prog 44 #[mvV ⟨n1, n2, 3, (-1)⟩] W fun e w' => e = .returned (.tuple #[.string T, .int .i64 es]) ∧ Below W.heap.size W w')) :
    Calls Tryz.prog 45 #[.string s] w fun e w' => e = .returned (.tuple #[mvV zeroMv, .int .i64 4]) ∧ Below w.heap.size w w' := by
  have i1 : (0 : Int) < (S1.size : Int) := by omega
  have i2 : (k1 : Int) ≤ (s.size : Int) := by omega
  have i3 : (0 : Int) < (S2.size : Int) := by omega
  have i4 : ((1 : Int) + (k2 : Int)) ≤ (S1.size : Int) := by omega
  have i5 : IntKind.i64.wrap ((1 : Int) + (k2 : Int)) = (1 : Int) + (k2 : Int) := by rw [IntKind.wrap_i64]; omega
  obtain ⟨w1, hw1⟩ : ∃ w1, (w.alloc (.cells #[.int .i64 0, .int .i64 0, .int .u8 0, .int .i64 0] 40)).alloc (.cells #[.int .i64 0, .int .i64 0, .int .u8 0, .int .i64 0] 40) = w1 := ⟨_, rfl⟩
  have hb : Below w.heap.size w w1 := by rw [← hw1]; exact ((Below.refl _ w).alloc (Nat.le_refl _) _).alloc (by simp) _
  have y0 : BoxM w1 w.heap.size zeroMv := by rw [← hw1]; exact (Below.heap_alloc _ _ _ (by simp)).trans (World.alloc_heap_new w _)
  have y1 : BoxM w1.drew (w.heap.size + 1) ⟨0, 0, 0, 0⟩ := by
    rw [← hw1]
    have := World.alloc_heap_new (w.alloc (.cells #[.int .i64 0, .int .i64 0, .int .u8 0, .int .i64 0] 40)) (.cells #[.int .i64 0, .int .i64 0, .int .u8 0, .int .i64 0] 40); rwa [World.size_alloc] at this
  obtain ⟨v1, e1, s1, f1, by1, o1⟩ := box_id y1 n1
  have by1d : BoxM v1.drew (w.heap.size + 1) ⟨n1, 0, 0, 0⟩ := by1
  obtain ⟨v2, e2, s2, f2, by2, o2⟩ := box_arg by1d n2
  have o12 : Only (fun k => k = w.heap.size + 1) w1 v2 := ⟨o2.os.trans o1.os, o2.tape.trans o1.tape, o2.output.trans o1.output, Nat.le_trans o1.size o2.size, fun k hk hne => (o2.block k (Nat.lt_of_lt_of_le hk o1.size) hne).trans (o1.block k hk hne)⟩
  obtain ⟨v3, e3, s3, f3, by3, o3⟩ := box_kind by2 3
  have o13 := o12.trans o3 (fun _ _ h => h)
  obtain ⟨v4, e4, s4, f4, by4, o4⟩ := box_n by3 n3
  have o14 := o13.trans o4 (fun _ _ h => h)
  obtain ⟨v5, e5, s5, f5, by5, o5⟩ := box_n by4 (-1)
  have o15 := o14.trans o5 (fun _ _ h => h)
  obtain ⟨c0, c1, c2', c3⟩ := And.intro by5.c0 (And.intro by5.c1 (And.intro by5.c2 by5.c3))
  have HBX := Lib.hid by5
  have HON := Lib.hid o15
  have HY0 := Lib.hid y0
  have HB := Lib.hid hb
  have HL0 := Lib.hid y0.lt
  dsimp only at *
  unfold mvV at *
  clear y0 y1 hb by1 by2 by1d by3 by4 by5 o1 o12 o2 o3 o13 o4 o14 o5 o15
  go_enter Tryz.func45, Tryz.ntmps45
  go_wp2_with (go_at_call 113; first | ((with_reducible refine (C1.out _).mono ?_); rintro e w2 ⟨rfl, rfl⟩))
  go_region
  all_goals go_wp2_with (go_at_call 113; first | ((with_reducible refine (C2.out _).mono ?_); rintro e w2 ⟨rfl, rfl⟩))
  all_goals go_region
  all_goals go_wp2_with (first | (go_at_call 113; first | ((with_reducible refine (C3.out _).mono ?_); rintro e w2 ⟨rfl, rfl⟩)) | (go_at_call 44; refine (CT.out _).mono ?_; rintro e w6 ⟨rfl, hb6⟩; have z4 := (hb6.block _ HBX.out.lt).trans HBX.out; obtain ⟨a0, a1, a2, a3⟩ := And.intro (BoxM.c0 z4) (And.intro (BoxM.c1 z4) (And.intro (BoxM.c2 z4) (BoxM.c3 z4))); have z2 : BoxM w6 w.heap.size zeroMv := (hb6.block _ (Nat.lt_of_lt_of_le HL0.out HON.out.size)).trans ((HON.out.block _ HL0.out (by omega)).trans HY0.out); obtain ⟨x1, x2, x3, x4, g1, g2, g3, g4, t0, u0, t1, u1, t2, u2, t3, u3, hx4, ho⟩ := chain40 z2 zeroMv; have HX4 := Lib.hid hx4; have HO := Lib.hid ho; have HB6 := Lib.hid hb6; clear hx4 ho; unfold zeroMv at t0 t1 t2 t3 g1 g2 g3 g4; dsimp only at a0 a1 a2 a3 t0 t1 t2 t3 g1 g2 g3 g4))
  all_goals refine bodyPost_ret (results_refParse HX4.out rfl rfl) rfl ?_
  all_goals exact ⟨rfl, (HB.out.trans ((HON.out.below w.heap.size (by have := HL0.out; omega) (fun b hb h => by omega)).trans (HB6.out.mono (Nat.le_trans (Nat.le_of_lt HL0.out) HON.out.size)))).trans (HO.out.below _ (Nat.le_trans (Nat.le_trans (Nat.le_of_lt HL0.out) HON.out.size) HB6.out.size) (fun b hb h => by omega))⟩
set_option maxRecDepth 100000 in
set_option maxHeartbeats 1000000 in
theorem pp_y3tn (s S1 S3 : ByteArray) (n1 n3 : Int) (k1 k3 : Nat) (w : World)
    (C1 : Hid (∀ W, Calls Tryz.prog 113 #[.string s] W fun e w' => e = .returned (.tuple #[.int .i64 n1, .int .i64 (k1 : Int)]) ∧ W = w'))
    (hk1 : k1 ≤ s.size) (hs : s.size ≤ 1000) (hS1 : s.extract k1 s.size = S1) (hp1 : 0 < S1.size) (c : UInt8) (hc : S1[0]'hp1 = c)
    (h46 : ((c.toNat : Int) == 46) = true) (Sb S2 : ByteArray) (n2 : Int) (k2 : Nat) (hSb : S1.extract 1 S1.size = Sb) (C2 : Hid (∀ W, Calls Tryz.prog 113 #[.string Sb] W fun e w' => e = .returned (.tuple #[.int .i64 n2, .int .i64 (k2 : Int)]) ∧ W = w')) (hk2 : 1 + k2 ≤ S1.size) (hS2 : S1.extract (1 + k2) S1.size = S2) (hp2 : 0 < S2.size) (c2 : UInt8) (hc2 : S2[0]'hp2 = c2) (hz : S1.size ≤ 1000)
    (h63 : ((c2.toNat : Int) == 63) = false)
    (h61 : ((c2.toNat : Int) == 61) = false)
    (h33 : ((c2.toNat : Int) == 33) = true)
    (hem : S2.toList.isEmpty = false)
    (hS3 : S2.extract 1 S2.size = S3) (C3 : Hid (∀ W, Calls Tryz.prog 113 #[.string S3] W fun e w' => e = .returned (.tuple #[.int .i64 n3, .int .i64 (k3 : Int)]) ∧ W = w'))
    (hst : (S2.toList == [33, 42]) = true)
    (T : ByteArray) (CT : Hid (∀ W, Calls Tryz.prog 44 #[mvV ⟨n1, n2, 3, (-1)⟩] W fun e w' => e = .returned (.tuple #[.string T, .int .i64 0]) ∧ Below W.heap.size W w'))
    (hT : (T.toList == s.toList) = false) :
    Calls Tryz.prog 45 #[.string s] w fun e w' => e = .returned (.tuple #[mvV zeroMv, .int .i64 4]) ∧ Below w.heap.size w w' := by
  have i1 : (0 : Int) < (S1.size : Int) := by omega
  have i2 : (k1 : Int) ≤ (s.size : Int) := by omega
  have i3 : (0 : Int) < (S2.size : Int) := by omega
  have i4 : ((1 : Int) + (k2 : Int)) ≤ (S1.size : Int) := by omega
  have i5 : IntKind.i64.wrap ((1 : Int) + (k2 : Int)) = (1 : Int) + (k2 : Int) := by rw [IntKind.wrap_i64]; omega
  obtain ⟨w1, hw1⟩ : ∃ w1, (w.alloc (.cells #[.int .i64 0, .int .i64 0, .int .u8 0, .int .i64 0] 40)).alloc (.cells #[.int .i64 0, .int .i64 0, .int .u8 0, .int .i64 0] 40) = w1 := ⟨_, rfl⟩
  have hb : Below w.heap.size w w1 := by rw [← hw1]; exact ((Below.refl _ w).alloc (Nat.le_refl _) _).alloc (by simp) _
  have y0 : BoxM w1 w.heap.size zeroMv := by rw [← hw1]; exact (Below.heap_alloc _ _ _ (by simp)).trans (World.alloc_heap_new w _)
  have y1 : BoxM w1.drew (w.heap.size + 1) ⟨0, 0, 0, 0⟩ := by
    rw [← hw1]
    have := World.alloc_heap_new (w.alloc (.cells #[.int .i64 0, .int .i64 0, .int .u8 0, .int .i64 0] 40)) (.cells #[.int .i64 0, .int .i64 0, .int .u8 0, .int .i64 0] 40); rwa [World.size_alloc] at this
  obtain ⟨v1, e1, s1, f1, by1, o1⟩ := box_id y1 n1
  have by1d : BoxM v1.drew (w.heap.size + 1) ⟨n1, 0, 0, 0⟩ := by1
  obtain ⟨v2, e2, s2, f2, by2, o2⟩ := box_arg by1d n2
  have o12 : Only (fun k => k = w.heap.size + 1) w1 v2 := ⟨o2.os.trans o1.os, o2.tape.trans o1.tape, o2.output.trans o1.output, Nat.le_trans o1.size o2.size, fun k hk hne => (o2.block k (Nat.lt_of_lt_of_le hk o1.size) hne).trans (o1.block k hk hne)⟩
  obtain ⟨v3, e3, s3, f3, by3, o3⟩ := box_kind by2 3
  have o13 := o12.trans o3 (fun _ _ h => h)
  obtain ⟨v4, e4, s4, f4, by4, o4⟩ := box_n by3 n3
  have o14 := o13.trans o4 (fun _ _ h => h)
  obtain ⟨v5, e5, s5, f5, by5, o5⟩ := box_n by4 (-1)
  have o15 := o14.trans o5 (fun _ _ h => h)
  obtain ⟨c0, c1, c2', c3⟩ := And.intro by5.c0 (And.intro by5.c1 (And.intro by5.c2 by5.c3))
  have HBX := Lib.hid by5
  have HON := Lib.hid o15
  have HY0 := Lib.hid y0
  have HB := Lib.hid hb
  have HL0 := Lib.hid y0.lt
  dsimp only at *
  unfold mvV at *
  clear y0 y1 hb by1 by2 by1d by3 by4 by5 o1 o12 o2 o3 o13 o4 o14 o5 o15
  go_enter Tryz.func45, Tryz.ntmps45
  go_wp2_with (go_at_call 113; first | ((with_reducible refine (C1.out _).mono ?_); rintro e w2 ⟨rfl, rfl⟩))
  go_region
  all_goals go_wp2_with (go_at_call 113; first | ((with_reducible refine (C2.out _).mono ?_); rintro e w2 ⟨rfl, rfl⟩))
  all_goals go_region
  all_goals go_wp2_with (first | (go_at_call 113; first | ((with_reducible refine (C3.out _).mono ?_); rintro e w2 ⟨rfl, rfl⟩)) | (go_at_call 44; refine (CT.out _).mono ?_; rintro e w6 ⟨rfl, hb6⟩; have z4 := (hb6.block _ HBX.out.lt).trans HBX.out; obtain ⟨a0, a1, a2, a3⟩ := And.intro (BoxM.c0 z4) (And.intro (BoxM.c1 z4) (And.intro (BoxM.c2 z4) (BoxM.c3 z4))); have z2 : BoxM w6 w.heap.size zeroMv := (hb6.block _ (Nat.lt_of_lt_of_le HL0.out HON.out.size)).trans ((HON.out.block _ HL0.out (by omega)).trans HY0.out); obtain ⟨x1, x2, x3, x4, g1, g2, g3, g4, t0, u0, t1, u1, t2, u2, t3, u3, hx4, ho⟩ := chain40 z2 zeroMv; have HX4 := Lib.hid hx4; have HO := Lib.hid ho; have HB6 := Lib.hid hb6; clear hx4 ho; unfold zeroMv at t0 t1 t2 t3 g1 g2 g3 g4; dsimp only at a0 a1 a2 a3 t0 t1 t2 t3 g1 g2 g3 g4))
  all_goals refine bodyPost_ret (results_refParse HX4.out rfl rfl) rfl ?_
  all_goals exact ⟨rfl, (HB.out.trans ((HON.out.below w.heap.size (by have := HL0.out; omega) (fun b hb h => by omega)).trans (HB6.out.mono (Nat.le_trans (Nat.le_of_lt HL0.out) HON.out.size)))).trans (HO.out.below _ (Nat.le_trans (Nat.le_trans (Nat.le_of_lt HL0.out) HON.out.size) HB6.out.size) (fun b hb h => by omega))⟩
set_option maxRecDepth 100000 in
set_option maxHeartbeats 1000000 in
theorem pp_y3ty (s S1 S3 : ByteArray) (n1 n3 : Int) (k1 k3 : Nat) (w : World)
    (C1 : Hid (∀ W, Calls Tryz.prog 113 #[.string s] W fun e w' => e = .returned (.tuple #[.int .i64 n1, .int .i64 (k1 : Int)]) ∧ W = w'))
    (hk1 : k1 ≤ s.size) (hs : s.size ≤ 1000) (hS1 : s.extract k1 s.size = S1) (hp1 : 0 < S1.size) (c : UInt8) (hc : S1[0]'hp1 = c)
    (h46 : ((c.toNat : Int) == 46) = true) (Sb S2 : ByteArray) (n2 : Int) (k2 : Nat) (hSb : S1.extract 1 S1.size = Sb) (C2 : Hid (∀ W, Calls Tryz.prog 113 #[.string Sb] W fun e w' => e = .returned (.tuple #[.int .i64 n2, .int .i64 (k2 : Int)]) ∧ W = w')) (hk2 : 1 + k2 ≤ S1.size) (hS2 : S1.extract (1 + k2) S1.size = S2) (hp2 : 0 < S2.size) (c2 : UInt8) (hc2 : S2[0]'hp2 = c2) (hz : S1.size ≤ 1000)
    (h63 : ((c2.toNat : Int) == 63) = false)
    (h61 : ((c2.toNat : Int) == 61) = false)
    (h33 : ((c2.toNat : Int) == 33) = true)
    (hem : S2.toList.isEmpty = false)
    (hS3 : S2.extract 1 S2.size = S3) (C3 : Hid (∀ W, Calls Tryz.prog 113 #[.string S3] W fun e w' => e = .returned (.tuple #[.int .i64 n3, .int .i64 (k3 : Int)]) ∧ W = w'))
    (hst : (S2.toList == [33, 42]) = true)
    (T : ByteArray) (CT : Hid (∀ W, Calls Tryz.prog 44 #[mvV ⟨n1, n2, 3, (-1)⟩] W fun e w' => e = .returned (.tuple #[.string T, .int .i64 0]) ∧ Below W.heap.size W w'))
    (hT : (T.toList == s.toList) = true) :
    Calls Tryz.prog 45 #[.string s] w fun e w' => e = .returned (.tuple #[mvV ⟨n1, n2, 3, (-1)⟩, .int .i64 0]) ∧ Below w.heap.size w w' := by
  have i1 : (0 : Int) < (S1.size : Int) := by omega
  have i2 : (k1 : Int) ≤ (s.size : Int) := by omega
  have i3 : (0 : Int) < (S2.size : Int) := by omega
  have i4 : ((1 : Int) + (k2 : Int)) ≤ (S1.size : Int) := by omega
  have i5 : IntKind.i64.wrap ((1 : Int) + (k2 : Int)) = (1 : Int) + (k2 : Int) := by rw [IntKind.wrap_i64]; omega
  obtain ⟨w1, hw1⟩ : ∃ w1, (w.alloc (.cells #[.int .i64 0, .int .i64 0, .int .u8 0, .int .i64 0] 40)).alloc (.cells #[.int .i64 0, .int .i64 0, .int .u8 0, .int .i64 0] 40) = w1 := ⟨_, rfl⟩
  have hb : Below w.heap.size w w1 := by rw [← hw1]; exact ((Below.refl _ w).alloc (Nat.le_refl _) _).alloc (by simp) _
  have y0 : BoxM w1 w.heap.size zeroMv := by rw [← hw1]; exact (Below.heap_alloc _ _ _ (by simp)).trans (World.alloc_heap_new w _)
  have y1 : BoxM w1.drew (w.heap.size + 1) ⟨0, 0, 0, 0⟩ := by
    rw [← hw1]
    have := World.alloc_heap_new (w.alloc (.cells #[.int .i64 0, .int .i64 0, .int .u8 0, .int .i64 0] 40)) (.cells #[.int .i64 0, .int .i64 0, .int .u8 0, .int .i64 0] 40); rwa [World.size_alloc] at this
  obtain ⟨v1, e1, s1, f1, by1, o1⟩ := box_id y1 n1
  have by1d : BoxM v1.drew (w.heap.size + 1) ⟨n1, 0, 0, 0⟩ := by1
  obtain ⟨v2, e2, s2, f2, by2, o2⟩ := box_arg by1d n2
  have o12 : Only (fun k => k = w.heap.size + 1) w1 v2 := ⟨o2.os.trans o1.os, o2.tape.trans o1.tape, o2.output.trans o1.output, Nat.le_trans o1.size o2.size, fun k hk hne => (o2.block k (Nat.lt_of_lt_of_le hk o1.size) hne).trans (o1.block k hk hne)⟩
  obtain ⟨v3, e3, s3, f3, by3, o3⟩ := box_kind by2 3
  have o13 := o12.trans o3 (fun _ _ h => h)
  obtain ⟨v4, e4, s4, f4, by4, o4⟩ := box_n by3 n3
  have o14 := o13.trans o4 (fun _ _ h => h)
  obtain ⟨v5, e5, s5, f5, by5, o5⟩ := box_n by4 (-1)
  have o15 := o14.trans o5 (fun _ _ h => h)
  obtain ⟨c0, c1, c2', c3⟩ := And.intro by5.c0 (And.intro by5.c1 (And.intro by5.c2 by5.c3))
  have HBX := Lib.hid by5
  have HON := Lib.hid o15
  have HY0 := Lib.hid y0
  have HB := Lib.hid hb
  have HL0 := Lib.hid y0.lt
  dsimp only at *
  unfold mvV at *
  clear y0 y1 hb by1 by2 by1d by3 by4 by5 o1 o12 o2 o3 o13 o4 o14 o5 o15
  go_enter Tryz.func45, Tryz.ntmps45
  go_wp2_with (go_at_call 113; first | ((with_reducible refine (C1.out _).mono ?_); rintro e w2 ⟨rfl, rfl⟩))
  go_region
  all_goals go_wp2_with (go_at_call 113; first | ((with_reducible refine (C2.out _).mono ?_); rintro e w2 ⟨rfl, rfl⟩))
  all_goals go_region
  all_goals go_wp2_with (first | (go_at_call 113; first | ((with_reducible refine (C3.out _).mono ?_); rintro e w2 ⟨rfl, rfl⟩)) | (go_at_call 44; refine (CT.out _).mono ?_; rintro e w6 ⟨rfl, hb6⟩; have z4 := (hb6.block _ HBX.out.lt).trans HBX.out; obtain ⟨a0, a1, a2, a3⟩ := And.intro (BoxM.c0 z4) (And.intro (BoxM.c1 z4) (And.intro (BoxM.c2 z4) (BoxM.c3 z4))); have z2 : BoxM w6 w.heap.size zeroMv := (hb6.block _ (Nat.lt_of_lt_of_le HL0.out HON.out.size)).trans ((HON.out.block _ HL0.out (by omega)).trans HY0.out); obtain ⟨x1, x2, x3, x4, g1, g2, g3, g4, t0, u0, t1, u1, t2, u2, t3, u3, hx4, ho⟩ := chain40 z2 ⟨n1, n2, 3, (-1)⟩; have HX4 := Lib.hid hx4; have HO := Lib.hid ho; have HB6 := Lib.hid hb6; clear hx4 ho; unfold zeroMv at t0 t1 t2 t3; dsimp only at a0 a1 a2 a3 t0 t1 t2 t3 g1 g2 g3 g4))
  all_goals refine bodyPost_ret (results_refParse HX4.out rfl rfl) rfl ?_
  all_goals exact ⟨rfl, (HB.out.trans ((HON.out.below w.heap.size (by have := HL0.out; omega) (fun b hb h => by omega)).trans (HB6.out.mono (Nat.le_trans (Nat.le_of_lt HL0.out) HON.out.size)))).trans (HO.out.below _ (Nat.le_trans (Nat.le_trans (Nat.le_of_lt HL0.out) HON.out.size) HB6.out.size) (fun b hb h => by omega))⟩
set_option maxRecDepth 100000 in
set_option maxHeartbeats 1000000 in
theorem pp_y0fe (s S1 S3 : ByteArray) (n1 n3 : Int) (k1 k3 : Nat) (w : World)
    (C1 : Hid (∀ W, Calls Tryz.prog 113 #[.string s] W fun e w' => e = .returned (.tuple #[.int .i64 n1, .int .i64 (k1 : Int)]) ∧ W = w'))
    (hk1 : k1 ≤ s.size) (hs : s.size ≤ 1000) (hS1 : s.extract k1 s.size = S1) (hp1 : 0 < S1.size) (c : UInt8) (hc : S1[0]'hp1 = c)
    (h46 : ((c.toNat : Int) == 46) = true) (Sb S2 : ByteArray) (n2 : Int) (k2 : Nat) (hSb : S1.extract 1 S1.size = Sb) (C2 : Hid (∀ W, Calls Tryz.prog 113 #[.string Sb] W fun e w' => e = .returned (.tuple #[.int .i64 n2, .int .i64 (k2 : Int)]) ∧ W = w')) (hk2 : 1 + k2 ≤ S1.size) (hS2 : S1.extract (1 + k2) S1.size = S2) (hp2 : 0 < S2.size) (c2 : UInt8) (hc2 : S2[0]'hp2 = c2) (hz : S1.size ≤ 1000)
    (h63 : ((c2.toNat : Int) == 63) = false)
    (h61 : ((c2.toNat : Int) == 61) = false)
    (h33 : ((c2.toNat : Int) == 33) = false)
    (hem : S2.toList.isEmpty = false)
    (hS3 : S2.extract 1 S2.size = S3) (C3 : Hid (∀ W, Calls Tryz.prog 113 #[.string S3] W fun e w' => e = .returned (.tuple #[.int .i64 n3, .int .i64 (k3 : Int)]) ∧ W = w'))
    (hst : (S2.toList == [33, 42]) = false)
    (T : ByteArray) (es : Int) (hes : (es != 0) = true) (CT : Hid (∀ W, Calls Tryz.prog 44 #[mvV ⟨n1, n2, 0, n3⟩] W fun e w' => e = .returned (.tuple #[.string T, .int .i64 es]) ∧ Below W.heap.size W w')) :
    Calls Tryz.prog 45 #[.string s] w fun e w' => e = .returned (.tuple #[mvV zeroMv, .int .i64 4]) ∧ Below w.heap.size w w' := by
  have i1 : (0 : Int) < (S1.size : Int) := by omega
  have i2 : (k1 : Int) ≤ (s.size : Int) := by omega
  have i3 : (0 : Int) < (S2.size : Int) := by omega
  have i4 : ((1 : Int) + (k2 : Int)) ≤ (S1.size : Int) := by omega
  have i5 : IntKind.i64.wrap ((1 : Int) + (k2 : Int)) = (1 : Int) + (k2 : Int) := by rw [IntKind.wrap_i64]; omega
  obtain ⟨w1, hw1⟩ : ∃ w1, (w.alloc (.cells #[.int .i64 0, .int .i64 0, .int .u8 0, .int .i64 0] 40)).alloc (.cells #[.int .i64 0, .int .i64 0, .int .u8 0, .int .i64 0] 40) = w1 := ⟨_, rfl⟩
  have hb : Below w.heap.size w w1 := by rw [← hw1]; exact ((Below.refl _ w).alloc (Nat.le_refl _) _).alloc (by simp) _
  have y0 : BoxM w1 w.heap.size zeroMv := by rw [← hw1]; exact (Below.heap_alloc _ _ _ (by simp)).trans (World.alloc_heap_new w _)
  have y1 : BoxM w1.drew (w.heap.size + 1) ⟨0, 0, 0, 0⟩ := by
    rw [← hw1]
    have := World.alloc_heap_new (w.alloc (.cells #[.int .i64 0, .int .i64 0, .int .u8 0, .int .i64 0] 40)) (.cells #[.int .i64 0, .int .i64 0, .int .u8 0, .int .i64 0] 40); rwa [World.size_alloc] at this
  obtain ⟨v1, e1, s1, f1, by1, o1⟩ := box_id y1 n1
  have by1d : BoxM v1.drew (w.heap.size + 1) ⟨n1, 0, 0, 0⟩ := by1
  obtain ⟨v2, e2, s2, f2, by2, o2⟩ := box_arg by1d n2
  have o12 : Only (fun k => k = w.heap.size + 1) w1 v2 := ⟨o2.os.trans o1.os, o2.tape.trans o1.tape, o2.output.trans o1.output, Nat.le_trans o1.size o2.size, fun k hk hne => (o2.block k (Nat.lt_of_lt_of_le hk o1.size) hne).trans (o1.block k hk hne)⟩
  obtain ⟨v4, e4, s4, f4, by4, o4⟩ := box_n by2 n3
  have o14 := o12.trans o4 (fun _ _ h => h)
  obtain ⟨c0, c1, c2', c3⟩ := And.intro by4.c0 (And.intro by4.c1 (And.intro by4.c2 by4.c3))
  have HBX := Lib.hid by4
  have HON := Lib.hid o14
  have HY0 := Lib.hid y0
  have HB := Lib.hid hb
  have HL0 := Lib.hid y0.lt
  dsimp only at *
  unfold mvV at *
  clear y0 y1 hb by1 by2 by1d by4 o1 o12 o2 o4 o14
  go_enter Tryz.func45, Tryz.ntmps45
  go_wp2_with (go_at_call 113; first | ((with_reducible refine (C1.out _).mono ?_); rintro e w2 ⟨rfl, rfl⟩))
  go_region
  all_goals go_wp2_with (go_at_call 113; first | ((with_reducible refine (C2.out _).mono ?_); rintro e w2 ⟨rfl, rfl⟩))
  all_goals go_region
  all_goals go_wp2_with (first | (go_at_call 113; first | ((with_reducible refine (C3.out _).mono ?_); rintro e w2 ⟨rfl, rfl⟩)) | (go_at_call 44; refine (CT.out _).mono ?_; rintro e w6 ⟨rfl, hb6⟩; have z4 := (hb6.block _ HBX.out.lt).trans HBX.out; obtain ⟨a0, a1, a2, a3⟩ := And.intro (BoxM.c0 z4) (And.intro (BoxM.c1 z4) (And.intro (BoxM.c2 z4) (BoxM.c3 z4))); have z2 : BoxM w6 w.heap.size zeroMv := (hb6.block _ (Nat.lt_of_lt_of_le HL0.out HON.out.size)).trans ((HON.out.block _ HL0.out (by omega)).trans HY0.out); obtain ⟨x1, x2, x3, x4, g1, g2, g3, g4, t0, u0, t1, u1, t2, u2, t3, u3, hx4, ho⟩ := chain40 z2 zeroMv; have HX4 := Lib.hid hx4; have HO := Lib.hid ho; have HB6 := Lib.hid hb6; clear hx4 ho; unfold zeroMv at t0 t1 t2 t3 g1 g2 g3 g4; dsimp only at a0 a1 a2 a3 t0 t1 t2 t3 g1 g2 g3 g4))
  all_goals refine bodyPost_ret (results_refParse HX4.out rfl rfl) rfl ?_
  all_goals exact ⟨rfl, (HB.out.trans ((HON.out.below w.heap.size (by have := HL0.out; omega) (fun b hb h => by omega)).trans (HB6.out.mono (Nat.le_trans (Nat.le_of_lt HL0.out) HON.out.size)))).trans (HO.out.below _ (Nat.le_trans (Nat.le_trans (Nat.le_of_lt HL0.out) HON.out.size) HB6.out.size) (fun b hb h => by omega))⟩
set_option maxRecDepth 100000 in
set_option maxHeartbeats 1000000 in
theorem pe_n (s S1 : ByteArray) (n1 : Int) (k1 : Nat) (w : World)
    (C1 : Hid (∀ W, Calls Tryz.prog 113 #[.string s] W fun e w' => e = .returned (.tuple #[.int .i64 n1, .int .i64 (k1 : Int)]) ∧ W = w'))
    (hk1 : k1 ≤ s.size) (hs : s.size ≤ 1000) (hS1 : s.extract k1 s.size = S1)
    (hz0 : S1.size = 0) (hem : S1.toList.isEmpty = true) :
    Calls Tryz.prog 45 #[.string s] w fun e w' => e = .returned (.tuple #[mvV zeroMv, .int .i64 4]) ∧ Below w.heap.size w w' := by
  have i2 : (k1 : Int) ≤ (s.size : Int) := by omega
  have i1 : (S1.size : Int) = 0 := by omega
  obtain ⟨w1, hw1⟩ : ∃ w1, (w.alloc (.cells #[.int .i64 0, .int .i64 0, .int .u8 0, .int .i64 0] 40)).alloc (.cells #[.int .i64 0, .int .i64 0, .int .u8 0, .int .i64 0] 40) = w1 := ⟨_, rfl⟩
  have hb : Below w.heap.size w w1 := by rw [← hw1]; exact ((Below.refl _ w).alloc (Nat.le_refl _) _).alloc (by simp) _
  have y0 : BoxM w1 w.heap.size zeroMv := by rw [← hw1]; exact (Below.heap_alloc _ _ _ (by simp)).trans (World.alloc_heap_new w _)
  have y1 : BoxM w1.drew (w.heap.size + 1) ⟨0, 0, 0, 0⟩ := by
    rw [← hw1]
    have := World.alloc_heap_new (w.alloc (.cells #[.int .i64 0, .int .i64 0, .int .u8 0, .int .i64 0] 40)) (.cells #[.int .i64 0, .int .i64 0, .int .u8 0, .int .i64 0] 40); rwa [World.size_alloc] at this
  obtain ⟨v1, e1, s1, f1, by1, o1⟩ := box_id y1 n1
  have o12 : Only (fun k => k = w.heap.size + 1) w1 v1 := ⟨o1.os, o1.tape, o1.output, o1.size, fun k hk hne => o1.block k hk hne⟩
  have HON := Lib.hid o12
  have HB := Lib.hid hb
  have HL0 := Lib.hid y0.lt
  have z2 : BoxM v1 w.heap.size zeroMv := (o12.block _ y0.lt (by omega)).trans y0
  obtain ⟨x1, x2, x3, x4, g1, g2, g3, g4, t0, u0, t1, u1, t2, u2, t3, u3, hx4, ho⟩ := chain40 z2 zeroMv
  have HX4 := Lib.hid hx4
  have HO := Lib.hid ho
  unfold zeroMv at t0 t1 t2 t3 g1 g2 g3 g4
  dsimp only at *
  clear y0 y1 hb by1 o1 o12 z2 hx4 ho
  go_enter Tryz.func45, Tryz.ntmps45
  go_wp2_with (go_at_call 113; first | ((with_reducible refine (C1.out _).mono ?_); rintro e w2 ⟨rfl, rfl⟩))
  go_region
  all_goals go_wp2_with fail
  all_goals refine bodyPost_ret (results_refParse HX4.out rfl rfl) rfl ?_
  all_goals exact ⟨rfl, (HB.out.trans (HON.out.below w.heap.size (by have := HL0.out; omega) (fun b hb h => by omega))).trans (HO.out.below _ (Nat.le_trans (Nat.le_of_lt HL0.out) HON.out.size) (fun b hb h => by omega))⟩
set_option maxRecDepth 100000 in
set_option maxHeartbeats 1000000 in
theorem pe_y (s S1 : ByteArray) (n1 : Int) (k1 : Nat) (w : World)
    (C1 : Hid (∀ W, Calls Tryz.prog 113 #[.string s] W fun e w' => e = .returned (.tuple #[.int .i64 n1, .int .i64 (k1 : Int)]) ∧ W = w'))
    (hk1 : k1 ≤ s.size) (hs : s.size ≤ 1000) (hS1 : s.extract k1 s.size = S1)
    (hp1 : 0 < S1.size) (c : UInt8) (hc : S1[0]'hp1 = c) (h46 : ((c.toNat : Int) == 46) = true) (Sb S2 : ByteArray) (n2 : Int) (k2 : Nat) (hSb : S1.extract 1 S1.size = Sb) (C2 : Hid (∀ W, Calls Tryz.prog 113 #[.string Sb] W fun e w' => e = .returned (.tuple #[.int .i64 n2, .int .i64 (k2 : Int)]) ∧ W = w')) (hk2 : 1 + k2 ≤ S1.size) (hS2 : S1.extract (1 + k2) S1.size = S2) (hz : S1.size ≤ 1000) (hem : S2.toList.isEmpty = true) :
    Calls Tryz.prog 45 #[.string s] w fun e w' => e = .returned (.tuple #[mvV zeroMv, .int .i64 4]) ∧ Below w.heap.size w w' := by
  have i2 : (k1 : Int) ≤ (s.size : Int) := by omega
  have i1 : (0 : Int) < (S1.size : Int) := by omega
  have i4 : ((1 : Int) + (k2 : Int)) ≤ (S1.size : Int) := by omega
  have i5 : IntKind.i64.wrap ((1 : Int) + (k2 : Int)) = (1 : Int) + (k2 : Int) := by rw [IntKind.wrap_i64]; omega
  obtain ⟨w1, hw1⟩ : ∃ w1, (w.alloc (.cells #[.int .i64 0, .int .i64 0, .int .u8 0, .int .i64 0] 40)).alloc (.cells #[.int .i64 0, .int .i64 0, .int .u8 0, .int .i64 0] 40) = w1 := ⟨_, rfl⟩
  have hb : Below w.heap.size w w1 := by rw [← hw1]; exact ((Below.refl _ w).alloc (Nat.le_refl _) _).alloc (by simp) _
  have y0 : BoxM w1 w.heap.size zeroMv := by rw [← hw1]; exact (Below.heap_alloc _ _ _ (by simp)).trans (World.alloc_heap_new w _)
  have y1 : BoxM w1.drew (w.heap.size + 1) ⟨0, 0, 0, 0⟩ := by
    rw [← hw1]
    have := World.alloc_heap_new (w.alloc (.cells #[.int .i64 0, .int .i64 0, .int .u8 0, .int .i64 0] 40)) (.cells #[.int .i64 0, .int .i64 0, .int .u8 0, .int .i64 0] 40); rwa [World.size_alloc] at this
  obtain ⟨v1, e1, s1, f1, by1, o1⟩ := box_id y1 n1
  have by1d : BoxM v1.drew (w.heap.size + 1) ⟨n1, 0, 0, 0⟩ := by1
  obtain ⟨v2, e2, s2, f2, by2, o2⟩ := box_arg by1d n2
  have o12 : Only (fun k => k = w.heap.size + 1) w1 v2 := ⟨o2.os.trans o1.os, o2.tape.trans o1.tape, o2.output.trans o1.output, Nat.le_trans o1.size o2.size, fun k hk hne => (o2.block k (Nat.lt_of_lt_of_le hk o1.size) hne).trans (o1.block k hk hne)⟩
  have HON := Lib.hid o12
  have HB := Lib.hid hb
  have HL0 := Lib.hid y0.lt
  have z2 : BoxM v2 w.heap.size zeroMv := (o12.block _ y0.lt (by omega)).trans y0
  obtain ⟨x1, x2, x3, x4, g1, g2, g3, g4, t0, u0, t1, u1, t2, u2, t3, u3, hx4, ho⟩ := chain40 z2 zeroMv
  have HX4 := Lib.hid hx4
  have HO := Lib.hid ho
  unfold zeroMv at t0 t1 t2 t3 g1 g2 g3 g4
  dsimp only at *
  clear y0 y1 hb by1 o1 o12 z2 hx4 ho by1d by2 o2
  go_enter Tryz.func45, Tryz.ntmps45
  go_wp2_with (go_at_call 113; first | ((with_reducible refine (C1.out _).mono ?_); rintro e w2 ⟨rfl, rfl⟩))
  go_region
  all_goals go_wp2_with (go_at_call 113; first | ((with_reducible refine (C2.out _).mono ?_); rintro e w2 ⟨rfl, rfl⟩))
  all_goals go_region
  all_goals go_wp2_with fail
  all_goals refine bodyPost_ret (results_refParse HX4.out rfl rfl) rfl ?_
  all_goals exact ⟨rfl, (HB.out.trans (HON.out.below w.heap.size (by have := HL0.out; omega) (fun b hb h => by omega))).trans (HO.out.below _ (Nat.le_trans (Nat.le_of_lt HL0.out) HON.out.size) (fun b hb h => by omega))⟩
end Go.Proofs.YtklfojmflmablaaGreatDoor
