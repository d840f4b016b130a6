/- Package arena: moves and places as values; the iterators of a place. -/
import Derived.RangeFuncBound
import Derived.Shelf.Abstract
import Derived.Shelf.AbstractIn
import Derived.WalkKit
import Derived.OwnWalkIn
import Derived.TacticsInMore
import Derived.LoopNIn
import Derived.LoopIn
import Derived.Deep.RegionWith
import Derived.Lib.Hide
import Derived.WalkSpells
import Derived.Outline
import Derived.RegionTactic
import Derived.Test.YtklfojmflmablaaGreatDoorProg
import Derived.Test.YtklfojmflmablaaGreatDoorArA
import Derived.Test.YtklfojmflmablaaGreatDoorArL
namespace Go.Proofs.YtklfojmflmablaaGreatDoor
open Go Go.RowKit Go.Shelf
attribute [local go_sem] Oper.semAt_some

def bsV (b : Bs) : Value := .agg #[.bool b.cell, .int .i64 b.n]
def plV (p : Pl) : Value := .agg #[.bool p.b.cell, .int .i64 p.b.n, .int .i64 p.id, .int .i64 p.arg, .bool p.jumps]
def mvV (m : Mv) : Value := .agg #[.int .i64 m.id, .int .i64 m.arg, .int .u8 m.kind, .int .i64 m.n]

/-- A block that holds a move. -/
def BoxM (W : World) (B : Nat) (m : Mv) : Prop := W.heap[B]? = some (.cells #[.int .i64 m.id, .int .i64 m.arg, .int .u8 m.kind, .int .i64 m.n] 40 (0, 0))
section
variable {W W' : World} {B : Nat} {m : Mv}
theorem BoxM.lt (h : BoxM W B m) : B < W.heap.size := (Array.getElem?_eq_some_iff.1 h).1
theorem BoxM.c0 (h : BoxM W B m) : W.cell? ⟨B, 0, none⟩ = some (.int .i64 m.id) := cell_of_row W B 0 _ 40 (0, 0) h
theorem BoxM.c1 (h : BoxM W B m) : W.cell? ⟨B, 1, none⟩ = some (.int .i64 m.arg) := cell_of_row W B 1 _ 40 (0, 0) h
theorem BoxM.c2 (h : BoxM W B m) : W.cell? ⟨B, 2, none⟩ = some (.int .u8 m.kind) := cell_of_row W B 2 _ 40 (0, 0) h
theorem BoxM.c3 (h : BoxM W B m) : W.cell? ⟨B, 3, none⟩ = some (.int .i64 m.n) := cell_of_row W B 3 _ 40 (0, 0) h
theorem BoxM.f0 (h : BoxM W B m) (i : Nat) : W.frozen? ⟨B, i, none⟩ = false := by simp [World.frozen?, show W.heap[B]? = _ from h]
theorem BoxM.new (W : World) (m : Mv) : BoxM (W.alloc (.cells #[.int .i64 m.id, .int .i64 m.arg, .int .u8 m.kind, .int .i64 m.n] 40)) W.heap.size m := World.alloc_heap_new W _
theorem BoxM.only {S : Sets} (h : BoxM W B m) (ho : Only S W W') (hn : ¬ S B) : BoxM W' B m := (ho.block B h.lt hn).trans h
end
/-- A block that holds a place. -/
def BoxP (W : World) (B : Nat) (p : Pl) : Prop := W.heap[B]? = some (.cells #[.bool p.b.cell, .int .i64 p.b.n, .int .i64 p.id, .int .i64 p.arg, .bool p.jumps] 111 (0, 0))
section
variable {W W' : World} {B : Nat} {p : Pl}
theorem BoxP.lt (h : BoxP W B p) : B < W.heap.size := (Array.getElem?_eq_some_iff.1 h).1
theorem BoxP.c0 (h : BoxP W B p) : W.cell? ⟨B, 0, none⟩ = some (.bool p.b.cell) := cell_of_row W B 0 _ 111 (0, 0) h
theorem BoxP.c1 (h : BoxP W B p) : W.cell? ⟨B, 1, none⟩ = some (.int .i64 p.b.n) := cell_of_row W B 1 _ 111 (0, 0) h
theorem BoxP.c2 (h : BoxP W B p) : W.cell? ⟨B, 2, none⟩ = some (.int .i64 p.id) := cell_of_row W B 2 _ 111 (0, 0) h
theorem BoxP.c3 (h : BoxP W B p) : W.cell? ⟨B, 3, none⟩ = some (.int .i64 p.arg) := cell_of_row W B 3 _ 111 (0, 0) h
theorem BoxP.c4 (h : BoxP W B p) : W.cell? ⟨B, 4, none⟩ = some (.bool p.jumps) := cell_of_row W B 4 _ 111 (0, 0) h
theorem BoxP.f0 (h : BoxP W B p) (i : Nat) : W.frozen? ⟨B, i, none⟩ = false := by simp [World.frozen?, show W.heap[B]? = _ from h]
theorem BoxP.new (W : World) (p : Pl) : BoxP (W.alloc (.cells #[.bool p.b.cell, .int .i64 p.b.n, .int .i64 p.id, .int .i64 p.arg, .bool p.jumps] 111)) W.heap.size p := World.alloc_heap_new W _
theorem BoxP.only {S : Sets} (h : BoxP W B p) (ho : Only S W W') (hn : ¬ S B) : BoxP W' B p := (ho.block B h.lt hn).trans h
end

theorem results_move {tmps : Array Value} {W : World} {B : Nat} {m : Mv} (h : BoxM W B m) (t6 : tmps[6]?.getD undef = .pointer (some ⟨B, 0, none⟩)) :
    (results Tryz.f164 tmps).run Tryz.prog W = .ok (mvV m) W := by
  have c0 := h.c0
  have c1 := h.c1
  have c2 := h.c2
  have c3 := h.c3
  simp [results, Tryz.results164, t6, go_sem, loadVar, c0, c1, c2, c3, mvV]

set_option maxRecDepth 100000 in
theorem move_any (p : Pl) (k n : Int) (w : World) :
    Calls Tryz.prog 164 #[plV p, .int .u8 k, .int .i64 n] w fun e w' => e = .returned (mvV ⟨p.id, p.arg, k, n⟩) ∧ Below w.heap.size w w' := by
  unfold plV
  go_enter Tryz.func164, Tryz.ntmps164
  go_wp2
  refine bodyPost_ret (results_move (BoxM.new _ ⟨p.id, p.arg, k, n⟩) (by simp)) rfl ?_
  exact ⟨rfl, ((Below.refl _ w).alloc (Nat.le_refl _) _).alloc (by simp) _⟩

theorem vals_succ (id arg kind : Int) (k : Nat) : vals id arg kind (k + 1) = vals id arg kind k ++ [⟨id, arg, kind, (k : Int)⟩] := by simp [vals, List.range_succ]
theorem vals_length (id arg kind : Int) (k : Nat) : (vals id arg kind k).length = k := by simp [vals]
theorem vals_prefix (id arg kind : Int) {k n : Nat} (h : k ≤ n) : vals id arg kind k <+: vals id arg kind n := by
  obtain ⟨d, rfl⟩ : ∃ d, n = k + d := ⟨n - k, by omega⟩
  induction d with
  | zero => exact List.prefix_refl _
  | succ d ih => exact (ih (by omega)).trans (by rw [← Nat.add_assoc, vals_succ]; exact List.prefix_append _ _)

set_option maxRecDepth 100000 in
set_option maxHeartbeats 1000000 in
/-- below: the moves of a kind with each value below a number. -/
theorem below_iters (p : Pl) (many kind : Int) (h64 : many ≤ 9223372036854775807) (own : Sets) (w : World) :
    Iters Tryz.prog 165 (fun y => #[plV p, .int .i64 many, .int .u8 kind, y]) (fun m => #[mvV m]) (vals p.id p.arg kind many.toNat) own w := by
  intro y J Jx R W hE _ _ _ hlt hJ
  have HE := Lib.hid hE
  have hf := hE.form
  obtain ⟨W1, hW1⟩ : ∃ W1, W.alloc (.cells #[.bool p.b.cell, .int .i64 p.b.n, .int .i64 p.id, .int .i64 p.arg, .bool p.jumps] 111) = W1 := ⟨_, rfl⟩
  have o1 : Only (fun _ => False) W W1 := by rw [← hW1]; exact (Only.refl _ _).alloc _
  have z1 : W1.heap.size = W.heap.size + 1 := by rw [← hW1]; simp
  have b1 : BoxP W1 W.heap.size p := by rw [← hW1]; exact BoxP.new W p
  have HJ := Lib.hid (hE.stable [] R W W1 hJ (o1.mono fun _ _ f => f.elim))
  have HL := Lib.hid hlt
  have HO := Lib.hid o1
  have nb : ¬ R W.heap.size := fun h => absurd (hlt _ h) (by omega)
  have HNB := Lib.hid nb
  have HZ := Lib.hid z1
  have HB := Lib.hid b1
  clear hE hJ hlt o1 z1 b1 nb
  refine (callsIn_wide (n := 3)).1 ?_
  unfold plV
  rcases hf with ⟨kf, cp, rfl, ek⟩ | ⟨l, rfl⟩
  · refine callsIn_of_wp Tryz.func165 rfl trivial ?_ rfl
    simp only [Tryz.ntmps165, List.size_toArray, List.length_cons, List.length_nil, Nat.reduceAdd, Nat.reduceSub, Array.replicate_succ, Array.replicate_zero, List.push_toArray, List.append_toArray, List.nil_append, List.cons_append]
    gi_wp2
    gi_loopw [10] (fun i wr => ∃ (k : Nat) (R' : Sets), i = .int .i64 k ∧ (k = 0 ∨ (k : Int) ≤ many) ∧ Hid (J (vals p.id p.arg kind k) R' wr) ∧ Hid (Foot R W1 R' wr)) (fun i _ => many.toNat - (intOf i).toNat)
    case atStart => exact ⟨0, R, rfl, .inl rfl, HJ, Lib.hid (Foot.refl fun k hk => by have := HL.out k hk; have := HZ.out; omega)⟩
    case round =>
      obtain ⟨k, R', rfl, hk, hJs, hF⟩ := hrel
      have hb : BoxP wr W.heap.size p := hF.out.box HB.out HNB.out
      have c0 := hb.c0
      have c1 := hb.c1
      have c2 := hb.c2
      have c3 := hb.c3
      have c4 := hb.c4
      by_cases hlt : (k : Int) < many
      · have HP : Hid (vals p.id p.arg kind k ++ [⟨p.id, p.arg, kind, (k : Int)⟩] <+: vals p.id p.arg kind many.toNat) := Lib.hid (by rw [← vals_succ]; exact vals_prefix _ _ _ (by omega))
        have C164 := Lib.hid (move_any p kind k)
        have CY : Hid (∀ w2, Below wr.heap.size wr w2 → Calls Tryz.prog kf (#[mvV ⟨p.id, p.arg, kind, (k : Int)⟩] ++ cp) w2 fun e W' => ∃ R2, Foot R' wr R2 W' ∧ ((e = .returned (.bool true) ∧ J (vals p.id p.arg kind (k + 1)) R2 W') ∨ (e = .returned (.bool false) ∧ Jx (vals p.id p.arg kind (k + 1)) R2 W'))) := Lib.hid (by
          intro w2 hb2
          have ho2 : Only (fun _ => False) wr w2 := Only.of_below hb2
          have h2 := HE.out.take _ _ R' w2 HP.out (by have := hF.out.only.size; have := HZ.out; have := hb2.size; omega) (HE.out.stable _ _ _ _ hJs.out (ho2.mono fun _ _ f => f.elim)) (fun k hk => Nat.lt_of_lt_of_le (hF.out.lt k hk) hb2.size)
          refine h2.fn.mono ?_
          rintro e W' ⟨R2, hf2, h2⟩
          rw [← vals_succ] at h2
          exact ⟨R2, Foot.after ho2 hf2, h2⟩)
        unfold plV at C164
        gi_wp2_with (first
          | (refine ⟨trivial, ?_⟩; gi_at_call 164; refine (callsIn_wide.2 (C164.out _)).mono ?_; rintro e w2 ⟨rfl, hb2⟩)
          | (refine ⟨trivial, ?_⟩; gi_at_fn kf; refine (callsIn_wide.2 (CY.out _ hb2)).mono ?_; rintro e w3 ⟨R2, hf2, (⟨rfl, hJ2⟩ | ⟨rfl, hJ2⟩)⟩))
        · go_roundw
          case rel => exact ⟨k + 1, R2, rfl, .inr (by omega), Lib.hid hJ2, Lib.hid (hF.out.trans hf2)⟩
          case measure => simp [intOf]; omega
        · refine bodyPost_ret (results_none rfl _ _ _) rfl ?_
          exact ⟨⟨_, rfl⟩, R2, Foot.after HO.out (hF.out.trans hf2), .inr ⟨_, vals_prefix _ _ _ (by omega), hJ2⟩⟩
      · gi_wp2
        go_end0
        refine ⟨⟨_, rfl⟩, R', Foot.after HO.out hF.out, .inl ?_⟩
        have e : k = many.toNat := by omega
        subst e
        exact hJs.out
  · refine callsIn_of_wp Tryz.func165 rfl trivial ?_ rfl
    simp only [Tryz.ntmps165, List.size_toArray, List.length_cons, List.length_nil, Nat.reduceAdd, Nat.reduceSub, Array.replicate_succ, Array.replicate_zero, List.push_toArray, List.append_toArray, List.nil_append, List.cons_append]
    gi_wp2
    gi_loopw [10] (fun i wr => ∃ (k : Nat) (R' : Sets), i = .int .i64 k ∧ (k = 0 ∨ (k : Int) ≤ many) ∧ Hid (J (vals p.id p.arg kind k) R' wr) ∧ Hid (Foot R W1 R' wr)) (fun i _ => many.toNat - (intOf i).toNat)
    case atStart => exact ⟨0, R, rfl, .inl rfl, HJ, Lib.hid (Foot.refl fun k hk => by have := HL.out k hk; have := HZ.out; omega)⟩
    case round =>
      obtain ⟨k, R', rfl, hk, hJs, hF⟩ := hrel
      have hb : BoxP wr W.heap.size p := hF.out.box HB.out HNB.out
      have c0 := hb.c0
      have c1 := hb.c1
      have c2 := hb.c2
      have c3 := hb.c3
      have c4 := hb.c4
      by_cases hlt : (k : Int) < many
      · have HP : Hid (vals p.id p.arg kind k ++ [⟨p.id, p.arg, kind, (k : Int)⟩] <+: vals p.id p.arg kind many.toNat) := Lib.hid (by rw [← vals_succ]; exact vals_prefix _ _ _ (by omega))
        have C164 := Lib.hid (move_any p kind k)
        have CY : Hid (∀ w2, Below wr.heap.size wr w2 → YieldAt Fence.wide 2 Tryz.prog l #[mvV ⟨p.id, p.arg, kind, (k : Int)⟩] w2 fun e W' => ∃ R2, Foot R' wr R2 W' ∧ ((e = .returned (.bool true) ∧ J (vals p.id p.arg kind (k + 1)) R2 W') ∨ (e = .returned (.bool false) ∧ Jx (vals p.id p.arg kind (k + 1)) R2 W'))) := Lib.hid (by
          intro w2 hb2
          have ho2 : Only (fun _ => False) wr w2 := Only.of_below hb2
          have h2 := HE.out.take _ _ R' w2 HP.out (by have := hF.out.only.size; have := HZ.out; have := hb2.size; omega) (HE.out.stable _ _ _ _ hJs.out (ho2.mono fun _ _ f => f.elim)) (fun k hk => Nat.lt_of_lt_of_le (hF.out.lt k hk) hb2.size)
          refine (h2.yield 2).mono ?_
          rintro e W' ⟨R2, hf2, h2⟩
          rw [← vals_succ] at h2
          exact ⟨R2, Foot.after ho2 hf2, h2⟩)
        unfold plV at C164
        gi_wp2_with (first
          | (refine ⟨trivial, ?_⟩; gi_at_call 164; refine (callsIn_wide.2 (C164.out _)).mono ?_; rintro e w2 ⟨rfl, hb2⟩; obtain ⟨fn, tmps, assign, body, hy, hR⟩ := CY.out _ hb2)
          | (refine hR.mono ?_; rintro e w3 ⟨R2, hf2, (⟨rfl, hJ2⟩ | ⟨rfl, hJ2⟩)⟩))
        · go_roundw
          case rel => exact ⟨k + 1, R2, rfl, .inr (by omega), Lib.hid hJ2, Lib.hid (hF.out.trans hf2)⟩
          case measure => simp [intOf]; omega
        · refine bodyPost_ret (results_none rfl _ _ _) rfl ?_
          exact ⟨⟨_, rfl⟩, R2, Foot.after HO.out (hF.out.trans hf2), .inr ⟨_, vals_prefix _ _ _ (by omega), hJ2⟩⟩
      · gi_wp2
        go_end0
        refine ⟨⟨_, rfl⟩, R', Foot.after HO.out hF.out, .inl ?_⟩
        have e : k = many.toNat := by omega
        subst e
        exact hJs.out
end Go.Proofs.YtklfojmflmablaaGreatDoor
